/- The walk of the law FilesReads. -/
import Derived.Test.YtiocbkkfndbkhaaGreatDoorFnCd
import Derived.IntWalk
namespace Go.Fd
open Go.RowKit Go.Tx Go.Mp Go.Rb
def textR (i : Nat) : List UInt8 := [49, 48, 46, 48, 46, 48, 46] ++ decG i [] ++ [32, 104, 10]
theorem plainR : ∀ i : Fin 20, byNm (rowsOf (toldG 1 [] (textR i.1))) [104] = [[10, 0, 0, UInt8.ofNat i.1]] ∧ (textR i.1).length ≤ 12 := by decide +kernel
theorem ba_heap {w w' : World} {a : Option Addr} {n c : Nat} {l : List UInt8} (h : BA w a n c l) (e : w'.heap = w.heap) : BA w' a n c l :=
  ⟨h.len, h.cap, h.max, h.none, fun x hx j b hj => by rw [World.cell?_of_block (w := w) (by rw [e])]; exact h.cell x hx j b hj⟩
end Go.Fd
namespace Go.Proofs.YtiocbkkfndbkhaaGreatDoor
open Go.ChangeShapes Go.WideShapes Go.ChangeAt Go.RowKit Go.Ev Go.Fr
open Go.Lib Go.Tx Go.Mp Go.Rb Go.Fd
/-- The conversion of the law's byte, by a name of its own. -/
def convOp : Op := .convert 41 9 (.tmp 73)
theorem convOp_eq : Op.convert 41 9 (.tmp 73) = convOp := rfl
structure OUT (W w : World) (b d : Nat) (i : Nat) (mp : Option Nat) (F : ByteArray → Option Value) (fv : Value) : Prop where
  ws : WS w b (i : Int) mp F
  md : mp ≠ some d
  m0 : ∀ m, mp = some m → W.heap.size ≤ m
  ds : DS w d b (i : Int) (i : Int) fv
  bel : Below W.heap.size W w
structure IN (W w : World) (b d g c m i k : Nat) (F : ByteArray → Option Value) (l : List UInt8) (R : List (List UInt8 × List (List UInt8))) : Prop where
  ws : WS w b ((i : Int) + 1) (some m) (upd F hostsP (fileB g l.length c ((i : Int) + 1)))
  row : RowB 5 w g c l
  first : k = 0 → ∃ fv, DS w d b (i : Int) (i : Int) fv
  later : 0 < k → ∃ fv, DS w d b ((i : Int) + 1) ((i : Int) + 1) fv ∧ FindAt (d + 1) w fv R
  bel : Below W.heap.size W w
theorem IN.below {W w w' : World} {b d g c m i k : Nat} {F : ByteArray → Option Value} {l : List UInt8} {R : List (List UInt8 × List (List UInt8))} (h : IN W w b d g c m i k F l R) (hb : Below w.heap.size w w') : IN W w' b d g c m i k F l R :=
  ⟨WS.below h.ws hb, rowB_same h.row (hb.block g (rowB_lt h.row)), fun hk => by obtain ⟨fv, h1⟩ := h.first hk; exact ⟨fv, h1.below hb⟩, fun hk => by
    obtain ⟨fv, h1, h2⟩ := h.later hk
    exact ⟨fv, h1.below hb, h2.keep (Nat.le_refl _) ⟨hb.size, fun j _ hj => hb.block j hj⟩⟩, h.bel.trans (hb.mono h.bel.size)⟩
def AskR (d b i : Nat) (R : List (List UInt8 × List (List UInt8))) (T : List (List UInt8)) (w : World) (e : Ending) (w' : World) : Prop :=
  ∃ v g fv, e = .returned (.tuple #[.agg #[.slice none 0 0, v, .int .i64 0, .int .i64 600], .slice (some ⟨g, 0, none⟩) 1 1, .nilIface]) ∧ StrC w.heap.size w' v T ∧ g < w'.heap.size ∧ w'.cell? ⟨g, 1, none⟩ = some (.int .i64 ((i : Int) + 1)) ∧ DS w' d b ((i : Int) + 1) ((i : Int) + 1) fv ∧ FindAt (d + 1) w' fv R ∧ Kp d w w'
theorem ask_any {W w : World} {b d g c m i k : Nat} {F : ByteArray → Option Value} {l : List UInt8} {R : List (List UInt8 × List (List UInt8))} {T : List (List UInt8)} (h : IN W w b d g c m i k F l R) (hR : rowsOf (toldG 1 [] l) = R) (hTT : byNm R [104] = T) (hT : 0 < T.length)
    (hc : c ≤ 9223372036854775807) (hl : l.length ≤ 100000) (hi : i ≤ 1000) (hd : d ≠ 0) (hg : GloAt W) (hm : MaxAt W) (hbd : b ≠ d) (hmd : m ≠ d) :
    Calls Tryz.prog 5 #[.pointer (some ⟨d, 0, none⟩), .agg #[.int .i64 1, .string ⟨#[104]⟩, .string ⟨#[]⟩, .int .i64 0]] w (AskR d b i R T w) := by
  have hF : upd F hostsP (fileB g l.length c ((i : Int) + 1)) hostsP = some (fileB g l.length c ((i : Int) + 1)) := by unfold upd; rw [if_pos rfl]
  by_cases hk : k = 0
  · obtain ⟨fv, hds⟩ := h.first hk
    have hlt := hds.lt
    refine (host_miss d b g c (some m) (i : Int) ((i : Int) + 1) ((i : Int) + 1) (i : Int) fv _ l R ⟨#[104]⟩ ⟨#[]⟩ 0 w hds hR (hg.below h.bel) h.ws hF h.row hc hl (hm.below h.bel) hd (by decide) T hTT hT (by omega) (by omega) (by omega)).mono ?_
    rintro e w' ⟨v, g7, fv', e1, e2, e3, e4, e5, e6, e7, e8⟩
    exact ⟨v, g7, fv', e1, e2, e4, e5, e6, FindAt.keep e7 (by omega) ⟨Nat.le_refl _, fun _ _ _ => rfl⟩, e8⟩
  · obtain ⟨fv, hds, hfi⟩ := h.later (by omega)
    refine (host_hit d b g c (some m) ((i : Int) + 1) ((i : Int) + 1) ((i : Int) + 1) fv _ l R ⟨#[104]⟩ ⟨#[]⟩ 0 w hds hfi h.ws hF h.row hc hl (hm.below h.bel) hd (by decide) T hTT hT).mono ?_
    rintro e w' ⟨v, g7, fv', e1, e2, e3, e4, e5, e6, e7, e8⟩
    subst e7
    exact ⟨v, g7, fv', e1, e2, e4, e5, e6, FindAt.keep hfi (Nat.le_refl _) ⟨e8.size, fun j h1 h2 => e8.block j h2 (by omega)⟩, e8⟩
theorem IN.step {W w w' : World} {b d g c m i k : Nat} {F : ByteArray → Option Value} {l : List UInt8} {R : List (List UInt8 × List (List UInt8))} {fv : Value} (h : IN W w b d g c m i k F l R) (hd : DS w' d b ((i : Int) + 1) ((i : Int) + 1) fv) (hf : FindAt (d + 1) w' fv R) (hk : Kp d w w')
    (hbd : b ≠ d) (hmd : m ≠ d) (hgd : g ≠ d) (hdW : W.heap.size ≤ d) : IN W w' b d g c m i (k + 1) F l R :=
  ⟨WS.kp h.ws hk hbd (fun e => by cases e; exact hmd rfl), rowB_kp h.row hk hgd, fun h => by omega, fun _ => ⟨fv, hd, hf⟩, h.bel.trans (hk.below hdW h.bel.size)⟩
set_option maxHeartbeats 3000000 in
set_option maxRecDepth 100000 in
theorem filesReads_walk (a0 a1 : Int) (W : World) (w0 : (Lit.int .i64 a0).wf = true) (w1 : (Lit.int .i64 a1).wf = true) (hL : laidMetH Tryz.prog laidL W) (hsh : W.ShapedOpen Tryz.prog) :
    Calls Tryz.prog 4 #[.int .i64 a0, .int .i64 a1] W fun e w' => e = .returned (.bool true) ∧ Below W.heap.size W w' := by
  obtain ⟨hg, hm⟩ := glo_only W hL hsh
  have HB := Lib.hid (begun8_any W hg hm)
  have HM := Lib.hid hm
  have HG := Lib.hid hg
  have hW0 := hm.lt
  clear hg hm hL hsh w0 w1
  by_cases hin : 1 ≤ a0 ∧ a0 ≤ 20 ∧ 1 ≤ a1 ∧ a1 ≤ 20
  · obtain ⟨h1, h2, h3, h4⟩ := hin
    obtain ⟨A, rfl⟩ : ∃ n : Nat, a0 = n := ⟨a0.toNat, by omega⟩
    obtain ⟨P, rfl⟩ : ∃ n : Nat, a1 = n := ⟨a1.toNat, by omega⟩
    go_enter Tryz.func4, Tryz.ntmps4
    go_upto_region 8 with (first | (go_at_call 6; refine HB.out.mono ?_; rintro e w2 ⟨rfl, hb2⟩; have HB2 := Lib.hid hb2; clear hb2) | (go_at_call 9; refine (new_any w2).mono ?_; rintro e w3 ⟨rfl, hw3⟩; have HW3 := Lib.hid hw3; clear hw3) | (go_at_call 10; refine (fnew_any w2.heap.size w3).mono ?_; rintro e w4 ⟨rfl, hw4⟩; have HW4 := Lib.hid hw4; clear hw4))
    have hw3 := HW3.out
    have hw4 := HW4.out
    have hs3 : w3.heap.size = w2.heap.size + 1 := by rw [hw3]; show (w2.heap.push _).size = _; simp
    have hb3 : Below w2.heap.size w2 w3 := by rw [hw3]; exact (Below.refl _ w2).alloc (Nat.le_refl _) _
    have hb34 : Below w3.heap.size w3 w4 := by rw [hw4]; exact (Below.refl _ w3).alloc (Nat.le_refl _) _
    have hO : OUT W w4 w2.heap.size w3.heap.size 0 none (fun _ => none) .nilFunc := by
      refine ⟨WS.below (by rw [hw3]; exact ws_new w2) hb34, (fun h => by cases h), (fun m h => by cases h), ?_, (HB2.out.trans (hb3.mono HB2.out.size)).trans (hb34.mono (by have := HB2.out.size; omega))⟩
      rw [hw4]; exact heap_alloc_new w3 _
    have hWb := HB2.out.size
    have HO := Lib.hid hO
    obtain ⟨b, hb⟩ : ∃ b, w2.heap.size = b := ⟨_, rfl⟩
    obtain ⟨d, hd⟩ : ∃ d, w3.heap.size = d := ⟨_, rfl⟩
    rw [hb] at HO hs3 hWb ⊢
    rw [hd] at HO hs3 ⊢
    have hbd : b ≠ d := by omega
    have hdW : W.heap.size ≤ d := by omega
    have hd0 : d ≠ 0 := by omega
    clear hw3 hw4 hb3 hb34 hO hb hd HW3 HW4 hs3
    go_wp2
    go_loopw [8] (fun iv wr => ∃ (i : Nat) (mp : Option Nat) (F : ByteArray → Option Value) (fv : Value), i ≤ P ∧ iv = .int .i64 i ∧ OUT W wr b d i mp F fv) (fun iv _ => P - (intOf iv).toNat)
    case atStart => exact ⟨0, none, _, _, Nat.zero_le _, rfl, HO.out⟩
    case round =>
      obtain ⟨i, mp, F, fv, hi, rfl, hO⟩ := hrel
      by_cases hlt : i < P
      · obtain ⟨pl, ll⟩ := plainR ⟨i, by omega⟩
        have pl' : byNm (rowsOf (toldG 1 [] (textR i))) [104] = [[10, 0, 0, UInt8.ofNat i]] := pl
        have ll' : (textR i).length ≤ 12 := ll
        obtain ⟨D, hD⟩ : ∃ D : ByteArray, (⟨(decG i []).toArray⟩ : ByteArray) = D := ⟨_, rfl⟩
        have HDe : Hid (Calls Tryz.prog 12 #[.int .i64 (i : Int)] wr fun e w' => e = .returned (.string D) ∧ Below wr.heap.size wr w') := Lib.hid (hD ▸ dec_any i wr (by omega))
        have hDl : D.data.toList = decG i [] := by rw [← hD]
        have hS : ((⟨#[49, 48, 46, 48, 46, 48, 46]⟩ ++ D) ++ ⟨#[32, 104, 10]⟩ : ByteArray).data.toList = textR i := by
          unfold textR; rw [← hDl]; simp
        have hDs : D.size ≤ 12 := by
          have : D.size = (decG i []).length := by rw [← hDl]; rfl
          rw [this]; have h := ll'; unfold textR at h; simp at h; omega
        obtain ⟨S, hSS⟩ : ∃ S : ByteArray, ((⟨#[49, 48, 46, 48, 46, 48, 46]⟩ ++ D) ++ ⟨#[32, 104, 10]⟩ : ByteArray) = S := ⟨_, rfl⟩
        have hSz : S.size ≤ 12 := by
          have e : S.size = (textR i).length := by rw [← hS, hSS]; rfl
          omega
        rw [hSS] at hS
        have HO := Lib.hid hO
        have HPut : Hid (∀ w5, Below wr.heap.size wr w5 → ∃ cap o, (convert 9 41 (.string ((⟨#[49, 48, 46, 48, 46, 48, 46]⟩ ++ D) ++ ⟨#[32, 104, 10]⟩))).run Tryz.prog w5 = .ok (.slice (some ⟨w5.heap.size, 0, none⟩) S.size cap) (w5.drew.alloc o) ∧ Hid (Calls Tryz.prog 11 #[.pointer (some ⟨b, 0, none⟩), .string hostsP, .slice (some ⟨w5.heap.size, 0, none⟩) S.size cap] (w5.drew.alloc o) (PutR (w5.drew.alloc o) b (i : Int) mp F hostsP (textR i))) ∧ Hid (Below wr.heap.size wr (w5.drew.alloc o))) := Lib.hid fun w5 hb5 => by
          rw [hSS]
          obtain ⟨cap, o, hconv, hcp, hcm, hrow⟩ := row_made (P := Tryz.prog) (src := 9) (dst := 41) S w5 (by unfold maxLen; omega) Tryz.underlying9 Tryz.underlying41 Tryz.underlying5
          have hbo : Below wr.heap.size wr (w5.drew.alloc o) := hb5.drew.alloc hb5.size o
          have hba : BA (w5.drew.alloc o) (some ⟨w5.heap.size, 0, none⟩) S.size cap (textR i) := hS ▸ ba_heap (ba_row hrow hcm) rfl
          exact ⟨cap, o, hconv, Lib.hid (putb_any b mp (i : Int) F hostsP ⟨w5.heap.size, 0, none⟩ S.size cap (textR i) _ (WS.below HO.out.ws hbo) (by omega) (by omega) hba (by show w5.heap.size < (Array.push _ _).size; simp) (by omega)), Lib.hid hbo⟩
        have hib : i < 20 := by omega
        clear pl ll hO hD hDl hS hSS
        go_upto_region 12 with (first | (go_at_call 12; refine HDe.out.mono ?_; rintro e w5 ⟨rfl, hb5⟩; obtain ⟨cap, o, hconv, HPu, HBo⟩ := HPut.out w5 hb5; clear hb5) | (go_at_call 11; refine HPu.out.mono ?_; rintro e w6 ⟨rfl, g, c, m, hg6, hm6, hgm6, hr6, hc6, hws6, ht6⟩))
        have hdl := HO.out.ds.lt
        have hBo := HBo.out
        have hdl5 : d < (w5.drew.alloc o).heap.size := Nat.lt_of_lt_of_le hdl hBo.size
        have hmd : m ≠ d := by
          rcases hm6 with h | ⟨_, h⟩
          · exact fun e => HO.out.md (by rw [h, e])
          · omega
        have hgd : g ≠ d := by omega
        have hmW : W.heap.size ≤ m := by
          rcases hm6 with h | ⟨_, h⟩
          · exact HO.out.m0 m h
          · omega
        have hds6 : DS w6 d b (i : Int) (i : Int) fv := (HO.out.ds.below hBo).same (ht6.same d hdl5 (fun e => hbd e.symm) (fun e => HO.out.md e.symm))
        have hbel5 := HO.out.bel.trans (hBo.mono HO.out.bel.size)
        have hIn0 : IN W w6 b d g c m i 0 F (textR i) (rowsOf (toldG 1 [] (textR i))) := ⟨hws6, hr6, fun _ => ⟨fv, hds6⟩, fun h => by omega, hbel5.trans (Turned.below ht6 hbel5.size hWb (fun m' e => HO.out.m0 m' e))⟩
        have HIn0 := Lib.hid hIn0
        obtain ⟨R, hRR⟩ : ∃ R, rowsOf (toldG 1 [] (textR i)) = R := ⟨_, rfl⟩
        rw [hRR] at HIn0 pl'
        obtain ⟨T, hT⟩ : ∃ T : List (List UInt8), [[10, 0, 0, UInt8.ofNat i]] = T := ⟨_, rfl⟩
        have hT1 : T.length = 1 := by rw [← hT]; rfl
        have HT := Lib.hid hT
        rw [hT] at pl'
        clear hT
        have HRR := Lib.hid hRR
        have HPl := Lib.hid pl'
        have HLl := Lib.hid ll'
        have hc6' := hc6
        clear hRR hIn0 hbel5 hds6 hdl hdl5 hBo HBo HPu hconv HPut HDe pl' ll' hws6 hr6 ht6 hm6 hg6 hgm6 hDs hSz
        go_wp2
        go_loopw [9] (fun kv wk => ∃ k : Nat, k ≤ A ∧ kv = .int .i64 k ∧ IN W wk b d g c m i k F (textR i) R) (fun kv _ => A - (intOf kv).toNat)
        case atStart => exact ⟨0, Nat.zero_le _, rfl, HIn0.out⟩
        case round =>
          obtain ⟨k, hk, rfl, hIn⟩ := hrel
          by_cases hkl : k < A
          · have HIn := Lib.hid hIn
            have HAsk := Lib.hid (ask_any hIn HRR.out HPl.out (by omega) hc6 (by have := HLl.out; omega) (by omega) hd0 HG.out HM.out hbd hmd)
            clear hIn
            go_upto_region 16 with (go_at_call 5; refine HAsk.out.mono ?_; rintro e w7 ⟨v7, g7, f7, rfl, hv7, hl7, he7, hd7, hf7, hk7⟩; obtain ⟨p7, c7, rfl⟩ := hv7.shape; have HV7 := Lib.hid hv7; have HF7 := Lib.hid hf7; have HD7 := Lib.hid hd7; have HK7 := Lib.hid hk7; clear hv7 hd7 hf7 hk7)
            obtain ⟨p8, c8, e8, hcc7, hcm7, hrd7⟩ := HV7.out.read
            cases e8
            obtain ⟨pg, rfl, hpl, hpc⟩ := hrd7 0 _ (by rw [← HT.out]; rfl)
            have hcc : 1 ≤ c7 := by omega
            have hb78 : Below w7.heap.size w7 (w7.alloc (.cells #[.slice none 0 0, .slice (some ⟨pg, 0, none⟩) 1 c7, .int .i64 0, .int .i64 600] 25)) := (Below.refl _ w7).alloc (Nat.le_refl _) _
            have hl8 : w7.heap.size < (w7.alloc (.cells #[.slice none 0 0, .slice (some ⟨pg, 0, none⟩) 1 c7, .int .i64 0, .int .i64 600] 25)).heap.size := by show w7.heap.size < (w7.heap.push _).size; simp
            have x1 := cellOf4 (heap_alloc_new w7 (.cells #[.slice none 0 0, .slice (some ⟨pg, 0, none⟩) 1 c7, .int .i64 0, .int .i64 600] 25)) (j := 1) rfl
            have x2 := cell_keep (hb78.block pg hpl) hpc
            have x3 := cell_keep (hb78.block g7 hl7) he7
            have hpl8 := Nat.lt_of_lt_of_le hpl hb78.size
            have hgl8 := Nat.lt_of_lt_of_le hl7 hb78.size
            have HIn8 := Lib.hid ((HIn.out.step HD7.out HF7.out HK7.out hbd hmd hgd hdW).below hb78)
            have HD8 := Lib.hid (HD7.out.below hb78)
            clear hcc7 hcm7 hrd7 hpc he7 hb78 hpl hl7
            generalize w7.alloc (.cells #[.slice none 0 0, .slice (some ⟨pg, 0, none⟩) 1 c7, .int .i64 0, .int .i64 600] 25) = w8 at *
            obtain ⟨a8, ha8⟩ : ∃ q, w7.heap.size = q := ⟨_, rfl⟩
            rw [ha8] at x1 hl8
            obtain ⟨x, hx⟩ : ∃ x, UInt8.ofNat i = x := ⟨_, rfl⟩
            have hxi : (x.toNat : Int) = (i : Int) := by rw [← hx, UInt8.toNat_ofNat_of_lt' (by show i < 256; omega)]
            have hx2 : w8.cell? ⟨pg, 0, none⟩ = some (.string (⟨#[10, 0, 0]⟩ ++ ⟨#[x]⟩)) := by
              rw [x2, hx]; exact congrArg (fun q => some (Value.string q)) (bcat [10, 0, 0] #[x]).symm
            have hw8 : IntKind.u8.wrap (i : Int) = (i : Int) := by simp [IntKind.wrap, IntKind.bits, IntKind.signed]; omega
            have hbo : ∀ o, Below w8.heap.size w8 (w8.alloc o) := fun o => (Below.refl _ _).alloc (Nat.le_refl _) o
            have hc1 := byte_str w8 x
            have hc2 := byte_str w8.drew x
            rw [hxi] at hc1 hc2
            have hc3 : (convert 41 9 (.slice (some ⟨w8.heap.size, 0, none⟩) 1 1)).run Tryz.prog ((w8.alloc (.cells #[.int .u8 (IntKind.u8.wrap (i : Int))] 5)).drew) = .ok (.string ⟨#[x]⟩) ((w8.alloc (.cells #[.int .u8 (IntKind.u8.wrap (i : Int))] 5)).drew) := by rw [hw8]; exact hc2
            have hc4 : (convert 41 9 (.slice (some ⟨w8.heap.size, 0, none⟩) 1 1)).run Tryz.prog ((w8.alloc (.cells #[.int .u8 (i : Int)] 5)).drew) = .ok (.string ⟨#[x]⟩) ((w8.alloc (.cells #[.int .u8 (i : Int)] 5)).drew) := hc2
            have y1 : ∀ o, (w8.alloc o).cell? ⟨a8, 1, none⟩ = some (.slice (some ⟨pg, 0, none⟩) 1 c7) := fun o => by rw [(hbo o).cell (p := ⟨a8, 1, none⟩) hl8]; exact x1
            have y2 : ∀ o, (w8.alloc o).cell? ⟨pg, 0, none⟩ = some (.string (⟨#[10, 0, 0]⟩ ++ ⟨#[x]⟩)) := fun o => by rw [(hbo o).cell (p := ⟨pg, 0, none⟩) hpl8]; exact hx2
            have y3 : ∀ o, (w8.alloc o).cell? ⟨g7, 1, none⟩ = some (.int .i64 ((i : Int) + 1)) := fun o => by rw [(hbo o).cell (p := ⟨g7, 1, none⟩) hgl8]; exact x3
            have hc5 : (convert 41 9 (.slice (some ⟨w8.heap.size, 0, none⟩) 1 1)).run Tryz.prog (w8.drew.alloc (.cells #[.int .u8 (IntKind.u8.wrap (i : Int))] 5)) = .ok (.string ⟨#[x]⟩) (w8.drew.alloc (.cells #[.int .u8 (IntKind.u8.wrap (i : Int))] 5)) := by rw [hw8]; exact hc2
            have hc6 : (convert 41 9 (.slice (some ⟨w8.heap.size, 0, none⟩) 1 1)).run Tryz.prog (w8.drew.alloc (.cells #[.int .u8 (i : Int)] 5)) = .ok (.string ⟨#[x]⟩) (w8.drew.alloc (.cells #[.int .u8 (i : Int)] 5)) := hc2
            have hc7 : (convert 41 9 (.slice (some ⟨w8.heap.size, 0, none⟩) 1 1)).run Tryz.prog (w8.alloc (.cells #[.int .u8 (IntKind.u8.wrap (i : Int))] 5)) = .ok (.string ⟨#[x]⟩) (w8.alloc (.cells #[.int .u8 (IntKind.u8.wrap (i : Int))] 5)) := by rw [hw8]; exact hc1
            have hwi : IntKind.i64.wrap ((i : Int) + 1) = (i : Int) + 1 := IntWalk.i64_in _ (by omega)
            have hii : (0 : Int) ≤ (i : Int) := by omega
            have hii3 : (i : Int) < 256 := by omega
            have HBO := Lib.hid hbo
            clear x2 hw8 hbo hc2 hx hxi
            rw [convOp_eq]
            have hco := convOp_eq.symm
            go_region_held3 (fun V => V.cell? ⟨a8, 1, none⟩ = some (.slice (some ⟨pg, 0, none⟩) 1 c7) ∧ V.cell? ⟨pg, 0, none⟩ = some (.string (⟨#[10, 0, 0]⟩ ++ ⟨#[x]⟩)) ∧ V.cell? ⟨g7, 1, none⟩ = some (.int .i64 ((i : Int) + 1))) (first | exact ⟨x1, hx2, x3⟩ | exact ⟨y1 _, y2 _, y3 _⟩) (((go_at_call 8; refine (reads_any _ _ _ _ _ _ (HD8.out.below (by first | exact (HBO.out _).drew | exact (Below.refl _ _).drew | exact HBO.out _))).mono ?_; rintro e wy ⟨rfl, hwy⟩; obtain rfl := hwy)))
            go_wp2
            go_roundw
            case rel => exact ⟨k + 1, hkl, by go_num, HIn8.out.below (by first | exact (HBO.out _).drew | exact HBO.out _)⟩
            case measure => simp [intOf]; omega
          · obtain rfl : k = A := by omega
            go_wp2
            go_roundw
            case rel =>
              obtain ⟨fz, h1z, h2z⟩ := hIn.later (by omega)
              exact ⟨i + 1, some m, _, fz, hlt, by go_num, ⟨hIn.ws, fun e => by cases e; exact hmd rfl, fun m' e => by cases e; exact hmW, h1z, hIn.bel⟩⟩
            case measure => simp [intOf]; omega
      · obtain rfl : i = P := by omega
        go_wp2
        go_ret
        exact ⟨rfl, hO.bel⟩
  · by_cases c1 : a0 < 1
    · go_enter Tryz.func4, Tryz.ntmps4
      go_wp2_with (go_at_call 6; refine HB.out.mono ?_; rintro e w2 ⟨rfl, hb⟩)
      go_ret
      exact ⟨rfl, hb⟩
    · by_cases c2 : 20 < a0
      · go_enter Tryz.func4, Tryz.ntmps4
        go_wp2_with (go_at_call 6; refine HB.out.mono ?_; rintro e w2 ⟨rfl, hb⟩)
        go_ret
        exact ⟨rfl, hb⟩
      · by_cases c3 : a1 < 1
        · go_enter Tryz.func4, Tryz.ntmps4
          go_wp2_with (go_at_call 6; refine HB.out.mono ?_; rintro e w2 ⟨rfl, hb⟩)
          go_ret
          exact ⟨rfl, hb⟩
        · have c4 : 20 < a1 := by omega
          go_enter Tryz.func4, Tryz.ntmps4
          go_wp2_with (go_at_call 6; refine HB.out.mono ?_; rintro e w2 ⟨rfl, hb⟩)
          go_ret
          exact ⟨rfl, hb⟩
end Go.Proofs.YtiocbkkfndbkhaaGreatDoor
