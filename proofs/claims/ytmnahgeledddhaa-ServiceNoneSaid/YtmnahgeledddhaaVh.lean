/- Contract of a service table's Parse. -/
import Derived.Test.YtmnahgeledddhaaVg
namespace Go.Proofs.Ytmnahgeledddhaa
open Go.RowKit Go.Lib Go.Tx Go.Mk
theorem svc_some {x y : List UInt8} {r : List (List UInt8)} {q : Int × List UInt8} (h : placeW (x :: y :: r) = some q) : svcRow (x :: y :: r) = some (x :: r.filter svcB, q) := by
  rw [svcRow_place, h]; rfl
set_option maxHeartbeats 2000000 in
set_option maxRecDepth 100000 in
theorem parse_core (a : Option Addr) (n c : Nat) (T : List (Nat × List (List UInt8))) (w : World) (hfine : ∀ t ∈ T, FineL t.2) (hfew2 : T.length ≤ 100001) (hlines : ∀ W, Below w.heap.size w W → Calls Try.prog 18 #[.slice a n c] W (LinesR W T)) :
    Calls Try.prog 9 #[.slice a n c] w fun e w' => ∃ p, e = .returned (.pointer (some ⟨p, 0, none⟩)) ∧ Tab w.heap.size w' p (svcsOf T) ∧ Below w.heap.size w w' := by
  have HLn := Lib.hid hlines
  have HFine := Lib.hid hfine
  clear hlines hfine
  have hmm := @run_makeMap Try.prog
  go_enter Try.func9, Try.ntmps9
  go_wp2_with (go_at_call 18; refine (HLn.out _ ((((Below.refl _ w).alloc (Nat.le_refl _) _).alloc (by show w.heap.size ≤ (w.heap.push _).size; simp) _).alloc (by show w.heap.size ≤ ((w.heap.push _).push _).size; simp; omega) _)).mono ?_; rintro e w2 ⟨v, rfl, hT, hb2⟩; obtain ⟨pT, cT, rfl⟩ := hT.shape)
  obtain ⟨hst, hs3, hb02⟩ := start_at w w2 hb2
  have HT := Lib.hid hT
  have HSt := Lib.hid hst
  have hB1s : (((w.alloc (.map #[] 0)).alloc (.map #[] 0)).alloc (.cells #[.int .i64 0, .map (some w.heap.size), .map (some (w.heap.size + 1))] 47)).heap.size = w.heap.size + 3 := by show (((w.heap.push _).push _).push _).size = _; simp
  rw [hB1s] at HT
  clear hT hst hb2 hB1s
  go_loopw [15] (fun i wr => ∃ (k : Nat) (GG : Int × List UInt8 → Option Value), k ≤ T.length ∧ i = .int .i64 k ∧ SB w2.heap.size wr (w.heap.size + 1 + 1) w.heap.size (w.heap.size + 1) (svcsOf (T.take k)).length (portAt (svcsOf (T.take k))) (namesOn (svcsOf (T.take k))) GG ∧ Out w2.heap.size w2 wr (w.heap.size + 1 + 1) w.heap.size (w.heap.size + 1)) (fun i _ => T.length - (intOf i).toNat)
  case atStart => exact ⟨0, _, Nat.zero_le _, rfl, HSt.out, Out.refl _ _ _ _ _⟩
  case round =>
    obtain ⟨k, GG, hk, rfl, hTB, hOut⟩ := hrel
    by_cases hlt : k < T.length
    · obtain ⟨⟨no, ws⟩, hx⟩ : ∃ x, T[k]? = some x := ⟨_, List.getElem?_eq_getElem hlt⟩
      have hf := HFine.out (no, ws) (List.mem_of_getElem? hx)
      obtain ⟨g, cap, e, hcap, hcm, hBg, hrd⟩ := HT.out.read (by omega)
      cases e
      obtain ⟨hc0, pw, hc1, hstr⟩ := hrd k no ws hx
      have hgl : g < w2.heap.size := by
        unfold World.cell? at hc0
        split at hc0
        · rename_i hh; exact (Array.getElem?_eq_some_iff.1 hh).1
        · cases hc0
      have hgs : wr.heap[g]? = w2.heap[g]? := hOut.same g hgl (by omega) (by omega) (by omega)
      have hd0 : wr.cell? ⟨g, k * 2, none⟩ = some (.int .i64 (no : Int)) := by rw [Nat.mul_comm, cell_same hgs]; exact hc0
      have hd1 : wr.cell? ⟨g, k * 2 + 1, none⟩ = some (.slice pw ws.length ws.length) := by rw [Nat.mul_comm, cell_same hgs]; exact hc1
      obtain ⟨A, rfl, hAl, hwd⟩ := words_at hstr rfl (w' := wr) (fun j h1 h2 => hOut.same j h2 (by omega) (by omega) (by omega)) hOut.size hf.ne
      have HStep : Hid (svcsOf (T.take (k + 1)) = svcsOf (T.take k) ++ (svcRow ws).toList) := Lib.hid (by rw [takeH hx, svcsOf_snoc])
      have HTB := Lib.hid hTB
      have HWd := Lib.hid hwd
      have HOut := Lib.hid hOut
      have hne := hf.ne
      have hfew : ws.length ≤ 513 := hf.few
      have HWz := Lib.hid hf.word
      clear hc0 hc1 hrd hstr hwd hTB hx hf hOut hgs
      have hpos : 0 < ws.length := List.length_pos_iff.2 hne
      have hB4 : Below wr.heap.size wr (wr.alloc (.cells #[.int .i64 (no : Int), .slice (some ⟨A, 0, none⟩) ws.length ws.length] 51)) := (Below.refl _ wr).alloc (Nat.le_refl _) _
      have HR4 := Lib.hid (R2.new wr (.int .i64 (no : Int)) (.slice (some ⟨A, 0, none⟩) ws.length ws.length) 51)
      have hA4 : A < (wr.alloc (.cells #[.int .i64 (no : Int), .slice (some ⟨A, 0, none⟩) ws.length ws.length] 51)).heap.size := Nat.lt_of_lt_of_le hAl hB4.size
      have HPl := Lib.hid (placeOf_any A ws.length ws _ (HWd.out.below hAl hB4) hA4 rfl hpos (by omega) HWz.out)
      have HB4 := Lib.hid hB4
      unfold placeV at HPl
      clear hB4
      cases hpl : placeW ws with
      | none =>
        rw [hpl] at HPl
        have HNo : Hid (svcsOf (T.take (k + 1)) = svcsOf (T.take k)) := Lib.hid (by
          rw [HStep.out]
          obtain ⟨x, r, rfl⟩ : ∃ x r, ws = x :: r := by cases ws with | nil => exact absurd rfl hne | cons x r => exact ⟨x, r, rfl⟩
          rw [svcRow_place, hpl]; simp)
        clear hpl HStep
        go_wp2_with (go_at_call 19; refine HPl.out.mono ?_; rintro e w5 ⟨rfl, hb5⟩; have HB5 := Lib.hid (HB4.out.trans (hb5.mono HB4.out.size)))
        go_roundw
        case rel =>
          have hb := HB5.out.alloc HB5.out.size (.cells #[.int .i64 0, .string ⟨#[]⟩] 53)
          exact ⟨k + 1, GG, hlt, by go_num, by rw [HNo.out]; exact HTB.out.below hb, HOut.out.below hb⟩
        case measure => simp [intOf]; omega
      | some q =>
        obtain ⟨port, pl⟩ := q
        rw [hpl] at HPl
        obtain ⟨x, y, r, rfl⟩ : ∃ x y r, ws = x :: y :: r := by
          cases ws with
          | nil => exact absurd rfl hne
          | cons x ws => cases ws with
            | nil => cases hpl
            | cons y r => exact ⟨x, y, r, rfl⟩
        have HYes : Hid (svcsOf (T.take (k + 1)) = svcsOf (T.take k) ++ [(x :: r.filter svcB, port, pl)]) := Lib.hid (by rw [HStep.out, svc_some hpl]; rfl)
        have hrn : (svcsOf (T.take k)).length ≤ 1000000 := by
          have h1 := svcsOf_few (T.take k)
          have h2 := List.length_take_le k T
          omega
        have hrl : r.length ≤ 1000 := by simp only [List.length_cons] at hfew; omega
        have hflen : (x :: r.filter svcB).length ≤ 1000 := by
          have := List.length_filter_le svcB r
          simp only [List.length_cons] at hfew ⊢; omega
        obtain ⟨f, hff⟩ : ∃ f, x :: r.filter svcB = f := ⟨_, rfl⟩
        have HNa := Lib.hid (fun W (hW : Below wr.heap.size wr W) => namesAmong_any A x y r r.length W (HWd.out.below hAl hW) (Nat.lt_of_lt_of_le hAl hW.size) rfl hrl)
        rw [hff] at HYes hflen HNa
        have hlen : (x :: y :: r).length = r.length + 2 := rfl
        rw [hlen] at hd1 HR4 HPl HB4
        have hW2 := HTB.out.size
        clear hpl HStep hff hlen hpos hA4
        go_upto_region 6 with (go_at_call 19; refine HPl.out.mono ?_; rintro e w5 ⟨rfl, hb5⟩; have HB5 := Lib.hid (HB4.out.trans (hb5.mono HB4.out.size)); have HR5 := Lib.hid (HR4.out.below hb5))
        have hb6 := (Below.refl w5.heap.size w5).alloc (Nat.le_refl _) (.cells #[.int .i64 port, .string ⟨pl.toArray⟩] 53)
        have HQ6 := Lib.hid (R2.new w5 (.int .i64 port) (.string ⟨pl.toArray⟩) 53)
        have HR6 := Lib.hid (HR5.out.below hb6)
        have HB6 := Lib.hid (HB5.out.trans (hb6.mono HB5.out.size))
        have h5 := HB5.out.size
        clear hb6 HR5 HB5 HR4 HB4 hb5
        generalize (w5.alloc (.cells #[.int .i64 port, .string ⟨pl.toArray⟩] 53)) = w6 at *
        have HK : Hid (w6.cell? ⟨w5.heap.size, 0, none⟩ = some (.int .i64 port) ∧ w6.cell? ⟨w5.heap.size, 1, none⟩ = some (.string ⟨pl.toArray⟩) ∧ w6.cell? ⟨wr.heap.size, 1, none⟩ = some (.slice (some ⟨A, 0, none⟩) (r.length + 2) (r.length + 2))) := Lib.hid ⟨HQ6.out.c0, HQ6.out.c1, HR6.out.c1⟩
        have HD := Lib.hid (Below.refl w6.heap.size w6).drew
        go_wp2
        go_region_held3 (fun w' => w'.cell? ⟨w5.heap.size, 0, none⟩ = some (.int .i64 port) ∧ w'.cell? ⟨w5.heap.size, 1, none⟩ = some (.string ⟨pl.toArray⟩) ∧ w'.cell? ⟨wr.heap.size, 1, none⟩ = some (.slice (some ⟨A, 0, none⟩) (r.length + 2) (r.length + 2))) (first | exact HK.out) (first | (go_at_call 21; refine (HNa.out _ (HB6.out.trans (HD.out.mono HB6.out.size))).mono ?_; rintro e w7 ⟨v7, rfl, hv7, hb7⟩; have HD7 := Lib.hid (HD.out.trans (hb7.mono HD.out.size)); have HQ7 := Lib.hid (HQ6.out.below HD7.out); have HR7 := Lib.hid (HR6.out.below HD7.out); have HB7 := Lib.hid (HB6.out.trans (HD7.out.mono HB6.out.size)); have HT7 := Lib.hid (HTB.out.below HB7.out); have HV7 : Hid (StrC w2.heap.size w7 v7 f) := Lib.hid (own_base hv7 (Nat.le_trans hW2 (Nat.le_trans HB6.out.size HD.out.size))); have HK : Hid (w7.cell? ⟨w5.heap.size, 0, none⟩ = some (.int .i64 port) ∧ w7.cell? ⟨w5.heap.size, 1, none⟩ = some (.string ⟨pl.toArray⟩) ∧ w7.cell? ⟨wr.heap.size, 1, none⟩ = some (.slice (some ⟨A, 0, none⟩) (r.length + 2) (r.length + 2))) := Lib.hid ⟨HQ7.out.c0, HQ7.out.c1, HR7.out.c1⟩) | (go_at_call 20; refine (add_any _ _ _ _ _ _ _ GG _ port pl _ f HT7.out HV7.out hflen hrn).mono ?_; rintro e w8 ⟨rfl, ⟨G8, ht8⟩, ho8⟩; have HT8 := Lib.hid ht8; have HO8 := Lib.hid ((HOut.out.below HB7.out).trans ho8); have HQ8 := Lib.hid (HQ7.out.out ho8 (by omega) (by omega) (by omega) (by omega)); have HR8 := Lib.hid (HR7.out.out ho8 (by omega) (by omega) (by omega) (by omega)); have HK : Hid (w8.cell? ⟨w5.heap.size, 0, none⟩ = some (.int .i64 port) ∧ w8.cell? ⟨w5.heap.size, 1, none⟩ = some (.string ⟨pl.toArray⟩) ∧ w8.cell? ⟨wr.heap.size, 1, none⟩ = some (.slice (some ⟨A, 0, none⟩) (r.length + 2) (r.length + 2))) := Lib.hid ⟨HQ8.out.c0, HQ8.out.c1, HR8.out.c1⟩))
        all_goals
          go_wp2
          go_roundw
          case rel =>
            refine ⟨k + 1, G8, hlt, by go_num, ?_, HO8.out⟩
            rw [HYes.out, portAt_snoc, namesOn_snoc, List.length_append]
            exact HT8.out
          case measure => simp [intOf]; omega
    · obtain rfl : k = T.length := by omega
      rw [List.take_length] at hTB
      have HTB := Lib.hid hTB
      clear hTB
      go_wp2
      go_ret
      exact ⟨_, rfl, ⟨_, _, _, _, by omega, by omega, HTB.out⟩, hb02.trans (Out.toBelow hOut (by omega) (by omega) (Nat.le_refl _) (by omega))⟩
theorem parse_any (a : Option Addr) (n c : Nat) (l : List UInt8) (w : World) (h : BA w a n c l) (hold : ∀ x, a = some x → x.block < w.heap.size) (hn : n ≤ 100000) :
    Calls Try.prog 9 #[.slice a n c] w fun e w' => ∃ p, e = .returned (.pointer (some ⟨p, 0, none⟩)) ∧ Tab w.heap.size w' p (svcsOf (toldG 1 [] l)) ∧ Below w.heap.size w w' := by
  have hlen := h.len
  obtain ⟨hfine, hfew⟩ := toldG_fine l 1 []
  exact parse_core a n c (toldG 1 [] l) w hfine (by omega) (fun W (hb : Below w.heap.size w W) => lines_any a n c l W (h.below hb hold) (fun x hx => Nat.lt_of_lt_of_le (hold x hx) hb.size) (by omega))
end Go.Proofs.Ytmnahgeledddhaa
