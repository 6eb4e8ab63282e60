/- Contract of the document's reading of an address of the first kind. -/
import Derived.Test.YtdfapebggghfdaaGreatDoorSq
import Derived.Test.YtdfapebggghfdaaGreatDoorRn
import Derived.Laws.IdiomStrings
namespace Go.Tx
def okN (l : List UInt8) : Bool := (numRes l 255).2
def byN (l : List UInt8) : UInt8 := UInt8.ofNat (numRes l 255).1.toNat
def fourP (p : List (List UInt8)) : Option (List UInt8) := if p.length = 4 ∧ p.all okN = true then some (p.map byN) else none
theorem numRes_bd (l : List UInt8) (h : okN l = true) : 0 ≤ (numRes l 255).1 ∧ (numRes l 255).1 ≤ 255 := by
  unfold okN at h
  unfold numRes at h ⊢
  split
  · simp
  · split
    · simp
    · rename_i h1 h2
      simp
      omega
theorem byN_int (l : List UInt8) (h : okN l = true) : ((byN l).toNat : Int) = (numRes l 255).1 := by
  have := numRes_bd l h
  unfold byN
  simp
  omega
def u8V (l : List UInt8) : List Value := l.map fun c => .int .u8 (c.toNat : Int)
end Go.Tx
namespace Go.Proofs.YtdfapebggghfdaaGreatDoor
open Go.RowKit Go.Lib Go.Tx
def FourR (w : World) (r : Option (List UInt8)) (e : Ending) (w' : World) : Prop := e = .returned (.tuple #[.string ⟨(r.getD []).toArray⟩, .bool r.isSome]) ∧ Below w.heap.size w w'
theorem info5 : (Tryz.prog.info? 5).map (fun i => (i.zero, i.size, i.bytes)) = some (some (.int .u8 0), 1, 1) := by kernel_rfl
theorem byte_cell (w : World) (x : Int) (e : TypeId) : ∀ j u, [Value.int .u8 x][j]? = some u → (w.alloc (.cells #[.int .u8 x] e)).cell? ((⟨w.heap.size, 0, none⟩ : Addr).add j) = some u := by
  intro j u hj
  have ha : (⟨w.heap.size, 0, none⟩ : Addr).add j = ⟨w.heap.size, j, none⟩ := by unfold Addr.add; split <;> simp_all
  rw [ha, World.cell?_alloc_new]
  simpa using hj
/-- string(b) of a row of bytes of the call's own. -/
theorem own_str {w : World} {B : Nat} {v : Value} {l : List UInt8} (h : w.ownsRow B 5 1 v l.length (u8V l)) : (convert 22 9 v).run Tryz.prog w = .ok (.string ⟨l.toArray⟩) w := by
  rcases h.2 with ⟨rfl, h2⟩ | ⟨g, cap, cur, rfl, _⟩
  · obtain rfl : l = [] := List.eq_nil_of_length_eq_zero h2
    rw [run_convert_bytes_string w 22 9 5 none 0 0 Tryz.underlying22 Tryz.underlying5 Tryz.underlying9]
    rfl
  · refine run_convert_bytes_back w 22 9 5 ⟨g, 0, none⟩ cap l Tryz.underlying22 Tryz.underlying5 Tryz.underlying9 fun j hj => ?_
    have ha : (⟨g, 0, none⟩ : Addr).add j = ⟨g, j, none⟩ := by unfold Addr.add; split <;> simp_all
    rw [ha, h.cellAt j (by omega)]
    simp [u8V, hj]
theorem fourP_no {p : List (List UInt8)} {k : Nat} {l : List UInt8} (h : p[k]? = some l) (hn : okN l = false) : fourP p = none := by
  unfold fourP
  rw [if_neg]
  rintro ⟨_, h2⟩
  rw [List.all_eq_true] at h2
  have := h2 l (List.mem_of_getElem? h)
  rw [hn] at this
  cases this
theorem num_yes (l : List UInt8) (x : Int) (w : World) (hl : l.length ≤ 1000000) (hx : numRes l 255 = (x, true)) : Calls Tryz.prog 58 #[.string ⟨l.toArray⟩, .int .i64 255] w fun e w' => e = .returned (.tuple #[.int .i64 x, .bool true]) ∧ w = w' := by
  refine (rnum_any ⟨l.toArray⟩ 255 w (by show l.toArray.size ≤ _; unfold maxLen; simp; omega)).mono ?_
  rintro e w' ⟨rfl, rfl⟩
  have e : (⟨l.toArray⟩ : ByteArray).data.toList = l := by simp
  rw [e, hx]
  exact ⟨rfl, rfl⟩
theorem num_no (l : List UInt8) (x : Int) (w : World) (hl : l.length ≤ 1000000) (hx : numRes l 255 = (x, false)) : Calls Tryz.prog 58 #[.string ⟨l.toArray⟩, .int .i64 255] w fun e w' => e = .returned (.tuple #[.int .i64 x, .bool false]) ∧ w = w' := by
  refine (rnum_any ⟨l.toArray⟩ 255 w (by show l.toArray.size ≤ _; unfold maxLen; simp; omega)).mono ?_
  rintro e w' ⟨rfl, rfl⟩
  have e : (⟨l.toArray⟩ : ByteArray).data.toList = l := by simp
  rw [e, hx]
  exact ⟨rfl, rfl⟩
theorem own_push {w' : World} {B k : Nat} {v' : Value} {P : List (List UInt8)} {l : List UInt8} {x : Int} (hl : P[k]? = some l) (hx : ((byN l).toNat : Int) = x)
    (h : w'.ownsRow B 5 1 v' (k + 1) (u8V ((P.take k).map byN) ++ [.int .u8 x])) : w'.ownsRow B 5 1 v' (k + 1) (u8V ((P.take (k + 1)).map byN)) := by
  have hk := (List.getElem?_eq_some_iff.1 hl).1
  have e : P.take (k + 1) = P.take k ++ [l] := by
    rw [List.take_succ_eq_append_getElem hk]
    rw [List.getElem?_eq_getElem hk] at hl
    cases hl
    rfl
  rw [e]
  unfold u8V at h ⊢
  rw [List.map_append, List.map_append]
  rw [← hx] at h
  exact h
theorem all_push {P : List (List UInt8)} {k : Nat} {l : List UInt8} (hl : P[k]? = some l) (h : (P.take k).all okN = true) (ho : okN l = true) : (P.take (k + 1)).all okN = true := by
  have hk := (List.getElem?_eq_some_iff.1 hl).1
  have e : P.take (k + 1) = P.take k ++ [l] := by
    rw [List.take_succ_eq_append_getElem hk]
    rw [List.getElem?_eq_getElem hk] at hl
    cases hl
    rfl
  rw [e, List.all_append, h]
  simp [ho]
set_option maxHeartbeats 2000000 in
set_option maxRecDepth 100000 in
theorem four_any (s : ByteArray) (w : World) (hn : s.size ≤ 1000000) :
    Calls Tryz.prog 36 #[.string s] w (FourR w (fourP (splitL 46 s.data.toList))) := by
  obtain ⟨i5, hi, hz0, hz1, hz2⟩ := info_parts info5
  have hbnd := splitG_len 46 s.data.toList []
  have hlen : s.data.toList.length = s.size := rfl
  obtain ⟨P, hP⟩ : ∃ P, splitL 46 s.data.toList = P := ⟨_, rfl⟩
  have hP' : splitG 46 [] s.data.toList = P := hP
  rw [hP', hlen] at hbnd
  have HP := Lib.hid hP
  have hmem : ∀ l ∈ P, l.length ≤ s.size := fun l hl => by
    rw [← hP'] at hl
    have := splitG_mem 46 s.data.toList [] l hl
    rw [hlen] at this
    simpa using this
  rw [hP]
  clear hP hP' hlen
  have hsplit : ∀ W, Calls Tryz.prog 38 #[.string s, .int .u8 46] W (SplitR W P) := fun W => by
    have := split_any s 46 W hn
    rw [HP.out] at this
    exact this
  have HS := Lib.hid hsplit
  have HM := Lib.hid hmem
  clear hsplit hmem
  by_cases h4 : P.length = 4
  · have H4 := Lib.hid h4
    go_enter Tryz.func36, Tryz.ntmps36
    go_wp2_with (go_at_call 38; refine (HS.out _).mono ?_; rintro e w2 ⟨v, rfl, hs, hb⟩; obtain ⟨p, c, rfl, hc, hm, hr⟩ := hs.read; rw [H4.out] at hc ⊢; have HR := Lib.hid hr; clear hr hs)
    have HBW := Lib.hid hb
    go_loopw [5, 6] (fun bv i wr => ∃ k : Nat, k ≤ 4 ∧ i = .int .i64 k ∧ wr.ownsRow w2.heap.size 5 1 bv k (u8V ((P.take k).map byN)) ∧ Hid ((P.take k).all okN = true) ∧ Below w2.heap.size w2 wr) (fun _ i _ => 4 - (intOf i).toNat)
    case atStart => exact ⟨0, Nat.zero_le _, rfl, World.ownsRow_nil _ _ _ _, Lib.hid rfl, Below.refl _ _⟩
    case round =>
      obtain ⟨k, hk, rfl, hown, hall, hbw⟩ := hrel
      have hwr : w.heap.size ≤ wr.heap.size := Nat.le_trans hb.size hbw.size
      by_cases hlt : k < 4
      · obtain ⟨l, hl⟩ : ∃ l, P[k]? = some l := ⟨_, List.getElem?_eq_getElem (by rw [H4.out]; exact hlt)⟩
        obtain ⟨g, rfl, hg, hcell0⟩ := HR.out k l hl
        have hcell : wr.cell? ⟨g, k, none⟩ = some (.string ⟨l.toArray⟩) := (hbw.cell (p := ⟨g, k, none⟩) hg).trans hcell0
        have hll : l.length ≤ 1000000 := Nat.le_trans (HM.out l (List.mem_of_getElem? hl)) hn
        have HL := Lib.hid hl
        have HO := Lib.hid hown
        clear hcell0 hl hown
        obtain ⟨x, hx⟩ : ∃ x, (numRes l 255).1 = x := ⟨_, rfl⟩
        cases ho : okN l with
        | false =>
          have HX : Hid (numRes l 255 = (x, false)) := Lib.hid (by rw [← hx]; unfold okN at ho; rw [← ho])
          have HN := Lib.hid ho
          clear ho hx
          go_wp2_with (go_at_call 58; refine (num_no l x _ hll HX.out).mono ?_; rintro e w' ⟨rfl, rfl⟩)
          go_ret2
          exact ⟨by rw [fourP_no HL.out HN.out]; rfl, hb.trans (hbw.mono hb.size)⟩
        | true =>
          have HX : Hid (numRes l 255 = (x, true)) := Lib.hid (by rw [← hx]; unfold okN at ho; rw [← ho])
          obtain ⟨hx0, hx1⟩ := numRes_bd l ho
          rw [hx] at hx0 hx1
          have HB : Hid (((byN l).toNat : Int) = x) := Lib.hid ((byN_int l ho).trans hx)
          have HN := Lib.hid ho
          clear ho hx
          go_wp2_with (first | (go_at_call 58; refine (num_yes l x _ hll HX.out).mono ?_; rintro e w' ⟨rfl, rfl⟩) | (at_builtin; refine wpList_append_own _ rfl _ _ 22 rfl w2.heap.size 5 i5 (.int .u8 0) 1 1 Tryz.underlying22 hi hz0 hz1 hz2 rfl (by decide) _ _ _ rfl (HO.out.alloc _) ⟨wr.heap.size, 0, none⟩ 1 1 [.int .u8 x] rfl rfl (byte_cell _ _ _) (by simp [Value.oneCell']) (by unfold maxLen; omega) (by omega) (by have := hbw.size; show w2.heap.size ≤ (wr.heap.push _).size; simp; omega) ?_; intro v' w5 hown5 hg5 _))
          go_roundw
          case rel => exact ⟨k + 1, hlt, by go_num, own_push HL.out HB.out hown5, Lib.hid (all_push HL.out hall.out HN.out), (hbw.alloc hbw.size _).grown hg5 (by have := hbw.size; show w2.heap.size ≤ (wr.heap.push _).size; simp; omega) (fun g hg => (HO.out.lt g hg).1)⟩
          case measure => simp [intOf]; omega
      · obtain rfl : k = 4 := by omega
        have hf : Hid (fourP P = some (P.map byN)) := Lib.hid (by
          have e : P.take 4 = P := List.take_of_length_le (by rw [H4.out]; omega)
          have := hall.out
          rw [e] at this
          unfold fourP
          rw [if_pos ⟨H4.out, this⟩])
        have hstr : (convert 22 9 u5).run Tryz.prog wr = .ok (.string ⟨(P.map byN).toArray⟩) wr := by
          have e : P.take 4 = P := List.take_of_length_le (by rw [H4.out]; omega)
          rw [e] at hown
          refine own_str (B := w2.heap.size) (l := P.map byN) ?_
          rw [List.length_map, H4.out]
          exact hown
        clear hown
        go_wp2
        go_ret2
        exact ⟨by rw [hf.out]; rfl, hb.trans (hbw.mono hb.size)⟩
  · have HF : Hid (fourP P = none) := Lib.hid (by unfold fourP; rw [if_neg (fun h => h4 h.1)])
    have h4' : ((P.length : Int) != 4) = true := by simp; omega
    go_enter Tryz.func36, Tryz.ntmps36
    go_wp2_with (go_at_call 38; refine (HS.out _).mono ?_; rintro e w2 ⟨v, rfl, hs, hb⟩; obtain ⟨p, c, rfl, hc, hm, hr⟩ := hs.read; clear hr hs)
    go_ret2
    exact ⟨by rw [HF.out]; rfl, hb⟩
end Go.Proofs.YtdfapebggghfdaaGreatDoor
