/- The law's own same: both worlds say the same. -/
import Derived.Test.YtaaiicfclaeapaaWaCf
namespace Go.Proofs.Ytaaiicfclaeapaa
open Go.RowKit Go.Mp Go.Rb Go.Lib
theorem lookR_len {m : Nat} (p : ByteArray) : ∀ L : List FilD, (∀ x ∈ L, x.2.1.length ≤ m) → (lookR p L).2.1.length ≤ m
  | [], _ => Nat.zero_le _
  | x :: L, h => by
    unfold lookR
    split
    · exact h x (List.mem_cons_self ..)
    · exact lookR_len p L (fun y hy => h y (List.mem_cons_of_mem _ hy))
theorem convStr {B : Nat} {w : World} {v : Value} {l : List UInt8} (h : RB B w v l) : (convert 33 9 v).run Try.prog w = .ok (.string ⟨l.toArray⟩) w := h.str (P := Try.prog) (src := 33) (dst := 9) Try.underlying33 Try.underlying5 Try.underlying9
theorem sent_el {w7 w8 : World} {gm : Nat} {L : List DgT} (h : SentAt w7 w8 gm L.length L L.length) {j : Nat} {x : DgT} (hx : L[j]? = some x) : ∃ (a : Option Addr) (n ca : Nat), gm < w8.heap.size ∧ RB 0 w8 (.slice a n ca) x.2.2 ∧ w8.cell? ⟨gm, j * 3, none⟩ = some (.string x.1) ∧ w8.cell? ⟨gm, j * 3 + 1, none⟩ = some (.bool x.2.1) ∧ w8.cell? ⟨gm, j * 3 + 2, none⟩ = some (.slice a n ca) := by
  obtain ⟨M, zs, h1, h2, h3, h4, h5⟩ := h
  rw [List.take_length] at h1
  have hj := (List.getElem?_eq_some_iff.1 hx).1
  obtain ⟨y, hy⟩ : ∃ y, M[j]? = some y := ⟨_, List.getElem?_eq_getElem (by omega)⟩
  have hyx : y.1 = x := by rw [← h1, List.getElem?_map, hy] at hx; simpa using hx
  subst hyx
  obtain ⟨a, n, ca, e, hr⟩ := h5 y (List.mem_of_getElem? hy)
  have hc : ∀ k, k < 3 → w8.cell? ⟨gm, j * 3 + k, none⟩ = (dgC y)[k]? := fun k hk => by
    rw [h3.cellAt _ (by omega), List.getElem?_append_left (by rw [dgC_len]; omega), dgC_at M j k y hy hk]
  exact ⟨a, n, ca, (h3.lt gm rfl).2, RB.base hr (Nat.zero_le _), hc 0 (by decide), hc 1 (by decide), (hc 2 (by decide)).trans (by rw [← e]; rfl)⟩
theorem strm_el {w7 w8 : World} {gm : Nat} {L : List StmT} (h : StrmAt w7 w8 gm L.length L L.length) {j : Nat} {x : StmT} (hx : L[j]? = some x) : ∃ (a : Option Addr) (n ca : Nat), gm < w8.heap.size ∧ RB 0 w8 (.slice a n ca) x.2.1 ∧ w8.cell? ⟨gm, j * 3, none⟩ = some (.string x.1) ∧ w8.cell? ⟨gm, j * 3 + 1, none⟩ = some (.slice a n ca) ∧ w8.cell? ⟨gm, j * 3 + 2, none⟩ = some (.bool x.2.2) := by
  obtain ⟨M, zs, h1, h2, h3, h4, h5⟩ := h
  rw [List.take_length] at h1
  have hj := (List.getElem?_eq_some_iff.1 hx).1
  obtain ⟨y, hy⟩ : ∃ y, M[j]? = some y := ⟨_, List.getElem?_eq_getElem (by omega)⟩
  have hyx : y.1 = x := by rw [← h1, List.getElem?_map, hy] at hx; simpa using hx
  subst hyx
  obtain ⟨a, n, ca, e, hr⟩ := h5 y (List.mem_of_getElem? hy)
  have hc : ∀ k, k < 3 → w8.cell? ⟨gm, j * 3 + k, none⟩ = (stC y)[k]? := fun k hk => by
    rw [h3.cellAt _ (by omega), List.getElem?_append_left (by rw [stC_len]; omega), stC_at M j k y hy hk]
  exact ⟨a, n, ca, (h3.lt gm rfl).2, RB.base hr (Nat.zero_le _), hc 0 (by decide), (hc 1 (by decide)).trans (by rw [← e]; rfl), hc 2 (by decide)⟩
theorem cellBel {w w' : World} {g j : Nat} {v : Value} (hb : Below w.heap.size w w') (hg : g < w.heap.size) (h : w.cell? ⟨g, j, none⟩ = some v) : w'.cell? ⟨g, j, none⟩ = some v := (hb.cell (p := ⟨g, j, none⟩) hg).trans h
section
variable {W0 d : Nat} {col : Nat → Nat} {w : World} {b r i : Nat} {s : StW}
set_option maxHeartbeats 4000000 in
set_option maxRecDepth 100000 in
theorem same_l (hP : ProgIn col w b s) (hD : DocIn d col w r s) (hc : ColOk W0 col w) (hd : 8 ≤ d) (ho : Okw s i) (p : ByteArray) (hp : p.size ≤ maxLen) :
    Calls Try.prog 25 #[.pointer (some ⟨b, 0, none⟩), .pointer (some ⟨r, 0, none⟩), .string p] w fun e w' => e = .returned (.bool true) ∧ DStep W0 d col w r { s with files := fadd p s.files } w' := by
  obtain ⟨l, st, th, hx⟩ : ∃ l st th, (lookF p s.files).2 = (l, st, th) := ⟨_, _, _, rfl⟩
  have hl : l.length ≤ 60 := by
    have := lookR_len p s.files ho.bF
    rw [← lookF_eq, hx] at this
    exact this
  have HRd := Lib.hid (hP.read p l st th hx hl)
  -- behind the program's Read
  have H1 : Hid (∀ w1, Below w.heap.size w w1 → Calls Try.prog 40 #[.pointer (some ⟨r, 0, none⟩), .string p] w1 fun e w' => ∃ (a : Option Addr) (n ca : Nat), e = .returned (.tuple #[.slice a n ca, .int .i64 st, .bool th]) ∧ Hid (RB 0 w' (.slice a n ca) l) ∧ Hid (DStep W0 d col w1 r { s with files := fadd p s.files } w')) := Lib.hid (fun w1 hb => by
    refine ((hD.keep hd hc (Fr.below (cs := fun _ => False) hb) ⟨fun h => h, fun h => h⟩).read hd (hc.below hb) ho p l st th hx).mono ?_
    rintro e w' ⟨a, n, ca, he, hr, hs⟩
    exact ⟨a, n, ca, he, Lib.hid hr, Lib.hid hs⟩)
  have HC := Lib.hid hc
  have HP := Lib.hid hP
  have HO := Lib.hid ho
  clear hP hD hc ho hx
  go_enter Try.func25, Try.ntmps25
  go_upto_region 3 with (first | (go_at_call 26; refine HRd.out.mono ?_; rintro e w1 ⟨p1, c1, rfl, hr1, hb1⟩; have HR1 := Lib.hid hr1; have HB1 := Lib.hid hb1; clear hr1 hb1) | (go_at_call 40; refine (H1.out _ HB1.out).mono ?_; rintro e w2 ⟨a, n, ca, rfl, HR2, HS2⟩))
  obtain ⟨col2, hc2, fr2, hd2⟩ := HS2.out
  have hb1 := HB1.out
  have hc1 := HC.out.below hb1
  have hp2 : ProgIn col2 w2 b s := (HP.out.keep HC.out (Fr.below (cs := fun _ => False) hb1) ⟨fun h => h, fun h => h, fun h => h, fun h => h⟩).keep hc1 fr2 ⟨by omega, by omega, by omega, by omega⟩
  have hr12 : RB w.heap.size w2 (.slice p1 l.length c1) l := RB.same HR1.out (fun q n' c' e => by
    injection e with e1
    have h1 := RB.blk HR1.out e1
    refine fr2.keep _ h1.2 (fun e2 => ?_)
    have := (HC.out.lo q.block (by rw [e2]; omega)).2
    omega)
  have fin : ∀ wr, Below w2.heap.size w2 wr → DStep W0 d col w r { s with files := fadd p s.files } wr := fun wr hb => ⟨col2, hc2.below hb, ((Fr.below hb1).trans fr2).trans (Fr.below hb), hd2.keep hd hc2 (Fr.below (cs := fun _ => False) hb) ⟨fun h => h, fun h => h⟩⟩
  have HFin := Lib.hid fin
  have hd2' := hd2
  obtain ⟨vF, vS, vT, vR, g1, g2, g3, g4, g5, g6⟩ := hd2
  obtain ⟨qS, cS, rfl⟩ := g4.shape
  obtain ⟨qT, cT, rfl⟩ := g5.shape
  obtain ⟨qR, cR, rfl⟩ := g6.shape
  have hcell : ∀ W, Below w2.heap.size w2 W → W.cell? ⟨r, 0, none⟩ = some (.int .i64 s.now) ∧ W.cell? ⟨r, 3, none⟩ = some (.slice qS s.sent.length cS) ∧ W.cell? ⟨r, 4, none⟩ = some (.slice qT s.strm.length cT) ∧ W.cell? ⟨r, 5, none⟩ = some (.slice qR s.raws.length cR) := fun W hW => by
    have h7 := (hW.block r g1.lt).trans g1
    exact ⟨by simp [World.cell?, h7], by simp [World.cell?, h7], by simp [World.cell?, h7], by simp [World.cell?, h7]⟩
  have HCell := Lib.hid hcell
  have kp : ∀ W, Below w2.heap.size w2 W → ProgIn col2 W b s := fun W hW => hp2.keep hc2 (Fr.below (cs := fun _ => False) hW) ⟨fun h => h, fun h => h, fun h => h, fun h => h⟩
  have HNow : Hid (∀ W, Below w2.heap.size w2 W → Calls Try.prog 41 #[.pointer (some ⟨b, 0, none⟩)] W fun e w' => e = .returned (.int .i64 s.now) ∧ w' = W) := Lib.hid (fun W hW => (kp W hW).nowIs)
  have HRaw : Hid (∀ W, Below w2.heap.size w2 W → Calls Try.prog 28 #[.pointer (some ⟨b, 0, none⟩)] W fun e w' => e = .returned (.int .i64 (s.raws.length : Int)) ∧ Below W.heap.size W w') := Lib.hid (fun W hW => (kp W hW).rawIs HO.out)
  have HLo : Hid (∀ W, Below w2.heap.size w2 W → Calls Try.prog 29 #[.pointer (some ⟨b, 0, none⟩), .string p] W fun e w' => ∃ q c', e = .returned (.slice q (loadL s.raws p).length c') ∧ RB W.heap.size w' (.slice q (loadL s.raws p).length c') (loadL s.raws p) ∧ Below W.heap.size W w') := Lib.hid (fun W hW => (kp W hW).load HO.out p hp)
  have HLd : Hid (∀ W, Below w2.heap.size w2 W → Calls Try.prog 42 #[.pointer (some ⟨r, 0, none⟩), .string p, .int .i64 (s.raws.length : Int)] W fun e w' => ∃ q c', e = .returned (.slice q (loadL s.raws p).length c') ∧ RB W.heap.size w' (.slice q (loadL s.raws p).length c') (loadL s.raws p) ∧ Below W.heap.size W w') := Lib.hid (fun W hW => by
    obtain ⟨vF', vS', vT', vR', y1, _, _, _, _, y6⟩ := hd2'.keep hd hc2 (Fr.below (cs := fun _ => False) hW) ⟨fun h => h, fun h => h⟩
    exact load_d y1 y6 (by have := HO.out.raws; have := HO.out.few; show s.raws.length ≤ 900; omega) (fun x hx => by have := HO.out.bR x hx; omega) p)
  have HSe : Hid (∀ W, Below w2.heap.size w2 W → Calls Try.prog 27 #[.pointer (some ⟨b, 0, none⟩)] W fun e w' => ∃ gm, e = .returned (.slice (some ⟨gm, 0, none⟩) s.sent.length s.sent.length) ∧ SentAt W w' gm s.sent.length s.sent s.sent.length ∧ Below W.heap.size W w') := Lib.hid (fun W hW => (kp W hW).sentAre HO.out)
  have HSt : Hid (∀ W, Below w2.heap.size w2 W → Calls Try.prog 43 #[.pointer (some ⟨b, 0, none⟩)] W fun e w' => ∃ gm, e = .returned (.slice (some ⟨gm, 0, none⟩) s.strm.length s.strm.length) ∧ StrmAt W w' gm s.strm.length s.strm s.strm.length ∧ Below W.heap.size W w') := Lib.hid (fun W hW => (kp W hW).streamsAre HO.out)
  have HS3 : Hid (∀ W, Below w2.heap.size w2 W → W.cell? ⟨r, 0, none⟩ = some (.int .i64 s.now) ∧ W.cell? ⟨r, 5, none⟩ = some (.slice qR s.raws.length cR) ∧ (convert 33 9 (.slice p1 l.length c1)).run Try.prog W = .ok (.string ⟨l.toArray⟩) W ∧ (convert 33 9 (.slice a n ca)).run Try.prog W = .ok (.string ⟨l.toArray⟩) W) := Lib.hid (fun W hW => ⟨(hcell W hW).1, (hcell W hW).2.2.2, convStr (RB.below hr12 hW), convStr (RB.below HR2.out hW)⟩)
  have HRow := Lib.hid (show SRow (Rd d col2 w2) w2 (.slice qS s.sent.length cS) s.sent ∧ TRow (Rd d col2 w2) w2 (.slice qT s.strm.length cT) s.strm from ⟨g4, g5⟩)
  have hlen : s.sent.length ≤ 40 ∧ s.strm.length ≤ 40 ∧ s.raws.length ≤ 40 := by have := HO.out.sent; have := HO.out.strm; have := HO.out.raws; have := HO.out.few; omega
  clear HS2 hc2 fr2 hd2' g1 g2 g3 g4 g5 g6 hp2 hr12 fin hcell kp hb1 hc1 H1 HRd HC HP HR1 HR2
  have n1 : (th != th) = false := by simp
  have n2 : ((st : Int) != st) = false := by simp
  have n3 : ((s.now : Int) != s.now) = false := by simp
  have n4 : ((s.raws.length : Int) != (s.raws.length : Int)) = false := by simp
  have HBn := Lib.hid (Below.refl w2.heap.size w2)
  refine wp_region_noPanic ?_
  refine wp_region_held_drew (S := fun W => W.cell? ⟨r, 0, none⟩ = some (.int .i64 s.now) ∧ W.cell? ⟨r, 5, none⟩ = some (.slice qR s.raws.length cR) ∧ (convert 33 9 (.slice p1 l.length c1)).run Try.prog W = .ok (.string ⟨l.toArray⟩) W ∧ (convert 33 9 (.slice a n ca)).run Try.prog W = .ok (.string ⟨l.toArray⟩) W) (by kernel_rfl) (HS3.out _ HBn.out.drew) (fun hHeld => ?_)
  refine wpAnyH_take (i := 0) (oi := { dst := some 31, op := Op.move (Operand.tmp 9), type := 4, pos := "law.go:53", after := #[], guard := none }) (v := ?_) rfl (by kernel_rfl) (by kernel_rfl) (by kernel_rfl) (fun _ _ _ h => h) (Or.inl ⟨by rfl, ?_⟩) (by assumption) ?_
  rotate_left 1
  · (intro w hSw; (try dsimp only at hSw); go_simp; all_goals (with_reducible rfl))
  try simp only [Act.put, List.setIfInBounds_toArray, List.set_cons_zero, List.set_cons_succ]
  refine wpAnyH_take (i := 1) (oi := { dst := some 32, op := Op.move (Operand.tmp 12), type := 4, pos := "law.go:53", after := #[], guard := none }) (v := ?_) rfl (by kernel_rfl) (by kernel_rfl) (by kernel_rfl) (fun _ _ _ h => h) (Or.inl ⟨by rfl, ?_⟩) (by assumption) ?_
  rotate_left 1
  · (intro w hSw; (try dsimp only at hSw); go_simp; all_goals (with_reducible rfl))
  try simp only [Act.put, List.setIfInBounds_toArray, List.set_cons_zero, List.set_cons_succ]
  refine wpAnyH_take (i := 2) (oi := { dst := some 33, op := Op.binOp BinOp.neq 4 (Operand.tmp 31) (Operand.tmp 32) 4, type := 4, pos := "law.go:53", after := #[{ on := 0, ground := Ground.data }, { on := 1, ground := Ground.data }], guard := none }) (v := ?_) rfl (by kernel_rfl) (by kernel_rfl) (by kernel_rfl) (fun _ _ _ h => h) (Or.inl ⟨by rfl, ?_⟩) (by assumption) ?_
  rotate_left 1
  · (intro w hSw; (try dsimp only at hSw); go_simp; all_goals (with_reducible rfl))
  try simp only [Act.put, List.setIfInBounds_toArray, List.set_cons_zero, List.set_cons_succ]
  refine wpAnyH_take (i := 3) (oi := { dst := some 34, op := Op.move (Operand.tmp 33), type := 4, pos := "law.go:53", after := #[{ on := 2, ground := Ground.data }], guard := none }) (v := ?_) rfl (by kernel_rfl) (by kernel_rfl) (by kernel_rfl) (fun _ _ _ h => h) (Or.inl ⟨by rfl, ?_⟩) (by assumption) ?_
  rotate_left 1
  · (intro w hSw; (try dsimp only at hSw); go_simp; all_goals (with_reducible rfl))
  try simp only [Act.put, List.setIfInBounds_toArray, List.set_cons_zero, List.set_cons_succ]
  refine wpAnyH_take (i := 4) (oi := { dst := some 35, op := Op.move (Operand.tmp 8), type := 2, pos := "law.go:53", after := #[{ on := 3, ground := Ground.guard }], guard := some (3, false) }) (v := ?_) rfl (by kernel_rfl) (by kernel_rfl) (by kernel_rfl) (fun _ _ _ h => h) (Or.inl ⟨by rfl, ?_⟩) (by assumption) ?_
  rotate_left 1
  · (intro w hSw; (try dsimp only at hSw); go_simp; all_goals (with_reducible rfl))
  try simp only [Act.put, List.setIfInBounds_toArray, List.set_cons_zero, List.set_cons_succ]
  refine wpAnyH_take (i := 5) (oi := { dst := some 36, op := Op.move (Operand.tmp 11), type := 2, pos := "law.go:53", after := #[{ on := 3, ground := Ground.guard }], guard := some (3, false) }) (v := ?_) rfl (by kernel_rfl) (by kernel_rfl) (by kernel_rfl) (fun _ _ _ h => h) (Or.inl ⟨by rfl, ?_⟩) (by assumption) ?_
  rotate_left 1
  · (intro w hSw; (try dsimp only at hSw); go_simp; all_goals (with_reducible rfl))
  try simp only [Act.put, List.setIfInBounds_toArray, List.set_cons_zero, List.set_cons_succ]
  refine wpAnyH_take (i := 6) (oi := { dst := some 37, op := Op.binOp BinOp.neq 2 (Operand.tmp 35) (Operand.tmp 36) 2, type := 4, pos := "law.go:53", after := #[{ on := 4, ground := Ground.data }, { on := 5, ground := Ground.data }, { on := 3, ground := Ground.guard }], guard := some (3, false) }) (v := ?_) rfl (by kernel_rfl) (by kernel_rfl) (by kernel_rfl) (fun _ _ _ h => h) (Or.inl ⟨by rfl, ?_⟩) (by assumption) ?_
  rotate_left 1
  · (intro w hSw; (try dsimp only at hSw); go_simp; all_goals (with_reducible rfl))
  try simp only [Act.put, List.setIfInBounds_toArray, List.set_cons_zero, List.set_cons_succ]
  refine wpAnyH_take (i := 7) (oi := { dst := some 38, op := Op.pick (Operand.tmp 34) (Operand.const (Value.bool true)) (Operand.tmp 37), type := 4, pos := "law.go:53", after := #[{ on := 3, ground := Ground.data }, { on := 6, ground := Ground.data }], guard := none }) (v := ?_) rfl (by kernel_rfl) (by kernel_rfl) (by kernel_rfl) (fun _ _ _ h => h) (Or.inl ⟨by rfl, ?_⟩) (by assumption) ?_
  rotate_left 1
  · (intro w hSw; (try dsimp only at hSw); go_simp; all_goals (with_reducible rfl))
  try simp only [Act.put, List.setIfInBounds_toArray, List.set_cons_zero, List.set_cons_succ]
  refine wpAnyH_take (i := 8) (oi := { dst := some 39, op := Op.move (Operand.tmp 38), type := 4, pos := "law.go:53", after := #[{ on := 7, ground := Ground.data }, { on := 3, ground := Ground.chain }], guard := none }) (v := ?_) rfl (by kernel_rfl) (by kernel_rfl) (by kernel_rfl) (fun _ _ _ h => h) (Or.inl ⟨by rfl, ?_⟩) (by assumption) ?_
  rotate_left 1
  · (intro w hSw; (try dsimp only at hSw); go_simp; all_goals (with_reducible rfl))
  try simp only [Act.put, List.setIfInBounds_toArray, List.set_cons_zero, List.set_cons_succ]
  refine wpAnyH_take (i := 9) (oi := { dst := some 40, op := Op.move (Operand.tmp 7), type := 33, pos := "law.go:53", after := #[{ on := 8, ground := Ground.guard }], guard := some (8, false) }) (v := ?_) rfl (by kernel_rfl) (by kernel_rfl) (by kernel_rfl) (fun _ _ _ h => h) (Or.inl ⟨by rfl, ?_⟩) (by assumption) ?_
  rotate_left 1
  · (intro w hSw; (try dsimp only at hSw); go_simp; all_goals (with_reducible rfl))
  try simp only [Act.put, List.setIfInBounds_toArray, List.set_cons_zero, List.set_cons_succ]
  refine wpAnyH_take (i := 10) (oi := { dst := some 41, op := Op.convert 33 9 (Operand.tmp 40), type := 9, pos := "law.go:53", after := #[{ on := 9, ground := Ground.data }, { on := 8, ground := Ground.guard }], guard := some (8, false) }) (v := ?_) rfl (by kernel_rfl) (by kernel_rfl) (by kernel_rfl) (fun _ _ _ h => h) (Or.inl ⟨by rfl, ?_⟩) (by assumption) ?_
  rotate_left 1
  · (intro w hSw; (try dsimp only at hSw); go_simp; all_goals (with_reducible rfl))
  try simp only [Act.put, List.setIfInBounds_toArray, List.set_cons_zero, List.set_cons_succ]
  refine wpAnyH_take (i := 11) (oi := { dst := some 42, op := Op.move (Operand.tmp 10), type := 33, pos := "law.go:53", after := #[{ on := 8, ground := Ground.guard }], guard := some (8, false) }) (v := ?_) rfl (by kernel_rfl) (by kernel_rfl) (by kernel_rfl) (fun _ _ _ h => h) (Or.inl ⟨by rfl, ?_⟩) (by assumption) ?_
  rotate_left 1
  · (intro w hSw; (try dsimp only at hSw); go_simp; all_goals (with_reducible rfl))
  try simp only [Act.put, List.setIfInBounds_toArray, List.set_cons_zero, List.set_cons_succ]
  refine wpAnyH_take (i := 12) (oi := { dst := some 43, op := Op.convert 33 9 (Operand.tmp 42), type := 9, pos := "law.go:53", after := #[{ on := 11, ground := Ground.data }, { on := 8, ground := Ground.guard }], guard := some (8, false) }) (v := ?_) rfl (by kernel_rfl) (by kernel_rfl) (by kernel_rfl) (fun _ _ _ h => h) (Or.inl ⟨by rfl, ?_⟩) (by assumption) ?_
  rotate_left 1
  · (intro w hSw; (try dsimp only at hSw); go_simp; all_goals (with_reducible rfl))
  try simp only [Act.put, List.setIfInBounds_toArray, List.set_cons_zero, List.set_cons_succ]
  refine wpAnyH_take (i := 13) (oi := { dst := some 44, op := Op.binOp BinOp.neq 9 (Operand.tmp 41) (Operand.tmp 43) 9, type := 4, pos := "law.go:53", after := #[{ on := 10, ground := Ground.data }, { on := 12, ground := Ground.data }, { on := 8, ground := Ground.guard }], guard := some (8, false) }) (v := ?_) rfl (by kernel_rfl) (by kernel_rfl) (by kernel_rfl) (fun _ _ _ h => h) (Or.inl ⟨by rfl, ?_⟩) (by assumption) ?_
  rotate_left 1
  · (intro w hSw; (try dsimp only at hSw); go_simp; all_goals (with_reducible rfl))
  try simp only [Act.put, List.setIfInBounds_toArray, List.set_cons_zero, List.set_cons_succ]
  refine wpAnyH_take (i := 14) (oi := { dst := some 45, op := Op.pick (Operand.tmp 39) (Operand.const (Value.bool true)) (Operand.tmp 44), type := 4, pos := "law.go:53", after := #[{ on := 8, ground := Ground.data }, { on := 13, ground := Ground.data }], guard := none }) (v := ?_) rfl (by kernel_rfl) (by kernel_rfl) (by kernel_rfl) (fun _ _ _ h => h) (Or.inl ⟨by rfl, ?_⟩) (by assumption) ?_
  rotate_left 1
  · (intro w hSw; (try dsimp only at hSw); go_simp; all_goals (with_reducible rfl))
  try simp only [Act.put, List.setIfInBounds_toArray, List.set_cons_zero, List.set_cons_succ]
  refine wpAnyH_take (i := 15) (oi := { dst := some 46, op := Op.move (Operand.tmp 45), type := 4, pos := "law.go:53", after := #[{ on := 14, ground := Ground.data }, { on := 8, ground := Ground.chain }], guard := none }) (v := ?_) rfl (by kernel_rfl) (by kernel_rfl) (by kernel_rfl) (fun _ _ _ h => h) (Or.inl ⟨by rfl, ?_⟩) (by assumption) ?_
  rotate_left 1
  · (intro w hSw; (try dsimp only at hSw); go_simp; all_goals (with_reducible rfl))
  try simp only [Act.put, List.setIfInBounds_toArray, List.set_cons_zero, List.set_cons_succ]
  refine wpAnyH_take (i := 16) (oi := { dst := some 47, op := Op.move (Operand.tmp 0), type := 24, pos := "law.go:53", after := #[{ on := 15, ground := Ground.guard }], guard := some (15, false) }) (v := ?_) rfl (by kernel_rfl) (by kernel_rfl) (by kernel_rfl) (fun _ _ _ h => h) (Or.inl ⟨by rfl, ?_⟩) (by assumption) ?_
  rotate_left 1
  · (intro w hSw; (try dsimp only at hSw); go_simp; all_goals (with_reducible rfl))
  try simp only [Act.put, List.setIfInBounds_toArray, List.set_cons_zero, List.set_cons_succ]
  refine wpAnyH_take (i := 18) (oi := { dst := some 49, op := Op.move (Operand.tmp 1), type := 26, pos := "law.go:53", after := #[{ on := 15, ground := Ground.guard }], guard := some (15, false) }) (v := ?_) rfl (by kernel_rfl) (by kernel_rfl) (by kernel_rfl) (fun _ _ _ h => h) (Or.inl ⟨by rfl, ?_⟩) (by assumption) ?_
  rotate_left 1
  · (intro w hSw; (try dsimp only at hSw); go_simp; all_goals (with_reducible rfl))
  try simp only [Act.put, List.setIfInBounds_toArray, List.set_cons_zero, List.set_cons_succ]
  refine wpAnyH_take (i := 19) (oi := { dst := some 50, op := Op.nilCheck (Operand.tmp 49), type := 0, pos := "law.go:53", after := #[{ on := 18, ground := Ground.data }, { on := 15, ground := Ground.guard }], guard := some (15, false) }) (v := ?_) rfl (by kernel_rfl) (by kernel_rfl) (by kernel_rfl) (fun _ _ _ h => h) (Or.inl ⟨by rfl, ?_⟩) (by assumption) ?_
  rotate_left 1
  · (intro w hSw; (try dsimp only at hSw); go_simp; all_goals (with_reducible rfl))
  try simp only [Act.put, List.setIfInBounds_toArray, List.set_cons_zero, List.set_cons_succ]
  refine wpAnyH_take (i := 20) (oi := { dst := some 51, op := Op.fieldAddr 32 (Operand.tmp 50) 0, type := 0, pos := "law.go:53", after := #[{ on := 19, ground := Ground.data }, { on := 15, ground := Ground.guard }], guard := some (15, false) }) (v := ?_) rfl (by kernel_rfl) (by kernel_rfl) (by kernel_rfl) (fun _ _ _ h => h) (Or.inl ⟨by rfl, ?_⟩) (by assumption) ?_
  rotate_left 1
  · (intro w hSw; (try dsimp only at hSw); go_simp; all_goals (with_reducible rfl))
  try simp only [Act.put, List.setIfInBounds_toArray, List.set_cons_zero, List.set_cons_succ]
  refine wpAnyH_take (i := 21) (oi := { dst := some 52, op := Op.load 2 (Operand.tmp 51), type := 2, pos := "law.go:53", after := #[{ on := 20, ground := Ground.data }, { on := 15, ground := Ground.guard }], guard := some (15, false) }) (v := ?_) rfl (by kernel_rfl) (by kernel_rfl) (by kernel_rfl) (fun _ _ _ h => h) (Or.inl ⟨by rfl, ?_⟩) (by assumption) ?_
  rotate_left 1
  · (intro w hSw; (try dsimp only at hSw); go_simp; all_goals (with_reducible rfl))
  try simp only [Act.put, List.setIfInBounds_toArray, List.set_cons_zero, List.set_cons_succ]
  refine wpAnyH_ready (rs := [17]) (by kernel_rfl) (by simp) ?_
  refine AllReadyH.cons (o := { dst := some 48, op := Op.call { callee := Callee.value (Operand.func 41), args := #[Operand.tmp 47], argTypes := #[24] }, type := 2, pos := "law.go:53", after := #[{ on := 16, ground := Ground.data }, { on := 15, ground := Ground.chain }, { on := 15, ground := Ground.guard }], guard := some (15, false) }) rfl (fun K hK => ?_) AllReadyH.nil
  go_simp
  go_at_call 41
  refine (HNow.out _ (by first | exact HBn.out.drew | exact HBn.out)).mono ?_
  rintro e w' ⟨rfl, rfl⟩
  try go_wp2_with fail
  refine hK.out _ _ ?_ (fun hHeld => ?_)
  · ((try dsimp only); (first | exact HS3.out _ HBn.out | exact HS3.out _ HBn.out.drew))
  clear hK K
  try simp only [Act.put, List.setIfInBounds_toArray, List.set_cons_zero, List.set_cons_succ]
  refine wpAnyH_take (i := 22) (oi := { dst := some 53, op := Op.binOp BinOp.neq 2 (Operand.tmp 48) (Operand.tmp 52) 2, type := 4, pos := "law.go:53", after := #[{ on := 17, ground := Ground.data }, { on := 21, ground := Ground.data }, { on := 15, ground := Ground.guard }], guard := some (15, false) }) (v := ?_) rfl (by kernel_rfl) (by kernel_rfl) (by kernel_rfl) (fun _ _ _ h => h) (Or.inl ⟨by rfl, ?_⟩) (by assumption) ?_
  rotate_left 1
  · (intro w hSw; (try dsimp only at hSw); go_simp; all_goals (with_reducible rfl))
  try simp only [Act.put, List.setIfInBounds_toArray, List.set_cons_zero, List.set_cons_succ]
  refine wpAnyH_take (i := 23) (oi := { dst := some 54, op := Op.pick (Operand.tmp 46) (Operand.const (Value.bool true)) (Operand.tmp 53), type := 4, pos := "law.go:53", after := #[{ on := 15, ground := Ground.data }, { on := 22, ground := Ground.data }], guard := none }) (v := ?_) rfl (by kernel_rfl) (by kernel_rfl) (by kernel_rfl) (fun _ _ _ h => h) (Or.inl ⟨by rfl, ?_⟩) (by assumption) ?_
  rotate_left 1
  · (intro w hSw; (try dsimp only at hSw); go_simp; all_goals (with_reducible rfl))
  try simp only [Act.put, List.setIfInBounds_toArray, List.set_cons_zero, List.set_cons_succ]
  refine wpAnyH_take (i := 24) (oi := { dst := some 55, op := Op.move (Operand.tmp 54), type := 4, pos := "law.go:53", after := #[{ on := 23, ground := Ground.data }, { on := 17, ground := Ground.chain }], guard := none }) (v := ?_) rfl (by kernel_rfl) (by kernel_rfl) (by kernel_rfl) (fun _ _ _ h => h) (Or.inl ⟨by rfl, ?_⟩) (by assumption) ?_
  rotate_left 1
  · (intro w hSw; (try dsimp only at hSw); go_simp; all_goals (with_reducible rfl))
  try simp only [Act.put, List.setIfInBounds_toArray, List.set_cons_zero, List.set_cons_succ]
  refine wpAnyH_take (i := 25) (oi := { dst := some 56, op := Op.move (Operand.tmp 0), type := 24, pos := "law.go:53", after := #[{ on := 24, ground := Ground.guard }], guard := some (24, false) }) (v := ?_) rfl (by kernel_rfl) (by kernel_rfl) (by kernel_rfl) (fun _ _ _ h => h) (Or.inl ⟨by rfl, ?_⟩) (by assumption) ?_
  rotate_left 1
  · (intro w hSw; (try dsimp only at hSw); go_simp; all_goals (with_reducible rfl))
  try simp only [Act.put, List.setIfInBounds_toArray, List.set_cons_zero, List.set_cons_succ]
  refine wpAnyH_take (i := 27) (oi := { dst := some 58, op := Op.move (Operand.tmp 1), type := 26, pos := "law.go:53", after := #[{ on := 24, ground := Ground.guard }], guard := some (24, false) }) (v := ?_) rfl (by kernel_rfl) (by kernel_rfl) (by kernel_rfl) (fun _ _ _ h => h) (Or.inl ⟨by rfl, ?_⟩) (by assumption) ?_
  rotate_left 1
  · (intro w hSw; (try dsimp only at hSw); go_simp; all_goals (with_reducible rfl))
  try simp only [Act.put, List.setIfInBounds_toArray, List.set_cons_zero, List.set_cons_succ]
  refine wpAnyH_take (i := 28) (oi := { dst := some 59, op := Op.nilCheck (Operand.tmp 58), type := 0, pos := "law.go:53", after := #[{ on := 27, ground := Ground.data }, { on := 24, ground := Ground.guard }], guard := some (24, false) }) (v := ?_) rfl (by kernel_rfl) (by kernel_rfl) (by kernel_rfl) (fun _ _ _ h => h) (Or.inl ⟨by rfl, ?_⟩) (by assumption) ?_
  rotate_left 1
  · (intro w hSw; (try dsimp only at hSw); go_simp; all_goals (with_reducible rfl))
  try simp only [Act.put, List.setIfInBounds_toArray, List.set_cons_zero, List.set_cons_succ]
  refine wpAnyH_take (i := 29) (oi := { dst := some 60, op := Op.fieldAddr 32 (Operand.tmp 59) 5, type := 0, pos := "law.go:53", after := #[{ on := 28, ground := Ground.data }, { on := 24, ground := Ground.guard }], guard := some (24, false) }) (v := ?_) rfl (by kernel_rfl) (by kernel_rfl) (by kernel_rfl) (fun _ _ _ h => h) (Or.inl ⟨by rfl, ?_⟩) (by assumption) ?_
  rotate_left 1
  · (intro w hSw; (try dsimp only at hSw); go_simp; all_goals (with_reducible rfl))
  try simp only [Act.put, List.setIfInBounds_toArray, List.set_cons_zero, List.set_cons_succ]
  refine wpAnyH_take (i := 30) (oi := { dst := some 61, op := Op.load 30 (Operand.tmp 60), type := 30, pos := "law.go:53", after := #[{ on := 29, ground := Ground.data }, { on := 24, ground := Ground.guard }], guard := some (24, false) }) (v := ?_) rfl (by kernel_rfl) (by kernel_rfl) (by kernel_rfl) (fun _ _ _ h => h) (Or.inl ⟨by rfl, ?_⟩) (by assumption) ?_
  rotate_left 1
  · (intro w hSw; (try dsimp only at hSw); go_simp; all_goals (with_reducible rfl))
  try simp only [Act.put, List.setIfInBounds_toArray, List.set_cons_zero, List.set_cons_succ]
  refine wpAnyH_take (i := 31) (oi := { dst := some 62, op := Op.call { callee := Callee.builtin Builtin.len, args := #[Operand.tmp 61], argTypes := #[30] }, type := 3, pos := "law.go:53", after := #[{ on := 30, ground := Ground.data }, { on := 24, ground := Ground.guard }], guard := some (24, false) }) (v := ?_) rfl (by kernel_rfl) (by kernel_rfl) (by kernel_rfl) (fun _ _ _ h => h) (Or.inl ⟨by rfl, ?_⟩) (by assumption) ?_
  rotate_left 1
  · (intro w hSw; (try dsimp only at hSw); go_simp; all_goals (with_reducible rfl))
  try simp only [Act.put, List.setIfInBounds_toArray, List.set_cons_zero, List.set_cons_succ]
  refine wpAnyH_ready (rs := [26]) (by kernel_rfl) (by simp) ?_
  refine AllReadyH.cons (o := { dst := some 57, op := Op.call { callee := Callee.value (Operand.func 28), args := #[Operand.tmp 56], argTypes := #[24] }, type := 3, pos := "law.go:53", after := #[{ on := 25, ground := Ground.data }, { on := 24, ground := Ground.chain }, { on := 24, ground := Ground.guard }], guard := some (24, false) }) rfl (fun K hK => ?_) AllReadyH.nil
  go_simp
  go_at_call 28
  refine (HRaw.out _ (by first | exact HBn.out.drew | exact HBn.out)).mono ?_
  rintro e w5 ⟨rfl, hb5⟩
  have HBn : Hid (Below w2.heap.size w2 w5) := Lib.hid (by first | exact HBn.out.drew.trans (hb5.mono HBn.out.drew.size) | exact HBn.out.trans (hb5.mono HBn.out.size))
  clear hb5
  try go_wp2_with fail
  refine hK.out _ _ ?_ (fun hHeld => ?_)
  · ((try dsimp only); (first | exact HS3.out _ HBn.out | exact HS3.out _ HBn.out.drew))
  clear hK K
  try simp only [Act.put, List.setIfInBounds_toArray, List.set_cons_zero, List.set_cons_succ]
  refine wpAnyH_take (i := 32) (oi := { dst := some 63, op := Op.binOp BinOp.neq 3 (Operand.tmp 57) (Operand.tmp 62) 3, type := 4, pos := "law.go:53", after := #[{ on := 26, ground := Ground.data }, { on := 31, ground := Ground.data }, { on := 24, ground := Ground.guard }], guard := some (24, false) }) (v := ?_) rfl (by kernel_rfl) (by kernel_rfl) (by kernel_rfl) (fun _ _ _ h => h) (Or.inl ⟨by rfl, ?_⟩) (by assumption) ?_
  rotate_left 1
  · (intro w hSw; (try dsimp only at hSw); go_simp; all_goals (with_reducible rfl))
  try simp only [Act.put, List.setIfInBounds_toArray, List.set_cons_zero, List.set_cons_succ]
  refine wpAnyH_take (i := 33) (oi := { dst := some 64, op := Op.pick (Operand.tmp 55) (Operand.const (Value.bool true)) (Operand.tmp 63), type := 4, pos := "law.go:53", after := #[{ on := 24, ground := Ground.data }, { on := 32, ground := Ground.data }], guard := none }) (v := ?_) rfl (by kernel_rfl) (by kernel_rfl) (by kernel_rfl) (fun _ _ _ h => h) (Or.inl ⟨by rfl, ?_⟩) (by assumption) ?_
  rotate_left 1
  · (intro w hSw; (try dsimp only at hSw); go_simp; all_goals (with_reducible rfl))
  try simp only [Act.put, List.setIfInBounds_toArray, List.set_cons_zero, List.set_cons_succ]
  refine wpAnyH_take (i := 34) (oi := { dst := some 65, op := Op.move (Operand.tmp 64), type := 4, pos := "law.go:53", after := #[{ on := 33, ground := Ground.data }, { on := 26, ground := Ground.chain }], guard := none }) (v := ?_) rfl (by kernel_rfl) (by kernel_rfl) (by kernel_rfl) (fun _ _ _ h => h) (Or.inl ⟨by rfl, ?_⟩) (by assumption) ?_
  rotate_left 1
  · (intro w hSw; (try dsimp only at hSw); go_simp; all_goals (with_reducible rfl))
  try simp only [Act.put, List.setIfInBounds_toArray, List.set_cons_zero, List.set_cons_succ]
  refine wpAnyH_take (i := 35) (oi := { dst := some 66, op := Op.move (Operand.tmp 0), type := 24, pos := "law.go:53", after := #[{ on := 34, ground := Ground.guard }], guard := some (34, false) }) (v := ?_) rfl (by kernel_rfl) (by kernel_rfl) (by kernel_rfl) (fun _ _ _ h => h) (Or.inl ⟨by rfl, ?_⟩) (by assumption) ?_
  rotate_left 1
  · (intro w hSw; (try dsimp only at hSw); go_simp; all_goals (with_reducible rfl))
  try simp only [Act.put, List.setIfInBounds_toArray, List.set_cons_zero, List.set_cons_succ]
  refine wpAnyH_take (i := 36) (oi := { dst := some 67, op := Op.move (Operand.tmp 2), type := 9, pos := "law.go:53", after := #[{ on := 34, ground := Ground.guard }], guard := some (34, false) }) (v := ?_) rfl (by kernel_rfl) (by kernel_rfl) (by kernel_rfl) (fun _ _ _ h => h) (Or.inl ⟨by rfl, ?_⟩) (by assumption) ?_
  rotate_left 1
  · (intro w hSw; (try dsimp only at hSw); go_simp; all_goals (with_reducible rfl))
  try simp only [Act.put, List.setIfInBounds_toArray, List.set_cons_zero, List.set_cons_succ]
  refine wpAnyH_take (i := 39) (oi := { dst := some 70, op := Op.move (Operand.tmp 1), type := 26, pos := "law.go:53", after := #[{ on := 34, ground := Ground.guard }], guard := some (34, false) }) (v := ?_) rfl (by kernel_rfl) (by kernel_rfl) (by kernel_rfl) (fun _ _ _ h => h) (Or.inl ⟨by rfl, ?_⟩) (by assumption) ?_
  rotate_left 1
  · (intro w hSw; (try dsimp only at hSw); go_simp; all_goals (with_reducible rfl))
  try simp only [Act.put, List.setIfInBounds_toArray, List.set_cons_zero, List.set_cons_succ]
  refine wpAnyH_take (i := 40) (oi := { dst := some 71, op := Op.move (Operand.tmp 2), type := 9, pos := "law.go:53", after := #[{ on := 34, ground := Ground.guard }], guard := some (34, false) }) (v := ?_) rfl (by kernel_rfl) (by kernel_rfl) (by kernel_rfl) (fun _ _ _ h => h) (Or.inl ⟨by rfl, ?_⟩) (by assumption) ?_
  rotate_left 1
  · (intro w hSw; (try dsimp only at hSw); go_simp; all_goals (with_reducible rfl))
  try simp only [Act.put, List.setIfInBounds_toArray, List.set_cons_zero, List.set_cons_succ]
  refine wpAnyH_take (i := 41) (oi := { dst := some 72, op := Op.move (Operand.tmp 1), type := 26, pos := "law.go:53", after := #[{ on := 34, ground := Ground.guard }], guard := some (34, false) }) (v := ?_) rfl (by kernel_rfl) (by kernel_rfl) (by kernel_rfl) (fun _ _ _ h => h) (Or.inl ⟨by rfl, ?_⟩) (by assumption) ?_
  rotate_left 1
  · (intro w hSw; (try dsimp only at hSw); go_simp; all_goals (with_reducible rfl))
  try simp only [Act.put, List.setIfInBounds_toArray, List.set_cons_zero, List.set_cons_succ]
  refine wpAnyH_take (i := 42) (oi := { dst := some 73, op := Op.nilCheck (Operand.tmp 72), type := 0, pos := "law.go:53", after := #[{ on := 41, ground := Ground.data }, { on := 34, ground := Ground.guard }], guard := some (34, false) }) (v := ?_) rfl (by kernel_rfl) (by kernel_rfl) (by kernel_rfl) (fun _ _ _ h => h) (Or.inl ⟨by rfl, ?_⟩) (by assumption) ?_
  rotate_left 1
  · (intro w hSw; (try dsimp only at hSw); go_simp; all_goals (with_reducible rfl))
  try simp only [Act.put, List.setIfInBounds_toArray, List.set_cons_zero, List.set_cons_succ]
  refine wpAnyH_take (i := 43) (oi := { dst := some 74, op := Op.fieldAddr 32 (Operand.tmp 73) 5, type := 0, pos := "law.go:53", after := #[{ on := 42, ground := Ground.data }, { on := 34, ground := Ground.guard }], guard := some (34, false) }) (v := ?_) rfl (by kernel_rfl) (by kernel_rfl) (by kernel_rfl) (fun _ _ _ h => h) (Or.inl ⟨by rfl, ?_⟩) (by assumption) ?_
  rotate_left 1
  · (intro w hSw; (try dsimp only at hSw); go_simp; all_goals (with_reducible rfl))
  try simp only [Act.put, List.setIfInBounds_toArray, List.set_cons_zero, List.set_cons_succ]
  refine wpAnyH_take (i := 44) (oi := { dst := some 75, op := Op.load 30 (Operand.tmp 74), type := 30, pos := "law.go:53", after := #[{ on := 43, ground := Ground.data }, { on := 34, ground := Ground.guard }], guard := some (34, false) }) (v := ?_) rfl (by kernel_rfl) (by kernel_rfl) (by kernel_rfl) (fun _ _ _ h => h) (Or.inl ⟨by rfl, ?_⟩) (by assumption) ?_
  rotate_left 1
  · (intro w hSw; (try dsimp only at hSw); go_simp; all_goals (with_reducible rfl))
  try simp only [Act.put, List.setIfInBounds_toArray, List.set_cons_zero, List.set_cons_succ]
  refine wpAnyH_take (i := 45) (oi := { dst := some 76, op := Op.call { callee := Callee.builtin Builtin.len, args := #[Operand.tmp 75], argTypes := #[30] }, type := 3, pos := "law.go:53", after := #[{ on := 44, ground := Ground.data }, { on := 34, ground := Ground.guard }], guard := some (34, false) }) (v := ?_) rfl (by kernel_rfl) (by kernel_rfl) (by kernel_rfl) (fun _ _ _ h => h) (Or.inl ⟨by rfl, ?_⟩) (by assumption) ?_
  rotate_left 1
  · (intro w hSw; (try dsimp only at hSw); go_simp; all_goals (with_reducible rfl))
  try simp only [Act.put, List.setIfInBounds_toArray, List.set_cons_zero, List.set_cons_succ]
  refine wpAnyH_ready (rs := [37]) (by kernel_rfl) (by simp) ?_
  refine AllReadyH.cons (o := { dst := some 68, op := Op.call { callee := Callee.value (Operand.func 29), args := #[Operand.tmp 66, Operand.tmp 67], argTypes := #[24, 9] }, type := 33, pos := "law.go:53", after := #[{ on := 35, ground := Ground.data }, { on := 36, ground := Ground.data }, { on := 34, ground := Ground.chain }, { on := 34, ground := Ground.guard }], guard := some (34, false) }) rfl (fun K hK => ?_) AllReadyH.nil
  go_simp
  go_at_call 29
  refine (HLo.out _ (by first | exact HBn.out.drew | exact HBn.out)).mono ?_
  rintro e w6 ⟨q6, c6, rfl, hr6, hb6⟩
  have HR6 := Lib.hid hr6
  have cv6 := convStr hr6
  have HBn : Hid (Below w2.heap.size w2 w6) := Lib.hid (by first | exact HBn.out.drew.trans (hb6.mono HBn.out.drew.size) | exact HBn.out.trans (hb6.mono HBn.out.size))
  clear hr6 hb6
  try go_wp2_with fail
  refine hK.out _ _ ?_ (fun hHeld => ?_)
  · ((try dsimp only); (first | exact HS3.out _ HBn.out | exact HS3.out _ HBn.out.drew))
  clear hK K
  try simp only [Act.put, List.setIfInBounds_toArray, List.set_cons_zero, List.set_cons_succ]
  refine wpAnyH_ready (rs := [38, 46]) (by kernel_rfl) (by simp) ?_
  refine AllReadyH.cons (o := { dst := some 69, op := Op.convert 33 9 (Operand.tmp 68), type := 9, pos := "law.go:53", after := #[{ on := 37, ground := Ground.data }, { on := 34, ground := Ground.guard }], guard := some (34, false) }) rfl (fun K hK => ?_) (AllReadyH.cons (o := { dst := some 77, op := Op.call { callee := Callee.value (Operand.func 42), args := #[Operand.tmp 70, Operand.tmp 71, Operand.tmp 76], argTypes := #[26, 9, 3] }, type := 33, pos := "law.go:53", after := #[{ on := 39, ground := Ground.data }, { on := 40, ground := Ground.data }, { on := 45, ground := Ground.data }, { on := 37, ground := Ground.chain }, { on := 34, ground := Ground.guard }], guard := some (34, false) }) rfl (fun K hK => ?_) AllReadyH.nil)
  · skip
    go_simp
    refine hK.out _ _ ?_ (fun hHeld => ?_)
    · ((try dsimp only); (first | exact HS3.out _ HBn.out | exact HS3.out _ HBn.out.drew))
    clear hK K
    try simp only [Act.put, List.setIfInBounds_toArray, List.set_cons_zero, List.set_cons_succ]
    refine wpAnyH_ready (rs := [46]) (by kernel_rfl) (by simp) ?_
    refine AllReadyH.cons (o := { dst := some 77, op := Op.call { callee := Callee.value (Operand.func 42), args := #[Operand.tmp 70, Operand.tmp 71, Operand.tmp 76], argTypes := #[26, 9, 3] }, type := 33, pos := "law.go:53", after := #[{ on := 39, ground := Ground.data }, { on := 40, ground := Ground.data }, { on := 45, ground := Ground.data }, { on := 37, ground := Ground.chain }, { on := 34, ground := Ground.guard }], guard := some (34, false) }) rfl (fun K hK => ?_) AllReadyH.nil
    go_simp
    go_at_call 42
    refine (HLd.out _ (by first | exact HBn.out.drew | exact HBn.out)).mono ?_
    rintro e w7 ⟨q7, c7, rfl, hr7, hb7⟩
    have cv7 := convStr hr7
    have cv67 := convStr (RB.below HR6.out (by first | exact hb7 | exact (Below.refl _ _).drew.trans hb7))
    have HBn : Hid (Below w2.heap.size w2 w7) := Lib.hid (by first | exact HBn.out.drew.trans (hb7.mono HBn.out.drew.size) | exact HBn.out.trans (hb7.mono HBn.out.size))
    clear hr7 hb7
    try go_wp2_with fail
    refine hK.out _ _ ?_ (fun hHeld => ?_)
    · ((try dsimp only); (first | exact HS3.out _ HBn.out | exact HS3.out _ HBn.out.drew))
    clear hK K
    try simp only [Act.put, List.setIfInBounds_toArray, List.set_cons_zero, List.set_cons_succ]
    refine wpAnyH_ready (rs := [47]) (by kernel_rfl) (by simp) ?_
    refine AllReadyH.cons (o := { dst := some 78, op := Op.convert 33 9 (Operand.tmp 77), type := 9, pos := "law.go:53", after := #[{ on := 46, ground := Ground.data }, { on := 34, ground := Ground.guard }], guard := some (34, false) }) rfl (fun K hK => ?_) AllReadyH.nil
    go_simp
    refine hK.out _ _ ?_ (fun hHeld => ?_)
    · ((try dsimp only); (first | exact HS3.out _ HBn.out | exact HS3.out _ HBn.out.drew))
    clear hK K
    try simp only [Act.put, List.setIfInBounds_toArray, List.set_cons_zero, List.set_cons_succ]
    refine wpAnyH_take (i := 48) (oi := { dst := some 79, op := Op.binOp BinOp.neq 9 (Operand.tmp 69) (Operand.tmp 78) 9, type := 4, pos := "law.go:53", after := #[{ on := 38, ground := Ground.data }, { on := 47, ground := Ground.data }, { on := 34, ground := Ground.guard }], guard := some (34, false) }) (v := ?_) rfl (by kernel_rfl) (by kernel_rfl) (by kernel_rfl) (fun _ _ _ h => h) (Or.inl ⟨by rfl, ?_⟩) (by assumption) ?_
    rotate_left 1
    · (intro w hSw; (try dsimp only at hSw); go_simp; all_goals (with_reducible rfl))
    try simp only [Act.put, List.setIfInBounds_toArray, List.set_cons_zero, List.set_cons_succ]
    refine wpAnyH_take (i := 49) (oi := { dst := some 80, op := Op.pick (Operand.tmp 65) (Operand.const (Value.bool true)) (Operand.tmp 79), type := 4, pos := "law.go:53", after := #[{ on := 34, ground := Ground.data }, { on := 48, ground := Ground.data }], guard := none }) (v := ?_) rfl (by kernel_rfl) (by kernel_rfl) (by kernel_rfl) (fun _ _ _ h => h) (Or.inl ⟨by rfl, ?_⟩) (by assumption) ?_
    rotate_left 1
    · (intro w hSw; (try dsimp only at hSw); go_simp; all_goals (with_reducible rfl))
    try simp only [Act.put, List.setIfInBounds_toArray, List.set_cons_zero, List.set_cons_succ]
    refine wpAnyH_done (by kernel_rfl) ?_ _
    refine NoPanic.normal ?_
    clear HS3 n1 n2 n3 n4
    have n5 : ((s.sent.length : Int) != (s.sent.length : Int)) = false := by simp
    have n6 : ((s.strm.length : Int) != (s.strm.length : Int)) = false := by simp
    go_upto_region 9 with (first | (go_at_call 27; refine (HSe.out _ HBn.out).mono ?_; rintro e w8 ⟨gm, rfl, hsa, hb8⟩; have HSA := Lib.hid hsa; have HB8 := Lib.hid (HBn.out.trans (hb8.mono HBn.out.size)); clear hsa hb8) | (go_at_call 43; refine (HSt.out _ HB8.out).mono ?_; rintro e w9 ⟨gt, rfl, hst, hb9⟩; have HST := Lib.hid hst; have HB89 := Lib.hid hb9; have HB9 := Lib.hid (HB8.out.trans (hb9.mono HB8.out.size)); obtain ⟨_, k3, k4, _⟩ := HCell.out w9 (HB8.out.trans (hb9.mono HB8.out.size)); clear hst hb9))
    clear k3 k4
    go_wp2
    go_loopw [15] (fun iv wr => ∃ j : Nat, j ≤ s.sent.length ∧ iv = .int .i64 j ∧ Below w9.heap.size w9 wr) (fun iv _ => s.sent.length - (intOf iv).toNat)
    case atStart => exact ⟨0, Nat.zero_le _, rfl, Below.refl _ _⟩
    case round =>
      obtain ⟨j, hj, rfl, hbj⟩ := hrel
      have HBj := Lib.hid hbj
      by_cases hlt : j < s.sent.length
      · obtain ⟨x, hx⟩ : ∃ x, s.sent[j]? = some x := ⟨_, List.getElem?_eq_getElem hlt⟩
        obtain ⟨a1, m1, ca1, e1, e2, e3, e4, e5⟩ := sent_el HSA.out hx
        obtain ⟨g2, cap2, a2, m2, ca2, hv2, _, u1, u2, ⟨cs2, u3⟩, u4, _, u5⟩ := HRow.out.1.get dgrC_len hx
        cases hv2
        have hg2 := (Array.getElem?_eq_some_iff.1 u3).1
        have hb8j := HB89.out.trans (hbj.mono HB89.out.size)
        have hb2j := HB9.out.trans (hbj.mono HB9.out.size)
        have HSx : Hid (∀ W, Below wr.heap.size wr W → W.cell? ⟨r, 3, none⟩ = some (.slice (some ⟨g2, 0, none⟩) s.sent.length cS) ∧ W.cell? ⟨gm, j * 3, none⟩ = some (.string x.1) ∧ W.cell? ⟨gm, j * 3 + 1, none⟩ = some (.bool x.2.1) ∧ W.cell? ⟨gm, j * 3 + 2, none⟩ = some (.slice a1 m1 ca1) ∧ W.cell? ⟨g2, j * 3, none⟩ = some (.string x.1) ∧ W.cell? ⟨g2, j * 3 + 1, none⟩ = some (.bool x.2.1) ∧ W.cell? ⟨g2, j * 3 + 2, none⟩ = some (.slice a2 m2 ca2)) := Lib.hid (fun W hW => by
          have h8 := hb8j.trans (hW.mono hb8j.size)
          have h2 := hb2j.trans (hW.mono hb2j.size)
          exact ⟨(HCell.out W h2).2.1, cellBel h8 e1 e3, cellBel h8 e1 e4, cellBel h8 e1 e5, cellBel h2 hg2 (u5 0 _ rfl), cellBel h2 hg2 (u5 1 _ rfl), cellBel h2 hg2 (u5 2 _ rfl)⟩)
        have HSm : Hid (∀ W, Below wr.heap.size wr W → Calls Try.prog 44 #[.agg #[.string x.1, .bool x.2.1, .slice a1 m1 ca1], .agg #[.string x.1, .bool x.2.1, .slice a2 m2 ca2]] W fun e w' => e = .returned (.bool true) ∧ Below W.heap.size W w') := Lib.hid (fun W hW => same_d x.1 x.2.1 a1 a2 m1 ca1 m2 ca2 x.2.2 W (RB.below e2 (hb8j.trans (hW.mono hb8j.size))) (RB.below u4 (hb2j.trans (hW.mono hb2j.size))))
        have hj0 : (0 : Int) ≤ (j : Int) := by omega
        have hj1 : (j : Int) < (s.sent.length : Int) := by omega
        unfold maxLen at u2
        clear hbj hx e1 e2 e3 e4 e5 u3 u4 u5 hb8j hb2j
        have HBm := Lib.hid (Below.refl wr.heap.size wr)
        go_upto_region 12 with (fail)
        go_region_held3 (fun W => W.cell? ⟨r, 3, none⟩ = some (.slice (some ⟨g2, 0, none⟩) s.sent.length cS) ∧ W.cell? ⟨gm, j * 3, none⟩ = some (.string x.1) ∧ W.cell? ⟨gm, j * 3 + 1, none⟩ = some (.bool x.2.1) ∧ W.cell? ⟨gm, j * 3 + 2, none⟩ = some (.slice a1 m1 ca1) ∧ W.cell? ⟨g2, j * 3, none⟩ = some (.string x.1) ∧ W.cell? ⟨g2, j * 3 + 1, none⟩ = some (.bool x.2.1) ∧ W.cell? ⟨g2, j * 3 + 2, none⟩ = some (.slice a2 m2 ca2)) (first | exact HSx.out _ HBm.out | exact HSx.out _ HBm.out.drew) (((go_at_call 44; refine (HSm.out _ (by first | exact HBm.out.drew | exact HBm.out)).mono ?_; rintro e w10 ⟨rfl, hb10⟩; have HBm : Hid (Below wr.heap.size wr w10) := Lib.hid (by first | exact HBm.out.drew.trans (hb10.mono HBm.out.drew.size) | exact HBm.out.trans (hb10.mono HBm.out.size)); clear hb10)))
        go_wp2
        go_roundw
        case rel => exact ⟨j + 1, hlt, by go_num, HBj.out.trans (HBm.out.mono HBj.out.size)⟩
        case measure => simp [intOf]; omega
      · obtain rfl : j = s.sent.length := by omega
        clear hbj hlt
        obtain ⟨wA, hwA⟩ : ∃ wA, wr = wA := ⟨_, rfl⟩
        have HBA : Hid (Below w9.heap.size w9 wA) := by rw [← hwA]; exact HBj
        go_wp2
        go_loopw [16] (fun iv wr2 => ∃ j : Nat, j ≤ s.strm.length ∧ iv = .int .i64 j ∧ Below wA.heap.size wA wr2) (fun iv _ => s.strm.length - (intOf iv).toNat)
        case atStart => exact ⟨0, Nat.zero_le _, rfl, by rw [← hwA]; exact Below.refl _ _⟩
        case round =>
          obtain ⟨j, hj, rfl, hbj⟩ := hrel
          have hb9j := HBA.out.trans (hbj.mono HBA.out.size)
          have HB9j := Lib.hid hb9j
          have hb2j := HB9.out.trans (hb9j.mono HB9.out.size)
          have HB2j := Lib.hid hb2j
          have HBk := Lib.hid hbj
          by_cases hlt : j < s.strm.length
          · obtain ⟨x, hx⟩ : ∃ x, s.strm[j]? = some x := ⟨_, List.getElem?_eq_getElem hlt⟩
            obtain ⟨a1, m1, ca1, e1, e2, e3, e4, e5⟩ := strm_el HST.out hx
            obtain ⟨g2, cap2, a2, m2, ca2, hv2, _, u1, u2, ⟨cs2, u3⟩, u4, _, u5⟩ := HRow.out.2.get strC_len hx
            cases hv2
            have hg2 := (Array.getElem?_eq_some_iff.1 u3).1
            have k4 := (HCell.out _ hb2j).2.2.1
            have y0 := cellBel hb9j e1 e3
            have y1 := cellBel hb9j e1 e4
            have y2 := cellBel hb9j e1 e5
            have z0 := cellBel hb2j hg2 (u5 0 _ rfl)
            have z1 := cellBel hb2j hg2 (u5 1 _ rfl)
            have z2 := cellBel hb2j hg2 (u5 2 _ rfl)
            rw [Nat.add_zero] at z0
            have cvA := convStr (RB.below e2 hb9j)
            have cvB := convStr (RB.below u4 hb2j)
            have cvA2 : ∀ q, (convert 33 9 (.slice a1 m1 ca1)).run Try.prog (wr.drewN q) = .ok (.string ⟨x.2.1.toArray⟩) (wr.drewN q) := fun q => convStr (RB.below e2 (bel_drewN hb9j q))
            have cvB2 : ∀ q, (convert 33 9 (.slice a2 m2 ca2)).run Try.prog (wr.drewN q) = .ok (.string ⟨x.2.1.toArray⟩) (wr.drewN q) := fun q => convStr (RB.below u4 (bel_drewN hb2j q))
            have hxx : (x.2.2 != x.2.2) = false := by simp
            have hj0 : (0 : Int) ≤ (j : Int) := by omega
            have hj1 : (j : Int) < (s.strm.length : Int) := by omega
            unfold maxLen at u2
            clear hbj hx e1 e2 e3 e4 e5 u3 u4 u5 hb9j hb2j
            go_upto_region 17 with (fail)
            go_quiet (fail)
            go_wp2
            go_roundw
            case rel => exact ⟨j + 1, hlt, by go_num, bel_drewN HBk.out nq⟩
            case measure => simp [intOf]; omega
          · obtain rfl : j = s.strm.length := by omega
            clear hbj hlt hb9j hb2j
            go_wp2
            go_ret
            exact ⟨rfl, HFin.out _ HB2j.out⟩
  · skip
    go_simp
    go_at_call 42
    refine (HLd.out _ (by first | exact HBn.out.drew | exact HBn.out)).mono ?_
    rintro e w7 ⟨q7, c7, rfl, hr7, hb7⟩
    have cv7 := convStr hr7
    have cv67 := convStr (RB.below HR6.out (by first | exact hb7 | exact (Below.refl _ _).drew.trans hb7))
    have HBn : Hid (Below w2.heap.size w2 w7) := Lib.hid (by first | exact HBn.out.drew.trans (hb7.mono HBn.out.drew.size) | exact HBn.out.trans (hb7.mono HBn.out.size))
    clear hr7 hb7
    try go_wp2_with fail
    refine hK.out _ _ ?_ (fun hHeld => ?_)
    · ((try dsimp only); (first | exact HS3.out _ HBn.out | exact HS3.out _ HBn.out.drew))
    clear hK K
    try simp only [Act.put, List.setIfInBounds_toArray, List.set_cons_zero, List.set_cons_succ]
    refine wpAnyH_ready (rs := [38, 47]) (by kernel_rfl) (by simp) ?_
    refine AllReadyH.cons (o := { dst := some 69, op := Op.convert 33 9 (Operand.tmp 68), type := 9, pos := "law.go:53", after := #[{ on := 37, ground := Ground.data }, { on := 34, ground := Ground.guard }], guard := some (34, false) }) rfl (fun K hK => ?_) (AllReadyH.cons (o := { dst := some 78, op := Op.convert 33 9 (Operand.tmp 77), type := 9, pos := "law.go:53", after := #[{ on := 46, ground := Ground.data }, { on := 34, ground := Ground.guard }], guard := some (34, false) }) rfl (fun K hK => ?_) AllReadyH.nil)
    · skip
      go_simp
      refine hK.out _ _ ?_ (fun hHeld => ?_)
      · ((try dsimp only); (first | exact HS3.out _ HBn.out | exact HS3.out _ HBn.out.drew))
      clear hK K
      try simp only [Act.put, List.setIfInBounds_toArray, List.set_cons_zero, List.set_cons_succ]
      refine wpAnyH_ready (rs := [47]) (by kernel_rfl) (by simp) ?_
      refine AllReadyH.cons (o := { dst := some 78, op := Op.convert 33 9 (Operand.tmp 77), type := 9, pos := "law.go:53", after := #[{ on := 46, ground := Ground.data }, { on := 34, ground := Ground.guard }], guard := some (34, false) }) rfl (fun K hK => ?_) AllReadyH.nil
      go_simp
      refine hK.out _ _ ?_ (fun hHeld => ?_)
      · ((try dsimp only); (first | exact HS3.out _ HBn.out | exact HS3.out _ HBn.out.drew))
      clear hK K
      try simp only [Act.put, List.setIfInBounds_toArray, List.set_cons_zero, List.set_cons_succ]
      refine wpAnyH_take (i := 48) (oi := { dst := some 79, op := Op.binOp BinOp.neq 9 (Operand.tmp 69) (Operand.tmp 78) 9, type := 4, pos := "law.go:53", after := #[{ on := 38, ground := Ground.data }, { on := 47, ground := Ground.data }, { on := 34, ground := Ground.guard }], guard := some (34, false) }) (v := ?_) rfl (by kernel_rfl) (by kernel_rfl) (by kernel_rfl) (fun _ _ _ h => h) (Or.inl ⟨by rfl, ?_⟩) (by assumption) ?_
      rotate_left 1
      · (intro w hSw; (try dsimp only at hSw); go_simp; all_goals (with_reducible rfl))
      try simp only [Act.put, List.setIfInBounds_toArray, List.set_cons_zero, List.set_cons_succ]
      refine wpAnyH_take (i := 49) (oi := { dst := some 80, op := Op.pick (Operand.tmp 65) (Operand.const (Value.bool true)) (Operand.tmp 79), type := 4, pos := "law.go:53", after := #[{ on := 34, ground := Ground.data }, { on := 48, ground := Ground.data }], guard := none }) (v := ?_) rfl (by kernel_rfl) (by kernel_rfl) (by kernel_rfl) (fun _ _ _ h => h) (Or.inl ⟨by rfl, ?_⟩) (by assumption) ?_
      rotate_left 1
      · (intro w hSw; (try dsimp only at hSw); go_simp; all_goals (with_reducible rfl))
      try simp only [Act.put, List.setIfInBounds_toArray, List.set_cons_zero, List.set_cons_succ]
      refine wpAnyH_done (by kernel_rfl) ?_ _
      refine NoPanic.normal ?_
      clear HS3 n1 n2 n3 n4
      have n5 : ((s.sent.length : Int) != (s.sent.length : Int)) = false := by simp
      have n6 : ((s.strm.length : Int) != (s.strm.length : Int)) = false := by simp
      go_upto_region 9 with (first | (go_at_call 27; refine (HSe.out _ HBn.out).mono ?_; rintro e w8 ⟨gm, rfl, hsa, hb8⟩; have HSA := Lib.hid hsa; have HB8 := Lib.hid (HBn.out.trans (hb8.mono HBn.out.size)); clear hsa hb8) | (go_at_call 43; refine (HSt.out _ HB8.out).mono ?_; rintro e w9 ⟨gt, rfl, hst, hb9⟩; have HST := Lib.hid hst; have HB89 := Lib.hid hb9; have HB9 := Lib.hid (HB8.out.trans (hb9.mono HB8.out.size)); obtain ⟨_, k3, k4, _⟩ := HCell.out w9 (HB8.out.trans (hb9.mono HB8.out.size)); clear hst hb9))
      clear k3 k4
      go_wp2
      go_loopw [15] (fun iv wr => ∃ j : Nat, j ≤ s.sent.length ∧ iv = .int .i64 j ∧ Below w9.heap.size w9 wr) (fun iv _ => s.sent.length - (intOf iv).toNat)
      case atStart => exact ⟨0, Nat.zero_le _, rfl, Below.refl _ _⟩
      case round =>
        obtain ⟨j, hj, rfl, hbj⟩ := hrel
        have HBj := Lib.hid hbj
        by_cases hlt : j < s.sent.length
        · obtain ⟨x, hx⟩ : ∃ x, s.sent[j]? = some x := ⟨_, List.getElem?_eq_getElem hlt⟩
          obtain ⟨a1, m1, ca1, e1, e2, e3, e4, e5⟩ := sent_el HSA.out hx
          obtain ⟨g2, cap2, a2, m2, ca2, hv2, _, u1, u2, ⟨cs2, u3⟩, u4, _, u5⟩ := HRow.out.1.get dgrC_len hx
          cases hv2
          have hg2 := (Array.getElem?_eq_some_iff.1 u3).1
          have hb8j := HB89.out.trans (hbj.mono HB89.out.size)
          have hb2j := HB9.out.trans (hbj.mono HB9.out.size)
          have HSx : Hid (∀ W, Below wr.heap.size wr W → W.cell? ⟨r, 3, none⟩ = some (.slice (some ⟨g2, 0, none⟩) s.sent.length cS) ∧ W.cell? ⟨gm, j * 3, none⟩ = some (.string x.1) ∧ W.cell? ⟨gm, j * 3 + 1, none⟩ = some (.bool x.2.1) ∧ W.cell? ⟨gm, j * 3 + 2, none⟩ = some (.slice a1 m1 ca1) ∧ W.cell? ⟨g2, j * 3, none⟩ = some (.string x.1) ∧ W.cell? ⟨g2, j * 3 + 1, none⟩ = some (.bool x.2.1) ∧ W.cell? ⟨g2, j * 3 + 2, none⟩ = some (.slice a2 m2 ca2)) := Lib.hid (fun W hW => by
            have h8 := hb8j.trans (hW.mono hb8j.size)
            have h2 := hb2j.trans (hW.mono hb2j.size)
            exact ⟨(HCell.out W h2).2.1, cellBel h8 e1 e3, cellBel h8 e1 e4, cellBel h8 e1 e5, cellBel h2 hg2 (u5 0 _ rfl), cellBel h2 hg2 (u5 1 _ rfl), cellBel h2 hg2 (u5 2 _ rfl)⟩)
          have HSm : Hid (∀ W, Below wr.heap.size wr W → Calls Try.prog 44 #[.agg #[.string x.1, .bool x.2.1, .slice a1 m1 ca1], .agg #[.string x.1, .bool x.2.1, .slice a2 m2 ca2]] W fun e w' => e = .returned (.bool true) ∧ Below W.heap.size W w') := Lib.hid (fun W hW => same_d x.1 x.2.1 a1 a2 m1 ca1 m2 ca2 x.2.2 W (RB.below e2 (hb8j.trans (hW.mono hb8j.size))) (RB.below u4 (hb2j.trans (hW.mono hb2j.size))))
          have hj0 : (0 : Int) ≤ (j : Int) := by omega
          have hj1 : (j : Int) < (s.sent.length : Int) := by omega
          unfold maxLen at u2
          clear hbj hx e1 e2 e3 e4 e5 u3 u4 u5 hb8j hb2j
          have HBm := Lib.hid (Below.refl wr.heap.size wr)
          go_upto_region 12 with (fail)
          go_region_held3 (fun W => W.cell? ⟨r, 3, none⟩ = some (.slice (some ⟨g2, 0, none⟩) s.sent.length cS) ∧ W.cell? ⟨gm, j * 3, none⟩ = some (.string x.1) ∧ W.cell? ⟨gm, j * 3 + 1, none⟩ = some (.bool x.2.1) ∧ W.cell? ⟨gm, j * 3 + 2, none⟩ = some (.slice a1 m1 ca1) ∧ W.cell? ⟨g2, j * 3, none⟩ = some (.string x.1) ∧ W.cell? ⟨g2, j * 3 + 1, none⟩ = some (.bool x.2.1) ∧ W.cell? ⟨g2, j * 3 + 2, none⟩ = some (.slice a2 m2 ca2)) (first | exact HSx.out _ HBm.out | exact HSx.out _ HBm.out.drew) (((go_at_call 44; refine (HSm.out _ (by first | exact HBm.out.drew | exact HBm.out)).mono ?_; rintro e w10 ⟨rfl, hb10⟩; have HBm : Hid (Below wr.heap.size wr w10) := Lib.hid (by first | exact HBm.out.drew.trans (hb10.mono HBm.out.drew.size) | exact HBm.out.trans (hb10.mono HBm.out.size)); clear hb10)))
          go_wp2
          go_roundw
          case rel => exact ⟨j + 1, hlt, by go_num, HBj.out.trans (HBm.out.mono HBj.out.size)⟩
          case measure => simp [intOf]; omega
        · obtain rfl : j = s.sent.length := by omega
          clear hbj hlt
          obtain ⟨wA, hwA⟩ : ∃ wA, wr = wA := ⟨_, rfl⟩
          have HBA : Hid (Below w9.heap.size w9 wA) := by rw [← hwA]; exact HBj
          go_wp2
          go_loopw [16] (fun iv wr2 => ∃ j : Nat, j ≤ s.strm.length ∧ iv = .int .i64 j ∧ Below wA.heap.size wA wr2) (fun iv _ => s.strm.length - (intOf iv).toNat)
          case atStart => exact ⟨0, Nat.zero_le _, rfl, by rw [← hwA]; exact Below.refl _ _⟩
          case round =>
            obtain ⟨j, hj, rfl, hbj⟩ := hrel
            have hb9j := HBA.out.trans (hbj.mono HBA.out.size)
            have HB9j := Lib.hid hb9j
            have hb2j := HB9.out.trans (hb9j.mono HB9.out.size)
            have HB2j := Lib.hid hb2j
            have HBk := Lib.hid hbj
            by_cases hlt : j < s.strm.length
            · obtain ⟨x, hx⟩ : ∃ x, s.strm[j]? = some x := ⟨_, List.getElem?_eq_getElem hlt⟩
              obtain ⟨a1, m1, ca1, e1, e2, e3, e4, e5⟩ := strm_el HST.out hx
              obtain ⟨g2, cap2, a2, m2, ca2, hv2, _, u1, u2, ⟨cs2, u3⟩, u4, _, u5⟩ := HRow.out.2.get strC_len hx
              cases hv2
              have hg2 := (Array.getElem?_eq_some_iff.1 u3).1
              have k4 := (HCell.out _ hb2j).2.2.1
              have y0 := cellBel hb9j e1 e3
              have y1 := cellBel hb9j e1 e4
              have y2 := cellBel hb9j e1 e5
              have z0 := cellBel hb2j hg2 (u5 0 _ rfl)
              have z1 := cellBel hb2j hg2 (u5 1 _ rfl)
              have z2 := cellBel hb2j hg2 (u5 2 _ rfl)
              rw [Nat.add_zero] at z0
              have cvA := convStr (RB.below e2 hb9j)
              have cvB := convStr (RB.below u4 hb2j)
              have cvA2 : ∀ q, (convert 33 9 (.slice a1 m1 ca1)).run Try.prog (wr.drewN q) = .ok (.string ⟨x.2.1.toArray⟩) (wr.drewN q) := fun q => convStr (RB.below e2 (bel_drewN hb9j q))
              have cvB2 : ∀ q, (convert 33 9 (.slice a2 m2 ca2)).run Try.prog (wr.drewN q) = .ok (.string ⟨x.2.1.toArray⟩) (wr.drewN q) := fun q => convStr (RB.below u4 (bel_drewN hb2j q))
              have hxx : (x.2.2 != x.2.2) = false := by simp
              have hj0 : (0 : Int) ≤ (j : Int) := by omega
              have hj1 : (j : Int) < (s.strm.length : Int) := by omega
              unfold maxLen at u2
              clear hbj hx e1 e2 e3 e4 e5 u3 u4 u5 hb9j hb2j
              go_upto_region 17 with (fail)
              go_quiet (fail)
              go_wp2
              go_roundw
              case rel => exact ⟨j + 1, hlt, by go_num, bel_drewN HBk.out nq⟩
              case measure => simp [intOf]; omega
            · obtain rfl : j = s.strm.length := by omega
              clear hbj hlt hb9j hb2j
              go_wp2
              go_ret
              exact ⟨rfl, HFin.out _ HB2j.out⟩
    · skip
      go_simp
      refine hK.out _ _ ?_ (fun hHeld => ?_)
      · ((try dsimp only); (first | exact HS3.out _ HBn.out | exact HS3.out _ HBn.out.drew))
      clear hK K
      try simp only [Act.put, List.setIfInBounds_toArray, List.set_cons_zero, List.set_cons_succ]
      refine wpAnyH_ready (rs := [38]) (by kernel_rfl) (by simp) ?_
      refine AllReadyH.cons (o := { dst := some 69, op := Op.convert 33 9 (Operand.tmp 68), type := 9, pos := "law.go:53", after := #[{ on := 37, ground := Ground.data }, { on := 34, ground := Ground.guard }], guard := some (34, false) }) rfl (fun K hK => ?_) AllReadyH.nil
      go_simp
      refine hK.out _ _ ?_ (fun hHeld => ?_)
      · ((try dsimp only); (first | exact HS3.out _ HBn.out | exact HS3.out _ HBn.out.drew))
      clear hK K
      try simp only [Act.put, List.setIfInBounds_toArray, List.set_cons_zero, List.set_cons_succ]
      refine wpAnyH_take (i := 48) (oi := { dst := some 79, op := Op.binOp BinOp.neq 9 (Operand.tmp 69) (Operand.tmp 78) 9, type := 4, pos := "law.go:53", after := #[{ on := 38, ground := Ground.data }, { on := 47, ground := Ground.data }, { on := 34, ground := Ground.guard }], guard := some (34, false) }) (v := ?_) rfl (by kernel_rfl) (by kernel_rfl) (by kernel_rfl) (fun _ _ _ h => h) (Or.inl ⟨by rfl, ?_⟩) (by assumption) ?_
      rotate_left 1
      · (intro w hSw; (try dsimp only at hSw); go_simp; all_goals (with_reducible rfl))
      try simp only [Act.put, List.setIfInBounds_toArray, List.set_cons_zero, List.set_cons_succ]
      refine wpAnyH_take (i := 49) (oi := { dst := some 80, op := Op.pick (Operand.tmp 65) (Operand.const (Value.bool true)) (Operand.tmp 79), type := 4, pos := "law.go:53", after := #[{ on := 34, ground := Ground.data }, { on := 48, ground := Ground.data }], guard := none }) (v := ?_) rfl (by kernel_rfl) (by kernel_rfl) (by kernel_rfl) (fun _ _ _ h => h) (Or.inl ⟨by rfl, ?_⟩) (by assumption) ?_
      rotate_left 1
      · (intro w hSw; (try dsimp only at hSw); go_simp; all_goals (with_reducible rfl))
      try simp only [Act.put, List.setIfInBounds_toArray, List.set_cons_zero, List.set_cons_succ]
      refine wpAnyH_done (by kernel_rfl) ?_ _
      refine NoPanic.normal ?_
      clear HS3 n1 n2 n3 n4
      have n5 : ((s.sent.length : Int) != (s.sent.length : Int)) = false := by simp
      have n6 : ((s.strm.length : Int) != (s.strm.length : Int)) = false := by simp
      go_upto_region 9 with (first | (go_at_call 27; refine (HSe.out _ HBn.out).mono ?_; rintro e w8 ⟨gm, rfl, hsa, hb8⟩; have HSA := Lib.hid hsa; have HB8 := Lib.hid (HBn.out.trans (hb8.mono HBn.out.size)); clear hsa hb8) | (go_at_call 43; refine (HSt.out _ HB8.out).mono ?_; rintro e w9 ⟨gt, rfl, hst, hb9⟩; have HST := Lib.hid hst; have HB89 := Lib.hid hb9; have HB9 := Lib.hid (HB8.out.trans (hb9.mono HB8.out.size)); obtain ⟨_, k3, k4, _⟩ := HCell.out w9 (HB8.out.trans (hb9.mono HB8.out.size)); clear hst hb9))
      clear k3 k4
      go_wp2
      go_loopw [15] (fun iv wr => ∃ j : Nat, j ≤ s.sent.length ∧ iv = .int .i64 j ∧ Below w9.heap.size w9 wr) (fun iv _ => s.sent.length - (intOf iv).toNat)
      case atStart => exact ⟨0, Nat.zero_le _, rfl, Below.refl _ _⟩
      case round =>
        obtain ⟨j, hj, rfl, hbj⟩ := hrel
        have HBj := Lib.hid hbj
        by_cases hlt : j < s.sent.length
        · obtain ⟨x, hx⟩ : ∃ x, s.sent[j]? = some x := ⟨_, List.getElem?_eq_getElem hlt⟩
          obtain ⟨a1, m1, ca1, e1, e2, e3, e4, e5⟩ := sent_el HSA.out hx
          obtain ⟨g2, cap2, a2, m2, ca2, hv2, _, u1, u2, ⟨cs2, u3⟩, u4, _, u5⟩ := HRow.out.1.get dgrC_len hx
          cases hv2
          have hg2 := (Array.getElem?_eq_some_iff.1 u3).1
          have hb8j := HB89.out.trans (hbj.mono HB89.out.size)
          have hb2j := HB9.out.trans (hbj.mono HB9.out.size)
          have HSx : Hid (∀ W, Below wr.heap.size wr W → W.cell? ⟨r, 3, none⟩ = some (.slice (some ⟨g2, 0, none⟩) s.sent.length cS) ∧ W.cell? ⟨gm, j * 3, none⟩ = some (.string x.1) ∧ W.cell? ⟨gm, j * 3 + 1, none⟩ = some (.bool x.2.1) ∧ W.cell? ⟨gm, j * 3 + 2, none⟩ = some (.slice a1 m1 ca1) ∧ W.cell? ⟨g2, j * 3, none⟩ = some (.string x.1) ∧ W.cell? ⟨g2, j * 3 + 1, none⟩ = some (.bool x.2.1) ∧ W.cell? ⟨g2, j * 3 + 2, none⟩ = some (.slice a2 m2 ca2)) := Lib.hid (fun W hW => by
            have h8 := hb8j.trans (hW.mono hb8j.size)
            have h2 := hb2j.trans (hW.mono hb2j.size)
            exact ⟨(HCell.out W h2).2.1, cellBel h8 e1 e3, cellBel h8 e1 e4, cellBel h8 e1 e5, cellBel h2 hg2 (u5 0 _ rfl), cellBel h2 hg2 (u5 1 _ rfl), cellBel h2 hg2 (u5 2 _ rfl)⟩)
          have HSm : Hid (∀ W, Below wr.heap.size wr W → Calls Try.prog 44 #[.agg #[.string x.1, .bool x.2.1, .slice a1 m1 ca1], .agg #[.string x.1, .bool x.2.1, .slice a2 m2 ca2]] W fun e w' => e = .returned (.bool true) ∧ Below W.heap.size W w') := Lib.hid (fun W hW => same_d x.1 x.2.1 a1 a2 m1 ca1 m2 ca2 x.2.2 W (RB.below e2 (hb8j.trans (hW.mono hb8j.size))) (RB.below u4 (hb2j.trans (hW.mono hb2j.size))))
          have hj0 : (0 : Int) ≤ (j : Int) := by omega
          have hj1 : (j : Int) < (s.sent.length : Int) := by omega
          unfold maxLen at u2
          clear hbj hx e1 e2 e3 e4 e5 u3 u4 u5 hb8j hb2j
          have HBm := Lib.hid (Below.refl wr.heap.size wr)
          go_upto_region 12 with (fail)
          go_region_held3 (fun W => W.cell? ⟨r, 3, none⟩ = some (.slice (some ⟨g2, 0, none⟩) s.sent.length cS) ∧ W.cell? ⟨gm, j * 3, none⟩ = some (.string x.1) ∧ W.cell? ⟨gm, j * 3 + 1, none⟩ = some (.bool x.2.1) ∧ W.cell? ⟨gm, j * 3 + 2, none⟩ = some (.slice a1 m1 ca1) ∧ W.cell? ⟨g2, j * 3, none⟩ = some (.string x.1) ∧ W.cell? ⟨g2, j * 3 + 1, none⟩ = some (.bool x.2.1) ∧ W.cell? ⟨g2, j * 3 + 2, none⟩ = some (.slice a2 m2 ca2)) (first | exact HSx.out _ HBm.out | exact HSx.out _ HBm.out.drew) (((go_at_call 44; refine (HSm.out _ (by first | exact HBm.out.drew | exact HBm.out)).mono ?_; rintro e w10 ⟨rfl, hb10⟩; have HBm : Hid (Below wr.heap.size wr w10) := Lib.hid (by first | exact HBm.out.drew.trans (hb10.mono HBm.out.drew.size) | exact HBm.out.trans (hb10.mono HBm.out.size)); clear hb10)))
          go_wp2
          go_roundw
          case rel => exact ⟨j + 1, hlt, by go_num, HBj.out.trans (HBm.out.mono HBj.out.size)⟩
          case measure => simp [intOf]; omega
        · obtain rfl : j = s.sent.length := by omega
          clear hbj hlt
          obtain ⟨wA, hwA⟩ : ∃ wA, wr = wA := ⟨_, rfl⟩
          have HBA : Hid (Below w9.heap.size w9 wA) := by rw [← hwA]; exact HBj
          go_wp2
          go_loopw [16] (fun iv wr2 => ∃ j : Nat, j ≤ s.strm.length ∧ iv = .int .i64 j ∧ Below wA.heap.size wA wr2) (fun iv _ => s.strm.length - (intOf iv).toNat)
          case atStart => exact ⟨0, Nat.zero_le _, rfl, by rw [← hwA]; exact Below.refl _ _⟩
          case round =>
            obtain ⟨j, hj, rfl, hbj⟩ := hrel
            have hb9j := HBA.out.trans (hbj.mono HBA.out.size)
            have HB9j := Lib.hid hb9j
            have hb2j := HB9.out.trans (hb9j.mono HB9.out.size)
            have HB2j := Lib.hid hb2j
            have HBk := Lib.hid hbj
            by_cases hlt : j < s.strm.length
            · obtain ⟨x, hx⟩ : ∃ x, s.strm[j]? = some x := ⟨_, List.getElem?_eq_getElem hlt⟩
              obtain ⟨a1, m1, ca1, e1, e2, e3, e4, e5⟩ := strm_el HST.out hx
              obtain ⟨g2, cap2, a2, m2, ca2, hv2, _, u1, u2, ⟨cs2, u3⟩, u4, _, u5⟩ := HRow.out.2.get strC_len hx
              cases hv2
              have hg2 := (Array.getElem?_eq_some_iff.1 u3).1
              have k4 := (HCell.out _ hb2j).2.2.1
              have y0 := cellBel hb9j e1 e3
              have y1 := cellBel hb9j e1 e4
              have y2 := cellBel hb9j e1 e5
              have z0 := cellBel hb2j hg2 (u5 0 _ rfl)
              have z1 := cellBel hb2j hg2 (u5 1 _ rfl)
              have z2 := cellBel hb2j hg2 (u5 2 _ rfl)
              rw [Nat.add_zero] at z0
              have cvA := convStr (RB.below e2 hb9j)
              have cvB := convStr (RB.below u4 hb2j)
              have cvA2 : ∀ q, (convert 33 9 (.slice a1 m1 ca1)).run Try.prog (wr.drewN q) = .ok (.string ⟨x.2.1.toArray⟩) (wr.drewN q) := fun q => convStr (RB.below e2 (bel_drewN hb9j q))
              have cvB2 : ∀ q, (convert 33 9 (.slice a2 m2 ca2)).run Try.prog (wr.drewN q) = .ok (.string ⟨x.2.1.toArray⟩) (wr.drewN q) := fun q => convStr (RB.below u4 (bel_drewN hb2j q))
              have hxx : (x.2.2 != x.2.2) = false := by simp
              have hj0 : (0 : Int) ≤ (j : Int) := by omega
              have hj1 : (j : Int) < (s.strm.length : Int) := by omega
              unfold maxLen at u2
              clear hbj hx e1 e2 e3 e4 e5 u3 u4 u5 hb9j hb2j
              go_upto_region 17 with (fail)
              go_quiet (fail)
              go_wp2
              go_roundw
              case rel => exact ⟨j + 1, hlt, by go_num, bel_drewN HBk.out nq⟩
              case measure => simp [intOf]; omega
            · obtain rfl : j = s.strm.length := by omega
              clear hbj hlt hb9j hb2j
              go_wp2
              go_ret
              exact ⟨rfl, HFin.out _ HB2j.out⟩
end
end Go.Proofs.Ytaaiicfclaeapaa
