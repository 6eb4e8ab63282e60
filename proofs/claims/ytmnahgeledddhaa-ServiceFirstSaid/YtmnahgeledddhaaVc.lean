/- Contracts of svctab.placeOf and namesAmong. -/
import Derived.Test.YtmnahgeledddhaaVb
import Derived.Test.YtmnahgeledddhaaTn
import Derived.Test.YtmnahgeledddhaaTf
import Derived.Test.YtmnahgeledddhaaAt
import Derived.Laws.ResultCell
import Derived.Laws.Rows
namespace Go.Tx
open Go.RowKit Go.Lib
def placeW : List (List UInt8) → Option (Int × List UInt8)
  | x :: y :: _ => if svcB x = true then placeP y else none
  | _ => none
theorem svcRow_place (x : List UInt8) (r : List (List UInt8)) : svcRow (x :: r) = (placeW (x :: r)).map fun q => (x :: (r.drop 1).filter svcB, q) := by
  cases r with
  | nil => rfl
  | cons y r =>
    show (if svcB x = true then (placeP y).map fun q => (x :: r.filter svcB, q) else none) = (if svcB x = true then placeP y else none).map fun q => (x :: r.filter svcB, q)
    by_cases h : svcB x = true
    · rw [if_pos h, if_pos h]
    · rw [if_neg h, if_neg h]; rfl
theorem placeW_two (x y : List UInt8) (r : List (List UInt8)) : placeW (x :: y :: r) = if svcB x = true then placeP y else none := rfl
def placeV (ws : List (List UInt8)) : Value := match placeW ws with
  | some q => .tuple #[.agg #[.int .i64 q.1, .string ⟨q.2.toArray⟩], .bool true]
  | none => .tuple #[.agg #[.int .i64 0, .string ⟨#[]⟩], .bool false]
theorem results_row2 {P : Program} {fn : Func} {p u : Tmp} {ty : TypeId} (h : fn.results = #[.cell p ty, .tmp u]) (tmps : Array Value) (w : World) (g : Nat) (t : TypeId) (cs : Array Value) (fr : Nat × Nat) (d : TypeDesc)
    (hp : tmps.getD p undef = .pointer (some ⟨g, 0, none⟩)) (hg : w.heap[g]? = some (.cells cs t fr))
    (hu : P.underlying ty = some d) (hd : (match d with | .struct _ | .array _ _ => true | _ => false) = true) (hi : (P.info? ty).map (·.size) = some cs.size) :
    (results fn tmps).run P w = .ok (.tuple #[.agg cs, tmps.getD u undef]) w := by
  rw [results_cell_tmp h, hp]
  simp [asAddr, run_loadVar_row w g t ty cs fr d hg hu hd hi, Result.andThen]
/-- Block b is a row of two cells, with no mark. -/
structure R2 (w : World) (b : Nat) (x y : Value) : Prop where
  blk : ∃ e, w.heap[b]? = some (.cells #[x, y] e (0, 0))
theorem R2.lt {w : World} {b : Nat} {x y : Value} (h : R2 w b x y) : b < w.heap.size := by
  obtain ⟨e, h⟩ := h.blk
  exact (Array.getElem?_eq_some_iff.1 h).1
theorem R2.c0 {w : World} {b : Nat} {x y : Value} (h : R2 w b x y) : w.cell? ⟨b, 0, none⟩ = some x := by obtain ⟨e, h⟩ := h.blk; simp [World.cell?, h]
theorem R2.c1 {w : World} {b : Nat} {x y : Value} (h : R2 w b x y) : w.cell? ⟨b, 1, none⟩ = some y := by obtain ⟨e, h⟩ := h.blk; simp [World.cell?, h]
theorem R2.free {w : World} {b : Nat} {x y : Value} (h : R2 w b x y) (j : Nat) : w.frozen? ⟨b, j, none⟩ = false := by obtain ⟨e, h⟩ := h.blk; simp [World.frozen?, h]
theorem R2.below {w w' : World} {b : Nat} {x y : Value} (h : R2 w b x y) (hb : Below w.heap.size w w') : R2 w' b x y := by
  have hl := h.lt
  obtain ⟨e, h⟩ := h.blk
  exact ⟨e, by rw [hb.block b hl]; exact h⟩
theorem R2.new (w : World) (x y : Value) (e : TypeId) : R2 (w.alloc (.cells #[x, y] e)) w.heap.size x y := ⟨e, heap_alloc_new w _⟩
theorem R2.set {w : World} {b : Nat} {x y : Value} (h : R2 w b x y) (u v : Value) : R2 ((w.setCell ⟨b, 0, none⟩ u).setCell ⟨b, 1, none⟩ v) b u v := by
  obtain ⟨e, h⟩ := h.blk
  refine ⟨e, ?_⟩
  have h1 : (w.setCell ⟨b, 0, none⟩ u).heap[b]? = some (.cells #[u, y] e (0, 0)) := by
    show (w.heap.modify b _)[b]? = _
    rw [Array.getElem?_modify]
    simp [h]
  show ((w.setCell ⟨b, 0, none⟩ u).heap.modify b _)[b]? = _
  rw [Array.getElem?_modify]
  simp [h1]
theorem below_set2 {B b j k : Nat} {a w : World} {u v : Value} (h : Below B a w) (hb : B ≤ b) : Below B a ((w.setCell ⟨b, j, none⟩ u).setCell ⟨b, k, none⟩ v) := (h.setCell hb u).setCell hb v
end Go.Tx
namespace Go.Proofs.Ytmnahgeledddhaa
open Go.RowKit Go.Lib Go.Tx
def Words (w : World) (A : Nat) (ws : List (List UInt8)) : Prop := ∀ (j : Nat) l, ws[j]? = some l → w.cell? ⟨A, j, none⟩ = some (.string ⟨l.toArray⟩)
theorem Words.below {w w' : World} {A : Nat} {ws : List (List UInt8)} (h : Words w A ws) (hA : A < w.heap.size) (hb : Below w.heap.size w w') : Words w' A ws := fun j l hj => by
  rw [hb.cell (p := ⟨A, j, none⟩) hA]; exact h j l hj
/-- What Cut at the sign / gives. -/
theorem cutS_any (y : List UInt8) (hy : y.length ≤ 512) : ∃ (a b : List UInt8) (f : Bool), a.length ≤ 512 ∧ b.length ≤ 512 ∧ placeP y = portP a b ∧ ∀ w, Calls Try.prog 33 #[.string ⟨y.toArray⟩, .string ⟨#[47]⟩] w fun e w' => e = .returned (.tuple #[.string ⟨a.toArray⟩, .string ⟨b.toArray⟩, .bool f]) ∧ Below w.heap.size w w' := by
  by_cases h : indexByte y 47 < 0
  · refine ⟨y, [], false, hy, by simp, ?_, fun w => (scutS_no ⟨y.toArray⟩ w (by show y.toArray.size ≤ _; simp; omega) h).mono ?_⟩
    · rw [placeP_no y h]; rfl
    · rintro e w' ⟨rfl, rfl⟩; exact ⟨rfl, Below.refl _ _⟩
  · have hi : indexByte y 47 = ((indexByte y 47).toNat : Int) := by omega
    refine ⟨y.take (indexByte y 47).toNat, y.drop ((indexByte y 47).toNat + 1), true, by rw [List.length_take]; omega, by rw [List.length_drop]; omega, placeP_yes y _ hi, fun w => (scutS_yes y _ w (by omega) hi).mono ?_⟩
    rintro e w' ⟨rfl, q, rfl⟩
    exact ⟨rfl, below_drewN' (Below.refl _ w) q⟩
set_option maxHeartbeats 2000000 in
set_option maxRecDepth 100000 in
theorem placeOf_any (A n : Nat) (ws : List (List UInt8)) (w : World) (h : Words w A ws) (hA : A < w.heap.size) (hn : ws.length = n) (hpos : 0 < n) (hmax : n ≤ 1000) (hz : ∀ x ∈ ws, x.length ≤ 512) :
    Calls Try.prog 19 #[.slice (some ⟨A, 0, none⟩) n n] w fun e w' => e = .returned (placeV ws) ∧ Below w.heap.size w w' := by
  have HM0 := Lib.hid (R2.new w (.int .i64 0) (.string ⟨#[]⟩) 53)
  have HB0 : Hid (Below w.heap.size w (w.alloc (.cells #[.int .i64 0, .string ⟨#[]⟩] 53))) := Lib.hid ((Below.refl _ w).alloc (Nat.le_refl _) _)
  have HWd := Lib.hid (fun W (hb : Below w.heap.size w W) => h.below hA hb)
  clear h
  by_cases h2 : n < 2
  · have h2' : (n : Int) < 2 := by omega
    have HV : Hid (placeV ws = .tuple #[.agg #[.int .i64 0, .string ⟨#[]⟩], .bool false]) := Lib.hid (by
      cases ws with
      | nil => rfl
      | cons x ws => cases ws with
        | nil => rfl
        | cons y ws => simp at hn; omega)
    clear hz
    go_enter Try.func19, Try.ntmps19
    go_upto_region 1 with (fail)
    generalize (w.alloc (.cells #[.int .i64 0, .string ⟨#[]⟩] 53)) = W1 at *
    have d0 := HM0.out.c0
    have d1 := HM0.out.c1
    have f0 := HM0.out.free 0
    have f1 := HM0.out.free 1
    go_wp2
    obtain ⟨eT, hg⟩ := (HM0.out.set (.int .i64 0) (.string ⟨#[]⟩)).blk
    refine bodyPost_ret (results_row2 rfl _ _ _ _ _ _ _ rfl hg Try.underlying53 rfl (by kernel_rfl)) rfl ?_
    exact ⟨by rw [HV.out]; rfl, below_set2 HB0.out (Nat.le_refl _)⟩
  · obtain ⟨x, y, r, rfl⟩ : ∃ x y r, ws = x :: y :: r := by
      cases ws with
      | nil => simp at hn; omega
      | cons x ws => cases ws with
        | nil => simp at hn; omega
        | cons y r => exact ⟨x, y, r, rfl⟩
    have h2' : ¬ (n : Int) < 2 := by omega
    have hxz := hz x (by simp)
    have hyz := hz y (by simp)
    obtain ⟨a, b, f, ha, hb, hp, hc⟩ := cutS_any y hyz
    have HCut := Lib.hid hc
    have HX := Lib.hid (fun w => svcName_any ⟨x.toArray⟩ w)
    have HN := Lib.hid (fun w => num_any ⟨a.toArray⟩ 65535 w (by show a.toArray.size ≤ maxLen; simp; unfold maxLen; omega))
    have HPr := Lib.hid (fun w => proto_any ⟨b.toArray⟩ w)
    have HFo := Lib.hid (fun w => fold_any ⟨b.toArray⟩ w (by show b.toArray.size ≤ maxLen; simp; unfold maxLen; omega))
    have e1 : (ByteArray.data ⟨x.toArray⟩).toList = x := rfl
    have e2 : (ByteArray.data ⟨a.toArray⟩).toList = a := rfl
    have e3 : (ByteArray.data ⟨b.toArray⟩).toList = b := rfl
    rw [e1] at HX
    rw [e2] at HN
    rw [e3] at HPr HFo
    have hbd := numRes_bd a 65535 (by decide)
    obtain ⟨xb, hxb⟩ : ∃ q : ByteArray, (⟨x.toArray⟩ : ByteArray) = q := ⟨_, rfl⟩
    obtain ⟨yb, hyb⟩ : ∃ q : ByteArray, (⟨y.toArray⟩ : ByteArray) = q := ⟨_, rfl⟩
    obtain ⟨ab, hab⟩ : ∃ q : ByteArray, (⟨a.toArray⟩ : ByteArray) = q := ⟨_, rfl⟩
    obtain ⟨bb, hbb⟩ : ∃ q : ByteArray, (⟨b.toArray⟩ : ByteArray) = q := ⟨_, rfl⟩
    rw [hxb] at HX
    rw [hab] at HN HCut
    rw [hbb] at HPr HFo HCut
    rw [hyb] at HCut
    have HWx : Hid (∀ W, Below w.heap.size w W → W.cell? ⟨A, 0, none⟩ = some (.string xb) ∧ W.cell? ⟨A, 1, none⟩ = some (.string yb)) := Lib.hid (fun W hW => ⟨by rw [← hxb]; exact HWd.out W hW 0 x rfl, by rw [← hyb]; exact HWd.out W hW 1 y rfl⟩)
    clear hz hc e1 e2 e3 hxb hyb hab hbb ha hb hxz hyz HWd
    by_cases hsx : svcB x = true
    · have HPW : Hid (placeW (x :: y :: r) = portP a b) := Lib.hid (by rw [placeW_two, if_pos hsx, hp])
      rw [hsx] at HX
      clear hp hsx
      have hPort : portP a b = if protoB b = true ∧ (numRes a 65535).2 = true ∧ 1 ≤ (numRes a 65535).1 then some ((numRes a 65535).1, b.map low) else none := rfl
      obtain ⟨⟨num, ok⟩, hnr⟩ : ∃ q, numRes a 65535 = q := ⟨_, rfl⟩
      rw [hnr] at hPort HN hbd
      simp only at hPort HN hbd
      obtain ⟨hb0, hb1⟩ := hbd
      rw [hPort] at HPW
      have none_of : ¬ (protoB b = true ∧ ok = true ∧ 1 ≤ num) → Hid (placeV (x :: y :: r) = .tuple #[.agg #[.int .i64 0, .string ⟨#[]⟩], .bool false]) := fun hno => Lib.hid (by unfold placeV; rw [HPW.out, if_neg hno])
      by_cases hok : ok = true
      · subst hok
        by_cases hnum : num < 1
        · have HV := none_of (fun e => by omega)
          clear none_of HPW hPort hnr
          go_enter Try.func19, Try.ntmps19
          go_upto_region 1 with (fail)
          generalize (w.alloc (.cells #[.int .i64 0, .string ⟨#[]⟩] 53)) = W1 at *
          obtain ⟨q0, q1⟩ := HWx.out W1 HB0.out
          go_wp2_with (first | (go_at_call 32; refine (HX.out _).mono ?_; rintro e w2 ⟨rfl, hb2⟩; have HM := Lib.hid (HM0.out.below hb2); have HB := Lib.hid (HB0.out.trans (hb2.mono HB0.out.size)); obtain ⟨_, q1⟩ := HWx.out _ HB.out) | (go_at_call 33; refine (HCut.out _).mono ?_; rintro e w3 ⟨rfl, hb3⟩; have HM := Lib.hid (HM.out.below hb3); have HB := Lib.hid (HB.out.trans (hb3.mono HB.out.size))) | (go_at_call 34; refine (HN.out _).mono ?_; rintro e w4 ⟨rfl, hb4⟩; have HM := Lib.hid (HM.out.below hb4); have HB := Lib.hid (HB.out.trans (hb4.mono HB.out.size)); have d0 := HM.out.c0; have d1 := HM.out.c1; have f0 := HM.out.free 0; have f1 := HM.out.free 1) | (go_at_call 35; refine (HPr.out _).mono ?_; rintro e w5 ⟨rfl, hb5⟩; have HM := Lib.hid (HM.out.below hb5); have HB := Lib.hid (HB.out.trans (hb5.mono HB.out.size)); have d0 := HM.out.c0; have d1 := HM.out.c1; have f0 := HM.out.free 0; have f1 := HM.out.free 1) | (go_at_call 28; refine (HFo.out _).mono ?_; rintro e w6 ⟨rfl, hb6⟩; have HM := Lib.hid (HM.out.below hb6); have HB := Lib.hid (HB.out.trans (hb6.mono HB.out.size)); have d0 := HM.out.c0; have d1 := HM.out.c1; have f0 := HM.out.free 0; have f1 := HM.out.free 1))
          obtain ⟨eT, hg⟩ := (HM.out.set (.int .i64 0) (.string ⟨#[]⟩)).blk
          refine bodyPost_ret (results_row2 rfl _ _ _ _ _ _ _ rfl hg Try.underlying53 rfl (by kernel_rfl)) rfl ?_
          exact ⟨by rw [HV.out]; rfl, below_set2 HB.out (Nat.le_refl _)⟩
        · have hnum' : 1 ≤ num := by omega
          by_cases hpr : protoB b = true
          · have HV : Hid (placeV (x :: y :: r) = .tuple #[.agg #[.int .i64 num, .string ⟨(b.map low).toArray⟩], .bool true]) := Lib.hid (by unfold placeV; rw [HPW.out, if_pos ⟨hpr, rfl, hnum'⟩])
            rw [hpr] at HPr
            clear none_of HPW hPort hnr hpr
            go_enter Try.func19, Try.ntmps19
            go_upto_region 1 with (fail)
            generalize (w.alloc (.cells #[.int .i64 0, .string ⟨#[]⟩] 53)) = W1 at *
            obtain ⟨q0, q1⟩ := HWx.out W1 HB0.out
            go_wp2_with (first | (go_at_call 32; refine (HX.out _).mono ?_; rintro e w2 ⟨rfl, hb2⟩; have HM := Lib.hid (HM0.out.below hb2); have HB := Lib.hid (HB0.out.trans (hb2.mono HB0.out.size)); obtain ⟨_, q1⟩ := HWx.out _ HB.out) | (go_at_call 33; refine (HCut.out _).mono ?_; rintro e w3 ⟨rfl, hb3⟩; have HM := Lib.hid (HM.out.below hb3); have HB := Lib.hid (HB.out.trans (hb3.mono HB.out.size))) | (go_at_call 34; refine (HN.out _).mono ?_; rintro e w4 ⟨rfl, hb4⟩; have HM := Lib.hid (HM.out.below hb4); have HB := Lib.hid (HB.out.trans (hb4.mono HB.out.size)); have d0 := HM.out.c0; have d1 := HM.out.c1; have f0 := HM.out.free 0; have f1 := HM.out.free 1) | (go_at_call 35; refine (HPr.out _).mono ?_; rintro e w5 ⟨rfl, hb5⟩; have HM := Lib.hid (HM.out.below hb5); have HB := Lib.hid (HB.out.trans (hb5.mono HB.out.size)); have d0 := HM.out.c0; have d1 := HM.out.c1; have f0 := HM.out.free 0; have f1 := HM.out.free 1) | (go_at_call 28; refine (HFo.out _).mono ?_; rintro e w6 ⟨rfl, hb6⟩; have HM := Lib.hid (HM.out.below hb6); have HB := Lib.hid (HB.out.trans (hb6.mono HB.out.size)); have d0 := HM.out.c0; have d1 := HM.out.c1; have f0 := HM.out.free 0; have f1 := HM.out.free 1))
            obtain ⟨eT, hg⟩ := (HM.out.set (.int .i64 num) (.string ⟨(b.map low).toArray⟩)).blk
            refine bodyPost_ret (results_row2 rfl _ _ _ _ _ _ _ rfl hg Try.underlying53 rfl (by kernel_rfl)) rfl ?_
            exact ⟨by rw [HV.out]; rfl, below_set2 HB.out (Nat.le_refl _)⟩
          · have HV := none_of (fun e => hpr e.1)
            have hpr' : protoB b = false := by simpa using hpr
            rw [hpr'] at HPr
            clear none_of HPW hPort hnr hpr hpr'
            go_enter Try.func19, Try.ntmps19
            go_upto_region 1 with (fail)
            generalize (w.alloc (.cells #[.int .i64 0, .string ⟨#[]⟩] 53)) = W1 at *
            obtain ⟨q0, q1⟩ := HWx.out W1 HB0.out
            go_wp2_with (first | (go_at_call 32; refine (HX.out _).mono ?_; rintro e w2 ⟨rfl, hb2⟩; have HM := Lib.hid (HM0.out.below hb2); have HB := Lib.hid (HB0.out.trans (hb2.mono HB0.out.size)); obtain ⟨_, q1⟩ := HWx.out _ HB.out) | (go_at_call 33; refine (HCut.out _).mono ?_; rintro e w3 ⟨rfl, hb3⟩; have HM := Lib.hid (HM.out.below hb3); have HB := Lib.hid (HB.out.trans (hb3.mono HB.out.size))) | (go_at_call 34; refine (HN.out _).mono ?_; rintro e w4 ⟨rfl, hb4⟩; have HM := Lib.hid (HM.out.below hb4); have HB := Lib.hid (HB.out.trans (hb4.mono HB.out.size)); have d0 := HM.out.c0; have d1 := HM.out.c1; have f0 := HM.out.free 0; have f1 := HM.out.free 1) | (go_at_call 35; refine (HPr.out _).mono ?_; rintro e w5 ⟨rfl, hb5⟩; have HM := Lib.hid (HM.out.below hb5); have HB := Lib.hid (HB.out.trans (hb5.mono HB.out.size)); have d0 := HM.out.c0; have d1 := HM.out.c1; have f0 := HM.out.free 0; have f1 := HM.out.free 1) | (go_at_call 28; refine (HFo.out _).mono ?_; rintro e w6 ⟨rfl, hb6⟩; have HM := Lib.hid (HM.out.below hb6); have HB := Lib.hid (HB.out.trans (hb6.mono HB.out.size)); have d0 := HM.out.c0; have d1 := HM.out.c1; have f0 := HM.out.free 0; have f1 := HM.out.free 1))
            obtain ⟨eT, hg⟩ := (HM.out.set (.int .i64 0) (.string ⟨#[]⟩)).blk
            refine bodyPost_ret (results_row2 rfl _ _ _ _ _ _ _ rfl hg Try.underlying53 rfl (by kernel_rfl)) rfl ?_
            exact ⟨by rw [HV.out]; rfl, below_set2 HB.out (Nat.le_refl _)⟩
      · have HV := none_of (fun e => hok e.2.1)
        have hok' : ok = false := by simpa using hok
        subst hok'
        clear none_of HPW hPort hnr hok
        go_enter Try.func19, Try.ntmps19
        go_upto_region 1 with (fail)
        generalize (w.alloc (.cells #[.int .i64 0, .string ⟨#[]⟩] 53)) = W1 at *
        obtain ⟨q0, q1⟩ := HWx.out W1 HB0.out
        go_wp2_with (first | (go_at_call 32; refine (HX.out _).mono ?_; rintro e w2 ⟨rfl, hb2⟩; have HM := Lib.hid (HM0.out.below hb2); have HB := Lib.hid (HB0.out.trans (hb2.mono HB0.out.size)); obtain ⟨_, q1⟩ := HWx.out _ HB.out) | (go_at_call 33; refine (HCut.out _).mono ?_; rintro e w3 ⟨rfl, hb3⟩; have HM := Lib.hid (HM.out.below hb3); have HB := Lib.hid (HB.out.trans (hb3.mono HB.out.size))) | (go_at_call 34; refine (HN.out _).mono ?_; rintro e w4 ⟨rfl, hb4⟩; have HM := Lib.hid (HM.out.below hb4); have HB := Lib.hid (HB.out.trans (hb4.mono HB.out.size)); have d0 := HM.out.c0; have d1 := HM.out.c1; have f0 := HM.out.free 0; have f1 := HM.out.free 1) | (go_at_call 35; refine (HPr.out _).mono ?_; rintro e w5 ⟨rfl, hb5⟩; have HM := Lib.hid (HM.out.below hb5); have HB := Lib.hid (HB.out.trans (hb5.mono HB.out.size)); have d0 := HM.out.c0; have d1 := HM.out.c1; have f0 := HM.out.free 0; have f1 := HM.out.free 1) | (go_at_call 28; refine (HFo.out _).mono ?_; rintro e w6 ⟨rfl, hb6⟩; have HM := Lib.hid (HM.out.below hb6); have HB := Lib.hid (HB.out.trans (hb6.mono HB.out.size)); have d0 := HM.out.c0; have d1 := HM.out.c1; have f0 := HM.out.free 0; have f1 := HM.out.free 1))
        obtain ⟨eT, hg⟩ := (HM.out.set (.int .i64 0) (.string ⟨#[]⟩)).blk
        refine bodyPost_ret (results_row2 rfl _ _ _ _ _ _ _ rfl hg Try.underlying53 rfl (by kernel_rfl)) rfl ?_
        exact ⟨by rw [HV.out]; rfl, below_set2 HB.out (Nat.le_refl _)⟩
    · have hsx' : svcB x = false := by simpa using hsx
      have HV : Hid (placeV (x :: y :: r) = .tuple #[.agg #[.int .i64 0, .string ⟨#[]⟩], .bool false]) := Lib.hid (by unfold placeV; rw [placeW_two, if_neg hsx])
      rw [hsx'] at HX
      clear hp hsx hsx'
      go_enter Try.func19, Try.ntmps19
      go_upto_region 1 with (fail)
      generalize (w.alloc (.cells #[.int .i64 0, .string ⟨#[]⟩] 53)) = W1 at *
      obtain ⟨q0, q1⟩ := HWx.out W1 HB0.out
      go_wp2_with (go_at_call 32; refine (HX.out _).mono ?_; rintro e w2 ⟨rfl, hb2⟩; have HM := Lib.hid (HM0.out.below hb2); have HB := Lib.hid (HB0.out.trans (hb2.mono HB0.out.size)); have d0 := HM.out.c0; have d1 := HM.out.c1; have f0 := HM.out.free 0; have f1 := HM.out.free 1)
      obtain ⟨eT, hg⟩ := (HM.out.set (.int .i64 0) (.string ⟨#[]⟩)).blk
      refine bodyPost_ret (results_row2 rfl _ _ _ _ _ _ _ rfl hg Try.underlying53 rfl (by kernel_rfl)) rfl ?_
      exact ⟨by rw [HV.out]; rfl, below_set2 HB.out (Nat.le_refl _)⟩
end Go.Proofs.Ytmnahgeledddhaa
