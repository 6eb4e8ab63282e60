/- Operations that look at no memory. -/
import Derived.Test.YtjlaiimcbkbciaaDoorEv2
import Derived.Laws.Strings
import Derived.Laws.Strings2
import Derived.Laws.Concat
import Derived.Laws.Entries
import Derived.Laws.Slices
import Derived.IntWalk
noncomputable section
namespace Go.Ev
open Go
def AV.one : AV → Bool
  | .agg _ | .tuple _ => false
  | _ => true
def AV.cells : AV → List AV
  | .agg l => l
  | v => [v]
def undefA : AV := .tuple []
theorem VR.undefA {ρ : Ren} : VR ρ undefA undef := ⟨[], rfl, rfl⟩
theorem VR.one {ρ : Ren} {a : AV} {v : Value} (h : VR ρ a v) (h1 : a.one = true) : v.oneCell' = true := by
  cases a <;> simp [VR] at h <;> (try (simp [AV.one] at h1)) <;> (try (subst h; rfl)) <;> (try (obtain ⟨rfl, _⟩ := h; rfl))
  · obtain ⟨b, _, rfl⟩ := h; rfl
  · obtain ⟨b, c, _, _, rfl⟩ := h; rfl
  · obtain ⟨b, _, rfl⟩ := h; rfl
  · obtain ⟨b, _, _, _, rfl⟩ := h; rfl
  · obtain ⟨b, _, rfl⟩ := h; rfl
  · obtain ⟨vs, us, rfl, _⟩ := h; rfl
  · obtain ⟨u, rfl, _⟩ := h; rfl
theorem VR.cells {ρ : Ren} {a : AV} {v : Value} (h : VR ρ a v) : VRL ρ a.cells v.cells.toList := by
  cases a <;> simp only [VR] at h
  case agg l => obtain ⟨vs, rfl, h⟩ := h; simpa [AV.cells, Value.cells] using h
  case tuple l => obtain ⟨vs, rfl, h'⟩ := h; exact VRL.cons ⟨vs, rfl, h'⟩ VRL.nil
  case bool => subst h; exact VRL.cons rfl VRL.nil
  case int => subst h; exact VRL.cons rfl VRL.nil
  case str => obtain ⟨rfl, h'⟩ := h; exact VRL.cons ⟨rfl, h'⟩ VRL.nil
  case nilPtr => subst h; exact VRL.cons rfl VRL.nil
  case ptr => obtain ⟨b, c, e, rfl⟩ := h; exact VRL.cons ⟨b, c, e, rfl⟩ VRL.nil
  case glob => subst h; exact VRL.cons rfl VRL.nil
  case nilSlice => subst h; exact VRL.cons rfl VRL.nil
  case slice => obtain ⟨b, c, e, f, rfl⟩ := h; exact VRL.cons ⟨b, c, e, f, rfl⟩ VRL.nil
  case sliceC => obtain ⟨b, c, e, rfl⟩ := h; exact VRL.cons ⟨b, c, e, rfl⟩ VRL.nil
  case eslice => obtain ⟨b, c, e, off, cap, rfl⟩ := h; exact VRL.cons ⟨b, c, e, off, cap, rfl⟩ VRL.nil
  case nilMap => subst h; exact VRL.cons rfl VRL.nil
  case map => obtain ⟨b, c, e, rfl⟩ := h; exact VRL.cons ⟨b, c, e, rfl⟩ VRL.nil
  case func => obtain ⟨vs, us, rfl, f, g⟩ := h; exact VRL.cons ⟨vs, us, rfl, f, g⟩ VRL.nil
  case nilFunc => subst h; exact VRL.cons rfl VRL.nil
  case iface => obtain ⟨u, rfl, f⟩ := h; exact VRL.cons ⟨u, rfl, f⟩ VRL.nil
  case nilIface => subst h; exact VRL.cons rfl VRL.nil

/-! ### Numbers -/
def wrapF (k : IntKind) (n : Int) : Int :=
  match k, n with
  | .i64, .ofNat m => match Nat.ble m 9223372036854775807 with
    | true => n
    | false => k.wrap n
  | _, _ => k.wrap n
theorem wrapF_eq (k : IntKind) (n : Int) : wrapF k n = k.wrap n := by
  unfold wrapF
  split
  · rename_i m
    split
    · rename_i h
      have h' := Nat.le_of_ble_eq_true h
      exact (IntWalk.i64_in (Int.ofNat m) ⟨by simp <;> omega, by simp <;> omega⟩).symm
    · rfl
  · rfl
def ltI : Int → Int → Bool
  | .ofNat a, .ofNat b => Nat.blt a b
  | .ofNat _, .negSucc _ => false
  | .negSucc _, .ofNat _ => true
  | .negSucc a, .negSucc b => Nat.blt b a
theorem ltI_eq (x y : Int) : ltI x y = decide (x < y) := by
  rw [Bool.eq_iff_iff, decide_eq_true_iff]
  cases x <;> cases y <;> simp [ltI, Nat.blt, Nat.ble_eq] <;> omega
def eqI : Int → Int → Bool
  | .ofNat a, .ofNat b => Nat.beq a b
  | .negSucc a, .negSucc b => Nat.beq a b
  | _, _ => false
theorem eqI_eq (x y : Int) : eqI x y = (x == y) := by
  rw [Bool.eq_iff_iff, beq_iff_eq]
  cases x <;> cases y <;> simp [eqI, Nat.beq_eq] <;> omega
def eqK (a b : IntKind) : Bool := match a, b with
  | .i64, .i64 | .u8, .u8 | .i32, .i32 | .u32, .u32 | .u64, .u64 | .u16, .u16 | .i8, .i8 | .i16, .i16 => true
  | _, _ => false
theorem eqK_eq {a b : IntKind} (h : eqK a b = true) : a = b := by cases a <;> cases b <;> first | rfl | (simp [eqK] at h)
/-! ### Texts -/
def eqL : List Nat → List Nat → Bool
  | [], [] => true
  | a :: x, b :: y => match Nat.beq a b with
    | true => eqL x y
    | false => false
  | _, _ => false
theorem eqL_iff : ∀ (x y : List Nat), eqL x y = true ↔ x = y
  | [], [] => by simp [eqL]
  | [], _ :: _ => by simp [eqL]
  | _ :: _, [] => by simp [eqL]
  | a :: x, b :: y => by
    unfold eqL
    split
    · rename_i h
      rw [eqL_iff x y, Nat.eq_of_beq_eq_true h]; simp
    · rename_i h
      simp
      intro e
      subst e
      rw [Nat.beq_refl] at h
      cases h
def ltL : List Nat → List Nat → Bool
  | _, [] => false
  | [], _ :: _ => true
  | a :: x, b :: y => match Nat.blt a b with
    | true => true
    | false => match Nat.beq a b with
      | true => ltL x y
      | false => false
theorem bs_toList (l : List Nat) : (bs l).toList = l.map UInt8.ofNat := by
  unfold bs; exact ByteArray.toList_mk _
theorem bs_size (l : List Nat) : (bs l).size = l.length := by simp [bs, ByteArray.size]
theorem bs_append (x y : List Nat) : bs x ++ bs y = bs (x ++ y) := by
  unfold bs
  rw [List.map_append]
  exact ByteArray.mk_append_mk _ _
theorem bs_extract (l : List Nat) (a b : Nat) : (bs l).extract a b = bs ((l.drop a).take (b - a)) := by
  unfold bs
  rw [ByteArray.extract_mk, List.map_take, List.map_drop]
theorem ofNat_inj {a b : Nat} (ha : a < 256) (hb : b < 256) (h : UInt8.ofNat a = UInt8.ofNat b) : a = b := by
  have := congrArg UInt8.toNat h
  simpa [Nat.mod_eq_of_lt ha, Nat.mod_eq_of_lt hb] using this
theorem map_ofNat_inj : ∀ {x y : List Nat}, (∀ a ∈ x, a < 256) → (∀ a ∈ y, a < 256) → x.map UInt8.ofNat = y.map UInt8.ofNat → x = y
  | [], [], _, _, _ => rfl
  | [], _ :: _, _, _, h => by simp at h
  | _ :: _, [], _, _, h => by simp at h
  | a :: x, b :: y, hx, hy, h => by
    simp only [List.map_cons, List.cons.injEq] at h
    rw [ofNat_inj (hx a (by simp)) (hy b (by simp)) h.1, map_ofNat_inj (fun c hc => hx c (by simp [hc])) (fun c hc => hy c (by simp [hc])) h.2]
theorem bs_beq {x y : List Nat} (hx : ∀ a ∈ x, a < 256) (hy : ∀ a ∈ y, a < 256) : ((bs x).toList == (bs y).toList) = eqL x y := by
  rw [Bool.eq_iff_iff, eqL_iff, beq_iff_eq, bs_toList, bs_toList]
  exact ⟨map_ofNat_inj hx hy, fun h => by rw [h]⟩
theorem bs_less : ∀ {x y : List Nat}, (∀ a ∈ x, a < 256) → (∀ a ∈ y, a < 256) → Op.bytesLess (x.map UInt8.ofNat) (y.map UInt8.ofNat) = ltL x y
  | [], [], _, _ => by simp [Op.bytesLess, ltL]
  | [], _ :: _, _, _ => by simp [Op.bytesLess, ltL]
  | _ :: _, [], _, _ => by simp [Op.bytesLess, ltL]
  | a :: x, b :: y, hx, hy => by
    have ih := bs_less (fun c hc => hx c (by simp [hc])) (fun c hc => hy c (by simp [hc])) (x := x) (y := y)
    simp only [List.map_cons, Op.bytesLess, ltL]
    have ha := hx a (by simp)
    have hb := hy b (by simp)
    have e1 : (UInt8.ofNat a < UInt8.ofNat b) ↔ a < b := by
      rw [UInt8.lt_iff_toNat_lt]; simp [Nat.mod_eq_of_lt ha, Nat.mod_eq_of_lt hb]
    have e2 : (UInt8.ofNat a == UInt8.ofNat b) = Nat.beq a b := by
      rw [Bool.eq_iff_iff, beq_iff_eq, Nat.beq_eq]
      exact ⟨fun h => ofNat_inj ha hb h, fun h => by rw [h]⟩
    rw [ih, e2]
    by_cases h : a < b
    · have : Nat.blt a b = true := by simp [Nat.blt]; omega
      rw [this]; simp [e1, h]
    · have : Nat.blt a b = false := by
        cases hh : Nat.blt a b
        · rfl
        · simp [Nat.blt] at hh; omega
      rw [this]
      cases hq : Nat.beq a b <;> simp [e1, h]
end Go.Ev
