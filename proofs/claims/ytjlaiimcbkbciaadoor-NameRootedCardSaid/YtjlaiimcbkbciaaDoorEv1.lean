/- What the reckoner keeps of values and memory, and what that means of the model's values and worlds. -/
import Derived.Test.YtjlaiimcbkbciaaDoorEv0
import Derived.Below
import Derived.Calls
import Derived.Orders
import Derived.Laws.Sem
import Derived.Laws.World
noncomputable section
namespace Go.Ev
open Go
/-- A value as the reckoner has it: blocks by names. 'slice g off len sh': its capacity is that of the block's whole row less 'sh'; 'sliceC': its capacity is known. -/
inductive AV where
  | bool (b : Bool)
  | int (k : IntKind) (n : Int)
  | str (l : List Nat)
  | nilPtr
  | ptr (g off : Nat)
  | glob (b off : Nat)
  | nilSlice
  | slice (g off len sh : Nat)
  | sliceC (g off len cap : Nat)
  | eslice (g : Nat)
  | nilMap
  | map (g : Nat)
  | func (fn : Fn) (first captured : List AV)
  | nilFunc
  | iface (t : TypeId) (v : AV)
  | nilIface
  | agg (l : List AV)
  | tuple (l : List AV)
  deriving Inhabited

abbrev Ren := Nat → Option (Nat × Nat)
def bs (l : List Nat) : ByteArray := ⟨(l.map UInt8.ofNat).toArray⟩

mutual
def VR (ρ : Ren) : AV → Value → Prop
  | .bool b, v => v = .bool b
  | .int k n, v => v = .int k n
  | .str l, v => v = .string (bs l) ∧ ∀ x ∈ l, x < 256
  | .nilPtr, v => v = .pointer none
  | .ptr g off, v => ∃ b c, ρ g = some (b, c) ∧ v = .pointer (some ⟨b, off, none⟩)
  | .glob b off, v => v = .pointer (some ⟨b, off, none⟩)
  | .nilSlice, v => v = .slice none 0 0
  | .slice g off len sh, v => ∃ b c, ρ g = some (b, c) ∧ sh + len ≤ c ∧ v = .slice (some ⟨b, off, none⟩) len (c - sh)
  | .sliceC g off len cap, v => ∃ b c, ρ g = some (b, c) ∧ v = .slice (some ⟨b, off, none⟩) len cap
  | .eslice g, v => ∃ b c, ρ g = some (b, c) ∧ ∃ off cap, v = .slice (some ⟨b, off, none⟩) 0 cap
  | .nilMap, v => v = .map none
  | .map g, v => ∃ b c, ρ g = some (b, c) ∧ v = .map (some b)
  | .func fn fs cs, v => ∃ vs us, v = .func fn vs.toArray us.toArray ∧ VRL ρ fs vs ∧ VRL ρ cs us
  | .nilFunc, v => v = .nilFunc
  | .iface t a, v => ∃ u, v = .iface t u ∧ VR ρ a u
  | .nilIface, v => v = .nilIface
  | .agg l, v => ∃ vs, v = .agg vs.toArray ∧ VRL ρ l vs
  | .tuple l, v => ∃ vs, v = .tuple vs.toArray ∧ VRL ρ l vs
def VRL (ρ : Ren) : List AV → List Value → Prop
  | [], vs => vs = []
  | a :: l, vs => ∃ v ws, vs = v :: ws ∧ VR ρ a v ∧ VRL ρ l ws
end

def Ren.le (ρ ρ' : Ren) : Prop := ∀ n x, ρ n = some x → ρ' n = some x
theorem Ren.le_refl (ρ : Ren) : ρ.le ρ := fun _ _ h => h
theorem Ren.le_trans {a b c : Ren} (h : a.le b) (k : b.le c) : a.le c := fun n x e => k n x (h n x e)

mutual
theorem VR.mono {ρ ρ' : Ren} (h : ρ.le ρ') : ∀ (a : AV) (v : Value), VR ρ a v → VR ρ' a v
  | .bool _, _, e => e
  | .int _ _, _, e => e
  | .str _, _, e => e
  | .nilPtr, _, e => e
  | .ptr _ _, _, ⟨b, c, e, f⟩ => ⟨b, c, h _ _ e, f⟩
  | .glob _ _, _, e => e
  | .nilSlice, _, e => e
  | .slice _ _ _ _, _, ⟨b, c, e, f⟩ => ⟨b, c, h _ _ e, f⟩
  | .sliceC _ _ _ _, _, ⟨b, c, e, f⟩ => ⟨b, c, h _ _ e, f⟩
  | .eslice _, _, ⟨b, c, e, f⟩ => ⟨b, c, h _ _ e, f⟩
  | .nilMap, _, e => e
  | .map _, _, ⟨b, c, e, f⟩ => ⟨b, c, h _ _ e, f⟩
  | .func _ fs cs, _, ⟨vs, us, e, f, g⟩ => ⟨vs, us, e, VRL.mono h fs vs f, VRL.mono h cs us g⟩
  | .nilFunc, _, e => e
  | .iface _ a, _, ⟨u, e, f⟩ => ⟨u, e, VR.mono h a u f⟩
  | .nilIface, _, e => e
  | .agg l, _, ⟨vs, e, f⟩ => ⟨vs, e, VRL.mono h l vs f⟩
  | .tuple l, _, ⟨vs, e, f⟩ => ⟨vs, e, VRL.mono h l vs f⟩
theorem VRL.mono {ρ ρ' : Ren} (h : ρ.le ρ') : ∀ (l : List AV) (vs : List Value), VRL ρ l vs → VRL ρ' l vs
  | [], _, e => e
  | a :: l, _, ⟨v, ws, e, f, g⟩ => ⟨v, ws, e, VR.mono h a v f, VRL.mono h l ws g⟩
end

theorem VRL.length {ρ : Ren} : ∀ {l : List AV} {vs : List Value}, VRL ρ l vs → vs.length = l.length
  | [], _, e => by simp [VRL] at e; subst e; rfl
  | a :: l, _, h => by
    obtain ⟨v, ws, rfl, _, g⟩ := h
    simp [VRL.length g]
theorem VRL.get {ρ : Ren} : ∀ {l : List AV} {vs : List Value}, VRL ρ l vs → ∀ (i : Nat) (a : AV), l[i]? = some a → ∃ v, vs[i]? = some v ∧ VR ρ a v
  | [], _, _, i, a, h => by simp at h
  | b :: l, _, h, i, a, hi => by
    obtain ⟨v, ws, rfl, f, g⟩ := h
    cases i with
    | zero => simp at hi; subst hi; exact ⟨v, by simp, f⟩
    | succ i => simp at hi; simpa using VRL.get g i a hi
theorem VRL.mk {ρ : Ren} : ∀ {l : List AV} {vs : List Value}, vs.length = l.length → (∀ (i : Nat) (a : AV), l[i]? = some a → ∃ v, vs[i]? = some v ∧ VR ρ a v) → VRL ρ l vs
  | [], vs, h, _ => by simp at h; subst h; rfl
  | a :: l, vs, h, k => by
    cases vs with
    | nil => simp at h
    | cons v ws =>
      obtain ⟨u, hu, r⟩ := k 0 a (by simp)
      simp at hu; subst hu
      refine ⟨v, ws, rfl, r, VRL.mk (by simpa using h) fun i b hb => ?_⟩
      simpa using k (i + 1) b (by simpa using hb)
theorem VRL.append {ρ : Ren} {l m : List AV} {vs us : List Value} (h : VRL ρ l vs) (k : VRL ρ m us) : VRL ρ (l ++ m) (vs ++ us) := by
  refine VRL.mk (by simp [h.length, k.length]) fun i a ha => ?_
  rw [List.getElem?_append] at ha ⊢
  rw [h.length]
  by_cases c : i < l.length
  · rw [if_pos c] at ha ⊢; exact h.get i a ha
  · rw [if_neg c] at ha ⊢; exact k.get _ a ha
theorem VRL.nil {ρ : Ren} : VRL ρ [] [] := rfl
theorem VRL.cons {ρ : Ren} {a : AV} {l : List AV} {v : Value} {vs : List Value} (h : VR ρ a v) (k : VRL ρ l vs) : VRL ρ (a :: l) (v :: vs) := ⟨v, vs, rfl, h, k⟩

/-! ### Memory -/
inductive AObj where
  | cells (elem : TypeId) (n : Nat) (c : Option Nat) (t : Tr AV)
  | map (es : List (AV × AV × Nat)) (clock : Nat)
  | sit (l : List Nat) (pos : Nat)
  | mit (m : Option Nat) (since : Nat) (seen : List Nat) (stepped : Nat)
  | members (l : List Nat) (m : Nat)
  | dead
def AObj.live : AObj → Bool
  | .members _ _ | .dead => false
  | _ => true
def AObj.cls : AObj → Option Nat
  | .cells _ _ c _ => c
  | _ => none
def AObj.known : AObj → Nat
  | .cells _ k _ _ => k
  | _ => 0
structure AHeap where
  objs : Tr AObj
  next : Nat
  lo : Nat

def ER (ρ : Ren) (e : AV × AV × Nat) (m : MapEntry) : Prop := VR ρ e.1 m.key ∧ VR ρ e.2.1 m.val ∧ m.born = e.2.2
def ERL (ρ : Ren) : List (AV × AV × Nat) → List MapEntry → Prop
  | [], ms => ms = []
  | e :: l, ms => ∃ m ns, ms = m :: ns ∧ ER ρ e m ∧ ERL ρ l ns
theorem ERL.mono {ρ ρ' : Ren} (h : ρ.le ρ') : ∀ {l : List (AV × AV × Nat)} {ms : List MapEntry}, ERL ρ l ms → ERL ρ' l ms
  | [], _, e => e
  | _ :: _, _, ⟨m, ns, e, ⟨f, g, k⟩, r⟩ => ⟨m, ns, e, ⟨VR.mono h _ _ f, VR.mono h _ _ g, k⟩, ERL.mono h r⟩

/-- No cell of the row is read only, nor is one made so by a mark behind it. -/
def FrOK (n : Nat) (fr : Nat × Nat) : Prop := (∀ i, i < n → ¬ (fr.1 ≤ i ∧ i < fr.2)) ∧ fr.1 ≤ fr.2
theorem FrOK.zero (n : Nat) : FrOK n (0, 0) := ⟨by simp, Nat.le_refl _⟩
/-- What an entry says of the block that its name stands for. -/
def OR (P : Program) (ρ : Ren) (n : Nat) (o : AObj) (w : World) : Prop :=
  match o with
  | .cells elem k c t => ∃ b cp arr fr, ρ n = some (b, cp) ∧ w.heap[b]? = some (.cells arr elem fr) ∧ FrOK arr.size fr ∧
      k ≤ arr.size ∧ (c = none → arr.size = k) ∧ (c ≠ none → ∃ ti, P.info? elem = some ti ∧ arr.size = cp * ti.size) ∧
      ∀ i, i < k → ∃ a v, t.get i = some a ∧ arr[i]? = some v ∧ VR ρ a v
  | .map es clock => ∃ b cp ms, ρ n = some (b, cp) ∧ w.heap[b]? = some (.map ms clock) ∧ ERL ρ es ms.toList
  | .sit l pos => ∃ b cp, ρ n = some (b, cp) ∧ w.heap[b]? = some (.stringIter (bs l) pos) ∧ ∀ x ∈ l, x < 256
  | .mit m since seen stepped => ∃ b cp, ρ n = some (b, cp) ∧ (match m with
      | none => w.heap[b]? = some (.mapIter none since seen.toArray stepped)
      | some g => ∃ r c, ρ g = some (r, c) ∧ w.heap[b]? = some (.mapIter (some r) since seen.toArray stepped))
  | .members _ _ | .dead => True

/-- What the world was when all began: so many blocks, and what they hold. -/
structure Bas where
  size : Nat
  held : Nat → Option Obj
structure HRF (P : Program) (B : Bas) (ρ : Ren) (get : Nat → Option AObj) (next lo : Nat) (w : World) : Prop where
  obj : ∀ n o, get n = some o → OR P ρ n o w
  inj : ∀ n m o q b cp cq, get n = some o → get m = some q → o.live = true → q.live = true → ρ n = some (b, cp) → ρ m = some (b, cq) →
    n = m ∨ ∃ c, o.cls = some c ∧ q.cls = some c
  mem : ∀ n o c l m, get n = some o → o.cls = some c → get c = some (.members l m) → n ∈ l ∧ o.known ≤ m
  clo : ∀ n o c, get n = some o → o.cls = some c → c < next
  low : ∀ n b cp, ρ n = some (b, cp) → B.size ≤ b
  old : ∀ n o, get n = some o → n < next
  lim : next < 2 ^ 63
  base : B.size ≤ w.heap.size
  lole : lo ≤ next
  snap : ∀ b, b < B.size → w.heap[b]? = B.held b
/-- All that is told of memory holds in the world. -/
abbrev HR (P : Program) (B : Bas) (ρ : Ren) (H : AHeap) (w : World) : Prop := HRF P B ρ H.objs.get H.next H.lo w

/-- Block b is told of. -/
def Told (ρ : Ren) (H : AHeap) (b : Nat) : Prop := ∃ n o cp, H.objs.get n = some o ∧ o.live = true ∧ ρ n = some (b, cp)

structure Post (ρ : Ren) (H : AHeap) (w : World) (ρ' : Ren) (H' : AHeap) (w' : World) : Prop where
  le : ρ.le ρ'
  new : ∀ n, ρ n = none → ρ' n ≠ none → H.next ≤ n ∧ n < H'.next
  next : H.next ≤ H'.next
  lo : H'.lo = H.lo
  keep : ∀ n, n < H.lo → H'.objs.get n = H.objs.get n
  os : w'.os = w.os
  tape : w'.tape = w.tape
  output : w'.output = w.output
  size : w.heap.size ≤ w'.heap.size
  frame : ∀ k, k < w.heap.size → ¬ Told ρ H k → w'.heap[k]? = w.heap[k]?
  told : ∀ b, Told ρ' H' b → w.heap.size ≤ b ∨ Told ρ H b
theorem Post.refl (ρ : Ren) (H : AHeap) (w : World) : Post ρ H w ρ H w :=
  ⟨Ren.le_refl _, fun _ h k => absurd h k, Nat.le_refl _, rfl, fun _ _ => rfl, rfl, rfl, rfl, Nat.le_refl _, fun _ _ _ => rfl, fun _ h => .inr h⟩
theorem Post.trans {ρ ρ1 ρ2 : Ren} {H H1 H2 : AHeap} {w w1 w2 : World} (a : Post ρ H w ρ1 H1 w1) (b : Post ρ1 H1 w1 ρ2 H2 w2) : Post ρ H w ρ2 H2 w2 := by
  refine ⟨Ren.le_trans a.le b.le, fun n h k => ?_, Nat.le_trans a.next b.next, b.lo.trans a.lo, fun n hn => (b.keep n (by rw [a.lo]; exact hn)).trans (a.keep n hn), b.os.trans a.os, b.tape.trans a.tape, b.output.trans a.output,
    Nat.le_trans a.size b.size, fun k hk ht => ?_, fun k hk => ?_⟩
  · cases h1 : ρ1 n with
    | none => have := b.new n h1 k; have := a.next; omega
    | some x => have := a.new n h (by simp [h1]); have := b.next; omega
  · rw [b.frame k (Nat.lt_of_lt_of_le hk a.size) ?_, a.frame k hk ht]
    intro h
    rcases a.told k h with h | h
    · omega
    · exact ht h
  · rcases b.told k hk with h | h
    · exact .inl (Nat.le_trans a.size h)
    · exact a.told k h
/-- No name in the range has been given. -/
def Free (ρ : Ren) (lo hi : Nat) : Prop := ∀ n, lo ≤ n → n < hi → ρ n = none
theorem Post.free {ρ ρ1 : Ren} {H H1 : AHeap} {w w1 : World} (a : Post ρ H w ρ1 H1 w1) {hi : Nat} (h : Free ρ H.next hi) : Free ρ1 H1.next hi := by
  intro n h1 h2
  cases h3 : ρ1 n with
  | none => rfl
  | some x =>
    have h0 := h n (Nat.le_trans a.next h1) h2
    have := a.new n h0 (by simp [h3])
    omega
theorem Free.mono {ρ : Ren} {lo hi hi' : Nat} (h : Free ρ lo hi) (k : hi' ≤ hi) : Free ρ lo hi' := fun n a b => h n a (Nat.lt_of_lt_of_le b k)
end Go.Ev
