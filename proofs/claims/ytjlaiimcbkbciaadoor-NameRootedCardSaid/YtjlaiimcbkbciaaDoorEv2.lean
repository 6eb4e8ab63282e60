/- Making, reading, writing: what each does to what is told of memory. -/
import Derived.Test.YtjlaiimcbkbciaaDoorEv1
noncomputable section
namespace Go.Ev
open Go
def Ren.upd (ρ : Ren) (n : Nat) (x : Nat × Nat) : Ren := fun m => if m = n then some x else ρ m
theorem Ren.upd_same (ρ : Ren) (n : Nat) (x : Nat × Nat) : ρ.upd n x n = some x := by simp [Ren.upd]
theorem Ren.upd_ne (ρ : Ren) {n m : Nat} (x : Nat × Nat) (h : m ≠ n) : ρ.upd n x m = ρ m := by simp [Ren.upd, h]
theorem Ren.le_upd {ρ : Ren} {n : Nat} (x : Nat × Nat) (h : ρ n = none) : ρ.le (ρ.upd n x) := by
  intro m y hm
  by_cases e : m = n
  · subst e; rw [h] at hm; cases hm
  · rw [Ren.upd_ne _ _ e]; exact hm

def AHeap.put (H : AHeap) (n : Nat) (o : AObj) : AHeap := { objs := H.objs.set n o, next := H.next, lo := H.lo }
def AHeap.alloc (H : AHeap) (o : AObj) : AHeap := { objs := H.objs.set H.next o, next := H.next + 1, lo := H.lo }
/-- Room for names. -/
def AHeap.room (H : AHeap) : Bool := Nat.ble H.next 1000000000000000000
theorem AHeap.room_lt {H : AHeap} (h : H.room = true) : H.next + 1 < 2 ^ 63 := by
  have := Nat.le_of_ble_eq_true h
  omega

theorem OR.keep {P : Program} {ρ ρ' : Ren} {n : Nat} {o : AObj} {w w' : World} (hl : ρ.le ρ')
    (hb : ∀ b cp, ρ n = some (b, cp) → w'.heap[b]? = w.heap[b]?) (h : OR P ρ n o w) : OR P ρ' n o w' := by
  cases o with
  | cells elem k c t =>
    obtain ⟨b, cp, arr, fr, h1, h2, h3, h4, h5, h6, h7⟩ := h
    refine ⟨b, cp, arr, fr, hl _ _ h1, (hb _ _ h1).trans h2, h3, h4, h5, h6, fun i hi => ?_⟩
    obtain ⟨a, v, e1, e2, e3⟩ := h7 i hi
    exact ⟨a, v, e1, e2, e3.mono hl⟩
  | map es clock =>
    obtain ⟨b, cp, ms, h1, h2, h3⟩ := h
    exact ⟨b, cp, ms, hl _ _ h1, (hb _ _ h1).trans h2, h3.mono hl⟩
  | sit l pos =>
    obtain ⟨b, cp, h1, h2, h3⟩ := h
    exact ⟨b, cp, hl _ _ h1, (hb _ _ h1).trans h2, h3⟩
  | mit m since seen stepped =>
    obtain ⟨b, cp, h1, h2⟩ := h
    refine ⟨b, cp, hl _ _ h1, ?_⟩
    cases m with
    | none => exact (hb _ _ h1).trans h2
    | some g =>
      obtain ⟨r, c, e1, e2⟩ := h2
      exact ⟨r, c, hl _ _ e1, (hb _ _ h1).trans e2⟩
  | members l m => trivial
  | dead => trivial

/-- A live entry's name stands for a block that is there. -/
theorem OR.block {P : Program} {ρ : Ren} {n : Nat} {o : AObj} {w : World} (h : OR P ρ n o w) (hl : o.live = true) : ∃ b cp, ρ n = some (b, cp) ∧ b < w.heap.size := by
  have lt : ∀ {b : Nat} {x : Obj}, w.heap[b]? = some x → b < w.heap.size := fun e => (Array.getElem?_eq_some_iff.1 e).1
  cases o with
  | cells elem k c t => obtain ⟨b, cp, arr, fr, h1, h2, _⟩ := h; exact ⟨b, cp, h1, lt h2⟩
  | map es clock => obtain ⟨b, cp, ms, h1, h2, _⟩ := h; exact ⟨b, cp, h1, lt h2⟩
  | sit l pos => obtain ⟨b, cp, h1, h2, _⟩ := h; exact ⟨b, cp, h1, lt h2⟩
  | mit m since seen stepped =>
    obtain ⟨b, cp, h1, h2⟩ := h
    cases m with
    | none => exact ⟨b, cp, h1, lt h2⟩
    | some g => obtain ⟨r, c, _, e2⟩ := h2; exact ⟨b, cp, h1, lt e2⟩
  | members l m => cases hl
  | dead => cases hl

section
variable {P : Program} {B : Bas} {ρ : Ren} {H : AHeap} {w : World}
/-- An entry that stands for no block. -/
theorem HR.ghost (h : HR P B ρ H w) (hn1 : H.next + 1 < 2 ^ 63) {o : AObj} (ho : o.live = false) :
    HR P B ρ (H.alloc o) w ∧ Post ρ H w ρ (H.alloc o) w := by
  have hn : H.next < 2 ^ 63 := by omega
  have hc : o.cls = none := by cases o <;> simp_all [AObj.live, AObj.cls]
  have hg : ∀ n, (H.alloc o).objs.get n = if n = H.next then some o else H.objs.get n := fun n => Tr.set_get _ _ _ _ hn
  have hd : ∀ n q, H.objs.get n = some q → n ≠ H.next := fun n q e => Nat.ne_of_lt (h.old n q e)
  refine ⟨⟨fun n q e => ?_, fun n m o1 q b cp cq e1 e2 l1 l2 r1 r2 => ?_, fun n q c l m e ec el => ?_, fun n q c e ec => ?_, h.low, fun n q e => ?_, hn1, h.base, Nat.le_succ_of_le h.lole, h.snap⟩,
    ⟨Ren.le_refl _, fun n a b => absurd a b, by simp [AHeap.alloc], rfl, fun n hn => by rw [hg, if_neg (by have := h.lole; omega)], rfl, rfl, rfl, Nat.le_refl _, fun _ _ _ => rfl, fun b hb => ?_⟩⟩
  · rw [hg] at e
    split at e
    · obtain rfl := Option.some.inj e; cases o <;> first | trivial | simp [AObj.live] at ho
    · exact h.obj n q e
  · rw [hg] at e1 e2
    split at e1
    · obtain rfl := Option.some.inj e1; rw [ho] at l1; cases l1
    · split at e2
      · obtain rfl := Option.some.inj e2; rw [ho] at l2; cases l2
      · exact h.inj n m o1 q b cp cq e1 e2 l1 l2 r1 r2
  · rw [hg] at e el
    split at e
    · obtain rfl := Option.some.inj e; rw [hc] at ec; cases ec
    · rw [if_neg (Nat.ne_of_lt (h.clo n q c e ec))] at el
      exact h.mem n q c l m e ec el
  · rw [hg] at e
    show c < H.next + 1
    split at e
    · obtain rfl := Option.some.inj e; rw [hc] at ec; cases ec
    · exact Nat.lt_succ_of_lt (h.clo n q c e ec)
  · rw [hg] at e
    show n < H.next + 1
    split at e
    · omega
    · have := h.old n q e; omega
  · obtain ⟨n, q, cp, e, el, er⟩ := hb
    rw [hg] at e
    split at e
    · obtain rfl := Option.some.inj e; rw [ho] at el; cases el
    · exact .inr ⟨n, q, cp, e, el, er⟩

/-- A new block. -/
theorem HR.make (h : HR P B ρ H w) (hn1 : H.next + 1 < 2 ^ 63) (hf : ρ H.next = none) {o : AObj} {O : Obj} (cp : Nat)
    (ho : OR P (ρ.upd H.next (w.heap.size, cp)) H.next o (w.alloc O))
    (hc : ∀ c, o.cls = some c → c < H.next ∧ ∀ l m, H.objs.get c = some (.members l m) → H.next ∈ l ∧ o.known ≤ m) :
    HR P B (ρ.upd H.next (w.heap.size, cp)) (H.alloc o) (w.alloc O) ∧ Post ρ H w (ρ.upd H.next (w.heap.size, cp)) (H.alloc o) (w.alloc O) := by
  have hn : H.next < 2 ^ 63 := by omega
  have hB := h.base
  have hg : ∀ n, (H.alloc o).objs.get n = if n = H.next then some o else H.objs.get n := fun n => Tr.set_get _ _ _ _ hn
  have hd : ∀ n q, H.objs.get n = some q → n ≠ H.next := fun n q e => Nat.ne_of_lt (h.old n q e)
  have hh : ∀ k, k < w.heap.size → (w.alloc O).heap[k]? = w.heap[k]? := fun k hk => by
    show (w.heap.push O)[k]? = _
    rw [Array.getElem?_push, if_neg (by omega)]
  have hblk : ∀ n q b cp, H.objs.get n = some q → q.live = true → ρ n = some (b, cp) → b < w.heap.size := fun n q b cp e el er => by
    obtain ⟨b', cp', e1, e2⟩ := (h.obj n q e).block el
    rw [er] at e1; simp at e1; omega
  have hle := Ren.le_upd (ρ := ρ) (n := H.next) (w.heap.size, cp) hf
  have hold : ∀ n q b cq, H.objs.get n = some q → (ρ.upd H.next (w.heap.size, cp)) n = some (b, cq) → ρ n = some (b, cq) := fun n q b cq e er => by
    rwa [Ren.upd_ne _ _ (hd n q e)] at er
  refine ⟨⟨fun n q e => ?_, fun n m o1 q b c1 cq e1 e2 l1 l2 r1 r2 => ?_, fun n q c l m e ec el => ?_, fun n q c e ec => ?_, fun n b c1 e => ?_, fun n q e => ?_, hn1, by simp; omega, Nat.le_succ_of_le h.lole, fun k hk => (hh k (Nat.lt_of_lt_of_le hk hB)).trans (h.snap k hk)⟩,
    ⟨hle, fun n a b => ?_, by simp [AHeap.alloc], rfl, fun n hn => by rw [hg, if_neg (by have := h.lole; omega)], rfl, rfl, rfl, by simp, fun k hk _ => hh k hk, fun b hb => ?_⟩⟩
  · rw [hg] at e
    split at e
    · rename_i en; subst en; obtain rfl := Option.some.inj e; exact ho
    · by_cases hlv : q.live = true
      · obtain ⟨b0, c0, r0, lt0⟩ := (h.obj n q e).block hlv
        exact (h.obj n q e).keep hle fun b cq er => hh b (by rw [r0] at er; simp at er; omega)
      · cases q <;> first | trivial | simp [AObj.live] at hlv
  · rw [hg] at e1 e2
    by_cases en : n = H.next
    · by_cases em : m = H.next
      · exact .inl (en.trans em.symm)
      · rw [if_neg em] at e2
        have b1 := hblk m q b cq e2 l2 (hold _ _ _ _ e2 r2)
        subst en
        rw [Ren.upd_same] at r1
        simp at r1; omega
    · rw [if_neg en] at e1
      by_cases em : m = H.next
      · have b1 := hblk n o1 b c1 e1 l1 (hold _ _ _ _ e1 r1)
        subst em
        rw [Ren.upd_same] at r2
        simp at r2; omega
      · rw [if_neg em] at e2
        exact h.inj n m o1 q b c1 cq e1 e2 l1 l2 (hold _ _ _ _ e1 r1) (hold _ _ _ _ e2 r2)
  · rw [hg] at e el
    split at e
    · rename_i en; subst en; obtain rfl := Option.some.inj e
      obtain ⟨e1, e2⟩ := hc c ec
      rw [if_neg (Nat.ne_of_lt e1)] at el
      exact e2 l m el
    · rw [if_neg (Nat.ne_of_lt (h.clo n q c e ec))] at el
      exact h.mem n q c l m e ec el
  · rw [hg] at e
    show c < H.next + 1
    split at e
    · obtain rfl := Option.some.inj e; exact Nat.lt_succ_of_lt (hc c ec).1
    · exact Nat.lt_succ_of_lt (h.clo n q c e ec)
  · by_cases en : n = H.next
    · subst en; rw [Ren.upd_same] at e; simp at e; omega
    · rw [Ren.upd_ne _ _ en] at e; exact h.low n b c1 e
  · rw [hg] at e
    show n < H.next + 1
    split at e
    · omega
    · have := h.old n q e; omega
  · by_cases en : n = H.next
    · subst en; exact ⟨Nat.le_refl _, by simp [AHeap.alloc]⟩
    · rw [Ren.upd_ne _ _ en] at b; exact absurd a b
  · obtain ⟨n, q, c1, e, el, er⟩ := hb
    rw [hg] at e
    by_cases en : n = H.next
    · subst en; rw [Ren.upd_same] at er; simp at er; exact .inl (by omega)
    · rw [if_neg en] at e
      rw [Ren.upd_ne _ _ en] at er
      exact .inr ⟨n, q, c1, e, el, er⟩

/-- One block that one name alone stands for is written. -/
theorem HR.write (h : HR P B ρ H w) {g : Nat} {o o' : AObj} (hg0 : H.objs.get g = some o) (hl : o.live = true) (hl' : o'.live = true) {b cp : Nat} (hr : ρ g = some (b, cp))
    (hex : ∀ n q cq, H.objs.get n = some q → q.live = true → ρ n = some (b, cq) → n = g)
    (hcls : o'.cls = o.cls) (hkn : o'.known = o.known) (hlo : H.lo ≤ g) {w' : World} (hos : w'.os = w.os) (ht : w'.tape = w.tape) (hou : w'.output = w.output) (hsz : w'.heap.size = w.heap.size)
    (hk : ∀ k, k ≠ b → w'.heap[k]? = w.heap[k]?) (ho : OR P ρ g o' w') :
    HR P B ρ (H.put g o') w' ∧ Post ρ H w ρ (H.put g o') w' := by
  have hn : g < 2 ^ 63 := Nat.lt_trans (h.old g o hg0) h.lim
  have hg : ∀ n, (H.put g o').objs.get n = if n = g then some o' else H.objs.get n := fun n => Tr.set_get _ _ _ _ hn
  refine ⟨⟨fun n q e => ?_, fun n m o1 q b1 c1 cq e1 e2 l1 l2 r1 r2 => ?_, fun n q c l m e ec el => ?_, fun n q c e ec => ?_, h.low, fun n q e => ?_, h.lim, by rw [hsz]; exact h.base, h.lole, fun k hk1 => (hk k fun e1 => by have := h.low g b cp hr; omega).trans (h.snap k hk1)⟩,
    ⟨Ren.le_refl _, fun n a b => absurd a b, Nat.le_refl _, rfl, fun n hn => by rw [hg, if_neg (by omega)], hos, ht, hou, Nat.le_of_eq hsz.symm, fun k hk1 ht => ?_, fun b1 hb => ?_⟩⟩
  · rw [hg] at e
    split at e
    · rename_i en; subst en; obtain rfl := Option.some.inj e; exact ho
    · rename_i en
      by_cases hlv : q.live = true
      · exact (h.obj n q e).keep (Ren.le_refl _) fun b1 cq er => hk b1 fun eb => en (hex n q cq e hlv (eb ▸ er))
      · cases q <;> first | trivial | simp [AObj.live] at hlv
  · have red : ∀ n x, (H.put g o').objs.get n = some x → x.live = true → ∃ y, H.objs.get n = some y ∧ y.live = true ∧ y.cls = x.cls := fun n x e lx => by
      rw [hg] at e
      split at e
      · rename_i en; subst en; obtain rfl := Option.some.inj e; exact ⟨o, hg0, hl, hcls.symm⟩
      · exact ⟨x, e, lx, rfl⟩
    obtain ⟨y1, f1, g1, k1⟩ := red n o1 e1 l1
    obtain ⟨y2, f2, g2, k2⟩ := red m q e2 l2
    rw [← k1, ← k2]
    exact h.inj n m y1 y2 b1 c1 cq f1 f2 g1 g2 r1 r2
  · have el' : H.objs.get c = some (.members l m) := by
      rw [hg] at el
      split at el
      · rename_i en; obtain rfl := Option.some.inj el; cases hl'
      · exact el
    rw [hg] at e
    split at e
    · rename_i en; subst en; obtain rfl := Option.some.inj e
      obtain ⟨e2, e3⟩ := h.mem n o c l m hg0 (hcls ▸ ec) el'
      exact ⟨e2, hkn ▸ e3⟩
    · exact h.mem n q c l m e ec el'
  · rw [hg] at e
    split at e
    · rename_i en; subst en; obtain rfl := Option.some.inj e; exact h.clo n o c hg0 (hcls ▸ ec)
    · exact h.clo n q c e ec
  · rw [hg] at e
    split at e
    · rename_i en; subst en; exact h.old n o hg0
    · exact h.old n q e
  · exact hk k fun e => ht ⟨g, o, cp, hg0, hl, e ▸ hr⟩
  · obtain ⟨n, q, c1, e, el, er⟩ := hb
    rw [hg] at e
    split at e
    · rename_i en; subst en; exact .inr ⟨n, o, c1, hg0, hl, er⟩
    · exact .inr ⟨n, q, c1, e, el, er⟩

/-- An entry is forgotten, or a list of members turned. -/
theorem HR.kill (h : HR P B ρ H w) {g : Nat} (hm : ∀ l m, H.objs.get g ≠ some (.members l m)) (hin : g < H.next) (hlo : H.lo ≤ g) :
    HR P B ρ (H.put g .dead) w ∧ Post ρ H w ρ (H.put g .dead) w := by
  have hn : g < 2 ^ 63 := Nat.lt_trans hin h.lim
  have hg : ∀ n, (H.put g .dead).objs.get n = if n = g then some .dead else H.objs.get n := fun n => Tr.set_get _ _ _ _ hn
  refine ⟨⟨fun n q e => ?_, fun n m o1 q b1 c1 cq e1 e2 l1 l2 r1 r2 => ?_, fun n q c l m e ec el => ?_, fun n q c e ec => ?_, h.low, fun n q e => ?_, h.lim, h.base, h.lole, h.snap⟩,
    ⟨Ren.le_refl _, fun n a b => absurd a b, Nat.le_refl _, rfl, fun n hn => by rw [hg, if_neg (by omega)], rfl, rfl, rfl, Nat.le_refl _, fun k _ _ => rfl, fun b1 hb => ?_⟩⟩
  · rw [hg] at e
    split at e
    · obtain rfl := Option.some.inj e; trivial
    · exact h.obj n q e
  · rw [hg] at e1 e2
    split at e1
    · obtain rfl := Option.some.inj e1; cases l1
    · split at e2
      · obtain rfl := Option.some.inj e2; cases l2
      · exact h.inj n m o1 q b1 c1 cq e1 e2 l1 l2 r1 r2
  · rw [hg] at e el
    split at e
    · obtain rfl := Option.some.inj e; cases ec
    · split at el
      · cases el
      · exact h.mem n q c l m e ec el
  · rw [hg] at e
    split at e
    · obtain rfl := Option.some.inj e; cases ec
    · exact h.clo n q c e ec
  · rw [hg] at e
    split at e
    · rename_i en; subst en; exact hin
    · exact h.old n q e
  · obtain ⟨n, q, c1, e, el, er⟩ := hb
    rw [hg] at e
    split at e
    · obtain rfl := Option.some.inj e; cases el
    · exact .inr ⟨n, q, c1, e, el, er⟩
/-- The members of a class are told anew: all that live are among them. -/
theorem HR.rejoin (h : HR P B ρ H w) {c : Nat} {l0 l : List Nat} {m0 mk : Nat} (h0 : H.objs.get c = some (.members l0 m0))
    (hl : ∀ n o, H.objs.get n = some o → o.cls = some c → n ∈ l ∧ o.known ≤ mk) (hlo : H.lo ≤ c) :
    HR P B ρ (H.put c (.members l mk)) w ∧ Post ρ H w ρ (H.put c (.members l mk)) w := by
  have hn : c < 2 ^ 63 := Nat.lt_trans (h.old c _ h0) h.lim
  have hg : ∀ n, (H.put c (.members l mk)).objs.get n = if n = c then some (.members l mk) else H.objs.get n := fun n => Tr.set_get _ _ _ _ hn
  refine ⟨⟨fun n q e => ?_, fun n m o1 q b1 c1 cq e1 e2 l1 l2 r1 r2 => ?_, fun n q d l1 m1 e ec el => ?_, fun n q d e ec => ?_, h.low, fun n q e => ?_, h.lim, h.base, h.lole, h.snap⟩,
    ⟨Ren.le_refl _, fun n a b => absurd a b, Nat.le_refl _, rfl, fun n hn => by rw [hg, if_neg (by omega)], rfl, rfl, rfl, Nat.le_refl _, fun k _ _ => rfl, fun b1 hb => ?_⟩⟩
  · rw [hg] at e
    split at e
    · obtain rfl := Option.some.inj e; trivial
    · exact h.obj n q e
  · rw [hg] at e1 e2
    split at e1
    · obtain rfl := Option.some.inj e1; cases l1
    · split at e2
      · obtain rfl := Option.some.inj e2; cases l2
      · exact h.inj n m o1 q b1 c1 cq e1 e2 l1 l2 r1 r2
  · rw [hg] at e el
    split at e
    · obtain rfl := Option.some.inj e; cases ec
    · split at el
      · rename_i ed
        subst ed
        simp only [Option.some.injEq, AObj.members.injEq] at el
        obtain ⟨rfl, rfl⟩ := el
        exact hl n q e ec
      · exact h.mem n q d l1 m1 e ec el
  · rw [hg] at e
    split at e
    · obtain rfl := Option.some.inj e; cases ec
    · exact h.clo n q d e ec
  · rw [hg] at e
    split at e
    · rename_i en; subst en; exact h.old n _ h0
    · exact h.old n q e
  · obtain ⟨n, q, c1, e, el, er⟩ := hb
    rw [hg] at e
    split at e
    · obtain rfl := Option.some.inj e; cases el
    · exact .inr ⟨n, q, c1, e, el, er⟩
/-- A row grows behind what is told of it: in its own block. -/
theorem HR.extend (h : HR P B ρ H w) (hn1 : H.next + 1 < 2 ^ 63) (hf : ρ H.next = none) {g c e k k2 : Nat} {t t2 : Tr AV} {rest : List Nat}
    (hg0 : H.objs.get g = some (.cells e k (some c) t)) (hc0 : H.objs.get c = some (.members (g :: rest) k)) (hk2 : k ≤ k2) (hlo : H.lo ≤ c) {b cp : Nat} (hr : ρ g = some (b, cp))
    {w' : World} (hos : w'.os = w.os) (htp : w'.tape = w.tape) (hou : w'.output = w.output) (hsz : w'.heap.size = w.heap.size) (hk : ∀ x, x ≠ b → w'.heap[x]? = w.heap[x]?)
    {arr arr' : Array Value} {fr : Nat × Nat} (ha : w.heap[b]? = some (.cells arr e fr)) (ha' : w'.heap[b]? = some (.cells arr' e fr)) (hsa : arr'.size = arr.size) (hlow : ∀ i, i < k → arr'[i]? = arr[i]?)
    (ho : OR P (ρ.upd H.next (b, cp)) H.next (.cells e k2 (some c) t2) w') :
    HR P B (ρ.upd H.next (b, cp)) ((H.put c (.members (H.next :: g :: rest) k2)).alloc (.cells e k2 (some c) t2)) w' ∧
      Post ρ H w (ρ.upd H.next (b, cp)) ((H.put c (.members (H.next :: g :: rest) k2)).alloc (.cells e k2 (some c) t2)) w' := by
  have hcl : c < 2 ^ 63 := Nat.lt_trans (h.old c _ hc0) h.lim
  have hcn : c < H.next := h.old c _ hc0
  have hg : ∀ n, ((H.put c (.members (H.next :: g :: rest) k2)).alloc (.cells e k2 (some c) t2)).objs.get n =
      if n = H.next then some (.cells e k2 (some c) t2) else if n = c then some (.members (H.next :: g :: rest) k2) else H.objs.get n := fun n => by
    rw [show ((H.put c (.members (H.next :: g :: rest) k2)).alloc (.cells e k2 (some c) t2)).objs.get n =
      if n = H.next then some (.cells e k2 (some c) t2) else (H.put c (.members (H.next :: g :: rest) k2)).objs.get n from Tr.set_get _ _ _ _ (show H.next < 2 ^ 63 by omega)]
    rw [show (H.put c (.members (H.next :: g :: rest) k2)).objs.get n = if n = c then some (.members (H.next :: g :: rest) k2) else H.objs.get n from Tr.set_get _ _ _ _ hcl]
  have hle := Ren.le_upd (ρ := ρ) (n := H.next) (b, cp) hf
  have hd : ∀ n q, H.objs.get n = some q → n ≠ H.next := fun n q e => Nat.ne_of_lt (h.old n q e)
  have hold : ∀ n q b0 cq, H.objs.get n = some q → (ρ.upd H.next (b, cp)) n = some (b0, cq) → ρ n = some (b0, cq) := fun n q b0 cq e er => by
    rwa [Ren.upd_ne _ _ (hd n q e)] at er
  have same : ∀ n q cq, H.objs.get n = some q → q.live = true → ρ n = some (b, cq) → q.cls = some c := fun n q cq e lq rq => by
    rcases h.inj n g q _ b cq cp e hg0 lq rfl rq hr with h1 | ⟨d, h1, h2⟩
    · subst h1; rw [hg0] at e; cases e; rfl
    · cases h2; exact h1
  refine ⟨⟨fun n q e1 => ?_, fun n m o1 q b1 c1 cq e1 e2 l1 l2 r1 r2 => ?_, fun n q d l m e1 ec el => ?_, fun n q d e1 ec => ?_, fun n b1 c1 e1 => ?_, fun n q e1 => ?_, by simpa [AHeap.alloc, AHeap.put] using hn1, by rw [hsz]; exact h.base, Nat.le_succ_of_le h.lole, fun x hx => (hk x fun e1 => by have := h.low g b cp hr; omega).trans (h.snap x hx)⟩,
    ⟨hle, fun n a b0 => ?_, by simp [AHeap.alloc, AHeap.put], rfl, fun n hn => by rw [hg, if_neg (by have := h.lole; omega), if_neg (by omega)], hos, htp, hou, Nat.le_of_eq hsz.symm, fun x hx ht => hk x fun e1 => ht ⟨g, _, cp, hg0, rfl, e1 ▸ hr⟩, fun b1 hb => ?_⟩⟩
  · rw [hg] at e1
    split at e1
    · rename_i en; subst en; cases e1; exact ho
    · split at e1
      · cases e1; trivial
      · by_cases hlv : q.live = true
        · obtain ⟨b0, c0, r0, lt0⟩ := (h.obj n q e1).block hlv
          by_cases hb0 : b0 = b
          · subst hb0
            have hq := same n q c0 e1 hlv r0
            obtain ⟨f2, f3⟩ := h.mem n q c _ _ e1 hq hc0
            cases q with
            | cells e' k' c' t' =>
              obtain ⟨b', cp', arr0, fr0, q1, q2, q3, q4, q5, q6, q7⟩ := h.obj n _ e1
              rw [r0] at q1
              obtain ⟨rfl, rfl⟩ := Prod.mk.inj (Option.some.inj q1)
              rw [ha] at q2
              simp only [Option.some.injEq, Obj.cells.injEq] at q2
              obtain ⟨rfl, rfl, rfl⟩ := q2
              simp only [AObj.known] at f3
              refine ⟨b0, c0, arr', fr, hle _ _ r0, ha', by rw [hsa]; exact q3, by omega, by rw [hsa]; exact q5, by rw [hsa]; exact q6, fun i hi => ?_⟩
              obtain ⟨a, v, g1, g2, g3⟩ := q7 i hi
              exact ⟨a, v, g1, (hlow i (by omega)).trans g2, g3.mono hle⟩
            | _ => cases hq
          · exact (h.obj n q e1).keep hle fun b1 cq er => hk b1 (by rw [r0] at er; simp at er; omega)
        · cases q <;> first | trivial | simp [AObj.live] at hlv
  · have red : ∀ n x, ((H.put c (.members (H.next :: g :: rest) k2)).alloc (.cells e k2 (some c) t2)).objs.get n = some x → x.live = true → ∀ b0 cq, (ρ.upd H.next (b, cp)) n = some (b0, cq) →
        (n = H.next ∧ x.cls = some c ∧ b0 = b) ∨ (n ≠ H.next ∧ H.objs.get n = some x ∧ ρ n = some (b0, cq)) := fun n x e0 lx b0 cq r0 => by
      rw [hg] at e0
      split at e0
      · rename_i en; subst en; cases e0; rw [Ren.upd_same] at r0; cases r0; exact .inl ⟨rfl, rfl, rfl⟩
      · rename_i en
        split at e0
        · cases e0; cases lx
        · exact .inr ⟨en, e0, hold n x b0 cq e0 r0⟩
    rcases red n o1 e1 l1 _ _ r1 with ⟨x1, x2, x3⟩ | ⟨x1, x2, x3⟩
    · rcases red m q e2 l2 _ _ r2 with ⟨y1, y2, y3⟩ | ⟨y1, y2, y3⟩
      · exact .inl (x1.trans y1.symm)
      · subst x3; exact .inr ⟨c, x2, same m q cq y2 l2 y3⟩
    · rcases red m q e2 l2 _ _ r2 with ⟨y1, y2, y3⟩ | ⟨y1, y2, y3⟩
      · subst y3; exact .inr ⟨c, same n o1 c1 x2 l1 x3, y2⟩
      · exact h.inj n m o1 q b1 c1 cq x2 y2 l1 l2 x3 y3
  · rw [hg] at e1 el
    split at e1
    · rename_i en; subst en; cases e1; cases ec
      rw [if_neg (by omega), if_pos rfl] at el
      simp only [Option.some.injEq, AObj.members.injEq] at el
      obtain ⟨rfl, rfl⟩ := el
      exact ⟨by simp, Nat.le_refl _⟩
    · split at e1
      · cases e1; cases ec
      · have hdl := h.clo n q d e1 ec
        rw [if_neg (by omega)] at el
        split at el
        · rename_i hdc
          subst hdc
          simp only [Option.some.injEq, AObj.members.injEq] at el
          obtain ⟨rfl, rfl⟩ := el
          obtain ⟨f2, f3⟩ := h.mem n q d _ _ e1 ec hc0
          exact ⟨List.mem_cons_of_mem _ f2, Nat.le_trans f3 hk2⟩
        · exact h.mem n q d l m e1 ec el
  · rw [hg] at e1
    show d < H.next + 1
    split at e1
    · cases e1; cases ec; omega
    · split at e1
      · cases e1; cases ec
      · exact Nat.lt_succ_of_lt (h.clo n q d e1 ec)
  · by_cases en : n = H.next
    · subst en; rw [Ren.upd_same] at e1; cases e1; exact h.low g _ _ hr
    · rw [Ren.upd_ne _ _ en] at e1; exact h.low n b1 c1 e1
  · rw [hg] at e1
    show n < H.next + 1
    split at e1
    · omega
    · split at e1
      · omega
      · have := h.old n q e1; omega
  · by_cases en : n = H.next
    · subst en; exact ⟨Nat.le_refl _, by simp [AHeap.alloc, AHeap.put]⟩
    · rw [Ren.upd_ne _ _ en] at b0; exact absurd a b0
  · obtain ⟨n, q, c2, e1, el, er⟩ := hb
    rw [hg] at e1
    split at e1
    · rename_i en; subst en; rw [Ren.upd_same] at er; cases er; exact .inr ⟨g, _, cp, hg0, rfl, hr⟩
    · split at e1
      · cases e1; cases el
      · exact .inr ⟨n, q, c2, e1, el, hold n q _ c2 e1 er⟩
end
end Go.Ev
