/- Two parts of memory that are told of apart, one of them worked on. -/
import Derived.Test.YtjlaiimcbkbciaaDoorEv20
noncomputable section
namespace Go.Ev
open Go
def ToldF (ρ : Ren) (g : Nat → Option AObj) (b : Nat) : Prop := ∃ n o cp, g n = some o ∧ o.live = true ∧ ρ n = some (b, cp)
def over_ (g : Nat → Option AObj) (H : AHeap) (k k' : Nat) : Nat → Option AObj := fun n => if k ≤ n ∧ n < k' then H.objs.get n else g n
theorem comb {P : Program} {B : Bas} {ρ ρ' : Ren} {w w' : World} {g : Nat → Option AObj} {K lo0 k k' : Nat} {Hin Hout : AHeap}
    (h : HRF P B ρ g K lo0 w) (hin : ∀ n o, Hin.objs.get n = some o → g n = some o) (low : ∀ n o, Hin.objs.get n = some o → n < k) (hout : HR P B ρ' Hout w') (p : Post ρ Hin w ρ' Hout w')
    (hk : Hin.next = k) (hlo : Hin.lo = k) (hk' : Hout.next = k') (hK : k' ≤ K) (hun : ∀ n, k ≤ n → n < k' → g n = none)
    (clean : ∀ n o c, k ≤ n → Hout.objs.get n = some o → o.cls = some c → k ≤ c)
    (sep1 : ∀ n o m q c, g n = some o → Hin.objs.get n = none → Hin.objs.get m = some q → o.cls = some c → q.cls ≠ some c)
    (sep2 : ∀ n o c, g n = some o → o.cls = some c → ¬ (k ≤ c ∧ c < k')) :
    HRF P B ρ' (over_ g Hout k k') K lo0 w' ∧ (∀ b, b < w.heap.size → ¬ ToldF ρ g b → w'.heap[b]? = w.heap[b]?) ∧
      (∀ b, ToldF ρ' (over_ g Hout k k') b → w.heap.size ≤ b ∨ ToldF ρ g b) := by
  have hle := p.le
  have keep : ∀ n o, Hin.objs.get n = some o → Hout.objs.get n = some o := fun n o e => by
    rw [p.keep n (by rw [hlo]; exact low n o e)]; exact e
  have back : ∀ n o, Hout.objs.get n = some o → n < k → Hin.objs.get n = some o := fun n o e c => by
    rw [← p.keep n (by rw [hlo]; exact c)]; exact e
  have blk : ∀ n o, g n = some o → o.live = true → ∃ b cp, ρ n = some (b, cp) ∧ b < w.heap.size := fun n o e hl => (h.obj n o e).block hl
  have told' : ∀ b, Told ρ Hin b → ToldF ρ g b := fun b ⟨n, o, cp, e, hl, hr⟩ => ⟨n, o, cp, hin n o e, hl, hr⟩
  -- what is told of beside Hin shares no block with Hin's
  have apart : ∀ n o b cp, g n = some o → o.live = true → Hin.objs.get n = none → ρ n = some (b, cp) → ¬ Told ρ Hin b := by
    rintro n o b cp e hl hno hr ⟨m, q, cq, em, hlm, hrm⟩
    rcases h.inj n m o q b cp cq e (hin m q em) hl hlm hr hrm with h1 | ⟨c, h1, h2⟩
    · subst h1; rw [hno] at em; cases em
    · exact sep1 n o m q c e hno em h1 h2
  have get' : ∀ n o, over_ g Hout k k' n = some o → (k ≤ n ∧ n < k' ∧ Hout.objs.get n = some o) ∨ (¬ (k ≤ n ∧ n < k') ∧ g n = some o) := fun n o e => by
    unfold over_ at e
    split at e
    · rename_i c; exact .inl ⟨c.1, c.2, e⟩
    · rename_i c; exact .inr ⟨c, e⟩
  have frame : ∀ b, b < w.heap.size → ¬ ToldF ρ g b → w'.heap[b]? = w.heap[b]? := fun b hb ht => p.frame b hb fun h1 => ht (told' b h1)
  have newblk : ∀ n o b cp, k ≤ n → Hout.objs.get n = some o → o.live = true → ρ' n = some (b, cp) → w.heap.size ≤ b ∨ Told ρ Hin b := fun n o b cp _ e hl hr => p.told b ⟨n, o, cp, e, hl, hr⟩
  refine ⟨⟨fun n o e => ?_, fun n m o q b cp cq e1 e2 l1 l2 r1 r2 => ?_, fun n o c l m e ec el => ?_, fun n o c e ec => ?_, hout.low, fun n o e => ?_, h.lim, hout.base, h.lole, hout.snap⟩, frame, fun b hb => ?_⟩
  · rcases get' n o e with ⟨_, _, e1⟩ | ⟨_, e1⟩
    · exact hout.obj n o e1
    · cases hi : Hin.objs.get n with
      | some o2 =>
        have := hin n o2 hi
        rw [e1] at this
        obtain rfl := Option.some.inj this
        exact hout.obj n o (keep n o hi)
      | none =>
        by_cases hl : o.live = true
        · obtain ⟨b, cp, hr, hb⟩ := blk n o e1 hl
          refine (h.obj n o e1).keep hle fun b1 c1 hr1 => ?_
          rw [hr] at hr1
          obtain ⟨rfl, rfl⟩ := Prod.mk.inj (Option.some.inj hr1)
          exact p.frame b hb (apart n o b cp e1 hl hi hr)
        · cases o <;> first | trivial | simp [AObj.live] at hl
  · have old : ∀ n o b cp, g n = some o → o.live = true → ρ' n = some (b, cp) → ρ n = some (b, cp) ∧ b < w.heap.size := fun n o b cp e hl hr => by
      obtain ⟨b0, c0, h0, hb⟩ := blk n o e hl
      have := hle n _ h0
      rw [hr] at this
      obtain ⟨rfl, rfl⟩ := Prod.mk.inj (Option.some.inj this)
      exact ⟨h0, hb⟩
    have mix : ∀ n m o q b cp cq, k ≤ n → Hout.objs.get n = some o → g m = some q → o.live = true → q.live = true → ρ' n = some (b, cp) → ρ' m = some (b, cq) → n = m ∨ ∃ c, o.cls = some c ∧ q.cls = some c := by
      intro n m o q b cp cq hn e1 e2 l1 l2 r1 r2
      cases hi : Hin.objs.get m with
      | some q2 =>
        have := hin m q2 hi
        rw [e2] at this
        obtain rfl := Option.some.inj this
        exact hout.inj n m o q b cp cq e1 (keep m q hi) l1 l2 r1 r2
      | none =>
        obtain ⟨r2', hb⟩ := old m q b cq e2 l2 r2
        rcases newblk n o b cp hn e1 l1 r1 with h1 | h1
        · omega
        · exact absurd h1 (apart m q b cq e2 l2 hi r2')
    rcases get' n o e1 with ⟨c1, _, f1⟩ | ⟨_, f1⟩
    · rcases get' m q e2 with ⟨_, _, f2⟩ | ⟨_, f2⟩
      · exact hout.inj n m o q b cp cq f1 f2 l1 l2 r1 r2
      · exact mix n m o q b cp cq c1 f1 f2 l1 l2 r1 r2
    · rcases get' m q e2 with ⟨c2, _, f2⟩ | ⟨_, f2⟩
      · rcases mix m n q o b cq cp c2 f2 f1 l2 l1 r2 r1 with h1 | ⟨c, h1, h2⟩
        · exact .inl h1.symm
        · exact .inr ⟨c, h2, h1⟩
      · exact h.inj n m o q b cp cq f1 f2 l1 l2 (old n o b cp f1 l1 r1).1 (old m q b cq f2 l2 r2).1
  · rcases get' n o e with ⟨c1, _, f1⟩ | ⟨_, f1⟩
    · have hck := clean n o c c1 f1 ec
      have hck' : c < k' := by rw [← hk']; exact hout.clo n o c f1 ec
      rcases get' c _ el with ⟨_, _, f2⟩ | ⟨c2, _⟩
      · exact hout.mem n o c l m f1 ec f2
      · exact absurd ⟨hck, hck'⟩ c2
    · rcases get' c _ el with ⟨c2, c3, _⟩ | ⟨_, f2⟩
      · exact absurd ⟨c2, c3⟩ (sep2 n o c f1 ec)
      · exact h.mem n o c l m f1 ec f2
  · rcases get' n o e with ⟨_, _, f1⟩ | ⟨_, f1⟩
    · have := hout.clo n o c f1 ec; omega
    · exact h.clo n o c f1 ec
  · rcases get' n o e with ⟨_, _, f1⟩ | ⟨_, f1⟩
    · have := hout.old n o f1; omega
    · exact h.old n o f1
  · obtain ⟨n, o, cp, e, hl, hr⟩ := hb
    rcases get' n o e with ⟨c1, _, f1⟩ | ⟨_, f1⟩
    · rcases newblk n o b cp c1 f1 hl hr with h1 | h1
      · exact .inl h1
      · exact .inr (told' b h1)
    · obtain ⟨b0, c0, h0, hb⟩ := blk n o f1 hl
      have := hle n _ h0
      rw [hr] at this
      obtain ⟨rfl, rfl⟩ := Prod.mk.inj (Option.some.inj this)
      exact .inr ⟨n, o, cp, f1, hl, h0⟩
/-- Less is told. -/
theorem HRF.sub {P : Program} {B : Bas} {ρ : Ren} {w : World} {g g2 : Nat → Option AObj} {K K2 lo0 lo2 : Nat} (h : HRF P B ρ g K lo0 w) (hs : ∀ n o, g2 n = some o → g n = some o)
    (ho : ∀ n o, g2 n = some o → n < K2) (hc : ∀ n o c, g2 n = some o → o.cls = some c → c < K2) (hl : K2 < 2 ^ 63) (hlo : lo2 ≤ K2) : HRF P B ρ g2 K2 lo2 w :=
  ⟨fun n o e => h.obj n o (hs n o e), fun n m o q b cp cq e1 e2 => h.inj n m o q b cp cq (hs n o e1) (hs m q e2), fun n o c l m e ec el => h.mem n o c l m (hs n o e) ec (hs c _ el), hc, h.low, ho, hl, h.base, hlo, h.snap⟩
end Go.Ev
