/- Contract: the words of a line, the document's. -/
import Derived.Test.YtmnahgeledddhaaLd
import Derived.Test.YtmnahgeledddhaaGs
import Derived.OwnWalk
namespace Go.Tx
open Go.Lib
def ust (l : List UInt8) (k : Nat) : List UInt8 × List (List UInt8) := (hashCut (l.take k)).foldl (stepW blankN) ([], [])
theorem take_succ' (l : List UInt8) (k : Nat) (b : UInt8) (h : l[k]? = some b) : l.take (k + 1) = l.take k ++ [b] := by
  have hk := (List.getElem?_eq_some_iff.1 h).1
  rw [List.take_succ_eq_append_getElem hk]
  rw [List.getElem?_eq_getElem hk] at h
  cases h
  rfl
theorem ust_rest {l : List UInt8} {k : Nat} {b : UInt8} (h : l[k]? = some b) (hr : (35 : UInt8) ∈ l.take k ∨ b = 35) : ust l (k + 1) = ust l k := by
  unfold ust
  rw [take_succ' l k b h, hashCut_snoc, if_pos hr]
theorem ust_step {l : List UInt8} {k : Nat} {b : UInt8} (h : l[k]? = some b) (h1 : ¬ (35 : UInt8) ∈ l.take k) (h2 : ¬ b = 35) : ust l (k + 1) = stepW blankN (ust l k) b := by
  unfold ust
  rw [take_succ' l k b h, hashCut_snoc, if_neg (by rintro (h | h) <;> contradiction), hashCut_none _ h1, List.foldl_append]
  rfl
theorem stepW_len {u : List UInt8 × List (List UInt8)} {c : UInt8} : (stepW blankN u c).1.length ≤ u.1.length + 1 ∧ (stepW blankN u c).2.length ≤ u.2.length + 1 := by
  unfold stepW
  split
  · split <;> simp
  · simp
theorem fold_len (l : List UInt8) : ∀ u : List UInt8 × List (List UInt8), (l.foldl (stepW blankN) u).1.length ≤ u.1.length + l.length ∧ (l.foldl (stepW blankN) u).2.length ≤ u.2.length + l.length := by
  induction l with
  | nil => intro u; simp
  | cons c l ih =>
    intro u
    have h1 := ih (stepW blankN u c)
    have h2 := @stepW_len u c
    simp only [List.foldl_cons, List.length_cons]
    omega
theorem takeWhile_len' {α : Type} (p : α → Bool) : ∀ l : List α, (l.takeWhile p).length ≤ l.length
  | [] => Nat.le_refl _
  | x :: l => by
    unfold List.takeWhile
    split
    · simp; exact takeWhile_len' p l
    · simp
theorem ust_len (l : List UInt8) (k : Nat) : (ust l k).1.length ≤ k ∧ (ust l k).2.length ≤ k := by
  have h1 := fold_len (hashCut (l.take k)) ([], [])
  have h2 : (hashCut (l.take k)).length ≤ (l.take k).length := takeWhile_len' _ _
  have h3 := List.length_take_le k l
  unfold ust
  simp only [List.length_nil, Nat.zero_add] at h1
  omega
/-- What holds at the head of a round. -/
structure OneI (l : List UInt8) (w : World) (k : Nat) (rest word lv : Value) (wr : World) (s : ByteArray) : Prop where
  rest : rest = .bool (decide ((35 : UInt8) ∈ l.take k))
  word : word = .string s
  text : s.data.toList = (ust l k).1
  row : StrC w.heap.size wr lv (ust l k).2
  fine : (l.take k).any forB = false
  bel : Go.RowKit.Below w.heap.size w wr
theorem any_snoc {l : List UInt8} {k : Nat} {b : UInt8} (h : l[k]? = some b) (h1 : (l.take k).any forB = false) (h2 : forB b = false) : (l.take (k + 1)).any forB = false := by
  rw [take_succ' l k b h, List.any_append, h1]
  simp [h2]
theorem mem_snoc {l : List UInt8} {k : Nat} {b : UInt8} (h : l[k]? = some b) : ((35 : UInt8) ∈ l.take (k + 1)) ↔ ((35 : UInt8) ∈ l.take k ∨ b = 35) := by
  rw [take_succ' l k b h, List.mem_append]
  simp
  constructor
  · rintro (h | h)
    · exact .inl h
    · exact .inr h.symm
  · rintro (h | h)
    · exact .inl h
    · exact .inr h.symm
end Go.Tx
namespace Go.Proofs.Ytmnahgeledddhaa
open Go.RowKit Go.Lib Go.Tx Go.Proofs
theorem blank_any (c : UInt8) (w : World) :
    Calls Try.prog 48 #[.int .u8 (c.toNat : Int)] w fun e w' => e = .returned (.bool (blankN c.toNat)) ∧ w = w' := by
  by_cases h1 : c = 32
  · subst h1
    go_enter Try.func48, Try.ntmps48
    go_wp2
    all_goals (go_ret; exact ⟨rfl, rfl⟩)
  by_cases h2 : c = 9
  · subst h2
    go_enter Try.func48, Try.ntmps48
    go_wp2
    all_goals (go_ret; exact ⟨rfl, rfl⟩)
  by_cases h3 : c = 13
  · subst h3
    go_enter Try.func48, Try.ntmps48
    go_wp2
    all_goals (go_ret; exact ⟨rfl, rfl⟩)
  have t1 : ¬ c.toNat = 32 := fun h => h1 (UInt8.toNat_inj.1 h)
  have t2 : ¬ c.toNat = 9 := fun h => h2 (UInt8.toNat_inj.1 h)
  have t3 : ¬ c.toNat = 13 := fun h => h3 (UInt8.toNat_inj.1 h)
  have e0 : blankN c.toNat = false := by simp [blankN, t1, t2, t3]
  have e1 : ((c.toNat : Int) == 32) = false := by rw [beq_eq_false_iff_ne]; omega
  have e2 : ((c.toNat : Int) == 9) = false := by rw [beq_eq_false_iff_ne]; omega
  have e3 : ((c.toNat : Int) == 13) = false := by rw [beq_eq_false_iff_ne]; omega
  clear h1 h2 h3 t1 t2 t3
  have E0 := Lib.hid e0
  clear e0
  go_enter Try.func48, Try.ntmps48
  go_wp2
  all_goals (go_ret; exact ⟨ret_bool E0.out.symm, rfl⟩)
theorem info9o : (Try.prog.info? 9).map (fun i => (i.zero, i.size, i.bytes)) = some (some (.string ⟨#[]⟩), 1, 16) := by kernel_rfl
end Go.Proofs.Ytmnahgeledddhaa
