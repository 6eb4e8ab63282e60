/- Plain facts: names in reverse. -/
import Derived.Test.YtjlaiimcbkbciaaDoorGd
import Derived.Test.YtjlaiimcbkbciaaDoorDe
namespace Go.Proofs.YtjlaiimcbkbciaaDoor
open Go.RowKit Go.Ev Go.Lib Go.Tx
def dec (c : UInt8) : List UInt8 := (bs (decD c.toNat)).data.toList
def dot (x : List UInt8) : List UInt8 := x ++ [46]
def inaddr : List UInt8 := [105, 110, 45, 97, 100, 100, 114, 46, 97, 114, 112, 97]
def ip6 : List UInt8 := [105, 112, 54, 46, 97, 114, 112, 97]
def rev4 (a : List UInt8) : List UInt8 := (a.reverse.map dec).flatMap dot ++ inaddr
def rev16 (a : List UInt8) : List UInt8 := (a.reverse.flatMap hexs).flatMap dot ++ ip6
def refR (a : List UInt8) : List UInt8 := if a.length = 4 then rev4 a else if a.length = 16 then rev16 a else []
theorem join_dot : ∀ (l : List (List UInt8)), l ≠ [] → Lib.join l [46] ++ [46] = l.flatMap dot
  | [], h => absurd rfl h
  | [x], _ => by simp [Lib.join_one, dot]
  | x :: y :: r, _ => by
    have ih := join_dot (y :: r) (by simp)
    rw [Lib.join_cons, List.flatMap_cons, ← ih, Lib.join_cons]
    have e : Lib.joinTail [46] (y :: r) = [46] ++ y ++ Lib.joinTail [46] r := by simp [Lib.joinTail]
    rw [e]
    simp [dot]
theorem split_head (x t : List UInt8) (h : 46 ∉ x) : ∀ cur, splitG 46 cur (x ++ 46 :: t) = (cur ++ x) :: splitG 46 [] t := by
  induction x with
  | nil => intro cur; simp [splitG]
  | cons c x ih =>
    intro cur
    have h1 : ¬ c = 46 := fun e => h (by simp [e])
    rw [List.cons_append, splitG, if_neg h1, ih (fun hh => h (by simp [hh])) (cur ++ [c])]
    simp
theorem split_flat (t : List UInt8) : ∀ (l : List (List UInt8)), (∀ x ∈ l, 46 ∉ x) → splitL 46 (l.flatMap dot ++ t) = l ++ splitL 46 t
  | [], _ => by simp
  | x :: l, h => by
    have ih := split_flat t l fun y hy => h y (by simp [hy])
    rw [List.flatMap_cons]
    have e : dot x ++ l.flatMap dot ++ t = x ++ 46 :: (l.flatMap dot ++ t) := by simp [dot]
    rw [e, splitL, split_head x _ (h x (by simp)) []]
    simp only [List.nil_append, List.cons_append]
    congr 1
theorem dec_all : ∀ i : Fin 256, labelB (dec (UInt8.ofNat i.1)) = true ∧ decG i.1 [] = dec (UInt8.ofNat i.1) ∧ (hexs (UInt8.ofNat i.1)).all labelB = true := by decide +kernel
theorem dec_facts (c : UInt8) : labelB (dec c) = true ∧ decG c.toNat [] = dec c ∧ (hexs c).all labelB = true := by
  have := dec_all ⟨c.toNat, c.toNat_lt⟩
  simpa using this
theorem label_no (l : List UInt8) (h : labelB l = true) : 46 ∉ l := fun hin => by
  unfold labelB at h
  simp only [Bool.and_eq_true, List.all_eq_true] at h
  exact absurd (h.2 46 hin) (by decide)
theorem label_len (l : List UInt8) (h : labelB l = true) : l.length ≤ 63 := by
  unfold labelB at h
  simp only [Bool.and_eq_true, decide_eq_true_iff] at h
  exact h.1.2
theorem name_flat (l : List (List UInt8)) (t : List UInt8) (h : ∀ x ∈ l, labelB x = true) (ht : (splitL 46 t).all labelB = true) (hn : (l.flatMap dot ++ t).length ≤ 253) : nameB (l.flatMap dot ++ t) = true := by
  unfold nameB
  rw [decide_eq_true hn, Bool.true_and, split_flat t l fun x hx => label_no x (h x hx), List.all_append, ht, Bool.and_true, List.all_eq_true]
  exact h
theorem flat_len : ∀ (l : List (List UInt8)), (∀ x ∈ l, x.length ≤ 3) → (l.flatMap dot).length ≤ 4 * l.length
  | [], _ => by simp
  | x :: l, h => by
    have := flat_len l fun y hy => h y (by simp [hy])
    have h2 := h x (by simp)
    rw [List.flatMap_cons, List.length_append]
    simp only [dot, List.length_append, List.length_cons, List.length_nil]
    omega
theorem dec_len (c : UInt8) : (dec c).length ≤ 3 := by unfold dec; rw [bs_list, List.length_map]; exact decD_len _
theorem name4 (a : List UInt8) (h : a.length = 4) : nameB (rev4 a) = true := by
  refine name_flat _ _ (fun x hx => ?_) (by decide) ?_
  · obtain ⟨c, _, rfl⟩ := List.mem_map.1 hx
    exact (dec_facts c).1
  · have := flat_len (a.reverse.map dec) (fun x hx => by obtain ⟨c, _, rfl⟩ := List.mem_map.1 hx; exact dec_len c)
    rw [List.length_map, List.length_reverse, h] at this
    rw [List.length_append]
    have : inaddr.length = 12 := rfl
    omega
theorem name16 (a : List UInt8) (h : a.length = 16) : nameB (rev16 a) = true := by
  obtain ⟨h1, h2⟩ := hexs_all a.reverse
  refine name_flat _ _ (fun x hx => ?_) (by decide) ?_
  · obtain ⟨c, _, hx⟩ := List.mem_flatMap.1 hx
    exact List.all_eq_true.1 (dec_facts c).2.2 x hx
  · have := flat_len (a.reverse.flatMap hexs) h2
    rw [h1, List.length_reverse, h] at this
    rw [List.length_append]
    have : ip6.length = 8 := rfl
    omega
theorem clean_rev (a : List UInt8) : ∃ n r, cleanV (refR a) = .tuple #[.string n, .bool r, .bool (decide (a.length = 4) || decide (a.length = 16))] := by
  have key : ∀ l, nameB l = true → ∃ n r, cleanV l = .tuple #[.string n, .bool r, .bool true] := fun l h => by
    refine ⟨⟨(l.map low).toArray⟩, isRoot l, ?_⟩
    unfold cleanV
    rw [bare_name l h, if_pos h]
  unfold refR
  by_cases h4 : a.length = 4
  · rw [if_pos h4, decide_eq_true h4]
    exact key _ (name4 a h4)
  · rw [if_neg h4, decide_eq_false h4]
    by_cases h16 : a.length = 16
    · rw [if_pos h16, decide_eq_true h16]
      exact key _ (name16 a h16)
    · rw [if_neg h16, decide_eq_false h16]
      exact ⟨⟨#[]⟩, false, by unfold cleanV; rw [if_neg (by decide)]; rfl⟩
theorem refR_len (a : List UInt8) : (refR a).length ≤ 253 := by
  unfold refR
  have key : ∀ l, nameB l = true → l.length ≤ 253 := fun l h => by
    unfold nameB at h
    rw [Bool.and_eq_true, decide_eq_true_iff] at h
    exact h.1
  split
  · exact key _ (name4 a (by assumption))
  · split
    · exact key _ (name16 a (by assumption))
    · simp
theorem code4 (a : List UInt8) (h : a.length = 4) : Lib.join (a.reverse.map dec) [46] ++ 46 :: inaddr = rev4 a := by
  have := join_dot (a.reverse.map dec) (by intro e; have := congrArg List.length e; simp [h] at this)
  unfold rev4
  rw [← this]; simp
theorem code16 (a : List UInt8) (h : a.length = 16) : Lib.join (a.reverse.flatMap hexs) [46] ++ 46 :: ip6 = rev16 a := by
  have := join_dot (a.reverse.flatMap hexs) (by intro e; have h1 := (hexs_all a.reverse).1; rw [e] at h1; simp [h] at h1)
  unfold rev16
  rw [← this]; simp
end Go.Proofs.YtjlaiimcbkbciaaDoor
