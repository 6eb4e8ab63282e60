/- Contracts and plain facts that the law leans on. -/
import Derived.Test.YtabkdaaenikliaaGreatDoorFrCb
import Derived.Lib.SplitLaws
import Derived.Lib.IndexMore
import Derived.WalkKit
import Derived.LoopTactic
import Derived.OwnWalk
import Derived.Lib.ParseIntB
namespace Go.Tx
open Go.Lib
end Go.Tx
namespace Go.Tx
open Go.Lib
/-! ### A text cut at a byte, some times at most -/
theorem pre_len (x : List UInt8) (l : List (List UInt8)) : (pre x l).length = l.length := by cases l <;> rfl
theorem splitG_ne (c : UInt8) (l cur : List UInt8) : splitG c cur l ≠ [] := fun h => by
  have := (splitG_len c l cur).1
  rw [h] at this
  simp at this
theorem splitL_eq (c : UInt8) (l : List UInt8) : splitL c (c :: l) = [] :: splitL c l := by simp [splitL, splitG]
theorem splitL_pre {b c : UInt8} (h : b ≠ c) (l : List UInt8) : splitL c (b :: l) = pre [b] (splitL c l) := by
  rw [splitL, splitL, splitG, if_neg h]
  exact splitG_pre c [b] l []
theorem splitL_len (c : UInt8) (l : List UInt8) : 1 ≤ (splitL c l).length ∧ (splitL c l).length ≤ l.length + 1 := splitG_len c l []
theorem splitK_nil (c : UInt8) (k : Nat) : splitK [c] 0 k [] = [[]] := by cases k <;> rfl
theorem splitK_eq (c : UInt8) (k : Nat) (l : List UInt8) : splitK [c] 0 (k + 1) (c :: l) = [] :: splitK [c] 0 k l := by
  have hix : index (c :: l) [c] = 0 := by rw [index]; simp [List.isPrefixOf]
  rw [splitK, hix]
  simp
theorem splitK_few (c : UInt8) : ∀ (l : List UInt8) (k : Nat), (splitL c l).length ≤ k + 1 → splitK [c] 0 k l = splitL c l
  | [], k, _ => by rw [splitK_nil]; rfl
  | b :: l, k, h => by
    by_cases e : b = c
    · subst e
      rw [splitL_eq] at h ⊢
      have := (splitL_len b l).1
      simp only [List.length_cons] at h
      obtain ⟨j, rfl⟩ : ∃ j, k = j + 1 := ⟨k - 1, by omega⟩
      rw [splitK_eq, splitK_few b l j (by omega)]
    · rw [splitL_pre e] at h ⊢
      rw [pre_len] at h
      rw [splitK_pre e, splitK_few c l k h]
theorem splitK_many (c : UInt8) : ∀ (l : List UInt8) (k : Nat), k + 1 < (splitL c l).length → (splitK [c] 0 k l).length = k + 1 ∧ ∃ q x, splitK [c] 0 k l = q ++ [x] ∧ c ∈ x
  | [], k, h => by simp [splitL, splitG] at h
  | b :: l, k, h => by
    by_cases e : b = c
    · subst e
      rw [splitL_eq] at h
      simp only [List.length_cons] at h
      cases k with
      | zero => exact ⟨rfl, [], b :: l, rfl, by simp⟩
      | succ k =>
        obtain ⟨h1, q, x, h2, h3⟩ := splitK_many b l k (by omega)
        rw [splitK_eq]
        exact ⟨by rw [List.length_cons, h1], [] :: q, x, by rw [h2]; rfl, h3⟩
    · rw [splitL_pre e, pre_len] at h
      obtain ⟨h1, q, x, h2, h3⟩ := splitK_many c l k h
      rw [splitK_pre e]
      refine ⟨by rw [pre_len, h1], ?_⟩
      rw [h2]
      cases q with
      | nil => exact ⟨[], [b] ++ x, rfl, by simp [h3]⟩
      | cons y q => exact ⟨([b] ++ y) :: q, x, rfl, h3⟩
/-- strings.SplitN at one byte. -/
def cutN (c : UInt8) (n : Nat) (l : List UInt8) : List (List UInt8) := splitK [c] 0 (min n (l.length + 1) - 1) l
theorem cutN_few (c : UInt8) (n : Nat) (l : List UInt8) (h : (splitL c l).length ≤ n) : cutN c n l = splitL c l := by
  have := (splitL_len c l)
  exact splitK_few c l _ (by omega)
theorem cutN_many (c : UInt8) (n : Nat) (l : List UInt8) (hn : 1 ≤ n) (h : n < (splitL c l).length) : (cutN c n l).length = n ∧ ∃ q x, cutN c n l = q ++ [x] ∧ c ∈ x := by
  have := (splitL_len c l)
  obtain ⟨h1, h2⟩ := splitK_many c l (min n (l.length + 1) - 1) (by omega)
  exact ⟨by unfold cutN; rw [h1]; omega, h2⟩
theorem cutN_len (c : UInt8) (n : Nat) (l : List UInt8) (hn : 1 ≤ n) : 1 ≤ (cutN c n l).length ∧ (cutN c n l).length ≤ n := by
  by_cases h : (splitL c l).length ≤ n
  · rw [cutN_few c n l h]; exact ⟨(splitL_len c l).1, h⟩
  · rw [(cutN_many c n l hn (by omega)).1]; exact ⟨hn, Nat.le_refl _⟩
theorem splitK_mem (c : UInt8) : ∀ (k : Nat) (l x : List UInt8), x ∈ splitK [c] 0 k l → x.length ≤ l.length
  | 0, l, x, h => by simp [splitK] at h; subst h; exact Nat.le_refl _
  | k + 1, l, x, h => by
    unfold splitK at h
    split at h
    · simp at h; subst h; exact Nat.le_refl _
    · rcases List.mem_cons.1 h with h | h
      · subst h; rw [List.length_take]; omega
      · have := splitK_mem c k _ x h
        rw [List.length_drop] at this
        omega
theorem cutN_mem {c : UInt8} {n : Nat} {l x : List UInt8} (h : x ∈ cutN c n l) : x.length ≤ l.length := splitK_mem c _ l x h
/-- Five parts at most: four of them are all. -/
theorem cutN_four (l : List UInt8) (h : (cutN 46 5 l).length = 4) : cutN 46 5 l = splitL 46 l := by
  by_cases h2 : (splitL 46 l).length ≤ 5
  · exact cutN_few _ _ _ h2
  · have := (cutN_many 46 5 l (by omega) (by omega)).1; omega
theorem cutN_notfour (l : List UInt8) (h : (cutN 46 5 l).length ≠ 4) : fourP (splitL 46 l) = none := by
  unfold fourP
  rw [if_neg]
  rintro ⟨h2, _⟩
  rw [cutN_few 46 5 l (by omega)] at h
  exact h h2
/-! ### What stands in pieces -/
theorem splitG_cur (c : UInt8) : ∀ (l cur : List UInt8), ∃ x r, splitG c cur l = (cur ++ x) :: r
  | [], cur => ⟨[], [], by simp [splitG]⟩
  | d :: l, cur => by
    unfold splitG
    split
    · exact ⟨[], splitG c [] l, by simp⟩
    · obtain ⟨x, r, h⟩ := splitG_cur c l (cur ++ [d])
      exact ⟨d :: x, r, by rw [h]; simp⟩
/-- A byte that is not the one at which is cut stands in some piece. -/
theorem splitG_has {c d : UInt8} (hcd : d ≠ c) : ∀ (l cur : List UInt8), d ∈ l → ∃ x ∈ splitG c cur l, d ∈ x
  | e :: l, cur, h => by
    unfold splitG
    by_cases hd : d = e
    · subst hd
      rw [if_neg hcd]
      obtain ⟨x, r, h2⟩ := splitG_cur c l (cur ++ [d])
      exact ⟨_, by rw [h2]; exact List.mem_cons_self, by simp⟩
    · have hl : d ∈ l := by
        rcases List.mem_cons.1 h with h | h
        · exact absurd h hd
        · exact h
      split
      · obtain ⟨x, hx, h3⟩ := splitG_has hcd l [] hl
        exact ⟨x, List.mem_cons_of_mem _ hx, h3⟩
      · exact splitG_has hcd l _ hl
/-- Pieces hold nothing that the text doesn't. -/
theorem splitG_sub {c d : UInt8} : ∀ (l cur x : List UInt8), x ∈ splitG c cur l → d ∈ x → d ∈ cur ∨ d ∈ l
  | [], cur, x, h, hd => by
    simp [splitG] at h
    subst h
    exact .inl hd
  | e :: l, cur, x, h, hd => by
    unfold splitG at h
    split at h
    · rcases List.mem_cons.1 h with h | h
      · subst h; exact .inl hd
      · rcases splitG_sub l [] x h hd with h | h
        · cases h
        · exact .inr (List.mem_cons_of_mem _ h)
    · rcases splitG_sub l _ x h hd with h | h
      · rcases List.mem_append.1 h with h | h
        · exact .inl h
        · rw [List.mem_singleton] at h; subst h; exact .inr List.mem_cons_self
      · exact .inr (List.mem_cons_of_mem _ h)
theorem splitG_none {c : UInt8} : ∀ (l cur : List UInt8), ¬ c ∈ l → splitG c cur l = [cur ++ l]
  | [], cur, _ => by simp [splitG]
  | e :: l, cur, h => by
    simp only [List.mem_cons, not_or] at h
    unfold splitG
    rw [if_neg (fun x => h.1 x.symm), splitG_none l _ h.2]
    simp
theorem splitL_none {c : UInt8} (l : List UInt8) (h : ¬ c ∈ l) : splitL c l = [l] := by rw [splitL, splitG_none l [] h]; simp
/-! ### Digits and groups that are none -/
theorem okN_dig {l : List UInt8} (h : okN l = true) : l.all dig = true := by
  cases ha : l.all dig with
  | true => rfl
  | false =>
    have := numRes_no l 255 ha
    unfold okN at h
    rw [this] at h
    cases h
theorem okN_has {l : List UInt8} {d : UInt8} (hd : dig d = false) (h : d ∈ l) : okN l = false := by
  cases ho : okN l with
  | false => rfl
  | true =>
    have := okN_dig ho
    rw [List.all_eq_true] at this
    rw [this d h] at hd
    cases hd
theorem four_has {s : List UInt8} {d : UInt8} (hd : dig d = false) (h46 : d ≠ 46) (h : d ∈ s) : fourP (splitL 46 s) = none := by
  obtain ⟨x, hx, h2⟩ := splitG_has h46 s [] h
  unfold fourP
  rw [if_neg]
  rintro ⟨_, h3⟩
  rw [List.all_eq_true] at h3
  have := h3 x hx
  rw [okN_has hd h2] at this
  cases this
theorem four_nodot {s : List UInt8} (h : ¬ 46 ∈ s) : fourP (splitL 46 s) = none := by
  rw [splitL_none s h]
  unfold fourP
  rw [if_neg]
  rintro ⟨h2, _⟩
  simp at h2
theorem hexG_has {l : List UInt8} {d : UInt8} (hd : hexV d < 0) (h : d ∈ l) : hexG l = none := by
  obtain ⟨k, hk, e⟩ := List.getElem_of_mem h
  exact hexG_bad (k := k) (c := d) (by rw [List.getElem?_eq_getElem hk, e]) hd
theorem hexG_two {l x : List UInt8} (h : hexG l = some x) : x.length = 2 := by
  unfold hexG at h
  split at h
  · cases h
  · split at h
    · cases h; rfl
    · cases h
theorem fourP_len {p : List (List UInt8)} {x : List UInt8} (h : fourP p = some x) : x.length = 4 := by
  unfold fourP at h
  split at h
  · rename_i h4
    cases h
    rw [List.length_map]; exact h4.1
  · cases h
theorem partG_two {t : Bool} {l x : List UInt8} (h : partG t l = some x) : 2 ≤ x.length := by
  unfold partG at h
  split at h
  · cases e : fourP (splitL 46 l) with
    | some f => rw [e] at h; cases h; rw [fourP_len e]; decide
    | none => rw [e] at h; rw [hexG_two h]; exact Nat.le_refl _
  · rw [hexG_two h]; exact Nat.le_refl _
theorem accG_two {last : Bool} {P : List (List UInt8)} : ∀ {k : Nat} {a : List UInt8}, accG last P k = some a → 2 * k ≤ a.length
  | 0, a, h => by simp
  | k + 1, a, h => by
    unfold accG at h
    split at h
    · cases h
    · rename_i b hb
      split at h
      · cases h
      · rename_i x hx
        cases h
        have := accG_two hb
        have := partG_two hx
        simp
        omega
/-! ### Groups, the program's way -/
def hexAll : List (List UInt8) → Option (List UInt8)
  | [] => some []
  | l :: r => match hexG l, hexAll r with
    | some a, some b => some (a ++ b)
    | _, _ => none
theorem hexAll_snoc (l : List UInt8) : ∀ P : List (List UInt8), hexAll (P ++ [l]) = match hexAll P, hexG l with
    | some a, some b => some (a ++ b)
    | _, _ => none
  | [] => by simp only [hexAll, List.nil_append]; cases hexG l <;> simp
  | q :: P => by
    simp only [List.cons_append, hexAll, hexAll_snoc l P]
    cases hexG q <;> cases hexAll P <;> cases hexG l <;> simp
theorem hexAll_no {P : List (List UInt8)} {l : List UInt8} (h : l ∈ P) (hl : hexG l = none) : hexAll P = none := by
  induction P with
  | nil => cases h
  | cons q P ih =>
    rcases List.mem_cons.1 h with h | h
    · subst h; simp [hexAll, hl]
    · simp only [hexAll, ih h]; cases hexG q <;> rfl
theorem hexAll_len {P : List (List UInt8)} : ∀ {a : List UInt8}, hexAll P = some a → a.length = 2 * P.length := by
  induction P with
  | nil => intro a h; cases h; rfl
  | cons q P ih =>
    intro a h
    unfold hexAll at h
    split at h
    · rename_i x y hx hy
      cases h
      have := hexG_two hx
      have := ih hy
      simp
      omega
    · cases h
/-- What parseGroups answers. -/
def pgP (s : List UInt8) : Option (List UInt8) :=
  if s = [] then some [] else
  match fourP (splitL 46 ((cutN 58 9 s).getLastD [])) with
  | some f => (hexAll (cutN 58 9 s).dropLast).map (· ++ f)
  | none => hexAll (cutN 58 9 s)
theorem accG_hex {last : Bool} {P : List (List UInt8)} : ∀ k, k ≤ P.length → (last = true → k + 1 ≤ P.length) → accG last P k = hexAll (P.take k)
  | 0, _, _ => by simp [accG, hexAll]
  | k + 1, h, h2 => by
    have ih := accG_hex (last := last) (P := P) k (by omega) (fun e => by have := h2 e; omega)
    have hk : k < P.length := by omega
    have ht : P.take (k + 1) = P.take k ++ [P[k]] := List.take_succ_eq_append_getElem hk
    have hf : (last && decide (k + 1 = P.length)) = false := by
      cases last with
      | false => rfl
      | true => have := h2 rfl; simp; omega
    have hg : P.getD k [] = P[k] := by simp [List.getD_eq_getElem?_getD, List.getElem?_eq_getElem hk]
    have hpf : ∀ l, partG false l = hexG l := fun l => rfl
    rw [accG, ih, ht, hexAll_snoc, hf, hg, hpf]
    cases hexAll (P.take k) <;> simp
    cases hexG P[k] <;> simp
theorem accG_full (P : List (List UInt8)) (h : 1 ≤ P.length) : accG true P P.length = match fourP (splitL 46 (P.getLastD [])) with
    | some f => (hexAll P.dropLast).map (· ++ f)
    | none => hexAll P := by
  obtain ⟨k, hk⟩ : ∃ k, P.length = k + 1 := ⟨P.length - 1, by omega⟩
  have hlt : k < P.length := by omega
  have hg : P.getD k [] = P[k] := by simp [List.getD_eq_getElem?_getD, List.getElem?_eq_getElem hlt]
  have hl : P.getLastD [] = P[k] := by
    rw [List.getLastD_eq_getLast?, List.getLast?_eq_getElem?, hk]
    simp [List.getElem?_eq_getElem hlt]
  have hd : P.dropLast = P.take k := by rw [List.dropLast_eq_take, hk]; rfl
  have hall : P = P.take k ++ [P[k]] := by
    have := List.take_succ_eq_append_getElem hlt
    rw [← this, ← hk, List.take_length]
  have ha := accG_hex (last := true) (P := P) k (by omega) (fun _ => by omega)
  have hf : (true && decide (k + 1 = P.length)) = true := by simp; omega
  have e1 : accG true P P.length = match accG true P k with
      | none => none
      | some a => match partG true P[k] with
        | none => none
        | some x => some (a ++ x) := by
    rw [hk, accG, hf, hg]
    cases accG true P k with
    | none => rfl
    | some a => simp only []; cases partG true P[k] <;> rfl
  rw [e1, ha, hl, hd]
  cases h4 : fourP (splitL 46 P[k]) with
  | some f =>
    rw [partG_four h4]
    cases hexAll (P.take k) <;> rfl
  | none =>
    rw [partG_hex fun _ => h4]
    have := hexAll_snoc P[k] (P.take k)
    rw [← hall] at this
    rw [this]
    cases hexAll (P.take k) <;> simp
    cases hexG P[k] <;> simp
theorem pgP_few {s : List UInt8} (h : (splitL 58 s).length ≤ 9) : pgP s = groupsP true s := by
  unfold pgP groupsP
  split
  · rfl
  · rw [cutN_few 58 9 s h, accG_full _ (splitL_len 58 s).1]
theorem hexV_58 : hexV 58 < 0 := by decide
theorem hexV_46 : hexV 46 < 0 := by decide
theorem pgP_many {s : List UInt8} (h : 9 < (splitL 58 s).length) : pgP s = none := by
  unfold pgP
  have hne : s ≠ [] := by rintro rfl; simp [splitL, splitG] at h
  obtain ⟨h1, q, x, h2, h3⟩ := cutN_many 58 9 s (by omega) h
  have hl : (cutN 58 9 s).getLastD [] = x := by rw [h2]; simp
  rw [if_neg hne, hl, four_has (d := 58) (by decide) (by decide) h3, h2]
  exact hexAll_no (l := x) (by simp) (hexG_has hexV_58 h3)
theorem groupsP_many {last : Bool} {s b : List UInt8} (h : 9 < (splitL 58 s).length) (hb : groupsP last s = some b) : 16 < b.length := by
  unfold groupsP at hb
  have hne : s ≠ [] := by rintro rfl; simp [splitL, splitG] at h
  rw [if_neg hne] at hb
  have := accG_two hb
  omega
theorem groupsP_nodot {s : List UInt8} (h : ¬ 46 ∈ s) : groupsP true s = groupsP false s := by
  unfold groupsP
  split
  · rfl
  · have hl := (splitL_len 58 s).1
    rw [accG_full _ hl, accG_hex (last := false) _ (Nat.le_refl _) (fun h => by cases h), List.take_length]
    have : ¬ 46 ∈ (splitL 58 s).getLastD [] := by
      intro h3
      obtain ⟨x, r, hx⟩ : ∃ x r, splitL 58 s = r ++ [x] := ⟨_, _, (List.dropLast_concat_getLast (l := splitL 58 s) (by intro e; rw [e] at hl; simp at hl)).symm⟩
      rw [hx] at h3
      simp at h3
      rcases splitG_sub (c := 58) (d := 46) s [] x (by show x ∈ splitL 58 s; rw [hx]; simp) h3 with h4 | h4
      · cases h4
      · exact h h4
    rw [four_nodot this]
theorem groupsP_dot {s : List UInt8} (h : 46 ∈ s) : groupsP false s = none := by
  have hne : s ≠ [] := by rintro rfl; cases h
  unfold groupsP
  rw [if_neg hne, accG_hex (last := false) _ (Nat.le_refl _) (fun h => by cases h), List.take_length]
  obtain ⟨x, hx, h2⟩ := splitG_has (c := 58) (d := 46) (by decide) s [] h
  exact hexAll_no hx (hexG_has hexV_46 h2)
/-! ### An address, the program's way -/
def full16 (r : Option (List UInt8)) : Option (List UInt8) := match r with
  | some b => if b.length = 16 then some b else none
  | none => none
def bothP (a b : Option (List UInt8)) : Option (List UInt8) := match a, b with
  | some x, some y => if 14 < x.length + y.length then none else some (x ++ List.replicate (16 - x.length - y.length) 0 ++ y)
  | _, _ => none
def longP (s : List UInt8) : Option (List UInt8) :=
  if (Lib.cut s [58, 58]).2.2 = true then
    (if 46 ∈ (Lib.cut s [58, 58]).1 then none else bothP (pgP (Lib.cut s [58, 58]).1) (pgP (Lib.cut s [58, 58]).2.1))
  else full16 (pgP s)
def addrP (s : List UInt8) : Option (List UInt8) := if 58 ∈ s then longP s else fourP (splitL 46 s)
theorem full16_pg (s : List UInt8) : full16 (pgP s) = full16 (groupsP true s) := by
  by_cases h : (splitL 58 s).length ≤ 9
  · rw [pgP_few h]
  · rw [pgP_many (by omega)]
    cases hb : groupsP true s with
    | none => rfl
    | some b =>
      have := groupsP_many (by omega) hb
      unfold full16
      simp only
      rw [if_neg (by omega)]
theorem both_pg (a b : List UInt8) (ha : ¬ 46 ∈ a) : bothP (pgP a) (pgP b) = bothP (groupsP false a) (groupsP true b) := by
  rw [← groupsP_nodot ha]
  have big : ∀ x y : List UInt8, 16 < x.length ∨ 16 < y.length → bothP (some x) (some y) = none := fun x y h => by
    unfold bothP
    simp only
    rw [if_pos (by omega)]
  have n1 : ∀ r, bothP none r = none := fun r => by cases r <;> rfl
  have n2 : ∀ r, bothP r none = none := fun r => by cases r <;> rfl
  by_cases h1 : (splitL 58 a).length ≤ 9
  · rw [pgP_few h1]
    by_cases h2 : (splitL 58 b).length ≤ 9
    · rw [pgP_few h2]
    · rw [pgP_many (s := b) (by omega), n2]
      cases hb : groupsP true b with
      | none => rw [n2]
      | some y =>
        cases hx : groupsP true a with
        | none => rw [n1]
        | some x => rw [big x y (.inr (groupsP_many (by omega) hb))]
  · rw [pgP_many (s := a) (by omega), n1]
    cases hx : groupsP true a with
    | none => rw [n1]
    | some x =>
      cases hb : groupsP true b with
      | none => rw [n2]
      | some y => rw [big x y (.inl (groupsP_many (by omega) hx))]
theorem cc_occ (s : List UInt8) (k : Nat) : ccAt s k = Lib.occAt s [58, 58] k := by
  unfold ccAt Lib.occAt
  have e0 : s[k]? = (s.drop k)[0]? := by simp
  have e1 : s[k + 1]? = (s.drop k)[1]? := by simp
  rw [e0, e1]
  generalize s.drop k = t
  match t with
  | [] => rfl
  | [x] => simp [List.isPrefixOf]
  | x :: y :: t =>
    simp only [List.getElem?_cons_zero, List.getElem?_cons_succ, Option.some.injEq, List.isPrefixOf, Bool.and_true]
    have : ∀ z : UInt8, decide (z = 58) = (58 == z) := fun z => by
      by_cases h : z = 58
      · subst h; rfl
      · have h' : ¬ 58 = z := fun e => h e.symm
        simp [h, h']
    rw [this, this]
theorem addrP_parse (s : List UInt8) : addrP s = parseP s := by
  unfold addrP
  by_cases h58 : 58 ∈ s
  · rw [if_pos h58]
    have hf : fourP (splitL 46 s) = none := four_has (d := 58) (by decide) (by decide) h58
    unfold parseP
    rw [hf]
    simp only
    unfold longP
    rcases Lib.index_spec s [58, 58] with ⟨hi, hno⟩ | ⟨i, hi, hle, hocc, hno⟩
    · have hc : Lib.cut s [58, 58] = (s, [], false) := by unfold Lib.cut; rw [hi, if_neg (by decide)]
      have hfind : (List.range s.length).find? (ccAt s) = none := cc_none (k := s.length) (fun j hj => by rw [cc_occ]; exact hno j (by omega)) (by omega)
      rw [hc, hfind, if_neg (by simp)]
      rw [full16_pg]
      rfl
    · have hc : Lib.cut s [58, 58] = (s.take i, s.drop (i + 2), true) := by unfold Lib.cut; rw [hi, if_pos (by omega)]; simp
      have hfind : (List.range s.length).find? (ccAt s) = some i := cc_some (k := i) (fun j hj => by rw [cc_occ]; exact hno j hj) (by rw [cc_occ]; exact hocc)
      rw [hc, hfind, if_pos rfl]
      simp only
      unfold dblP
      by_cases hd : 46 ∈ s.take i
      · rw [if_pos hd, groupsP_dot hd]
      · rw [if_neg hd, both_pg _ _ hd]
        rfl
  · rw [if_neg h58]
    unfold parseP
    cases hf : fourP (splitL 46 s) with
    | some f => rfl
    | none =>
      have hfind : (List.range s.length).find? (ccAt s) = none := cc_none (k := s.length) (fun j hj => by
        unfold ccAt
        have : ¬ s[j]? = some 58 := fun e => h58 (List.mem_of_getElem? e)
        simp [this]) (by omega)
      rw [hfind]
      simp only
      cases hg : groupsP true s with
      | none => rfl
      | some b =>
        simp only
        rw [if_neg]
        intro h16
        unfold groupsP at hg
        split at hg
        · cases hg; simp at h16
        · rw [splitL_none s h58] at hg
          have := accG_len hg
          simp at this
          omega
end Go.Tx

namespace Go.Proofs.YtabkdaaenikliaaGreatDoor
open Go.RowKit Go.Lib Go.Tx Go.Rb
def lowerN (c : UInt8) : UInt8 := c ||| 32
theorem bits_all : ∀ i : Fin 256, bits .or .u8 (i.1 : Int) 32 = ((lowerN (UInt8.ofNat i.1)).toNat : Int) := by decide +kernel
theorem lower_any (c : UInt8) (w : World) : Calls Tryz.prog 104 #[.int .u8 (c.toNat : Int)] w fun e w' => e = .returned (.int .u8 ((lowerN c).toNat : Int)) ∧ w' = w := by
  have hb : bits .or .u8 (c.toNat : Int) 32 = ((lowerN c).toNat : Int) := by
    have := bits_all ⟨c.toNat, c.toNat_lt⟩
    simpa using this
  go_enter Tryz.func104, Tryz.ntmps104
  go_wp2
  go_ret
  exact ⟨by rw [← hb]; rfl, rfl⟩
theorem low_all : ∀ i : Fin 256, (65 ≤ i.1 ∧ i.1 ≤ 90 → (lowerN (UInt8.ofNat i.1)).toNat = i.1 + 32) ∧ (97 ≤ i.1 ∧ i.1 ≤ 122 → (lowerN (UInt8.ofNat i.1)).toNat = i.1) ∧ (¬ (65 ≤ i.1 ∧ i.1 ≤ 90) → ¬ (97 ≤ i.1 ∧ i.1 ≤ 122) → (lowerN (UInt8.ofNat i.1)).toNat < 97 ∨ 122 < (lowerN (UInt8.ofNat i.1)).toNat) := by decide +kernel
theorem low_cls (c : UInt8) : (65 ≤ c.toNat ∧ c.toNat ≤ 90 → (lowerN c).toNat = c.toNat + 32) ∧ (97 ≤ c.toNat ∧ c.toNat ≤ 122 → (lowerN c).toNat = c.toNat) ∧ (¬ (65 ≤ c.toNat ∧ c.toNat ≤ 90) → ¬ (97 ≤ c.toNat ∧ c.toNat ≤ 122) → (lowerN c).toNat < 97 ∨ 122 < (lowerN c).toNat) := by
  have := low_all ⟨c.toNat, c.toNat_lt⟩
  simpa using this
theorem lower95 (w : World) : Calls Tryz.prog 104 #[.int .u8 95] w fun e w' => e = .returned (.int .u8 127) ∧ w' = w := by
  have := lower_any 95 w
  have e1 : ((95 : UInt8).toNat : Int) = 95 := by decide
  have e2 : ((lowerN 95).toNat : Int) = 127 := by decide
  rw [e1, e2] at this
  exact this
theorem lower96 (w : World) : Calls Tryz.prog 104 #[.int .u8 96] w fun e w' => e = .returned (.int .u8 96) ∧ w' = w := by
  have := lower_any 96 w
  have e1 : ((96 : UInt8).toNat : Int) = 96 := by decide
  have e2 : ((lowerN 96).toNat : Int) = 96 := by decide
  rw [e1, e2] at this
  exact this
/-- What a text of digits says, or that it says nothing. -/
def hex16 (l : List UInt8) : Bool := decide (l ≠ []) && hexOk l && decide (hexA l ≤ 65535)
def PuR (l : List UInt8) (w : World) (e : Ending) (w' : World) : Prop :=
  Below w.heap.size w w' ∧ (if hex16 l = true then e = .returned (.tuple #[.int .u64 (hexA l), .nilIface]) else ∃ x n : Int, (n = 1 ∨ n = 2) ∧ e = .returned (.tuple #[.int .u64 x, .iface 169 (.int .i64 n)]))
theorem hexA_from (l : List UInt8) : ∀ a, (∀ c ∈ l, 0 ≤ hexV c) → 0 ≤ a → a ≤ l.foldl (fun n c => 16 * n + hexV c) a := by
  induction l with
  | nil => intro a _ h; exact Int.le_refl _
  | cons c l ih =>
    intro a h h0
    have hc := h c (by simp)
    have := ih (16 * a + hexV c) (fun d hd => h d (by simp [hd])) (by omega)
    simp only [List.foldl_cons]
    omega
theorem hexA_big (l : List UInt8) (k : Nat) (hok : hexOk l = true) (h : 65535 < hexA (l.take k)) : 65535 < hexA l := by
  have e : hexA l = (l.drop k).foldl (fun n c => 16 * n + hexV c) (hexA (l.take k)) := by
    unfold hexA
    rw [← List.foldl_append, List.take_append_drop]
  unfold hexOk at hok
  rw [List.all_eq_true] at hok
  have := hexA_from (l.drop k) (hexA (l.take k)) (fun c hc => by simpa using hok c (List.mem_of_mem_drop hc)) (by omega)
  omega
theorem hex16_bad {l : List UInt8} {k : Nat} {c : UInt8} (h : l[k]? = some c) (hc : hexV c < 0) : hex16 l = false := by
  unfold hex16
  have : hexOk l = false := by
    unfold hexOk
    rw [List.all_eq_false]
    exact ⟨c, List.mem_of_getElem? h, by simp; omega⟩
  rw [this]; simp
theorem hex16_big {l : List UInt8} {k : Nat} (h : 65535 < hexA (l.take k)) : hex16 l = false := by
  unfold hex16
  cases hok : hexOk l with
  | false => simp
  | true =>
    have := hexA_big l k hok h
    have e : decide (hexA l ≤ 65535) = false := decide_eq_false (by omega)
    rw [e]; simp
theorem hexA_step (l : List UInt8) (k : Nat) (c : UInt8) (h : l[k]? = some c) : hexA (l.take (k + 1)) = 16 * hexA (l.take k) + hexV c := by
  rw [List.take_add_one, h]
  exact hexA_snoc _ _
set_option maxHeartbeats 4000000 in
set_option maxRecDepth 100000 in
theorem pu16_any (s : ByteArray) (w : World) (hs : s.size ≤ 1000000) : Calls Tryz.prog 87 #[.string s, .int .i64 16, .int .i64 16] w (PuR s.data.toList w) := by
  by_cases h0 : s = ⟨#[]⟩
  · subst h0
    go_enter Tryz.func87, Tryz.ntmps87
    go_wp2
    go_ret2
    exact ⟨Below.refl _ _, by rw [if_neg (by decide)]; exact ⟨0, 2, .inr rfl, rfl⟩⟩
  · have hne : s.data.toList ≠ [] := fun h => h0 (by cases s; simp at h; simp [h])
    have e2 : s.toList.isEmpty = false := by
      rw [Go.Lib.toList_data]
      cases hh : s.data.toList with
      | nil => exact absurd hh hne
      | cons x y => rfl
    obtain ⟨cap, o, hconv, hcap, hrow⟩ := RowB.made (P := Tryz.prog) s w Tryz.underlying9 Tryz.underlying41 Tryz.underlying5
    have hr2 : RowB 5 (w.alloc o).drew w.heap.size cap s.data.toList := hrow
    have HR := Lib.hid hr2
    have HNe := Lib.hid hne
    have HB : Hid (Below w.heap.size w (w.alloc o).drew) := Lib.hid (((Below.refl _ _).alloc (Nat.le_refl _) _).drew)
    clear hrow hr2 hne h0
    go_enter Tryz.func87, Tryz.ntmps87
    go_wp2
    go_loop [12, 13, 101] (fun us nv i => ∃ (k : Nat) (n : Int), k ≤ s.size ∧ i = .int .i64 k ∧ us = .bool false ∧ nv = .int .u64 n ∧ 0 ≤ n ∧ n ≤ 65535 ∧ Hid (n = hexA (s.data.toList.take k)) ∧ Hid (∀ j c, j < k → s.data.toList[j]? = some c → 0 ≤ hexV c)) (fun _ _ i => s.size - (intOf i).toNat)
    case atStart => exact ⟨0, 0, Nat.zero_le _, rfl, rfl, rfl, by omega, by omega, Lib.hid rfl, Lib.hid (by omega)⟩
    case round =>
      obtain ⟨k, n, hk, rfl, rfl, rfl, hn0, hn1, hn, hall⟩ := hrel
      by_cases hlt : k < s.size
      · have HK : Hid (s.data.toList[k]? = some s[k]) := Lib.hid (List.getElem?_eq_getElem hlt)
        have hcell := HR.out.cell HK.out
        have hu := s[k].toNat_lt
        generalize s[k] = c at HK hcell hu
        have hc : (48 ≤ c.toNat ∧ c.toNat ≤ 57) ∨ (97 ≤ c.toNat ∧ c.toNat ≤ 102) ∨ (65 ≤ c.toNat ∧ c.toNat ≤ 70) ∨ (103 ≤ c.toNat ∧ c.toNat ≤ 122) ∨ (71 ≤ c.toNat ∧ c.toNat ≤ 90) ∨ (c.toNat < 48) ∨ (57 < c.toNat ∧ c.toNat < 65) ∨ (90 < c.toNat ∧ c.toNat < 95) ∨ c.toNat = 96 ∨ c.toNat = 95 ∨ 122 < c.toNat := by omega
        rcases hc with ⟨b1, b2⟩ | ⟨b1, b2⟩ | ⟨b1, b2⟩ | ⟨b1, b2⟩ | ⟨b1, b2⟩ | b1 | ⟨b1, b2⟩ | ⟨b1, b2⟩ | b1 | b1 | b1
        · skip
          have a1 : (48 : Int) ≤ (c.toNat : Int) := by omega
          have a2 : (c.toNat : Int) ≤ 57 := by omega
          have hv : hexV c = (c.toNat : Int) - 48 := by unfold hexV; rw [if_pos ⟨by omega, by omega⟩]
          have HV := Lib.hid hv
          have hv2 := hexV_bd c
          have HS := Lib.hid (hexA_step s.data.toList k c HK.out)
          by_cases hbig : 65535 < n * 16 + hexV c
          · have hb1 : 65535 < n * 16 + ((c.toNat : Int) - 48) := by omega
            have HBig : Hid (hex16 s.data.toList = false) := Lib.hid (hex16_big (k := k + 1) (by rw [HS.out, ← hn.out]; omega))
            clear hv hv2 hbig
            go_wp2
            go_ret2
            exact ⟨HB.out, by rw [if_neg (by rw [HBig.out]; decide)]; exact ⟨_, 1, .inl rfl, rfl⟩⟩
          · have hb1 : ¬ 65535 < n * 16 + ((c.toNat : Int) - 48) := by omega
            clear hv hv2 hbig
            go_wp2
            go_round
            case rel => exact ⟨k + 1, n * 16 + ((c.toNat : Int) - 48), hlt, by go_num, rfl, by first | rfl | (congr 1; omega), by omega, by omega, Lib.hid (by rw [HS.out, ← hn.out, HV.out]; omega), Lib.hid (by
              intro j d hj hd
              by_cases e : j = k
              · subst e
                have := HK.out
                rw [this] at hd
                cases hd
                rw [HV.out]; omega
              · exact hall.out j d (by omega) hd)⟩
            case measure => simp [intOf]; omega
        · skip
          have a1 : (97 : Int) ≤ (c.toNat : Int) := by omega
          have a2 : (c.toNat : Int) ≤ 102 := by omega
          have HLow : Hid (((lowerN c).toNat : Int) = (c.toNat : Int)) := Lib.hid (by have := (low_cls c).2.1 ⟨by omega, by omega⟩; omega)
          have hv : hexV c = (c.toNat : Int) - 87 := by unfold hexV; rw [if_neg (by omega), if_pos ⟨by omega, by omega⟩]
          have HV := Lib.hid hv
          have hv2 := hexV_bd c
          have HS := Lib.hid (hexA_step s.data.toList k c HK.out)
          by_cases hbig : 65535 < n * 16 + hexV c
          · have hb1 : 65535 < n * 16 + ((c.toNat : Int) - 87) := by omega
            have HBig : Hid (hex16 s.data.toList = false) := Lib.hid (hex16_big (k := k + 1) (by rw [HS.out, ← hn.out]; omega))
            clear hv hv2 hbig
            go_wp2_with (go_at_call 104; refine (lower_any c _).mono ?_; rw [HLow.out]; rintro e w3 ⟨rfl, rfl⟩)
            go_ret2
            exact ⟨HB.out, by rw [if_neg (by rw [HBig.out]; decide)]; exact ⟨_, 1, .inl rfl, rfl⟩⟩
          · have hb1 : ¬ 65535 < n * 16 + ((c.toNat : Int) - 87) := by omega
            clear hv hv2 hbig
            go_wp2_with (go_at_call 104; refine (lower_any c _).mono ?_; rw [HLow.out]; rintro e w3 ⟨rfl, rfl⟩)
            go_round
            case rel => exact ⟨k + 1, n * 16 + ((c.toNat : Int) - 87), hlt, by go_num, rfl, by first | rfl | (congr 1; omega), by omega, by omega, Lib.hid (by rw [HS.out, ← hn.out, HV.out]; omega), Lib.hid (by
              intro j d hj hd
              by_cases e : j = k
              · subst e
                have := HK.out
                rw [this] at hd
                cases hd
                rw [HV.out]; omega
              · exact hall.out j d (by omega) hd)⟩
            case measure => simp [intOf]; omega
        · skip
          have a1 : (65 : Int) ≤ (c.toNat : Int) := by omega
          have a2 : (c.toNat : Int) ≤ 70 := by omega
          have HLow : Hid (((lowerN c).toNat : Int) = (c.toNat : Int) + 32) := Lib.hid (by have := (low_cls c).1 ⟨by omega, by omega⟩; omega)
          have hv : hexV c = (c.toNat : Int) - 55 := by unfold hexV; rw [if_neg (by omega), if_neg (by omega), if_pos ⟨by omega, by omega⟩]
          have HV := Lib.hid hv
          have hv2 := hexV_bd c
          have HS := Lib.hid (hexA_step s.data.toList k c HK.out)
          by_cases hbig : 65535 < n * 16 + hexV c
          · have hb1 : 65535 < n * 16 + ((c.toNat : Int) - 55) := by omega
            have HBig : Hid (hex16 s.data.toList = false) := Lib.hid (hex16_big (k := k + 1) (by rw [HS.out, ← hn.out]; omega))
            clear hv hv2 hbig
            go_wp2_with (go_at_call 104; refine (lower_any c _).mono ?_; rw [HLow.out]; rintro e w3 ⟨rfl, rfl⟩)
            go_ret2
            exact ⟨HB.out, by rw [if_neg (by rw [HBig.out]; decide)]; exact ⟨_, 1, .inl rfl, rfl⟩⟩
          · have hb1 : ¬ 65535 < n * 16 + ((c.toNat : Int) - 55) := by omega
            clear hv hv2 hbig
            go_wp2_with (go_at_call 104; refine (lower_any c _).mono ?_; rw [HLow.out]; rintro e w3 ⟨rfl, rfl⟩)
            go_round
            case rel => exact ⟨k + 1, n * 16 + ((c.toNat : Int) - 55), hlt, by go_num, rfl, by first | rfl | (congr 1; omega), by omega, by omega, Lib.hid (by rw [HS.out, ← hn.out, HV.out]; omega), Lib.hid (by
              intro j d hj hd
              by_cases e : j = k
              · subst e
                have := HK.out
                rw [this] at hd
                cases hd
                rw [HV.out]; omega
              · exact hall.out j d (by omega) hd)⟩
            case measure => simp [intOf]; omega
        · skip
          have a1 : (103 : Int) ≤ (c.toNat : Int) := by omega
          have a2 : (c.toNat : Int) ≤ 122 := by omega
          have HLow : Hid (((lowerN c).toNat : Int) = (c.toNat : Int)) := Lib.hid (by have := (low_cls c).2.1 ⟨by omega, by omega⟩; omega)
          have hv : hexV c < 0 := by unfold hexV; repeat' split
                                     all_goals omega
          have HBad : Hid (hex16 s.data.toList = false) := Lib.hid (hex16_bad HK.out hv)
          clear hv
          go_wp2_with (go_at_call 104; refine (lower_any c _).mono ?_; rw [HLow.out]; rintro e w3 ⟨rfl, rfl⟩)
          all_goals (go_ret2; exact ⟨HB.out, by rw [if_neg (by rw [HBad.out]; decide)]; exact ⟨_, 2, .inr rfl, rfl⟩⟩)
        · skip
          have a1 : (71 : Int) ≤ (c.toNat : Int) := by omega
          have a2 : (c.toNat : Int) ≤ 90 := by omega
          have HLow : Hid (((lowerN c).toNat : Int) = (c.toNat : Int) + 32) := Lib.hid (by have := (low_cls c).1 ⟨by omega, by omega⟩; omega)
          have hv : hexV c < 0 := by unfold hexV; repeat' split
                                     all_goals omega
          have HBad : Hid (hex16 s.data.toList = false) := Lib.hid (hex16_bad HK.out hv)
          clear hv
          go_wp2_with (go_at_call 104; refine (lower_any c _).mono ?_; rw [HLow.out]; rintro e w3 ⟨rfl, rfl⟩)
          all_goals (go_ret2; exact ⟨HB.out, by rw [if_neg (by rw [HBad.out]; decide)]; exact ⟨_, 2, .inr rfl, rfl⟩⟩)
        · skip
          have a1 : (c.toNat : Int) < 48 := by omega
          have hL := (low_cls c).2.2 (by omega) (by omega)
          obtain ⟨y, hy⟩ : ∃ y : Nat, (lowerN c).toNat = y := ⟨_, rfl⟩
          have HLow : Hid (((lowerN c).toNat : Int) = (y : Int)) := Lib.hid (by omega)
          have hy2 := (lowerN c).toNat_lt
          rw [hy] at hL hy2
          clear hy
          have hv : hexV c < 0 := by unfold hexV; repeat' split
                                     all_goals omega
          have HBad : Hid (hex16 s.data.toList = false) := Lib.hid (hex16_bad HK.out hv)
          clear hv
          rcases hL with hL | hL
          · have hy3 : (y : Int) < 97 := by omega
            go_wp2_with (go_at_call 104; refine (lower_any c _).mono ?_; rw [HLow.out]; rintro e w3 ⟨rfl, rfl⟩)
            all_goals (go_ret2; exact ⟨HB.out, by rw [if_neg (by rw [HBad.out]; decide)]; exact ⟨_, 2, .inr rfl, rfl⟩⟩)

          · have hy3 : (122 : Int) < (y : Int) := by omega
            have hy4 : (97 : Int) ≤ (y : Int) := by omega
            go_wp2_with (go_at_call 104; refine (lower_any c _).mono ?_; rw [HLow.out]; rintro e w3 ⟨rfl, rfl⟩)
            all_goals (go_ret2; exact ⟨HB.out, by rw [if_neg (by rw [HBad.out]; decide)]; exact ⟨_, 2, .inr rfl, rfl⟩⟩)

        · skip
          have a1 : (57 : Int) < (c.toNat : Int) := by omega
          have a2 : (c.toNat : Int) < 65 := by omega
          have hL := (low_cls c).2.2 (by omega) (by omega)
          obtain ⟨y, hy⟩ : ∃ y : Nat, (lowerN c).toNat = y := ⟨_, rfl⟩
          have HLow : Hid (((lowerN c).toNat : Int) = (y : Int)) := Lib.hid (by omega)
          have hy2 := (lowerN c).toNat_lt
          rw [hy] at hL hy2
          clear hy
          have hv : hexV c < 0 := by unfold hexV; repeat' split
                                     all_goals omega
          have HBad : Hid (hex16 s.data.toList = false) := Lib.hid (hex16_bad HK.out hv)
          clear hv
          rcases hL with hL | hL
          · have hy3 : (y : Int) < 97 := by omega
            go_wp2_with (go_at_call 104; refine (lower_any c _).mono ?_; rw [HLow.out]; rintro e w3 ⟨rfl, rfl⟩)
            all_goals (go_ret2; exact ⟨HB.out, by rw [if_neg (by rw [HBad.out]; decide)]; exact ⟨_, 2, .inr rfl, rfl⟩⟩)

          · have hy3 : (122 : Int) < (y : Int) := by omega
            have hy4 : (97 : Int) ≤ (y : Int) := by omega
            go_wp2_with (go_at_call 104; refine (lower_any c _).mono ?_; rw [HLow.out]; rintro e w3 ⟨rfl, rfl⟩)
            all_goals (go_ret2; exact ⟨HB.out, by rw [if_neg (by rw [HBad.out]; decide)]; exact ⟨_, 2, .inr rfl, rfl⟩⟩)

        · skip
          have a1 : (90 : Int) < (c.toNat : Int) := by omega
          have a2 : (c.toNat : Int) < 95 := by omega
          have hL := (low_cls c).2.2 (by omega) (by omega)
          obtain ⟨y, hy⟩ : ∃ y : Nat, (lowerN c).toNat = y := ⟨_, rfl⟩
          have HLow : Hid (((lowerN c).toNat : Int) = (y : Int)) := Lib.hid (by omega)
          have hy2 := (lowerN c).toNat_lt
          rw [hy] at hL hy2
          clear hy
          have hv : hexV c < 0 := by unfold hexV; repeat' split
                                     all_goals omega
          have HBad : Hid (hex16 s.data.toList = false) := Lib.hid (hex16_bad HK.out hv)
          clear hv
          rcases hL with hL | hL
          · have hy3 : (y : Int) < 97 := by omega
            go_wp2_with (go_at_call 104; refine (lower_any c _).mono ?_; rw [HLow.out]; rintro e w3 ⟨rfl, rfl⟩)
            all_goals (go_ret2; exact ⟨HB.out, by rw [if_neg (by rw [HBad.out]; decide)]; exact ⟨_, 2, .inr rfl, rfl⟩⟩)

          · have hy3 : (122 : Int) < (y : Int) := by omega
            have hy4 : (97 : Int) ≤ (y : Int) := by omega
            go_wp2_with (go_at_call 104; refine (lower_any c _).mono ?_; rw [HLow.out]; rintro e w3 ⟨rfl, rfl⟩)
            all_goals (go_ret2; exact ⟨HB.out, by rw [if_neg (by rw [HBad.out]; decide)]; exact ⟨_, 2, .inr rfl, rfl⟩⟩)

        · obtain rfl : c = 96 := UInt8.toNat_inj.1 b1
          have HBad : Hid (hex16 s.data.toList = false) := Lib.hid (hex16_bad HK.out (by decide))
          have e5 : ((96 : UInt8).toNat : Int) = 96 := by decide
          rw [e5] at hcell
          clear e5
          go_wp2_with (go_at_call 104; refine (lower96 _).mono ?_; rintro e w3 ⟨rfl, rfl⟩)
          all_goals (go_ret2; exact ⟨HB.out, by rw [if_neg (by rw [HBad.out]; decide)]; exact ⟨_, 2, .inr rfl, rfl⟩⟩)
        · obtain rfl : c = 95 := UInt8.toNat_inj.1 b1
          have HBad : Hid (hex16 s.data.toList = false) := Lib.hid (hex16_bad HK.out (by decide))
          have e5 : ((95 : UInt8).toNat : Int) = 95 := by decide
          rw [e5] at hcell
          clear e5
          go_wp2_with (go_at_call 104; refine (lower95 _).mono ?_; rintro e w3 ⟨rfl, rfl⟩)
          all_goals (go_ret2; exact ⟨HB.out, by rw [if_neg (by rw [HBad.out]; decide)]; exact ⟨_, 2, .inr rfl, rfl⟩⟩)
        · skip
          have a1 : (122 : Int) < (c.toNat : Int) := by omega
          have hL := (low_cls c).2.2 (by omega) (by omega)
          obtain ⟨y, hy⟩ : ∃ y : Nat, (lowerN c).toNat = y := ⟨_, rfl⟩
          have HLow : Hid (((lowerN c).toNat : Int) = (y : Int)) := Lib.hid (by omega)
          have hy2 := (lowerN c).toNat_lt
          rw [hy] at hL hy2
          clear hy
          have hv : hexV c < 0 := by unfold hexV; repeat' split
                                     all_goals omega
          have HBad : Hid (hex16 s.data.toList = false) := Lib.hid (hex16_bad HK.out hv)
          clear hv
          rcases hL with hL | hL
          · have hy3 : (y : Int) < 97 := by omega
            go_wp2_with (go_at_call 104; refine (lower_any c _).mono ?_; rw [HLow.out]; rintro e w3 ⟨rfl, rfl⟩)
            all_goals (go_ret2; exact ⟨HB.out, by rw [if_neg (by rw [HBad.out]; decide)]; exact ⟨_, 2, .inr rfl, rfl⟩⟩)

          · have hy3 : (122 : Int) < (y : Int) := by omega
            have hy4 : (97 : Int) ≤ (y : Int) := by omega
            go_wp2_with (go_at_call 104; refine (lower_any c _).mono ?_; rw [HLow.out]; rintro e w3 ⟨rfl, rfl⟩)
            all_goals (go_ret2; exact ⟨HB.out, by rw [if_neg (by rw [HBad.out]; decide)]; exact ⟨_, 2, .inr rfl, rfl⟩⟩)

      · obtain rfl : k = s.size := by omega
        have HOk : Hid (hex16 s.data.toList = true) := Lib.hid (by
          have ht : s.data.toList.take s.size = s.data.toList := List.take_of_length_le (Nat.le_refl _)
          have h1 := hn.out
          rw [ht] at h1
          have h2 : hexOk s.data.toList = true := by
            unfold hexOk
            rw [List.all_eq_true]
            intro c hc
            obtain ⟨j, hj, rfl⟩ := List.getElem_of_mem hc
            exact decide_eq_true (hall.out j _ (by simpa using hj) (List.getElem?_eq_getElem hj))
          unfold hex16
          rw [h2, ← h1, decide_eq_true HNe.out, decide_eq_true (by omega)]
          rfl)
        have HN : Hid (n = hexA s.data.toList) := Lib.hid (by
          have ht : s.data.toList.take s.size = s.data.toList := List.take_of_length_le (Nat.le_refl _)
          have h1 := hn.out
          rw [ht] at h1
          exact h1)
        go_wp2
        go_ret2
        exact ⟨HB.out, by rw [if_pos HOk.out, ← HN.out]; rfl⟩
end Go.Proofs.YtabkdaaenikliaaGreatDoor

namespace Go.Tx
open Go.Lib
/-! ### A decimal number of eight bits -/
theorem valF_ge : ∀ (l : List UInt8) (n : Nat), n * 10 ^ l.length ≤ valF n l
  | [], n => by simp [valF]
  | c :: l, n => by
    have h := valF_ge l (10 * n + (c.toNat - 48))
    have e : valF n (c :: l) = valF (10 * n + (c.toNat - 48)) l := rfl
    rw [e, List.length_cons, Nat.pow_succ, Nat.mul_comm (10 ^ l.length) 10, ← Nat.mul_assoc]
    exact Nat.le_trans (Nat.mul_le_mul_right _ (by omega)) h
theorem valF_le (l : List UInt8) (n : Nat) : n ≤ valF n l :=
  Nat.le_trans (Nat.le_mul_of_pos_right n (Nat.pow_pos (by omega))) (valF_ge l n)
theorem pum_cases : ∀ (l : List UInt8) (acc : Nat), acc ≤ 255 →
    (parseUintM 255 acc l = .ok (valF acc l) ∧ l.all dig = true ∧ valF acc l ≤ 255) ∨ ((∀ u, parseUintM 255 acc l ≠ .ok u) ∧ (l.all dig = false ∨ 255 < valF acc l))
  | [], acc, h => .inl ⟨rfl, rfl, h⟩
  | c :: l, acc, h => by
    unfold parseUintM
    by_cases hc : 48 ≤ c.toNat ∧ c.toNat ≤ 57
    · have hd : dig c = true := dig_of c (by omega) (by omega)
      rw [if_pos hc, if_neg (by omega)]
      have e : valF acc (c :: l) = valF (acc * 10 + (c.toNat - 48)) l := by rw [Nat.mul_comm]; rfl
      by_cases hm : 255 < acc * 10 + (c.toNat - 48)
      · rw [if_pos hm]
        refine .inr ⟨fun u h => by (cases h), .inr ?_⟩
        have := valF_le l (acc * 10 + (c.toNat - 48))
        rw [e]; omega
      · rw [if_neg hm, e]
        rcases pum_cases l (acc * 10 + (c.toNat - 48)) (by omega) with ⟨h1, h2, h3⟩ | ⟨h1, h2⟩
        · exact .inl ⟨h1, by rw [List.all_cons, hd, h2]; rfl, h3⟩
        · refine .inr ⟨h1, ?_⟩
          rcases h2 with h2 | h2
          · exact .inl (by rw [List.all_cons, h2, Bool.and_false])
          · exact .inr h2
    · rw [if_neg hc]
      refine .inr ⟨fun u h => by (cases h), .inl ?_⟩
      have : dig c = false := by
        by_cases h1 : (c.toNat : Int) < 48
        · exact dig_lo c h1
        · exact dig_hi c (by omega)
      rw [List.all_cons, this]; rfl
/-- strconv.ParseUint at base 10, 8 bits: the number, or none. -/
def short8 (l : List UInt8) : Option Nat := match parseUintB 8 l with
  | .ok u => some u
  | _ => none
theorem short8_some {l : List UInt8} {u : Nat} (h : short8 l = some u) : l ≠ [] ∧ l.all dig = true ∧ u = val l ∧ u ≤ 255 := by
  unfold short8 parseUintB at h
  by_cases hn : l = []
  · rw [if_pos hn] at h; cases h
  · rw [if_neg hn] at h
    rcases pum_cases l 0 (by omega) with ⟨h1, h2, h3⟩ | ⟨h1, h2⟩
    · rw [show (2 ^ 8 - 1 : Nat) = 255 from rfl, h1] at h
      cases h
      exact ⟨hn, h2, rfl, h3⟩
    · rw [show (2 ^ 8 - 1 : Nat) = 255 from rfl] at h
      cases hp : parseUintM 255 0 l
      case ok u => exact absurd hp (h1 u)
      all_goals (rw [hp] at h; cases h)
theorem short8_none {l : List UInt8} (h : short8 l = none) : okN l = false := by
  cases ho : okN l with
  | false => rfl
  | true =>
    have hd := okN_dig ho
    unfold okN numRes at ho
    split at ho
    · cases ho
    · split at ho
      · cases ho
      · rename_i hb hm
        have hn : l ≠ [] := by rintro rfl; exact hb rfl
        unfold short8 parseUintB at h
        rw [if_neg hn, show (2 ^ 8 - 1 : Nat) = 255 from rfl] at h
        rcases pum_cases l 0 (by omega) with ⟨h1, h2, h3⟩ | ⟨h1, h2⟩
        · rw [h1] at h; cases h
        · rcases h2 with h2 | h2
          · rw [hd] at h2; cases h2
          · have : (val l : Int) = ((valF 0 l : Nat) : Int) := rfl
            omega
theorem short8_ok {l : List UInt8} {u : Nat} (h : short8 l = some u) (hz : ¬ (l.head? = some 48 ∧ 1 < l.length)) : okN l = true ∧ ((byN l).toNat : Int) = u ∧ u ≤ 255 := by
  obtain ⟨hn, hd, hu, hb⟩ := short8_some h
  have h9 : l.length ≤ 9 := by
    cases l with
    | nil => exact absurd rfl hn
    | cons c r =>
      by_cases hr : r = []
      · subst hr; simp
      · have hrl : 1 ≤ r.length := List.length_pos_iff.2 hr
        have hc : dig c = true := by rw [List.all_cons, Bool.and_eq_true] at hd; exact hd.1
        have hc48 : c ≠ 48 := fun e => hz ⟨by rw [e]; rfl, by simp; omega⟩
        have hc2 : 49 ≤ c.toNat := by
          simp only [dig, Bool.and_eq_true, decide_eq_true_eq] at hc
          have : c.toNat ≠ 48 := fun e => hc48 (UInt8.toNat_inj.1 e)
          omega
        have hv := valF_ge r (10 * 0 + (c.toNat - 48))
        have e : val (c :: r) = valF (10 * 0 + (c.toNat - 48)) r := rfl
        rw [← e, ← hu] at hv
        by_cases h3 : r.length ≤ 8
        · simp; omega
        · have h10 : 10 ^ 3 ≤ 10 ^ r.length := Nat.pow_le_pow_right (by omega) (by omega)
          have : 1 * 10 ^ r.length ≤ (10 * 0 + (c.toNat - 48)) * 10 ^ r.length := Nat.mul_le_mul_right _ (by omega)
          omega
  have hl : 1 ≤ l.length := List.length_pos_iff.2 hn
  have hres := numRes_ok l 255 hl h9 hz hd
  rw [if_neg (by omega)] at hres
  have ho : okN l = true := by unfold okN; rw [hres]
  refine ⟨ho, ?_, hb⟩
  rw [byN_int l ho, hres, hu]
theorem okN_zero {l : List UInt8} (h1 : l.head? = some 48) (h2 : 1 < l.length) : okN l = false := by
  unfold okN; rw [numRes_zero l 255 h2 h1]
/-! ### Groups once more: one more piece -/
open Go.Proofs.YtabkdaaenikliaaGreatDoor
theorem hexG_16 {l : List UInt8} (h : hex16 l = true) (h4 : l.length ≤ 4) : hexG l = some [UInt8.ofNat ((hexA l).toNat / 256), UInt8.ofNat ((hexA l).toNat % 256)] := by
  unfold hex16 at h
  simp only [Bool.and_eq_true, decide_eq_true_eq] at h
  have : 1 ≤ l.length := List.length_pos_iff.2 h.1.1
  exact hexG_ok (by omega) h.1.2
theorem hexG_no16 {l : List UInt8} (h : hex16 l = false) : hexG l = none := by
  unfold hexG
  split
  · rfl
  · rename_i h2
    split
    · rename_i h3
      have hb := hexA_bd4 l (by omega) h3
      have hn : l ≠ [] := by rintro rfl; simp at h2
      unfold hex16 at h
      rw [h3, decide_eq_true hn, decide_eq_true hb.2] at h
      cases h
    · rfl
theorem hexG_long {l : List UInt8} (h : 4 < l.length) : hexG l = none := hexG_len (.inr h)
theorem hexAll_step {P : List (List UInt8)} {k : Nat} {l a x : List UInt8} (hl : P[k]? = some l) (h : hexAll (P.take k) = some a) (hx : hexG l = some x) : hexAll (P.take (k + 1)) = some (a ++ x) := by
  have hk := (List.getElem?_eq_some_iff.1 hl).1
  have e : P[k] = l := by rw [List.getElem?_eq_getElem hk] at hl; exact Option.some.inj hl
  rw [List.take_succ_eq_append_getElem hk, e, hexAll_snoc, h, hx]
end Go.Tx

