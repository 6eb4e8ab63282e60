/- Plain facts of addresses as the program reads them: pieces of a text, groups, what stands ahead of :: and behind. -/
import Derived.Test.YtdfapebggghfdaaGreatDoorPa
import Derived.Test.YtdfapebggghfdaaGreatDoorNm
import Derived.Lib.SplitLaws
import Derived.Lib.IndexMore
namespace Go.Tx
open Go.Lib
end Go.Tx
namespace Go.Tx
open Go.Lib
/-! ### A text cut at a byte, some times at most -/
theorem pre_len (x : List UInt8) (l : List (List UInt8)) : (pre x l).length = l.length := by cases l <;> rfl
theorem splitG_ne (c : UInt8) (l cur : List UInt8) : splitG c cur l ≠ [] := fun h => by
  have := (splitG_len c l cur).1
  rw [h] at this
  simp at this
theorem splitL_eq (c : UInt8) (l : List UInt8) : splitL c (c :: l) = [] :: splitL c l := by simp [splitL, splitG]
theorem splitL_pre {b c : UInt8} (h : b ≠ c) (l : List UInt8) : splitL c (b :: l) = pre [b] (splitL c l) := by
  rw [splitL, splitL, splitG, if_neg h]
  exact splitG_pre c [b] l []
theorem splitL_len (c : UInt8) (l : List UInt8) : 1 ≤ (splitL c l).length ∧ (splitL c l).length ≤ l.length + 1 := splitG_len c l []
theorem splitK_nil (c : UInt8) (k : Nat) : splitK [c] 0 k [] = [[]] := by cases k <;> rfl
theorem splitK_eq (c : UInt8) (k : Nat) (l : List UInt8) : splitK [c] 0 (k + 1) (c :: l) = [] :: splitK [c] 0 k l := by
  have hix : index (c :: l) [c] = 0 := by rw [index]; simp [List.isPrefixOf]
  rw [splitK, hix]
  simp
theorem splitK_few (c : UInt8) : ∀ (l : List UInt8) (k : Nat), (splitL c l).length ≤ k + 1 → splitK [c] 0 k l = splitL c l
  | [], k, _ => by rw [splitK_nil]; rfl
  | b :: l, k, h => by
    by_cases e : b = c
    · subst e
      rw [splitL_eq] at h ⊢
      have := (splitL_len b l).1
      simp only [List.length_cons] at h
      obtain ⟨j, rfl⟩ : ∃ j, k = j + 1 := ⟨k - 1, by omega⟩
      rw [splitK_eq, splitK_few b l j (by omega)]
    · rw [splitL_pre e] at h ⊢
      rw [pre_len] at h
      rw [splitK_pre e, splitK_few c l k h]
theorem splitK_many (c : UInt8) : ∀ (l : List UInt8) (k : Nat), k + 1 < (splitL c l).length → (splitK [c] 0 k l).length = k + 1 ∧ ∃ q x, splitK [c] 0 k l = q ++ [x] ∧ c ∈ x
  | [], k, h => by simp [splitL, splitG] at h
  | b :: l, k, h => by
    by_cases e : b = c
    · subst e
      rw [splitL_eq] at h
      simp only [List.length_cons] at h
      cases k with
      | zero => exact ⟨rfl, [], b :: l, rfl, by simp⟩
      | succ k =>
        obtain ⟨h1, q, x, h2, h3⟩ := splitK_many b l k (by omega)
        rw [splitK_eq]
        exact ⟨by rw [List.length_cons, h1], [] :: q, x, by rw [h2]; rfl, h3⟩
    · rw [splitL_pre e, pre_len] at h
      obtain ⟨h1, q, x, h2, h3⟩ := splitK_many c l k h
      rw [splitK_pre e]
      refine ⟨by rw [pre_len, h1], ?_⟩
      rw [h2]
      cases q with
      | nil => exact ⟨[], [b] ++ x, rfl, by simp [h3]⟩
      | cons y q => exact ⟨([b] ++ y) :: q, x, rfl, h3⟩
/-- strings.SplitN at one byte. -/
def cutN (c : UInt8) (n : Nat) (l : List UInt8) : List (List UInt8) := splitK [c] 0 (min n (l.length + 1) - 1) l
theorem cutN_few (c : UInt8) (n : Nat) (l : List UInt8) (h : (splitL c l).length ≤ n) : cutN c n l = splitL c l := by
  have := (splitL_len c l)
  exact splitK_few c l _ (by omega)
theorem cutN_many (c : UInt8) (n : Nat) (l : List UInt8) (hn : 1 ≤ n) (h : n < (splitL c l).length) : (cutN c n l).length = n ∧ ∃ q x, cutN c n l = q ++ [x] ∧ c ∈ x := by
  have := (splitL_len c l)
  obtain ⟨h1, h2⟩ := splitK_many c l (min n (l.length + 1) - 1) (by omega)
  exact ⟨by unfold cutN; rw [h1]; omega, h2⟩
theorem cutN_len (c : UInt8) (n : Nat) (l : List UInt8) (hn : 1 ≤ n) : 1 ≤ (cutN c n l).length ∧ (cutN c n l).length ≤ n := by
  by_cases h : (splitL c l).length ≤ n
  · rw [cutN_few c n l h]; exact ⟨(splitL_len c l).1, h⟩
  · rw [(cutN_many c n l hn (by omega)).1]; exact ⟨hn, Nat.le_refl _⟩
theorem splitK_mem (c : UInt8) : ∀ (k : Nat) (l x : List UInt8), x ∈ splitK [c] 0 k l → x.length ≤ l.length
  | 0, l, x, h => by simp [splitK] at h; subst h; exact Nat.le_refl _
  | k + 1, l, x, h => by
    unfold splitK at h
    split at h
    · simp at h; subst h; exact Nat.le_refl _
    · rcases List.mem_cons.1 h with h | h
      · subst h; rw [List.length_take]; omega
      · have := splitK_mem c k _ x h
        rw [List.length_drop] at this
        omega
theorem cutN_mem {c : UInt8} {n : Nat} {l x : List UInt8} (h : x ∈ cutN c n l) : x.length ≤ l.length := splitK_mem c _ l x h
/-- Five parts at most: four of them are all. -/
theorem cutN_four (l : List UInt8) (h : (cutN 46 5 l).length = 4) : cutN 46 5 l = splitL 46 l := by
  by_cases h2 : (splitL 46 l).length ≤ 5
  · exact cutN_few _ _ _ h2
  · have := (cutN_many 46 5 l (by omega) (by omega)).1; omega
theorem cutN_notfour (l : List UInt8) (h : (cutN 46 5 l).length ≠ 4) : fourP (splitL 46 l) = none := by
  unfold fourP
  rw [if_neg]
  rintro ⟨h2, _⟩
  rw [cutN_few 46 5 l (by omega)] at h
  exact h h2
/-! ### What stands in pieces -/
theorem splitG_cur (c : UInt8) : ∀ (l cur : List UInt8), ∃ x r, splitG c cur l = (cur ++ x) :: r
  | [], cur => ⟨[], [], by simp [splitG]⟩
  | d :: l, cur => by
    unfold splitG
    split
    · exact ⟨[], splitG c [] l, by simp⟩
    · obtain ⟨x, r, h⟩ := splitG_cur c l (cur ++ [d])
      exact ⟨d :: x, r, by rw [h]; simp⟩
/-- A byte that is not the one at which is cut stands in some piece. -/
theorem splitG_has {c d : UInt8} (hcd : d ≠ c) : ∀ (l cur : List UInt8), d ∈ l → ∃ x ∈ splitG c cur l, d ∈ x
  | e :: l, cur, h => by
    unfold splitG
    by_cases hd : d = e
    · subst hd
      rw [if_neg hcd]
      obtain ⟨x, r, h2⟩ := splitG_cur c l (cur ++ [d])
      exact ⟨_, by rw [h2]; exact List.mem_cons_self, by simp⟩
    · have hl : d ∈ l := by
        rcases List.mem_cons.1 h with h | h
        · exact absurd h hd
        · exact h
      split
      · obtain ⟨x, hx, h3⟩ := splitG_has hcd l [] hl
        exact ⟨x, List.mem_cons_of_mem _ hx, h3⟩
      · exact splitG_has hcd l _ hl
/-- Pieces hold nothing that the text doesn't. -/
theorem splitG_sub {c d : UInt8} : ∀ (l cur x : List UInt8), x ∈ splitG c cur l → d ∈ x → d ∈ cur ∨ d ∈ l
  | [], cur, x, h, hd => by
    simp [splitG] at h
    subst h
    exact .inl hd
  | e :: l, cur, x, h, hd => by
    unfold splitG at h
    split at h
    · rcases List.mem_cons.1 h with h | h
      · subst h; exact .inl hd
      · rcases splitG_sub l [] x h hd with h | h
        · cases h
        · exact .inr (List.mem_cons_of_mem _ h)
    · rcases splitG_sub l _ x h hd with h | h
      · rcases List.mem_append.1 h with h | h
        · exact .inl h
        · rw [List.mem_singleton] at h; subst h; exact .inr List.mem_cons_self
      · exact .inr (List.mem_cons_of_mem _ h)
theorem splitG_none {c : UInt8} : ∀ (l cur : List UInt8), ¬ c ∈ l → splitG c cur l = [cur ++ l]
  | [], cur, _ => by simp [splitG]
  | e :: l, cur, h => by
    simp only [List.mem_cons, not_or] at h
    unfold splitG
    rw [if_neg (fun x => h.1 x.symm), splitG_none l _ h.2]
    simp
theorem splitL_none {c : UInt8} (l : List UInt8) (h : ¬ c ∈ l) : splitL c l = [l] := by rw [splitL, splitG_none l [] h]; simp
/-! ### Digits and groups that are none -/
theorem okN_dig {l : List UInt8} (h : okN l = true) : l.all dig = true := by
  cases ha : l.all dig with
  | true => rfl
  | false =>
    have := numRes_no l 255 ha
    unfold okN at h
    rw [this] at h
    cases h
theorem okN_has {l : List UInt8} {d : UInt8} (hd : dig d = false) (h : d ∈ l) : okN l = false := by
  cases ho : okN l with
  | false => rfl
  | true =>
    have := okN_dig ho
    rw [List.all_eq_true] at this
    rw [this d h] at hd
    cases hd
theorem four_has {s : List UInt8} {d : UInt8} (hd : dig d = false) (h46 : d ≠ 46) (h : d ∈ s) : fourP (splitL 46 s) = none := by
  obtain ⟨x, hx, h2⟩ := splitG_has h46 s [] h
  unfold fourP
  rw [if_neg]
  rintro ⟨_, h3⟩
  rw [List.all_eq_true] at h3
  have := h3 x hx
  rw [okN_has hd h2] at this
  cases this
theorem four_nodot {s : List UInt8} (h : ¬ 46 ∈ s) : fourP (splitL 46 s) = none := by
  rw [splitL_none s h]
  unfold fourP
  rw [if_neg]
  rintro ⟨h2, _⟩
  simp at h2
theorem hexG_has {l : List UInt8} {d : UInt8} (hd : hexV d < 0) (h : d ∈ l) : hexG l = none := by
  obtain ⟨k, hk, e⟩ := List.getElem_of_mem h
  exact hexG_bad (k := k) (c := d) (by rw [List.getElem?_eq_getElem hk, e]) hd
theorem hexG_two {l x : List UInt8} (h : hexG l = some x) : x.length = 2 := by
  unfold hexG at h
  split at h
  · cases h
  · split at h
    · cases h; rfl
    · cases h
theorem fourP_len {p : List (List UInt8)} {x : List UInt8} (h : fourP p = some x) : x.length = 4 := by
  unfold fourP at h
  split at h
  · rename_i h4
    cases h
    rw [List.length_map]; exact h4.1
  · cases h
theorem partG_two {t : Bool} {l x : List UInt8} (h : partG t l = some x) : 2 ≤ x.length := by
  unfold partG at h
  split at h
  · cases e : fourP (splitL 46 l) with
    | some f => rw [e] at h; cases h; rw [fourP_len e]; decide
    | none => rw [e] at h; rw [hexG_two h]; exact Nat.le_refl _
  · rw [hexG_two h]; exact Nat.le_refl _
theorem accG_two {last : Bool} {P : List (List UInt8)} : ∀ {k : Nat} {a : List UInt8}, accG last P k = some a → 2 * k ≤ a.length
  | 0, a, h => by simp
  | k + 1, a, h => by
    unfold accG at h
    split at h
    · cases h
    · rename_i b hb
      split at h
      · cases h
      · rename_i x hx
        cases h
        have := accG_two hb
        have := partG_two hx
        simp
        omega
/-! ### Groups, the program's way -/
def hexAll : List (List UInt8) → Option (List UInt8)
  | [] => some []
  | l :: r => match hexG l, hexAll r with
    | some a, some b => some (a ++ b)
    | _, _ => none
theorem hexAll_snoc (l : List UInt8) : ∀ P : List (List UInt8), hexAll (P ++ [l]) = match hexAll P, hexG l with
    | some a, some b => some (a ++ b)
    | _, _ => none
  | [] => by simp only [hexAll, List.nil_append]; cases hexG l <;> simp
  | q :: P => by
    simp only [List.cons_append, hexAll, hexAll_snoc l P]
    cases hexG q <;> cases hexAll P <;> cases hexG l <;> simp
theorem hexAll_no {P : List (List UInt8)} {l : List UInt8} (h : l ∈ P) (hl : hexG l = none) : hexAll P = none := by
  induction P with
  | nil => cases h
  | cons q P ih =>
    rcases List.mem_cons.1 h with h | h
    · subst h; simp [hexAll, hl]
    · simp only [hexAll, ih h]; cases hexG q <;> rfl
theorem hexAll_len {P : List (List UInt8)} : ∀ {a : List UInt8}, hexAll P = some a → a.length = 2 * P.length := by
  induction P with
  | nil => intro a h; cases h; rfl
  | cons q P ih =>
    intro a h
    unfold hexAll at h
    split at h
    · rename_i x y hx hy
      cases h
      have := hexG_two hx
      have := ih hy
      simp
      omega
    · cases h
/-- What parseGroups answers. -/
def pgP (s : List UInt8) : Option (List UInt8) :=
  if s = [] then some [] else
  match fourP (splitL 46 ((cutN 58 9 s).getLastD [])) with
  | some f => (hexAll (cutN 58 9 s).dropLast).map (· ++ f)
  | none => hexAll (cutN 58 9 s)
theorem accG_hex {last : Bool} {P : List (List UInt8)} : ∀ k, k ≤ P.length → (last = true → k + 1 ≤ P.length) → accG last P k = hexAll (P.take k)
  | 0, _, _ => by simp [accG, hexAll]
  | k + 1, h, h2 => by
    have ih := accG_hex (last := last) (P := P) k (by omega) (fun e => by have := h2 e; omega)
    have hk : k < P.length := by omega
    have ht : P.take (k + 1) = P.take k ++ [P[k]] := List.take_succ_eq_append_getElem hk
    have hf : (last && decide (k + 1 = P.length)) = false := by
      cases last with
      | false => rfl
      | true => have := h2 rfl; simp; omega
    have hg : P.getD k [] = P[k] := by simp [List.getD_eq_getElem?_getD, List.getElem?_eq_getElem hk]
    have hpf : ∀ l, partG false l = hexG l := fun l => rfl
    rw [accG, ih, ht, hexAll_snoc, hf, hg, hpf]
    cases hexAll (P.take k) <;> simp
    cases hexG P[k] <;> simp
theorem accG_full (P : List (List UInt8)) (h : 1 ≤ P.length) : accG true P P.length = match fourP (splitL 46 (P.getLastD [])) with
    | some f => (hexAll P.dropLast).map (· ++ f)
    | none => hexAll P := by
  obtain ⟨k, hk⟩ : ∃ k, P.length = k + 1 := ⟨P.length - 1, by omega⟩
  have hlt : k < P.length := by omega
  have hg : P.getD k [] = P[k] := by simp [List.getD_eq_getElem?_getD, List.getElem?_eq_getElem hlt]
  have hl : P.getLastD [] = P[k] := by
    rw [List.getLastD_eq_getLast?, List.getLast?_eq_getElem?, hk]
    simp [List.getElem?_eq_getElem hlt]
  have hd : P.dropLast = P.take k := by rw [List.dropLast_eq_take, hk]; rfl
  have hall : P = P.take k ++ [P[k]] := by
    have := List.take_succ_eq_append_getElem hlt
    rw [← this, ← hk, List.take_length]
  have ha := accG_hex (last := true) (P := P) k (by omega) (fun _ => by omega)
  have hf : (true && decide (k + 1 = P.length)) = true := by simp; omega
  have e1 : accG true P P.length = match accG true P k with
      | none => none
      | some a => match partG true P[k] with
        | none => none
        | some x => some (a ++ x) := by
    rw [hk, accG, hf, hg]
    cases accG true P k with
    | none => rfl
    | some a => simp only []; cases partG true P[k] <;> rfl
  rw [e1, ha, hl, hd]
  cases h4 : fourP (splitL 46 P[k]) with
  | some f =>
    rw [partG_four h4]
    cases hexAll (P.take k) <;> rfl
  | none =>
    rw [partG_hex fun _ => h4]
    have := hexAll_snoc P[k] (P.take k)
    rw [← hall] at this
    rw [this]
    cases hexAll (P.take k) <;> simp
    cases hexG P[k] <;> simp
theorem pgP_few {s : List UInt8} (h : (splitL 58 s).length ≤ 9) : pgP s = groupsP true s := by
  unfold pgP groupsP
  split
  · rfl
  · rw [cutN_few 58 9 s h, accG_full _ (splitL_len 58 s).1]
theorem hexV_58 : hexV 58 < 0 := by decide
theorem hexV_46 : hexV 46 < 0 := by decide
theorem pgP_many {s : List UInt8} (h : 9 < (splitL 58 s).length) : pgP s = none := by
  unfold pgP
  have hne : s ≠ [] := by rintro rfl; simp [splitL, splitG] at h
  obtain ⟨h1, q, x, h2, h3⟩ := cutN_many 58 9 s (by omega) h
  have hl : (cutN 58 9 s).getLastD [] = x := by rw [h2]; simp
  rw [if_neg hne, hl, four_has (d := 58) (by decide) (by decide) h3, h2]
  exact hexAll_no (l := x) (by simp) (hexG_has hexV_58 h3)
theorem groupsP_many {last : Bool} {s b : List UInt8} (h : 9 < (splitL 58 s).length) (hb : groupsP last s = some b) : 16 < b.length := by
  unfold groupsP at hb
  have hne : s ≠ [] := by rintro rfl; simp [splitL, splitG] at h
  rw [if_neg hne] at hb
  have := accG_two hb
  omega
theorem groupsP_nodot {s : List UInt8} (h : ¬ 46 ∈ s) : groupsP true s = groupsP false s := by
  unfold groupsP
  split
  · rfl
  · have hl := (splitL_len 58 s).1
    rw [accG_full _ hl, accG_hex (last := false) _ (Nat.le_refl _) (fun h => by cases h), List.take_length]
    have : ¬ 46 ∈ (splitL 58 s).getLastD [] := by
      intro h3
      obtain ⟨x, r, hx⟩ : ∃ x r, splitL 58 s = r ++ [x] := ⟨_, _, (List.dropLast_concat_getLast (l := splitL 58 s) (by intro e; rw [e] at hl; simp at hl)).symm⟩
      rw [hx] at h3
      simp at h3
      rcases splitG_sub (c := 58) (d := 46) s [] x (by show x ∈ splitL 58 s; rw [hx]; simp) h3 with h4 | h4
      · cases h4
      · exact h h4
    rw [four_nodot this]
theorem groupsP_dot {s : List UInt8} (h : 46 ∈ s) : groupsP false s = none := by
  have hne : s ≠ [] := by rintro rfl; cases h
  unfold groupsP
  rw [if_neg hne, accG_hex (last := false) _ (Nat.le_refl _) (fun h => by cases h), List.take_length]
  obtain ⟨x, hx, h2⟩ := splitG_has (c := 58) (d := 46) (by decide) s [] h
  exact hexAll_no hx (hexG_has hexV_46 h2)
/-! ### An address, the program's way -/
def full16 (r : Option (List UInt8)) : Option (List UInt8) := match r with
  | some b => if b.length = 16 then some b else none
  | none => none
def bothP (a b : Option (List UInt8)) : Option (List UInt8) := match a, b with
  | some x, some y => if 14 < x.length + y.length then none else some (x ++ List.replicate (16 - x.length - y.length) 0 ++ y)
  | _, _ => none
def longP (s : List UInt8) : Option (List UInt8) :=
  if (Lib.cut s [58, 58]).2.2 = true then
    (if 46 ∈ (Lib.cut s [58, 58]).1 then none else bothP (pgP (Lib.cut s [58, 58]).1) (pgP (Lib.cut s [58, 58]).2.1))
  else full16 (pgP s)
def addrP (s : List UInt8) : Option (List UInt8) := if 58 ∈ s then longP s else fourP (splitL 46 s)
theorem full16_pg (s : List UInt8) : full16 (pgP s) = full16 (groupsP true s) := by
  by_cases h : (splitL 58 s).length ≤ 9
  · rw [pgP_few h]
  · rw [pgP_many (by omega)]
    cases hb : groupsP true s with
    | none => rfl
    | some b =>
      have := groupsP_many (by omega) hb
      unfold full16
      simp only
      rw [if_neg (by omega)]
theorem both_pg (a b : List UInt8) (ha : ¬ 46 ∈ a) : bothP (pgP a) (pgP b) = bothP (groupsP false a) (groupsP true b) := by
  rw [← groupsP_nodot ha]
  have big : ∀ x y : List UInt8, 16 < x.length ∨ 16 < y.length → bothP (some x) (some y) = none := fun x y h => by
    unfold bothP
    simp only
    rw [if_pos (by omega)]
  have n1 : ∀ r, bothP none r = none := fun r => by cases r <;> rfl
  have n2 : ∀ r, bothP r none = none := fun r => by cases r <;> rfl
  by_cases h1 : (splitL 58 a).length ≤ 9
  · rw [pgP_few h1]
    by_cases h2 : (splitL 58 b).length ≤ 9
    · rw [pgP_few h2]
    · rw [pgP_many (s := b) (by omega), n2]
      cases hb : groupsP true b with
      | none => rw [n2]
      | some y =>
        cases hx : groupsP true a with
        | none => rw [n1]
        | some x => rw [big x y (.inr (groupsP_many (by omega) hb))]
  · rw [pgP_many (s := a) (by omega), n1]
    cases hx : groupsP true a with
    | none => rw [n1]
    | some x =>
      cases hb : groupsP true b with
      | none => rw [n2]
      | some y => rw [big x y (.inl (groupsP_many (by omega) hx))]
theorem cc_occ (s : List UInt8) (k : Nat) : ccAt s k = Lib.occAt s [58, 58] k := by
  unfold ccAt Lib.occAt
  have e0 : s[k]? = (s.drop k)[0]? := by simp
  have e1 : s[k + 1]? = (s.drop k)[1]? := by simp
  rw [e0, e1]
  generalize s.drop k = t
  match t with
  | [] => rfl
  | [x] => simp [List.isPrefixOf]
  | x :: y :: t =>
    simp only [List.getElem?_cons_zero, List.getElem?_cons_succ, Option.some.injEq, List.isPrefixOf, Bool.and_true]
    have : ∀ z : UInt8, decide (z = 58) = (58 == z) := fun z => by
      by_cases h : z = 58
      · subst h; rfl
      · have h' : ¬ 58 = z := fun e => h e.symm
        simp [h, h']
    rw [this, this]
theorem addrP_parse (s : List UInt8) : addrP s = parseP s := by
  unfold addrP
  by_cases h58 : 58 ∈ s
  · rw [if_pos h58]
    have hf : fourP (splitL 46 s) = none := four_has (d := 58) (by decide) (by decide) h58
    unfold parseP
    rw [hf]
    simp only
    unfold longP
    rcases Lib.index_spec s [58, 58] with ⟨hi, hno⟩ | ⟨i, hi, hle, hocc, hno⟩
    · have hc : Lib.cut s [58, 58] = (s, [], false) := by unfold Lib.cut; rw [hi, if_neg (by decide)]
      have hfind : (List.range s.length).find? (ccAt s) = none := cc_none (k := s.length) (fun j hj => by rw [cc_occ]; exact hno j (by omega)) (by omega)
      rw [hc, hfind, if_neg (by simp)]
      rw [full16_pg]
      rfl
    · have hc : Lib.cut s [58, 58] = (s.take i, s.drop (i + 2), true) := by unfold Lib.cut; rw [hi, if_pos (by omega)]; simp
      have hfind : (List.range s.length).find? (ccAt s) = some i := cc_some (k := i) (fun j hj => by rw [cc_occ]; exact hno j hj) (by rw [cc_occ]; exact hocc)
      rw [hc, hfind, if_pos rfl]
      simp only
      unfold dblP
      by_cases hd : 46 ∈ s.take i
      · rw [if_pos hd, groupsP_dot hd]
      · rw [if_neg hd, both_pg _ _ hd]
        rfl
  · rw [if_neg h58]
    unfold parseP
    cases hf : fourP (splitL 46 s) with
    | some f => rfl
    | none =>
      have hfind : (List.range s.length).find? (ccAt s) = none := cc_none (k := s.length) (fun j hj => by
        unfold ccAt
        have : ¬ s[j]? = some 58 := fun e => h58 (List.mem_of_getElem? e)
        simp [this]) (by omega)
      rw [hfind]
      simp only
      cases hg : groupsP true s with
      | none => rfl
      | some b =>
        simp only
        rw [if_neg]
        intro h16
        unfold groupsP at hg
        split at hg
        · cases hg; simp at h16
        · rw [splitL_none s h58] at hg
          have := accG_len hg
          simp at this
          omega
end Go.Tx
