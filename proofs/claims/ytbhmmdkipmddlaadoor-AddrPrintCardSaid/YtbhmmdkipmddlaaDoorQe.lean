/- Plain facts: what is printed is read again. -/
import Derived.Test.YtbhmmdkipmddlaaDoorQd
namespace Go.Tx
open Go.Lib
/-! ### What is printed is read again -/
theorem hexV_hd (d : Nat) (h : d < 16) : hexV (hd d) = d := by
  have : ∀ i : Fin 16, hexV (hd i.1) = (i.1 : Int) := by decide +kernel
  exact this ⟨d, h⟩
theorem hd_plain (d : Nat) (h : d < 16) : hd d ≠ 58 ∧ hd d ≠ 46 := by
  have : ∀ i : Fin 16, hd i.1 ≠ 58 ∧ hd i.1 ≠ 46 := by decide +kernel
  exact this ⟨d, h⟩
theorem hexT_all : ∀ n : Nat, hexA (hexT n) = n ∧ hexOk (hexT n) = true ∧ ¬ 58 ∈ hexT n ∧ ¬ 46 ∈ hexT n ∧ hexT n ≠ [] := by
  intro n
  induction n using Nat.strongRecOn with
  | _ n ih =>
    by_cases h : n < 16
    · have h1 := hexV_hd n h
      have h2 := hd_plain n h
      rw [hexT_lt h]
      refine ⟨by simp [hexA, h1], by simp [hexOk, h1], ?_, ?_, by simp⟩
      · simp only [List.mem_singleton]; exact fun e => h2.1 e.symm
      · simp only [List.mem_singleton]; exact fun e => h2.2 e.symm
    · have h1 := hexV_hd (n % 16) (by omega)
      have h2 := hd_plain (n % 16) (by omega)
      obtain ⟨i1, i2, i3, i4, _⟩ := ih (n / 16) (by omega)
      rw [hexT_ge h]
      refine ⟨by rw [hexA_snoc, i1, h1]; omega, by rw [hexOk_snoc, i2, h1]; simp; omega, ?_, ?_, by simp⟩
      · simp only [List.mem_append, List.mem_singleton, not_or]; exact ⟨i3, fun e => h2.1 e.symm⟩
      · simp only [List.mem_append, List.mem_singleton, not_or]; exact ⟨i4, fun e => h2.2 e.symm⟩
theorem hexG_T (n : Nat) (h : n < 65536) : hexG (hexT n) = some [UInt8.ofNat (n / 256), UInt8.ofNat (n % 256)] := by
  obtain ⟨h1, h2, _⟩ := hexT_all n
  have h3 := hexT_len n h
  rw [hexG_ok (by omega) h2, h1]
  rfl
/-! ### Pieces joined and cut again -/
theorem splitG_app (c : UInt8) : ∀ (x y cur : List UInt8), ¬ c ∈ x → splitG c cur (x ++ y) = splitG c (cur ++ x) y
  | [], y, cur, _ => by simp
  | d :: x, y, cur, h => by
    simp only [List.mem_cons, not_or] at h
    rw [List.cons_append, splitG, if_neg (fun e => h.1 e.symm), splitG_app c x y _ h.2]
    simp
theorem splitG_tail (c : UInt8) : ∀ (L : List (List UInt8)) (cur : List UInt8), (∀ x ∈ L, ¬ c ∈ x) → splitG c cur (Lib.joinTail [c] L) = cur :: L
  | [], cur, _ => by simp [Lib.joinTail, splitG]
  | x :: L, cur, h => by
    have e : Lib.joinTail [c] (x :: L) = c :: (x ++ Lib.joinTail [c] L) := by simp [Lib.joinTail]
    rw [e, splitG, if_pos rfl, splitG_app c x _ _ (h x (by simp)), splitG_tail c L _ (fun y hy => h y (by simp [hy]))]
    simp
theorem splitL_join (c : UInt8) (L : List (List UInt8)) (hne : L ≠ []) (h : ∀ x ∈ L, ¬ c ∈ x) : splitL c (Lib.join L [c]) = L := by
  cases L with
  | nil => exact absurd rfl hne
  | cons x r =>
    rw [Lib.join_cons, splitL, splitG_app c x _ _ (h x (by simp)), splitG_tail c r _ (fun y hy => h y (by simp [hy]))]
    simp
theorem join_has {c d : UInt8} : ∀ {L : List (List UInt8)}, d ∈ Lib.join L [c] → d = c ∨ ∃ x ∈ L, d ∈ x := by
  have ht : ∀ (L : List (List UInt8)), d ∈ Lib.joinTail [c] L → d = c ∨ ∃ x ∈ L, d ∈ x := by
    intro L
    induction L with
    | nil => intro h; simp [Lib.joinTail] at h
    | cons x r ih =>
      intro h
      have e : Lib.joinTail [c] (x :: r) = c :: (x ++ Lib.joinTail [c] r) := by simp [Lib.joinTail]
      rw [e] at h
      simp only [List.mem_cons, List.mem_append] at h
      rcases h with h | h | h
      · exact .inl h
      · exact .inr ⟨x, by simp, h⟩
      · rcases ih h with h | ⟨y, hy, h⟩
        · exact .inl h
        · exact .inr ⟨y, by simp [hy], h⟩
  intro L h
  cases L with
  | nil => simp [join_nil] at h
  | cons x r =>
    rw [Lib.join_cons] at h
    rcases List.mem_append.1 h with h | h
    · exact .inr ⟨x, by simp, h⟩
    · rcases ht r h with h | ⟨y, hy, h⟩
      · exact .inl h
      · exact .inr ⟨y, by simp [hy], h⟩
theorem join_ne {L : List (List UInt8)} (h : L ≠ []) (hx : ∀ x ∈ L, x ≠ []) : Lib.join L [58] ≠ [] := by
  cases L with
  | nil => exact absurd rfl h
  | cons x r =>
    rw [Lib.join_cons]
    intro e
    exact hx x (by simp) (List.append_eq_nil_iff.1 e).1
/-! ### Where two points stand -/
theorem index_cons (b : UInt8) (l : List UInt8) (h : b ≠ 58 ∨ l.head? ≠ some 58) : Lib.index (b :: l) [58, 58] = if Lib.index l [58, 58] == -1 then -1 else Lib.index l [58, 58] + 1 := by
  have hp : ([58, 58] : List UInt8).isPrefixOf (b :: l) = false := by
    cases l with
    | nil => simp [List.isPrefixOf]
    | cons c l =>
      rcases h with h | h
      · have : (58 == b) = false := by rw [beq_eq_false_iff_ne]; exact fun e => h e.symm
        simp [List.isPrefixOf, this]
      · have : (58 == c) = false := by rw [beq_eq_false_iff_ne]; intro e; subst e; exact h rfl
        simp [List.isPrefixOf, this]
  rw [Lib.index, hp]
  simp
theorem index_app : ∀ (x Y : List UInt8), ¬ 58 ∈ x → Lib.index (x ++ Y) [58, 58] = if Lib.index Y [58, 58] = -1 then -1 else Lib.index Y [58, 58] + x.length
  | [], Y, _ => by
    simp
  | b :: x, Y, h => by
    simp only [List.mem_cons, not_or] at h
    have ih := index_app x Y h.2
    have hge := Lib.index_ge Y [58, 58]
    rw [List.cons_append, index_cons b _ (.inl (fun e => h.1 e.symm)), ih]
    by_cases h1 : Lib.index Y [58, 58] = -1
    · rw [if_pos h1, if_pos h1]; rfl
    · rw [if_neg h1, if_neg h1]
      have : (Lib.index Y [58, 58] + (x.length : Int) == -1) = false := by rw [beq_eq_false_iff_ne]; omega
      rw [this]
      simp
      omega
theorem index_pt (x Y : List UInt8) (h : ¬ 58 ∈ x) (hne : x ≠ []) : Lib.index (58 :: (x ++ Y)) [58, 58] = if Lib.index Y [58, 58] = -1 then -1 else Lib.index Y [58, 58] + x.length + 1 := by
  have hge := Lib.index_ge Y [58, 58]
  rw [index_cons 58 _ (.inr (by
    cases x with
    | nil => exact absurd rfl hne
    | cons b x =>
      simp only [List.mem_cons, not_or] at h
      simp
      exact fun e => h.1 e.symm)), index_app x Y h]
  by_cases h1 : Lib.index Y [58, 58] = -1
  · rw [if_pos h1, if_pos h1]; rfl
  · rw [if_neg h1, if_neg h1]
    have : (Lib.index Y [58, 58] + (x.length : Int) == -1) = false := by rw [beq_eq_false_iff_ne]; omega
    rw [this]
    simp
theorem index_tail : ∀ (L : List (List UInt8)) (Y : List UInt8), (∀ x ∈ L, ¬ 58 ∈ x ∧ x ≠ []) → Lib.index (Lib.joinTail [58] L ++ Y) [58, 58] = if Lib.index Y [58, 58] = -1 then -1 else Lib.index Y [58, 58] + (Lib.joinTail [58] L).length
  | [], Y, _ => by
    simp [Lib.joinTail]
  | x :: L, Y, h => by
    have hx := h x (by simp)
    have ih := index_tail L Y (fun y hy => h y (by simp [hy]))
    have hge := Lib.index_ge Y [58, 58]
    have e : Lib.joinTail [58] (x :: L) = 58 :: (x ++ Lib.joinTail [58] L) := by simp [Lib.joinTail]
    rw [e, List.cons_append, List.append_assoc, index_pt x _ hx.1 hx.2, ih]
    by_cases h1 : Lib.index Y [58, 58] = -1
    · rw [if_pos h1, if_pos h1]; rfl
    · rw [if_neg h1, if_neg (by omega), if_neg h1]
      simp only [List.length_cons, List.length_append]
      omega
theorem index_join (L : List (List UInt8)) (Y : List UInt8) (h : ∀ x ∈ L, ¬ 58 ∈ x ∧ x ≠ []) : Lib.index (Lib.join L [58] ++ Y) [58, 58] = if Lib.index Y [58, 58] = -1 then -1 else Lib.index Y [58, 58] + (Lib.join L [58]).length := by
  have hge := Lib.index_ge Y [58, 58]
  cases L with
  | nil =>
    simp [join_nil]
  | cons x r =>
    have hx := h x (by simp)
    rw [Lib.join_cons, List.append_assoc, index_app x _ hx.1, index_tail r Y (fun y hy => h y (by simp [hy]))]
    by_cases h1 : Lib.index Y [58, 58] = -1
    · rw [if_pos h1, if_pos h1]; rfl
    · rw [if_neg h1, if_neg (by omega), if_neg h1]
      simp only [List.length_append]
      omega
theorem cut_join (L : List (List UInt8)) (R : List UInt8) (h : ∀ x ∈ L, ¬ 58 ∈ x ∧ x ≠ []) : Lib.cut (Lib.join L [58] ++ [58, 58] ++ R) [58, 58] = (Lib.join L [58], R, true) := by
  have h0 : Lib.index ([58, 58] ++ R) [58, 58] = 0 := by
    rw [List.cons_append, Lib.index]
    simp [List.isPrefixOf]
  have hi := index_join L ([58, 58] ++ R) h
  rw [h0, if_neg (by omega)] at hi
  rw [List.append_assoc]
  unfold Lib.cut
  rw [hi, if_pos (by omega)]
  have e : ((0 : Int) + ((Lib.join L [58]).length : Int)).toNat = (Lib.join L [58]).length := by omega
  rw [e]
  simp
theorem cut_plain (L : List (List UInt8)) (h : ∀ x ∈ L, ¬ 58 ∈ x ∧ x ≠ []) : (Lib.cut (Lib.join L [58]) [58, 58]).2.2 = false := by
  have hi := index_join L [] h
  rw [List.append_nil, show Lib.index [] [58, 58] = -1 from rfl, if_pos rfl] at hi
  unfold Lib.cut
  rw [hi, if_neg (by omega)]
/-! ### Groups -/
theorem pgP_join (L : List (List UInt8)) (hl : L.length ≤ 9) (h : ∀ x ∈ L, ¬ 58 ∈ x ∧ x ≠ []) (h2 : ∀ x ∈ L, ¬ 46 ∈ x) : pgP (Lib.join L [58]) = hexAll L := by
  unfold pgP
  cases L with
  | nil => rfl
  | cons x r =>
    rw [if_neg (join_ne (by simp) fun y hy => (h y hy).2)]
    have hs := splitL_join 58 (x :: r) (by simp) fun y hy => (h y hy).1
    rw [cutN_few 58 9 _ (by rw [hs]; exact hl), hs]
    have hlast : ¬ 46 ∈ (x :: r).getLastD [] := by
      have : (x :: r).getLastD [] ∈ x :: r := by
        rw [List.getLastD_eq_getLast?, List.getLast?_eq_some_getLast (by simp)]
        exact List.getLast_mem _
      exact h2 _ this
    rw [four_nodot hlast]
def pairs (l : List UInt8) (I : List Nat) : List UInt8 := I.flatMap fun i => [l.getD (2 * i) 0, l.getD (2 * i + 1) 0]
theorem hexAll_pairs (l : List UInt8) : ∀ I : List Nat, hexAll (I.map fun i => hexT (grp l i)) = some (pairs l I)
  | [] => rfl
  | i :: I => by
    have h1 := hexG_T (grp l i) (grp_lt l i)
    have ih := hexAll_pairs l I
    have e1 : UInt8.ofNat (grp l i / 256) = l.getD (2 * i) 0 := by
      unfold grp
      have hb := (l.getD (2 * i + 1) 0).toNat_lt
      rw [show ((l.getD (2 * i) 0).toNat * 256 + (l.getD (2 * i + 1) 0).toNat) / 256 = (l.getD (2 * i) 0).toNat by omega]
      simp
    have e2 : UInt8.ofNat (grp l i % 256) = l.getD (2 * i + 1) 0 := by
      unfold grp
      have hb := (l.getD (2 * i + 1) 0).toNat_lt
      rw [show ((l.getD (2 * i) 0).toNat * 256 + (l.getD (2 * i + 1) 0).toNat) % 256 = (l.getD (2 * i + 1) 0).toNat by omega]
      simp
    rw [e1, e2] at h1
    simp only [List.map_cons, hexAll, h1, ih]
    rfl
theorem grpT_take (l : List UInt8) (i : Nat) : (grpT l).take i = ((List.range 8).take i).map fun i => hexT (grp l i) := by unfold grpT; rw [List.map_take]
theorem grpT_drop (l : List UInt8) (i : Nat) : (grpT l).drop i = ((List.range 8).drop i).map fun i => hexT (grp l i) := by unfold grpT; rw [List.map_drop]
theorem pairs_take : ∀ (l : List UInt8), l.length = 16 → ∀ i, i ≤ 8 → pairs l ((List.range 8).take i) = l.take (2 * i)
  | [a0, a1, a2, a3, a4, a5, a6, a7, a8, a9, a10, a11, a12, a13, a14, a15], _, i, hi => by
    match i, hi with
    | 0, _ => rfl
    | 1, _ => rfl
    | 2, _ => rfl
    | 3, _ => rfl
    | 4, _ => rfl
    | 5, _ => rfl
    | 6, _ => rfl
    | 7, _ => rfl
    | 8, _ => rfl
theorem pairs_drop : ∀ (l : List UInt8), l.length = 16 → ∀ i, i ≤ 8 → pairs l ((List.range 8).drop i) = l.drop (2 * i)
  | [a0, a1, a2, a3, a4, a5, a6, a7, a8, a9, a10, a11, a12, a13, a14, a15], _, i, hi => by
    match i, hi with
    | 0, _ => rfl
    | 1, _ => rfl
    | 2, _ => rfl
    | 3, _ => rfl
    | 4, _ => rfl
    | 5, _ => rfl
    | 6, _ => rfl
    | 7, _ => rfl
    | 8, _ => rfl
theorem grpT_fine (l : List UInt8) : ∀ x ∈ grpT l, (¬ 58 ∈ x ∧ x ≠ []) ∧ ¬ 46 ∈ x := fun x hx => by
  obtain ⟨i, _, rfl⟩ := List.mem_map.1 hx
  obtain ⟨_, _, h3, h4, h5⟩ := hexT_all (grp l i)
  exact ⟨⟨h3, h5⟩, h4⟩
/-! ### The longest run is a run -/
theorem tw_true : ∀ (t : List Bool) (j : Nat), j < (t.takeWhile id).length → t[j]? = some true
  | [], j, h => by simp at h
  | b :: t, j, h => by
    cases b with
    | false => simp [List.takeWhile] at h
    | true =>
      cases j with
      | zero => rfl
      | succ j =>
        simp only [List.takeWhile, id, List.length_cons] at h
        simpa using tw_true t j (by omega)
theorem runL_run (z : List Bool) (i j : Nat) (h : j < runL z i) : z[i + j]? = some true := by
  have := tw_true (z.drop i) j h
  rwa [List.getElem?_drop] at this
theorem best_run (z : List Bool) : ∀ k i m, best z k = some (i, m) → m = runL z i
  | 0, i, m, h => by cases h
  | k + 1, i, m, h => by
    unfold best at h
    split at h
    · split at h
      · cases h; rfl
      · cases h
    · rename_i i' m' hb
      split at h
      · cases h; rfl
      · cases h; exact best_run z k _ _ hb
theorem zero_mid (l : List UInt8) (hl : l.length = 16) (i g : Nat) (hig : i ≤ g) (hg : g ≤ 8) (hz : ∀ j, i ≤ j → j < g → grp l j = 0) : l.take (2 * i) ++ List.replicate (16 - 2 * i - (16 - 2 * g)) 0 ++ l.drop (2 * g) = l := by
  have hmid : (l.drop (2 * i)).take (2 * g - 2 * i) = List.replicate (16 - 2 * i - (16 - 2 * g)) 0 := by
    apply List.ext_getElem?
    intro k
    by_cases hk : k < 2 * g - 2 * i
    · rw [List.getElem?_take_of_lt hk, List.getElem?_drop, List.getElem?_replicate, if_pos (by omega)]
      have h0 := hz ((2 * i + k) / 2) (by omega) (by omega)
      unfold grp at h0
      have hlt : 2 * i + k < l.length := by omega
      by_cases hp : (2 * i + k) % 2 = 0
      · have e : 2 * ((2 * i + k) / 2) = 2 * i + k := by omega
        rw [e] at h0
        have : (l.getD (2 * i + k) 0).toNat = 0 := by omega
        rw [List.getD_eq_getElem?_getD, List.getElem?_eq_getElem hlt, Option.getD_some] at this
        rw [List.getElem?_eq_getElem hlt]
        exact congrArg some (UInt8.toNat_inj.1 this)
      · have e : 2 * ((2 * i + k) / 2) + 1 = 2 * i + k := by omega
        rw [e] at h0
        have : (l.getD (2 * i + k) 0).toNat = 0 := by omega
        rw [List.getD_eq_getElem?_getD, List.getElem?_eq_getElem hlt, Option.getD_some] at this
        rw [List.getElem?_eq_getElem hlt]
        exact congrArg some (UInt8.toNat_inj.1 this)
    · rw [List.getElem?_eq_none (by rw [List.length_take, List.length_drop]; omega), List.getElem?_eq_none (by rw [List.length_replicate]; omega)]
  rw [← hmid]
  have h1 : l.drop (2 * g) = (l.drop (2 * i)).drop (2 * g - 2 * i) := by rw [List.drop_drop]; congr 1; omega
  rw [h1, List.append_assoc, List.take_append_drop, List.take_append_drop]
/-! ### Printed and read -/
theorem read16 (l : List UInt8) (hl : l.length = 16) : parseP (print16 l) = some l := by
  rw [← addrP_parse]
  have hfine := grpT_fine l
  unfold print16
  cases hb : best (grpZ l) 8 with
  | none =>
    simp only
    have hs := splitL_join 58 (grpT l) (by intro e; have := grpT_len l; rw [e] at this; simp at this) fun x hx => (hfine x hx).1.1
    have h58 : 58 ∈ Lib.join (grpT l) [58] := by
      apply Classical.byContradiction
      intro h
      rw [splitL_none _ h] at hs
      have := congrArg List.length hs
      rw [grpT_len] at this
      simp at this
    unfold addrP longP
    rw [if_pos h58, cut_plain _ fun x hx => (hfine x hx).1]
    simp only [Bool.false_eq_true, if_false]
    rw [pgP_join (grpT l) (by rw [grpT_len]; omega) (fun x hx => (hfine x hx).1) fun x hx => (hfine x hx).2]
    have h1 : hexAll (grpT l) = some l := by
      have h2 := hexAll_pairs l (List.range 8)
      have h3 := pairs_take l hl 8 (Nat.le_refl _)
      rw [List.take_of_length_le (by simp), List.take_of_length_le (by omega)] at h3
      rw [h3] at h2
      exact h2
    rw [h1]
    unfold full16
    simp only
    rw [if_pos hl]
  | some p =>
    obtain ⟨i, m⟩ := p
    have hbo := best_ok _ 8 i m hb
    rw [grpZ_len] at hbo
    obtain ⟨hm2, hi8, him⟩ := hbo
    have hrun := best_run _ 8 i m hb
    simp only
    have h58 : 58 ∈ Lib.join ((grpT l).take i) [58] ++ [58, 58] ++ Lib.join ((grpT l).drop (i + m)) [58] := by simp
    have f1 : ∀ x ∈ (grpT l).take i, (¬ 58 ∈ x ∧ x ≠ []) ∧ ¬ 46 ∈ x := fun x hx => hfine x (List.mem_of_mem_take hx)
    have f2 : ∀ x ∈ (grpT l).drop (i + m), (¬ 58 ∈ x ∧ x ≠ []) ∧ ¬ 46 ∈ x := fun x hx => hfine x (List.mem_of_mem_drop hx)
    unfold addrP longP
    rw [if_pos h58, cut_join _ _ fun x hx => (f1 x hx).1]
    simp only [if_true]
    have h46 : ¬ 46 ∈ Lib.join ((grpT l).take i) [58] := fun h => by
      rcases join_has h with h | ⟨x, hx, h⟩
      · revert h; decide
      · exact (f1 x hx).2 h
    rw [if_neg h46, pgP_join _ (by rw [List.length_take]; omega) (fun x hx => (f1 x hx).1) fun x hx => (f1 x hx).2,
      pgP_join _ (by rw [List.length_drop, grpT_len]; omega) (fun x hx => (f2 x hx).1) fun x hx => (f2 x hx).2]
    rw [grpT_take, grpT_drop, hexAll_pairs, hexAll_pairs, pairs_take l hl i (Nat.le_of_lt hi8), pairs_drop l hl (i + m) him]
    unfold bothP
    have hl1 : (l.take (2 * i)).length = 2 * i := by rw [List.length_take]; omega
    have hl2 : (l.drop (2 * (i + m))).length = 16 - 2 * (i + m) := by rw [List.length_drop]; omega
    simp only [hl1, hl2]
    rw [if_neg (by omega), zero_mid l hl i (i + m) (Nat.le_add_right i m) him fun j h1 h2 => by
      have := runL_run (grpZ l) i (j - i) (by rw [← hrun]; omega)
      rw [show i + (j - i) = j by omega, grpZ_at l j (by omega)] at this
      simpa using this]
theorem byte_dec (c : UInt8) : okN (Lib.decDigits c.toNat) = true ∧ byN (Lib.decDigits c.toNat) = c ∧ ¬ 46 ∈ Lib.decDigits c.toNat := by
  have : ∀ i : Fin 256, okN (Lib.decDigits i.1) = true ∧ byN (Lib.decDigits i.1) = UInt8.ofNat i.1 ∧ ¬ 46 ∈ Lib.decDigits i.1 := by decide +kernel
  have h := this ⟨c.toNat, c.toNat_lt⟩
  simpa using h
theorem read4 (l : List UInt8) (hl : l.length = 4) : parseP (Lib.join (l.map fun c => Lib.decDigits c.toNat) [46]) = some l := by
  have hs := splitL_join 46 (l.map fun c => Lib.decDigits c.toNat) (by intro e; have := congrArg List.length e; rw [List.length_map, List.length_nil] at this; omega) fun x hx => by
    obtain ⟨c, _, rfl⟩ := List.mem_map.1 hx
    exact (byte_dec c).2.2
  unfold parseP
  rw [hs]
  have hf : fourP (l.map fun c => Lib.decDigits c.toNat) = some l := by
    unfold fourP
    rw [if_pos ⟨by rw [List.length_map]; exact hl, by
      rw [List.all_eq_true]
      intro x hx
      obtain ⟨c, _, rfl⟩ := List.mem_map.1 hx
      exact (byte_dec c).1⟩, List.map_map]
    have : (byN ∘ fun c : UInt8 => Lib.decDigits c.toNat) = id := by
      funext c
      exact (byte_dec c).2.1
    rw [this, List.map_id]
  rw [hf]
theorem read_print (l : List UInt8) (h : l.length = 4 ∨ l.length = 16) : parseP (printP l) = some l := by
  unfold printP
  by_cases h4 : l.length = 4
  · rw [if_pos h4]; exact read4 l h4
  · rw [if_neg h4, if_pos (by omega)]; exact read16 l (by omega)
end Go.Tx
