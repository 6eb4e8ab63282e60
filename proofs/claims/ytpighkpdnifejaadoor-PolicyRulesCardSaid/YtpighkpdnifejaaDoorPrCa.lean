/- Contracts and plain facts that the law leans on. -/
import Derived.Test.YtpighkpdnifejaaDoorPoCa
namespace Go.Pol
open Go.Tx
/-- A rule's text, by its number. -/
def rTxt (k : Nat) : List UInt8 := (if 12 ≤ k then [33] else []) ++ (outU.getD (k % 4) [] ++ [61] ++ actW.getD (1 + k / 4 % 3) [] )
def hostsA : List UInt8 := [104, 111, 115, 116, 115, 58, 32, 97]
def txR (ks : List Nat) : List UInt8 := if ks = [] then hostsA else hostsA ++ [32, 91] ++ ks.flatMap fun k => rTxt k ++ [32]
def endR (ks : List Nat) : List UInt8 := if ks = [] then txR ks else txR ks ++ [93]
theorem rTxt_facts : ((List.range 24).all fun k => decide (openW (rTxt k) = rTxt k) && !closedW (rTxt k) && rOK (rTxt k) && decide (rOut (rTxt k) = ((k % 4 : Nat) : Int)) && decide (notR (rTxt k) = decide (12 ≤ k)) && decide (rAct (rTxt k) = ((1 + k / 4 % 3 : Nat) : Int)) && decide ((rTxt k).length ≤ 18) && (rTxt k).all (fun c => !blankN c.toNat && !forB c && decide (c ≠ 35) && decide (c ≠ 10)) && decide (rTxt k ≠ [])) = true := by decide +kernel
structure RF (k : Nat) : Prop where
  op : openW (rTxt k) = rTxt k
  cl : closedW (rTxt k) = false
  ok : rOK (rTxt k) = true
  out : rOut (rTxt k) = ((k % 4 : Nat) : Int)
  nt : notR (rTxt k) = decide (12 ≤ k)
  act : rAct (rTxt k) = ((1 + k / 4 % 3 : Nat) : Int)
  len : (rTxt k).length ≤ 18
  all : ∀ c ∈ rTxt k, blankN c.toNat = false ∧ forB c = false ∧ c ≠ 35 ∧ c ≠ 10
  ne : rTxt k ≠ []
theorem rf {k : Nat} (h : k < 24) : RF k := by
  have := List.all_eq_true.1 rTxt_facts k (List.mem_range.2 h)
  simp only [Bool.and_eq_true, decide_eq_true_eq, Bool.not_eq_true'] at this
  obtain ⟨⟨⟨⟨⟨⟨⟨⟨h1, h2⟩, h3⟩, h4⟩, h5⟩, h6⟩, h7⟩, h8⟩, h9⟩ := this
  refine ⟨h1, h2, h3, h4, h5, h6, h7, fun c hc => ?_, h9⟩
  have := List.all_eq_true.1 h8 c hc
  simp only [Bool.and_eq_true, decide_eq_true_eq, Bool.not_eq_true'] at this
  exact ⟨this.1.1.1, this.1.1.2, this.1.2, this.2⟩
def ruleS (s : Stp) (k : Nat) : Stp := putS s ((k % 4 : Nat) : Int) (decide (12 ≤ k)) ((1 + k / 4 % 3 : Nat) : Int)
def stepR (ks : List Nat) : Stp := ks.foldl ruleS (plainS [97])
theorem stp1_rule {k : Nat} (h : k < 24) (s : Stp) : stp1 s (rTxt k) = ruleS s k := by
  have f := rf h
  unfold stp1 ruleS
  rw [f.op, if_neg f.ne, f.out, f.nt, f.act]
theorem brk_rules : ∀ (ks : List Nat) (k : Nat) (s : Stp) (r : Bool) (i : Nat), (∀ x ∈ k :: ks, x < 24) → brk s r (rTxt k) (ks.map rTxt ++ [[93]]) i = .ok ((k :: ks).foldl ruleS s, i + ks.length + 2)
  | [], k, s, r, i, h => by
    have f := rf (h k (by simp))
    rw [brk_eq, if_neg (fun e => by rw [f.op, f.ok] at e; cases e.2), if_neg (by rw [f.cl]; decide)]
    show brk (stp1 s (rTxt k)) (r || decide (openW (rTxt k) ≠ [])) [93] [] (i + 1) = _
    rw [stp1_rule (h k (by simp)), brk_eq, if_neg (fun e => e.1 (by decide)), if_pos (by decide), if_neg (by rw [f.op]; simp [f.ne])]
    rfl
  | k2 :: ks, k, s, r, i, h => by
    have f := rf (h k (by simp))
    rw [brk_eq, if_neg (fun e => by rw [f.op, f.ok] at e; cases e.2), if_neg (by rw [f.cl]; decide)]
    show brk (stp1 s (rTxt k)) (r || decide (openW (rTxt k) ≠ [])) (rTxt k2) (ks.map rTxt ++ [[93]]) (i + 1) = _
    rw [stp1_rule (h k (by simp)), brk_rules ks k2 _ _ _ (fun x hx => h x (List.mem_cons_of_mem _ hx))]
    simp only [List.foldl_cons, List.length_cons]
    congr 2
    omega
/-! ### The words -/
theorem fold_in : ∀ (w : List UInt8) (cur : List UInt8) (L : List (List UInt8)), (∀ c ∈ w, blankN c.toNat = false) → w.foldl (stepW blankN) (cur, L) = (cur ++ w, L)
  | [], cur, L, _ => by simp
  | c :: w, cur, L, h => by
    rw [List.foldl_cons, stepW_in (by rw [h c (by simp)]; decide), fold_in w _ L (fun x hx => h x (by simp [hx]))]
    simp
theorem fold_word1 (w : List UInt8) (L : List (List UInt8)) (h : ∀ c ∈ w, blankN c.toNat = false) (hne : w ≠ []) : (w ++ [32]).foldl (stepW blankN) ([], L) = ([], L ++ [w]) := by
  rw [List.foldl_append, fold_in w [] L h]
  show stepW blankN ([] ++ w, L) 32 = _
  rw [stepW_end (by decide) (by simpa using hne)]
  simp
theorem fold_rules : ∀ (ks : List Nat) (L : List (List UInt8)), (∀ x ∈ ks, x < 24) → (ks.flatMap fun k => rTxt k ++ [32]).foldl (stepW blankN) ([], L) = ([], L ++ ks.map rTxt)
  | [], L, _ => by simp
  | k :: ks, L, h => by
    have f := rf (h k (by simp))
    rw [List.flatMap_cons, List.foldl_append, fold_word1 (rTxt k) L (fun c hc => (f.all c hc).1) f.ne, fold_rules ks _ (fun x hx => h x (by simp [hx]))]
    simp
theorem words_rules (k : Nat) (ks : List Nat) (h : ∀ x ∈ k :: ks, x < 24) : wordsL blankN (endR (k :: ks)) = [[104, 111, 115, 116, 115, 58], [97], 91 :: rTxt k] ++ ks.map rTxt ++ [[93]] := by
  have f := rf (h k (by simp))
  have e : endR (k :: ks) = ([104, 111, 115, 116, 115, 58] ++ [32]) ++ (([97] ++ [32]) ++ (((91 :: rTxt k) ++ [32]) ++ ((ks.flatMap fun k => rTxt k ++ [32]) ++ [93]))) := by
    unfold endR txR hostsA
    simp
  unfold wordsL
  rw [e, List.foldl_append, fold_word1 _ _ (by decide) (by decide), List.foldl_append, fold_word1 _ _ (by decide) (by decide), List.foldl_append,
    fold_word1 (91 :: rTxt k) _ (fun c hc => by rcases List.mem_cons.1 hc with rfl | hc; · decide
                                                · exact (f.all c hc).1) (by simp), List.foldl_append, fold_rules ks _ (fun x hx => h x (by simp [hx]))]
  rw [fold_in [93] [] _ (by decide)]
  unfold closeW
  simp
theorem mem_end (k : Nat) (ks : List Nat) (h : ∀ x ∈ k :: ks, x < 24) : ∀ c ∈ endR (k :: ks), forB c = false ∧ c ≠ 35 ∧ c ≠ 10 := by
  intro c hc
  have hh : endR (k :: ks) = hostsA ++ [32, 91] ++ ((k :: ks).flatMap fun k => rTxt k ++ [32]) ++ [93] := by unfold endR txR; simp
  rw [hh] at hc
  simp only [List.mem_append] at hc
  rcases hc with ((hc | hc) | hc) | hc
  · exact (by decide : ∀ c ∈ hostsA, forB c = false ∧ c ≠ 35 ∧ c ≠ 10) c hc
  · exact (by decide : ∀ c ∈ ([32, 91] : List UInt8), forB c = false ∧ c ≠ 35 ∧ c ≠ 10) c hc
  · obtain ⟨x, hx, hc⟩ := List.mem_flatMap.1 hc
    rcases List.mem_append.1 hc with hc | hc
    · exact ((rf (h x hx)).all c hc).2
    · exact (by decide : ∀ c ∈ ([32] : List UInt8), forB c = false ∧ c ≠ 35 ∧ c ≠ 10) c hc
  · exact (by decide : ∀ c ∈ ([93] : List UInt8), forB c = false ∧ c ≠ 35 ∧ c ≠ 10) c hc
theorem flat_le : ∀ (ks : List Nat), (∀ x ∈ ks, x < 24) → (ks.flatMap fun k => rTxt k ++ [32]).length ≤ 19 * ks.length
  | [], _ => by simp
  | k :: ks, h => by
    have := flat_le ks (fun x hx => h x (by simp [hx]))
    have := (rf (h k (by simp))).len
    rw [List.flatMap_cons, List.length_append, List.length_append, List.length_cons]
    simp only [List.length_cons, List.length_nil]
    omega
theorem txR_le (ks : List Nat) (h : ∀ x ∈ ks, x < 24) (hl : ks.length ≤ 10) : (txR ks).length ≤ 200 := by
  have := flat_le ks h
  unfold txR
  split
  · decide
  · have e : hostsA.length = 8 := rfl
    simp only [List.length_append, List.length_cons, List.length_nil, e]
    omega
theorem hash_no : ∀ l : List UInt8, (∀ c ∈ l, c ≠ 35) → hashCut l = l
  | [], _ => rfl
  | c :: l, h => by
    have ih := hash_no l (fun x hx => h x (by simp [hx]))
    unfold hashCut at ih ⊢
    rw [List.takeWhile_cons, if_pos (by simpa using h c (by simp)), ih]
theorem told_one (l : List UInt8) (h : ∀ c ∈ l, c ≠ 10) : toldG 1 [] l = tell 1 l := by
  have h2 : Lib.indexByte l 10 < 0 := by
    induction l with
    | nil => decide
    | cons x l ih =>
      have := ih (fun c hc => h c (by simp [hc]))
      have hx : (x == 10) = false := by simpa using h x (by simp)
      have e : Lib.indexByte (x :: l) 10 = if x == 10 then 0 else if Lib.indexByte l 10 == -1 then -1 else Lib.indexByte l 10 + 1 := rfl
      rw [e, hx]
      have hge := Lib.indexByte_ge l 10
      have h1 : Lib.indexByte l 10 = -1 := by omega
      rw [h1]
      decide
  rw [toldG_no l 1 [] h2, List.nil_append]
end Go.Pol
namespace Go.Proofs.YtpighkpdnifejaaDoor
open Go.RowKit Go.Lib Go.Tx Go.Pol
/-- What the whole text gives. -/
theorem rules_ok (ks : List Nat) (h : ∀ x ∈ ks, x < 24) (hl : ks.length ≤ 10) : ∃ P, polOf (endR ks) = .ok P ∧ P 1 = [stepR ks] := by
  cases ks with
  | nil =>
    have hv : (match polOf (endR []) with | .ok P => decide ((P 1).map tupS = [tupS (stepR [])]) | .error _ => false) = true := by decide +kernel
    cases hr : polOf (endR []) with
    | error q => rw [hr] at hv; cases hv
    | ok P =>
      rw [hr] at hv
      exact ⟨P, rfl, tup_inj (of_decide_eq_true hv)⟩
  | cons k ks =>
    have hm := mem_end k ks h
    have hle : (endR (k :: ks)).length ≤ 201 := by
      have := txR_le (k :: ks) h hl
      unfold endR
      rw [if_neg (by simp)]
      simp only [List.length_append, List.length_cons, List.length_nil]
      omega
    have hcut : hashCut (endR (k :: ks)) = endR (k :: ks) := by
      exact hash_no _ (fun c hc => (hm c hc).2.1)
    have hw : wordsOf (endR (k :: ks)) = [[104, 111, 115, 116, 115, 58], [97], 91 :: rTxt k] ++ ks.map rTxt ++ [[93]] := by
      unfold wordsOf badSeg
      have hb : (endR (k :: ks)).any forB = false := List.any_eq_false.2 (fun c hc => by rw [(hm c hc).1]; decide)
      rw [hb, decide_eq_false (by omega)]
      simp only [Bool.or_self, Bool.false_eq_true, if_false]
      rw [hcut, words_rules k ks h]
    have ht : toldG 1 [] (endR (k :: ks)) = [(1, [[104, 111, 115, 116, 115, 58], [97], 91 :: rTxt k] ++ ks.map rTxt ++ [[93]])] := by
      rw [told_one _ (fun c hc => (hm c hc).2.2)]
      unfold tell
      rw [hw, if_neg (by simp)]
    have hline : lineP ([[97], 91 :: rTxt k] ++ ks.map rTxt ++ [[93]]) 1 [] false = .ok [stepR (k :: ks)] := by
      show lineP ([97] :: (91 :: rTxt k) :: (ks.map rTxt ++ [[93]])) 1 [] false = _
      rw [line_src (by decide) (by decide)]
      show lineP ((91 :: rTxt k) :: (ks.map rTxt ++ [[93]])) 2 ([] ++ [plainS [97]]) false = _
      rw [line_brk rfl]
      show brkR 2 [] (rTxt k :: (ks.map rTxt ++ [[93]])) 0 (brk (plainS [97]) false (rTxt k) (ks.map rTxt ++ [[93]]) 0) = _
      rw [brk_rules ks k _ _ _ h]
      show lineP ((rTxt k :: (ks.map rTxt ++ [[93]])).drop (0 + ks.length + 2 - 0)) _ ([] ++ [stepR (k :: ks)]) true = _
      rw [List.drop_of_length_le (by simp), lineP_nil]
      rfl
    refine ⟨updP noP 1 [stepR (k :: ks)], ?_, rfl⟩
    unfold polOf
    rw [ht]
    show parseP [(1, [104, 111, 115, 116, 115, 58] :: ([[97], 91 :: rTxt k] ++ ks.map rTxt ++ [[93]]))] noP = _
    rw [parse_line (by decide) (by rfl)]
    show (match lineP ([[97], 91 :: rTxt k] ++ ks.map rTxt ++ [[93]]) 1 [] false with | .error c => Except.error (1, c) | .ok l => parseP [] (updP noP (dbN [104, 111, 115, 116, 115, 58]).toNat l)) = _
    rw [hline]
    rfl
end Go.Proofs.YtpighkpdnifejaaDoor

namespace Go.Proofs.YtpighkpdnifejaaDoor
open Go.RowKit Go.Lib Go.Tx Go.Pol Go.Extern.Stop Go.Stop
def wArr (f : Nat → Int) : Array Value := #[.int .i64 (f 0), .int .i64 (f 1), .int .i64 (f 2), .int .i64 (f 3)]
theorem wArr_at (f : Nat → Int) (i : Nat) (h : i < 4) : (wArr f)[i]? = some (.int .i64 (f i)) := by
  have hh : i = 0 ∨ i = 1 ∨ i = 2 ∨ i = 3 := by omega
  rcases hh with rfl | rfl | rfl | rfl <;> rfl
theorem wArr_set (f : Nat → Int) (i : Nat) (v : Int) (h : i < 4) : (wArr f).setIfInBounds i (.int .i64 v) = wArr (fun j => if j = i then v else f j) := by
  have hh : i = 0 ∨ i = 1 ∨ i = 2 ∨ i = 3 := by omega
  rcases hh with rfl | rfl | rfl | rfl <;> rfl
def wIn (d : Nat → Int) (o : Int) (n : Bool) (a : Int) (j : Nat) : Nat → Int := fun i => if i < j then putI i (d i) o n a else d i
theorem wIn_same (d : Nat → Int) (o : Int) (n : Bool) (a : Int) (j : Nat) (h : putI j (d j) o n a = d j) : wIn d o n a (j + 1) = wIn d o n a j := by
  funext i
  unfold wIn
  by_cases h1 : i < j
  · rw [if_pos h1, if_pos (by omega)]
  · rw [if_neg h1]
    by_cases h2 : i = j
    · subst h2; rw [if_pos (by omega), h]
    · rw [if_neg (by omega)]
theorem wIn_set (d : Nat → Int) (o : Int) (n : Bool) (a : Int) (j : Nat) (v : Int) (h : putI j (d j) o n a = v) : (fun i => if i = j then v else wIn d o n a j i) = wIn d o n a (j + 1) := by
  funext i
  unfold wIn
  by_cases h2 : i = j
  · subst h2; rw [if_pos rfl, if_pos (by omega), h]
  · rw [if_neg h2]
    by_cases h1 : i < j
    · rw [if_pos h1, if_pos (by omega)]
    · rw [if_neg h1, if_neg (by omega)]
/-- The wanted actions, as far as number j. -/
structure WI (wo wr : World) (b : Nat) (d : Nat → Int) (o : Int) (n : Bool) (a : Int) (j : Nat) : Prop where
  blk : wr.heap[b]? = some (.cells (wArr (wIn d o n a j)) 45 (0, 0))
  rest : ∀ k, k ≠ b → wr.heap[k]? = wo.heap[k]?
  size : wr.heap.size = wo.heap.size
  os : wr.os = wo.os
  tape : wr.tape = wo.tape
  output : wr.output = wo.output
theorem WI.skip {wo wr : World} {b : Nat} {d : Nat → Int} {o : Int} {n : Bool} {a : Int} {j : Nat} (h : WI wo wr b d o n a j) (hp : putI j (d j) o n a = d j) : WI wo wr b d o n a (j + 1) := ⟨by rw [wIn_same _ _ _ _ _ hp]; exact h.blk, h.rest, h.size, h.os, h.tape, h.output⟩
theorem WI.set {wo wr : World} {b : Nat} {d : Nat → Int} {o : Int} {n : Bool} {a : Int} {j : Nat} (h : WI wo wr b d o n a j) (hj : j < 4) (v : Int) (hp : putI j (d j) o n a = v) : WI wo (wr.setCell ⟨b, j, none⟩ (.int .i64 v)) b d o n a (j + 1) :=
  ⟨by rw [set_blk h.blk, wArr_set _ _ _ hj, wIn_set _ _ _ _ _ _ hp], fun k hk => (setCell_else wr ⟨b, j, none⟩ _ k hk).trans (h.rest k hk), by have := h.size; simpa [World.setCell] using this, h.os, h.tape, h.output⟩
theorem WI.set2 {wo wr : World} {b : Nat} {d : Nat → Int} {o : Int} {n : Bool} {a : Int} {j : Nat} (h : WI wo wr b d o n a j) (hj : j < 4) (u v : Int) (hp : putI j (d j) o n a = v) : WI wo ((wr.setCell ⟨b, j, none⟩ (.int .i64 u)).setCell ⟨b, j, none⟩ (.int .i64 v)) b d o n a (j + 1) := by
  refine ⟨?_, fun k hk => (setCell_else _ ⟨b, j, none⟩ _ k hk).trans ((setCell_else wr ⟨b, j, none⟩ _ k hk).trans (h.rest k hk)), by have := h.size; simpa [World.setCell] using this, h.os, h.tape, h.output⟩
  rw [set_blk (set_blk h.blk), Array.setIfInBounds_setIfInBounds, wArr_set _ _ _ hj, wIn_set _ _ _ _ _ _ hp]
theorem WI.cell {wo wr : World} {b : Nat} {d : Nat → Int} {o : Int} {n : Bool} {a : Int} {j : Nat} (h : WI wo wr b d o n a j) (hj : j < 4) : wr.cell? ⟨b, j, none⟩ = some (.int .i64 (d j)) ∧ wr.frozen? ⟨b, j, none⟩ = false := by
  refine ⟨?_, by simp [World.frozen?, h.blk]⟩
  unfold World.cell?
  rw [h.blk]
  show (wArr (wIn d o n a j))[j]? = _
  rw [wArr_at _ j hj]
  unfold wIn
  rw [if_neg (by omega)]
theorem wIn_end (s : Stp) (k : Nat) : wArr (wIn (dOf s) ((k % 4 : Nat) : Int) (decide (12 ≤ k)) ((1 + k / 4 % 3 : Nat) : Int) 4) = wArr (dOf (ruleS s k)) := rfl
theorem txR_snoc (ks : List Nat) (k : Nat) : txR (ks ++ [k]) = (if ks = [] then hostsA ++ [32, 91] else txR ks) ++ (rTxt k ++ [32]) := by
  unfold txR
  rw [if_neg (by simp)]
  by_cases h : ks = []
  · subst h; simp
  · rw [if_neg h, if_neg h]; simp
theorem mem24 {ks : List Nat} {k : Nat} (h : ∀ x ∈ ks, x < 24) (hk : k < 24) : ∀ x ∈ ks ++ [k], x < 24 := fun x hx => by
  rcases List.mem_append.1 hx with hx | hx
  · exact h x hx
  · rw [List.mem_singleton.1 hx]; exact hk
/-- The conversion of the law's text, by a name of its own. -/
def convR : Op := .convert 9 22 (.tmp 99)
theorem convR_eq : Op.convert 9 22 (.tmp 99) = convR := rfl
set_option maxHeartbeats 8000000 in
set_option maxRecDepth 100000 in
theorem policyRules_walk (a0 : Option Addr) (n0 c0 : Nat) (W : World) (w0 : ∃ zs, Go.Sl.IsInts .i64 W a0 n0 c0 zs) (hg : PG W) :
    Calls Tryd.prog 4 #[.slice a0 n0 c0] W fun e w' => e = .returned (.bool true) ∧ Below W.heap.size W w' := by
  have HBg := Lib.hid (begun_any W hg)
  have HG := Lib.hid hg
  obtain ⟨hn0, hrd⟩ := ints_in w0
  have HRd := Lib.hid hrd
  have t5 := j_eq
  clear w0 hrd hg
  go_enter Tryd.func4, Tryd.ntmps4
  go_upto_region 7 with (go_at_call 7; refine HBg.out.mono ?_; rintro e w1 ⟨rfl, hb1⟩; have HB1 := Lib.hid hb1; clear hb1)
  obtain ⟨B1, hB1⟩ : ∃ B1, w1.heap.size = B1 := ⟨_, rfl⟩
  have hsz : (((w1.alloc (.cells #[.string ⟨#[83, 85, 67, 67, 69, 83, 83]⟩, .string ⟨#[78, 79, 84, 70, 79, 85, 78, 68]⟩, .string ⟨#[85, 78, 65, 86, 65, 73, 76]⟩, .string ⟨#[84, 82, 89, 65, 71, 65, 73, 78]⟩] 9)).alloc (.cells #[.string ⟨#[]⟩, .string ⟨#[114, 101, 116, 117, 114, 110]⟩, .string ⟨#[99, 111, 110, 116, 105, 110, 117, 101]⟩, .string ⟨#[109, 101, 114, 103, 101]⟩] 9)).alloc (.cells #[.int .i64 1, .int .i64 2, .int .i64 2, .int .i64 2] 45)).heap.size = B1 + 3 := by rw [← hB1]; show (((w1.heap.push _).push _).push _).size = _; simp
  have hbl : Below w1.heap.size w1 (((w1.alloc (.cells #[.string ⟨#[83, 85, 67, 67, 69, 83, 83]⟩, .string ⟨#[78, 79, 84, 70, 79, 85, 78, 68]⟩, .string ⟨#[85, 78, 65, 86, 65, 73, 76]⟩, .string ⟨#[84, 82, 89, 65, 71, 65, 73, 78]⟩] 9)).alloc (.cells #[.string ⟨#[]⟩, .string ⟨#[114, 101, 116, 117, 114, 110]⟩, .string ⟨#[99, 111, 110, 116, 105, 110, 117, 101]⟩, .string ⟨#[109, 101, 114, 103, 101]⟩] 9)).alloc (.cells #[.int .i64 1, .int .i64 2, .int .i64 2, .int .i64 2] 45)) := (bel2 w1 _ _).alloc (by show w1.heap.size ≤ ((w1.heap.push _).push _).size; simp; omega) _
  have hN : (((w1.alloc (.cells #[.string ⟨#[83, 85, 67, 67, 69, 83, 83]⟩, .string ⟨#[78, 79, 84, 70, 79, 85, 78, 68]⟩, .string ⟨#[85, 78, 65, 86, 65, 73, 76]⟩, .string ⟨#[84, 82, 89, 65, 71, 65, 73, 78]⟩] 9)).alloc (.cells #[.string ⟨#[]⟩, .string ⟨#[114, 101, 116, 117, 114, 110]⟩, .string ⟨#[99, 111, 110, 116, 105, 110, 117, 101]⟩, .string ⟨#[109, 101, 114, 103, 101]⟩] 9)).alloc (.cells #[.int .i64 1, .int .i64 2, .int .i64 2, .int .i64 2] 45)).heap[B1]? = some (.cells (rowV outU) 9 (0, 0)) := by
    rw [← hB1]
    show (((w1.heap.push _).push _).push _)[w1.heap.size]? = _
    rw [Array.getElem?_push, if_neg (by simp; try omega), Array.getElem?_push, if_neg (by simp; try omega), Array.getElem?_push, if_pos rfl]
    rfl
  have hA : (((w1.alloc (.cells #[.string ⟨#[83, 85, 67, 67, 69, 83, 83]⟩, .string ⟨#[78, 79, 84, 70, 79, 85, 78, 68]⟩, .string ⟨#[85, 78, 65, 86, 65, 73, 76]⟩, .string ⟨#[84, 82, 89, 65, 71, 65, 73, 78]⟩] 9)).alloc (.cells #[.string ⟨#[]⟩, .string ⟨#[114, 101, 116, 117, 114, 110]⟩, .string ⟨#[99, 111, 110, 116, 105, 110, 117, 101]⟩, .string ⟨#[109, 101, 114, 103, 101]⟩] 9)).alloc (.cells #[.int .i64 1, .int .i64 2, .int .i64 2, .int .i64 2] 45)).heap[B1 + 1]? = some (.cells (rowV actW) 9 (0, 0)) := by
    rw [← hB1]
    show (((w1.heap.push _).push _).push _)[w1.heap.size + 1]? = _
    rw [Array.getElem?_push, if_neg (by simp; try omega), Array.getElem?_push, if_pos (by simp)]
    rfl
  have hWt : (((w1.alloc (.cells #[.string ⟨#[83, 85, 67, 67, 69, 83, 83]⟩, .string ⟨#[78, 79, 84, 70, 79, 85, 78, 68]⟩, .string ⟨#[85, 78, 65, 86, 65, 73, 76]⟩, .string ⟨#[84, 82, 89, 65, 71, 65, 73, 78]⟩] 9)).alloc (.cells #[.string ⟨#[]⟩, .string ⟨#[114, 101, 116, 117, 114, 110]⟩, .string ⟨#[99, 111, 110, 116, 105, 110, 117, 101]⟩, .string ⟨#[109, 101, 114, 103, 101]⟩] 9)).alloc (.cells #[.int .i64 1, .int .i64 2, .int .i64 2, .int .i64 2] 45)).heap[B1 + 2]? = some (.cells (wArr (dOf (stepR []))) 45 (0, 0)) := by
    rw [← hB1]
    show (((w1.heap.push _).push _).push _)[w1.heap.size + 2]? = _
    rw [Array.getElem?_push, if_pos (by simp)]
    rfl
  rw [hB1]
  generalize (((w1.alloc (.cells #[.string ⟨#[83, 85, 67, 67, 69, 83, 83]⟩, .string ⟨#[78, 79, 84, 70, 79, 85, 78, 68]⟩, .string ⟨#[85, 78, 65, 86, 65, 73, 76]⟩, .string ⟨#[84, 82, 89, 65, 71, 65, 73, 78]⟩] 9)).alloc (.cells #[.string ⟨#[]⟩, .string ⟨#[114, 101, 116, 117, 114, 110]⟩, .string ⟨#[99, 111, 110, 116, 105, 110, 117, 101]⟩, .string ⟨#[109, 101, 114, 103, 101]⟩] 9)).alloc (.cells #[.int .i64 1, .int .i64 2, .int .i64 2, .int .i64 2] 45)) = w4 at *
  have HN := Lib.hid hN
  have HA := Lib.hid hA
  have HWt := Lib.hid hWt
  have HSz := Lib.hid hsz
  have HB4 : Hid (Below W.heap.size W w4) := Lib.hid (HB1.out.trans (hbl.mono HB1.out.size))
  have hWB : W.heap.size ≤ B1 := by rw [← hB1]; exact HB1.out.size
  clear hN hA hWt hsz hbl hB1
  go_wp2
  go_loopw [7, 8, 9] (fun sv nv iv wr => ∃ (i : Nat) (ks : List Nat), i ≤ 10 ∧ i ≤ n0 ∧ iv = .int .i64 i ∧ ks.length ≤ i ∧ (∀ x ∈ ks, x < 24) ∧ sv = .string ⟨(txR ks).toArray⟩ ∧ nv = .int .i64 (ks.length : Int) ∧ wr.heap[B1 + 2]? = some (.cells (wArr (dOf (stepR ks))) 45 (0, 0)) ∧ (∀ j, j ≠ B1 + 2 → j < w4.heap.size → wr.heap[j]? = w4.heap[j]?) ∧ Below W.heap.size W wr ∧ w4.heap.size ≤ wr.heap.size) (fun _ _ iv _ => 10 - (intOf iv).toNat)
  case atStart => exact ⟨0, [], by decide, Nat.zero_le _, rfl, Nat.le_refl _, by simp, rfl, rfl, HWt.out, fun _ _ _ => rfl, HB4.out, Nat.le_refl _⟩
  case round =>
    obtain ⟨i, ks, hi10, hin, rfl, hkl, hks, rfl, rfl, hwb, hkeep, hB, hbig⟩ := hrel
    have HKs := Lib.hid hks
    have HKl := Lib.hid hkl
    have HWb := Lib.hid hwb
    have HKeep := Lib.hid hkeep
    have HB := Lib.hid hB
    have hsz := HSz.out
    have HBig := Lib.hid hbig
    have hst := txR_le ks hks (by omega)
    obtain ⟨S, hS⟩ : ∃ S : ByteArray, (⟨(txR ks).toArray⟩ : ByteArray) = S := ⟨_, rfl⟩
    have hSs : S.size ≤ 200 := by rw [← hS]; show (txR ks).toArray.size ≤ _; simpa using hst
    have HSd : Hid (S.data.toList = txR ks) := Lib.hid (by rw [← hS])
    have HSe := Lib.hid hS
    rw [hS]
    obtain ⟨nk, hnk⟩ : ∃ nk, ks.length = nk := ⟨_, rfl⟩
    rw [hnk] at hkl ⊢
    have HNk := Lib.hid hnk
    clear hks hwb hkeep hB hst hS hnk hbig
    by_cases hgo : i < n0 ∧ i < 10
    · obtain ⟨hl1, hl2⟩ := hgo
      obtain ⟨x, z, rfl, hzc⟩ := HRd.out i hl1
      have hz := hzc wr HB.out
      have e1 : (i : Int) < (n0 : Int) := by omega
      have e2 : (i : Int) < 10 := by omega
      have e3 : (0 : Int) ≤ (i : Int) := by omega
      clear hzc
      by_cases hz1 : z < 0
      · go_wp2
        go_roundw
        case rel => exact ⟨i + 1, ks, by omega, by omega, by go_num, by have := HKl.out; omega, HKs.out, by rw [HSe.out], by rw [HNk.out], HWb.out, HKeep.out, HB.out, HBig.out⟩
        case measure => simp [intOf]; omega
      · by_cases hz2 : 24 ≤ z
        · go_wp2
          go_roundw
          case rel => exact ⟨i + 1, ks, by omega, by omega, by go_num, by have := HKl.out; omega, HKs.out, by rw [HSe.out], by rw [HNk.out], HWb.out, HKeep.out, HB.out, HBig.out⟩
          case measure => simp [intOf]; omega
        · obtain ⟨k, rfl⟩ : ∃ k : Nat, z = (k : Int) := ⟨z.toNat, by omega⟩
          have hk24 : k < 24 := by omega
          obtain ⟨o, ho⟩ : ∃ o, k % 4 = o := ⟨_, rfl⟩
          obtain ⟨m, hm⟩ : ∃ m, k / 4 % 3 = m := ⟨_, rfl⟩
          obtain ⟨a, ha⟩ : ∃ a, 1 + m = a := ⟨_, rfl⟩
          have ho4 : o < 4 := by omega
          have ha4 : a < 4 := by omega
          have ha1 : 1 ≤ a := by omega
          have v1 : (k : Int) % 4 = (o : Int) := by omega
          have v2 : (k : Int) / 4 % 3 = (m : Int) := by omega
          have v3 : (1 : Int) + (m : Int) = (a : Int) := by omega
          have HK : Hid (k % 4 = o ∧ 1 + k / 4 % 3 = a) := Lib.hid ⟨ho, by omega⟩
          have c1 : wr.cell? ⟨B1, o, none⟩ = some (.string ⟨(outU.getD o []).toArray⟩) := by
            unfold World.cell?
            rw [HKeep.out B1 (by omega) (by omega), HN.out]
            exact rowV_at outU o ho4
          have c2 : wr.cell? ⟨B1 + 1, a, none⟩ = some (.string ⟨(actW.getD a []).toArray⟩) := by
            unfold World.cell?
            rw [HKeep.out (B1 + 1) (by omega) (by omega), HA.out]
            exact rowV_at actW a ha4
          obtain ⟨O, hO⟩ : ∃ O : ByteArray, (⟨(outU.getD o []).toArray⟩ : ByteArray) = O := ⟨_, rfl⟩
          obtain ⟨Ac, hAc⟩ : ∃ Ac : ByteArray, (⟨(actW.getD a []).toArray⟩ : ByteArray) = Ac := ⟨_, rfl⟩
          have hOs : O.size ≤ 8 := by rw [← hO]; show (outU.getD o []).toArray.size ≤ _; simpa using out_len o
          have hAs : Ac.size ≤ 8 := by rw [← hAc]; show (actW.getD a []).toArray.size ≤ _; simpa using act_len a
          rw [hO] at c1
          rw [hAc] at c2
          have HTx : Hid (∀ X : ByteArray, X.data.toList = (if ks = [] then hostsA ++ [32, 91] else txR ks) ++ (if 12 ≤ k then [33] else []) → (⟨(txR (ks ++ [k])).toArray⟩ : ByteArray) = X ++ (O ++ ⟨#[61]⟩ ++ Ac ++ ⟨#[32]⟩)) := Lib.hid (fun X hX => by
            apply ByteArray.ext
            apply Array.ext'
            rw [txR_snoc]
            unfold rTxt
            rw [ho, show 1 + k / 4 % 3 = a from by omega]
            simp [hX, ← hO, ← hAc])
          have HSt : Hid (stepR (ks ++ [k]) = ruleS (stepR ks) k) := Lib.hid (by unfold stepR; rw [List.foldl_append]; rfl)
          clear ho hm ha hO hAc
          by_cases hks0 : ks = []
          · have en : ((nk : Int) == 0) = true := by rw [← HNk.out, hks0]; rfl
            by_cases h12 : (12 : Int) ≤ (k : Int)
            · have q1 : ¬ 9223372036854775807 < S.size + 2 := by omega
              have q2 : ¬ 9223372036854775807 < S.size + 2 + 1 := by omega
              have q2' : ¬ 9223372036854775807 < S.size + 1 := by omega
              clear q2'
              go_upto_region 20 with (fail)
              obtain ⟨X, hX⟩ : ∃ X : ByteArray, S ++ (⟨#[32, 91]⟩ : ByteArray) ++ ⟨#[33]⟩ = X := ⟨_, rfl⟩
              have hXs : X.size ≤ 203 := by rw [← hX]; try simp only [ByteArray.size_append]
                                            first | omega | (show S.size + 2 + 1 ≤ 203; omega) | (show S.size + 2 ≤ 203; omega) | (show S.size + 1 ≤ 203; omega)
              have HXe : Hid ((⟨(txR (ks ++ [k])).toArray⟩ : ByteArray) = X ++ (O ++ ⟨#[61]⟩ ++ Ac ++ ⟨#[32]⟩)) := Lib.hid (HTx.out X (by rw [← hX]; simp [HSd.out, hks0, show (12 ≤ k) from by omega, txR]))
              rw [hX]
              have p1 : ¬ 9223372036854775807 < O.size + 1 := by omega
              have p2 : ¬ 9223372036854775807 < O.size + 1 + Ac.size := by omega
              have p3 : ¬ 9223372036854775807 < O.size + 1 + Ac.size + 1 := by omega
              have p4 : ¬ 9223372036854775807 < X.size + (O.size + 1 + Ac.size + 1) := by omega
              have oo : (0 : Int) ≤ (o : Int) := by omega
              have oo4 : (o : Int) < 4 := by omega
              have aa : (0 : Int) ≤ (a : Int) := by omega
              have aa4 : (a : Int) < 4 := by omega
              clear hX q1 q2 v2 v3
              rw [v1]
              clear v1
              go_quiet (fail)
              go_wp2
              have HWI : Hid (WI (wr.drewN nq) (wr.drewN nq) (B1 + 2) (dOf (stepR ks)) (o : Int) (decide (12 ≤ k)) (a : Int) 0) := Lib.hid ⟨by
                rw [show wIn (dOf (stepR ks)) (o : Int) (decide (12 ≤ k)) (a : Int) 0 = dOf (stepR ks) from by funext i; unfold wIn; rw [if_neg (by omega)]]
                exact HWb.out, fun _ _ => rfl, rfl, rfl, rfl, rfl⟩
              have HBq : Hid (Below W.heap.size W (wr.drewN nq)) := Lib.hid (bel_drewN9 HB.out nq)
              have HKq : Hid (∀ j, j ≠ B1 + 2 → j < w4.heap.size → (wr.drewN nq).heap[j]? = w4.heap[j]?) := HKeep
              have HZq : Hid (w4.heap.size ≤ (wr.drewN nq).heap.size) := HBig
              clear c1 c2 hz
              generalize (wr.drewN nq) = wo at *
              go_loopw [14] (fun jv wr => ∃ j : Nat, j ≤ 4 ∧ jv = .int .i64 j ∧ WI wo wr (B1 + 2) (dOf (stepR ks)) (o : Int) (decide (12 ≤ k)) (a : Int) j) (fun jv _ => 4 - (intOf jv).toNat)
              case atStart => exact ⟨0, by decide, rfl, HWI.out⟩
              case round =>
                obtain ⟨j, hj4, rfl, hI⟩ := hrel
                have HI := Lib.hid hI
                by_cases hjl : j < 4
                · have hcj : wr.cell? ⟨B1 + 1 + 1, j, none⟩ = some (.int .i64 (dOf (stepR ks) j)) := (hI.cell hjl).1
                  have hfj : wr.frozen? ⟨B1 + 1 + 1, j, none⟩ = false := (hI.cell hjl).2
                  have jj : (0 : Int) ≤ (j : Int) := by omega
                  have jj4 : (j : Int) < 4 := by omega
                  clear hI
                  by_cases hjo : j = o
                  · have ej : ((j : Int) == (o : Int)) = true := by rw [hjo]; simp
                    have HD : Hid (decide ((j : Int) = (o : Int)) = true) := Lib.hid (by rw [hjo]; simp)
                    clear hjo
                    have HE : Hid (putI j (dOf (stepR ks) j) (o : Int) (decide (12 ≤ k)) (a : Int) = dOf (stepR ks) j) := Lib.hid (by unfold putI; rw [HD.out, show decide (12 ≤ k) = true from by simp; omega]; rfl)
                    go_wp2
                    go_roundw
                    case rel => exact ⟨j + 1, hjl, by go_num, HI.out.skip HE.out⟩
                    case measure => simp [intOf]; omega
                  · have ej : ((j : Int) == (o : Int)) = false := by simp; omega
                    have HD : Hid (decide ((j : Int) = (o : Int)) = false) := Lib.hid (by simp; omega)
                    clear hjo
                    by_cases ha3 : a = 3
                    · subst ha3
                      by_cases hj0 : j = 0
                      · have HE : Hid (putI j (dOf (stepR ks) j) (o : Int) (decide (12 ≤ k)) ((3 : Nat) : Int) = 3) := Lib.hid (by unfold putI; rw [HD.out, show decide (12 ≤ k) = true from by simp; omega, if_neg (by decide), if_neg (by omega)]; rfl)
                        have ez : ¬ (0 : Int) < (j : Int) := by omega
                        clear hj0
                        go_wp2
                        go_roundw
                        case rel => exact ⟨j + 1, hjl, by go_num, HI.out.set hjl 3 HE.out⟩
                        case measure => simp [intOf]; omega
                      · have HE : Hid (putI j (dOf (stepR ks) j) (o : Int) (decide (12 ≤ k)) ((3 : Nat) : Int) = 2) := Lib.hid (by unfold putI; rw [HD.out, show decide (12 ≤ k) = true from by simp; omega, if_neg (by decide), if_pos (by omega)])
                        have ez : (0 : Int) < (j : Int) := by omega
                        clear hj0
                        go_wp2
                        go_roundw
                        case rel => exact ⟨j + 1, hjl, by go_num, HI.out.set2 hjl 3 2 HE.out⟩
                        case measure => simp [intOf]; omega
                    · have HE : Hid (putI j (dOf (stepR ks) j) (o : Int) (decide (12 ≤ k)) (a : Int) = (a : Int)) := Lib.hid (by unfold putI; rw [HD.out, show decide (12 ≤ k) = true from by simp; omega, if_neg (by decide), if_neg (by omega)])
                      have ea : ((a : Int) == 3) = false := by simp; omega
                      clear ha3
                      go_wp2
                      go_roundw
                      case rel => exact ⟨j + 1, hjl, by go_num, HI.out.set hjl a HE.out⟩
                      case measure => simp [intOf]; omega
                · obtain rfl : j = 4 := by omega
                  clear hI
                  go_wp2
                  go_roundw
                  case rel =>
                    refine ⟨i + 1, ks ++ [k], by omega, by omega, by go_num, by rw [List.length_append]; have := HKl.out; simp; omega, mem24 HKs.out hk24, by rw [HXe.out], by rw [List.length_append, HNk.out]; go_num, ?_, fun q h1 h2 => (HI.out.rest q h1).trans (HKq.out q h1 h2), ?_, by rw [HI.out.size]; exact HZq.out⟩
                    · rw [HSt.out, HI.out.blk]
                      obtain ⟨g1, g2⟩ := HK.out
                      subst g1
                      subst g2
                      rw [wIn_end]
                    · exact HBq.out.trans ⟨HI.out.os, HI.out.tape, HI.out.output, by rw [HI.out.size]; exact Nat.le_refl _, fun q hq => HI.out.rest q (by omega)⟩
                  case measure => simp [intOf]; omega
            · have q1 : ¬ 9223372036854775807 < S.size + 2 := by omega
              have q2 : ¬ 9223372036854775807 < S.size + 2 + 1 := by omega
              have q2' : ¬ 9223372036854775807 < S.size + 1 := by omega
              clear q2'
              go_upto_region 20 with (fail)
              obtain ⟨X, hX⟩ : ∃ X : ByteArray, S ++ (⟨#[32, 91]⟩ : ByteArray) = X := ⟨_, rfl⟩
              have hXs : X.size ≤ 203 := by rw [← hX]; try simp only [ByteArray.size_append]
                                            first | omega | (show S.size + 2 + 1 ≤ 203; omega) | (show S.size + 2 ≤ 203; omega) | (show S.size + 1 ≤ 203; omega)
              have HXe : Hid ((⟨(txR (ks ++ [k])).toArray⟩ : ByteArray) = X ++ (O ++ ⟨#[61]⟩ ++ Ac ++ ⟨#[32]⟩)) := Lib.hid (HTx.out X (by rw [← hX]; simp [HSd.out, hks0, show ¬ (12 ≤ k) from by omega, txR]))
              rw [hX]
              have p1 : ¬ 9223372036854775807 < O.size + 1 := by omega
              have p2 : ¬ 9223372036854775807 < O.size + 1 + Ac.size := by omega
              have p3 : ¬ 9223372036854775807 < O.size + 1 + Ac.size + 1 := by omega
              have p4 : ¬ 9223372036854775807 < X.size + (O.size + 1 + Ac.size + 1) := by omega
              have oo : (0 : Int) ≤ (o : Int) := by omega
              have oo4 : (o : Int) < 4 := by omega
              have aa : (0 : Int) ≤ (a : Int) := by omega
              have aa4 : (a : Int) < 4 := by omega
              clear hX q1 q2 v2 v3
              rw [v1]
              clear v1
              go_quiet (fail)
              go_wp2
              have HWI : Hid (WI (wr.drewN nq) (wr.drewN nq) (B1 + 2) (dOf (stepR ks)) (o : Int) (decide (12 ≤ k)) (a : Int) 0) := Lib.hid ⟨by
                rw [show wIn (dOf (stepR ks)) (o : Int) (decide (12 ≤ k)) (a : Int) 0 = dOf (stepR ks) from by funext i; unfold wIn; rw [if_neg (by omega)]]
                exact HWb.out, fun _ _ => rfl, rfl, rfl, rfl, rfl⟩
              have HBq : Hid (Below W.heap.size W (wr.drewN nq)) := Lib.hid (bel_drewN9 HB.out nq)
              have HKq : Hid (∀ j, j ≠ B1 + 2 → j < w4.heap.size → (wr.drewN nq).heap[j]? = w4.heap[j]?) := HKeep
              have HZq : Hid (w4.heap.size ≤ (wr.drewN nq).heap.size) := HBig
              clear c1 c2 hz
              generalize (wr.drewN nq) = wo at *
              go_loopw [14] (fun jv wr => ∃ j : Nat, j ≤ 4 ∧ jv = .int .i64 j ∧ WI wo wr (B1 + 2) (dOf (stepR ks)) (o : Int) (decide (12 ≤ k)) (a : Int) j) (fun jv _ => 4 - (intOf jv).toNat)
              case atStart => exact ⟨0, by decide, rfl, HWI.out⟩
              case round =>
                obtain ⟨j, hj4, rfl, hI⟩ := hrel
                have HI := Lib.hid hI
                by_cases hjl : j < 4
                · have hcj : wr.cell? ⟨B1 + 1 + 1, j, none⟩ = some (.int .i64 (dOf (stepR ks) j)) := (hI.cell hjl).1
                  have hfj : wr.frozen? ⟨B1 + 1 + 1, j, none⟩ = false := (hI.cell hjl).2
                  have jj : (0 : Int) ≤ (j : Int) := by omega
                  have jj4 : (j : Int) < 4 := by omega
                  clear hI
                  by_cases hjo : j = o
                  · have ej : ((j : Int) == (o : Int)) = true := by rw [hjo]; simp
                    have HD : Hid (decide ((j : Int) = (o : Int)) = true) := Lib.hid (by rw [hjo]; simp)
                    clear hjo
                    by_cases ha3 : a = 3
                    · subst ha3
                      by_cases hj0 : j = 0
                      · have HE : Hid (putI j (dOf (stepR ks) j) (o : Int) (decide (12 ≤ k)) ((3 : Nat) : Int) = 3) := Lib.hid (by unfold putI; rw [HD.out, show decide (12 ≤ k) = false from by simp; omega, if_neg (by decide), if_neg (by omega)]; rfl)
                        have ez : ¬ (0 : Int) < (j : Int) := by omega
                        clear hj0
                        go_wp2
                        go_roundw
                        case rel => exact ⟨j + 1, hjl, by go_num, HI.out.set hjl 3 HE.out⟩
                        case measure => simp [intOf]; omega
                      · have HE : Hid (putI j (dOf (stepR ks) j) (o : Int) (decide (12 ≤ k)) ((3 : Nat) : Int) = 2) := Lib.hid (by unfold putI; rw [HD.out, show decide (12 ≤ k) = false from by simp; omega, if_neg (by decide), if_pos (by omega)])
                        have ez : (0 : Int) < (j : Int) := by omega
                        clear hj0
                        go_wp2
                        go_roundw
                        case rel => exact ⟨j + 1, hjl, by go_num, HI.out.set2 hjl 3 2 HE.out⟩
                        case measure => simp [intOf]; omega
                    · have HE : Hid (putI j (dOf (stepR ks) j) (o : Int) (decide (12 ≤ k)) (a : Int) = (a : Int)) := Lib.hid (by unfold putI; rw [HD.out, show decide (12 ≤ k) = false from by simp; omega, if_neg (by decide), if_neg (by omega)])
                      have ea : ((a : Int) == 3) = false := by simp; omega
                      clear ha3
                      go_wp2
                      go_roundw
                      case rel => exact ⟨j + 1, hjl, by go_num, HI.out.set hjl a HE.out⟩
                      case measure => simp [intOf]; omega
                  · have ej : ((j : Int) == (o : Int)) = false := by simp; omega
                    have HD : Hid (decide ((j : Int) = (o : Int)) = false) := Lib.hid (by simp; omega)
                    clear hjo
                    have HE : Hid (putI j (dOf (stepR ks) j) (o : Int) (decide (12 ≤ k)) (a : Int) = dOf (stepR ks) j) := Lib.hid (by unfold putI; rw [HD.out, show decide (12 ≤ k) = false from by simp; omega]; rfl)
                    go_wp2
                    go_roundw
                    case rel => exact ⟨j + 1, hjl, by go_num, HI.out.skip HE.out⟩
                    case measure => simp [intOf]; omega
                · obtain rfl : j = 4 := by omega
                  clear hI
                  go_wp2
                  go_roundw
                  case rel =>
                    refine ⟨i + 1, ks ++ [k], by omega, by omega, by go_num, by rw [List.length_append]; have := HKl.out; simp; omega, mem24 HKs.out hk24, by rw [HXe.out], by rw [List.length_append, HNk.out]; go_num, ?_, fun q h1 h2 => (HI.out.rest q h1).trans (HKq.out q h1 h2), ?_, by rw [HI.out.size]; exact HZq.out⟩
                    · rw [HSt.out, HI.out.blk]
                      obtain ⟨g1, g2⟩ := HK.out
                      subst g1
                      subst g2
                      rw [wIn_end]
                    · exact HBq.out.trans ⟨HI.out.os, HI.out.tape, HI.out.output, by rw [HI.out.size]; exact Nat.le_refl _, fun q hq => HI.out.rest q (by omega)⟩
                  case measure => simp [intOf]; omega
          · have en : ((nk : Int) == 0) = false := by
              have := List.length_pos_iff.2 hks0
              simp
              have := HNk.out
              omega
            by_cases h12 : (12 : Int) ≤ (k : Int)
            · have q1 : ¬ 9223372036854775807 < S.size + 2 := by omega
              have q2 : ¬ 9223372036854775807 < S.size + 2 + 1 := by omega
              have q2' : ¬ 9223372036854775807 < S.size + 1 := by omega
              clear q2'
              go_upto_region 20 with (fail)
              obtain ⟨X, hX⟩ : ∃ X : ByteArray, S ++ (⟨#[33]⟩ : ByteArray) = X := ⟨_, rfl⟩
              have hXs : X.size ≤ 203 := by rw [← hX]; try simp only [ByteArray.size_append]
                                            first | omega | (show S.size + 2 + 1 ≤ 203; omega) | (show S.size + 2 ≤ 203; omega) | (show S.size + 1 ≤ 203; omega)
              have HXe : Hid ((⟨(txR (ks ++ [k])).toArray⟩ : ByteArray) = X ++ (O ++ ⟨#[61]⟩ ++ Ac ++ ⟨#[32]⟩)) := Lib.hid (HTx.out X (by rw [← hX]; simp [HSd.out, hks0, show (12 ≤ k) from by omega, txR]))
              rw [hX]
              have p1 : ¬ 9223372036854775807 < O.size + 1 := by omega
              have p2 : ¬ 9223372036854775807 < O.size + 1 + Ac.size := by omega
              have p3 : ¬ 9223372036854775807 < O.size + 1 + Ac.size + 1 := by omega
              have p4 : ¬ 9223372036854775807 < X.size + (O.size + 1 + Ac.size + 1) := by omega
              have oo : (0 : Int) ≤ (o : Int) := by omega
              have oo4 : (o : Int) < 4 := by omega
              have aa : (0 : Int) ≤ (a : Int) := by omega
              have aa4 : (a : Int) < 4 := by omega
              clear hX q1 q2 v2 v3
              rw [v1]
              clear v1
              go_quiet (fail)
              go_wp2
              have HWI : Hid (WI (wr.drewN nq) (wr.drewN nq) (B1 + 2) (dOf (stepR ks)) (o : Int) (decide (12 ≤ k)) (a : Int) 0) := Lib.hid ⟨by
                rw [show wIn (dOf (stepR ks)) (o : Int) (decide (12 ≤ k)) (a : Int) 0 = dOf (stepR ks) from by funext i; unfold wIn; rw [if_neg (by omega)]]
                exact HWb.out, fun _ _ => rfl, rfl, rfl, rfl, rfl⟩
              have HBq : Hid (Below W.heap.size W (wr.drewN nq)) := Lib.hid (bel_drewN9 HB.out nq)
              have HKq : Hid (∀ j, j ≠ B1 + 2 → j < w4.heap.size → (wr.drewN nq).heap[j]? = w4.heap[j]?) := HKeep
              have HZq : Hid (w4.heap.size ≤ (wr.drewN nq).heap.size) := HBig
              clear c1 c2 hz
              generalize (wr.drewN nq) = wo at *
              go_loopw [14] (fun jv wr => ∃ j : Nat, j ≤ 4 ∧ jv = .int .i64 j ∧ WI wo wr (B1 + 2) (dOf (stepR ks)) (o : Int) (decide (12 ≤ k)) (a : Int) j) (fun jv _ => 4 - (intOf jv).toNat)
              case atStart => exact ⟨0, by decide, rfl, HWI.out⟩
              case round =>
                obtain ⟨j, hj4, rfl, hI⟩ := hrel
                have HI := Lib.hid hI
                by_cases hjl : j < 4
                · have hcj : wr.cell? ⟨B1 + 1 + 1, j, none⟩ = some (.int .i64 (dOf (stepR ks) j)) := (hI.cell hjl).1
                  have hfj : wr.frozen? ⟨B1 + 1 + 1, j, none⟩ = false := (hI.cell hjl).2
                  have jj : (0 : Int) ≤ (j : Int) := by omega
                  have jj4 : (j : Int) < 4 := by omega
                  clear hI
                  by_cases hjo : j = o
                  · have ej : ((j : Int) == (o : Int)) = true := by rw [hjo]; simp
                    have HD : Hid (decide ((j : Int) = (o : Int)) = true) := Lib.hid (by rw [hjo]; simp)
                    clear hjo
                    have HE : Hid (putI j (dOf (stepR ks) j) (o : Int) (decide (12 ≤ k)) (a : Int) = dOf (stepR ks) j) := Lib.hid (by unfold putI; rw [HD.out, show decide (12 ≤ k) = true from by simp; omega]; rfl)
                    go_wp2
                    go_roundw
                    case rel => exact ⟨j + 1, hjl, by go_num, HI.out.skip HE.out⟩
                    case measure => simp [intOf]; omega
                  · have ej : ((j : Int) == (o : Int)) = false := by simp; omega
                    have HD : Hid (decide ((j : Int) = (o : Int)) = false) := Lib.hid (by simp; omega)
                    clear hjo
                    by_cases ha3 : a = 3
                    · subst ha3
                      by_cases hj0 : j = 0
                      · have HE : Hid (putI j (dOf (stepR ks) j) (o : Int) (decide (12 ≤ k)) ((3 : Nat) : Int) = 3) := Lib.hid (by unfold putI; rw [HD.out, show decide (12 ≤ k) = true from by simp; omega, if_neg (by decide), if_neg (by omega)]; rfl)
                        have ez : ¬ (0 : Int) < (j : Int) := by omega
                        clear hj0
                        go_wp2
                        go_roundw
                        case rel => exact ⟨j + 1, hjl, by go_num, HI.out.set hjl 3 HE.out⟩
                        case measure => simp [intOf]; omega
                      · have HE : Hid (putI j (dOf (stepR ks) j) (o : Int) (decide (12 ≤ k)) ((3 : Nat) : Int) = 2) := Lib.hid (by unfold putI; rw [HD.out, show decide (12 ≤ k) = true from by simp; omega, if_neg (by decide), if_pos (by omega)])
                        have ez : (0 : Int) < (j : Int) := by omega
                        clear hj0
                        go_wp2
                        go_roundw
                        case rel => exact ⟨j + 1, hjl, by go_num, HI.out.set2 hjl 3 2 HE.out⟩
                        case measure => simp [intOf]; omega
                    · have HE : Hid (putI j (dOf (stepR ks) j) (o : Int) (decide (12 ≤ k)) (a : Int) = (a : Int)) := Lib.hid (by unfold putI; rw [HD.out, show decide (12 ≤ k) = true from by simp; omega, if_neg (by decide), if_neg (by omega)])
                      have ea : ((a : Int) == 3) = false := by simp; omega
                      clear ha3
                      go_wp2
                      go_roundw
                      case rel => exact ⟨j + 1, hjl, by go_num, HI.out.set hjl a HE.out⟩
                      case measure => simp [intOf]; omega
                · obtain rfl : j = 4 := by omega
                  clear hI
                  go_wp2
                  go_roundw
                  case rel =>
                    refine ⟨i + 1, ks ++ [k], by omega, by omega, by go_num, by rw [List.length_append]; have := HKl.out; simp; omega, mem24 HKs.out hk24, by rw [HXe.out], by rw [List.length_append, HNk.out]; go_num, ?_, fun q h1 h2 => (HI.out.rest q h1).trans (HKq.out q h1 h2), ?_, by rw [HI.out.size]; exact HZq.out⟩
                    · rw [HSt.out, HI.out.blk]
                      obtain ⟨g1, g2⟩ := HK.out
                      subst g1
                      subst g2
                      rw [wIn_end]
                    · exact HBq.out.trans ⟨HI.out.os, HI.out.tape, HI.out.output, by rw [HI.out.size]; exact Nat.le_refl _, fun q hq => HI.out.rest q (by omega)⟩
                  case measure => simp [intOf]; omega
            · have q1 : ¬ 9223372036854775807 < S.size + 2 := by omega
              have q2 : ¬ 9223372036854775807 < S.size + 2 + 1 := by omega
              have q2' : ¬ 9223372036854775807 < S.size + 1 := by omega
              clear q2'
              go_upto_region 20 with (fail)
              obtain ⟨X, hX⟩ : ∃ X : ByteArray, S = X := ⟨_, rfl⟩
              have hXs : X.size ≤ 203 := by rw [← hX]; try simp only [ByteArray.size_append]
                                            first | omega | (show S.size + 2 + 1 ≤ 203; omega) | (show S.size + 2 ≤ 203; omega) | (show S.size + 1 ≤ 203; omega)
              have HXe : Hid ((⟨(txR (ks ++ [k])).toArray⟩ : ByteArray) = X ++ (O ++ ⟨#[61]⟩ ++ Ac ++ ⟨#[32]⟩)) := Lib.hid (HTx.out X (by rw [← hX]; simp [HSd.out, hks0, show ¬ (12 ≤ k) from by omega, txR]))
              rw [hX]
              have p1 : ¬ 9223372036854775807 < O.size + 1 := by omega
              have p2 : ¬ 9223372036854775807 < O.size + 1 + Ac.size := by omega
              have p3 : ¬ 9223372036854775807 < O.size + 1 + Ac.size + 1 := by omega
              have p4 : ¬ 9223372036854775807 < X.size + (O.size + 1 + Ac.size + 1) := by omega
              have oo : (0 : Int) ≤ (o : Int) := by omega
              have oo4 : (o : Int) < 4 := by omega
              have aa : (0 : Int) ≤ (a : Int) := by omega
              have aa4 : (a : Int) < 4 := by omega
              clear hX q1 q2 v2 v3
              rw [v1]
              clear v1
              go_quiet (fail)
              go_wp2
              have HWI : Hid (WI (wr.drewN nq) (wr.drewN nq) (B1 + 2) (dOf (stepR ks)) (o : Int) (decide (12 ≤ k)) (a : Int) 0) := Lib.hid ⟨by
                rw [show wIn (dOf (stepR ks)) (o : Int) (decide (12 ≤ k)) (a : Int) 0 = dOf (stepR ks) from by funext i; unfold wIn; rw [if_neg (by omega)]]
                exact HWb.out, fun _ _ => rfl, rfl, rfl, rfl, rfl⟩
              have HBq : Hid (Below W.heap.size W (wr.drewN nq)) := Lib.hid (bel_drewN9 HB.out nq)
              have HKq : Hid (∀ j, j ≠ B1 + 2 → j < w4.heap.size → (wr.drewN nq).heap[j]? = w4.heap[j]?) := HKeep
              have HZq : Hid (w4.heap.size ≤ (wr.drewN nq).heap.size) := HBig
              clear c1 c2 hz
              generalize (wr.drewN nq) = wo at *
              go_loopw [14] (fun jv wr => ∃ j : Nat, j ≤ 4 ∧ jv = .int .i64 j ∧ WI wo wr (B1 + 2) (dOf (stepR ks)) (o : Int) (decide (12 ≤ k)) (a : Int) j) (fun jv _ => 4 - (intOf jv).toNat)
              case atStart => exact ⟨0, by decide, rfl, HWI.out⟩
              case round =>
                obtain ⟨j, hj4, rfl, hI⟩ := hrel
                have HI := Lib.hid hI
                by_cases hjl : j < 4
                · have hcj : wr.cell? ⟨B1 + 1 + 1, j, none⟩ = some (.int .i64 (dOf (stepR ks) j)) := (hI.cell hjl).1
                  have hfj : wr.frozen? ⟨B1 + 1 + 1, j, none⟩ = false := (hI.cell hjl).2
                  have jj : (0 : Int) ≤ (j : Int) := by omega
                  have jj4 : (j : Int) < 4 := by omega
                  clear hI
                  by_cases hjo : j = o
                  · have ej : ((j : Int) == (o : Int)) = true := by rw [hjo]; simp
                    have HD : Hid (decide ((j : Int) = (o : Int)) = true) := Lib.hid (by rw [hjo]; simp)
                    clear hjo
                    by_cases ha3 : a = 3
                    · subst ha3
                      by_cases hj0 : j = 0
                      · have HE : Hid (putI j (dOf (stepR ks) j) (o : Int) (decide (12 ≤ k)) ((3 : Nat) : Int) = 3) := Lib.hid (by unfold putI; rw [HD.out, show decide (12 ≤ k) = false from by simp; omega, if_neg (by decide), if_neg (by omega)]; rfl)
                        have ez : ¬ (0 : Int) < (j : Int) := by omega
                        clear hj0
                        go_wp2
                        go_roundw
                        case rel => exact ⟨j + 1, hjl, by go_num, HI.out.set hjl 3 HE.out⟩
                        case measure => simp [intOf]; omega
                      · have HE : Hid (putI j (dOf (stepR ks) j) (o : Int) (decide (12 ≤ k)) ((3 : Nat) : Int) = 2) := Lib.hid (by unfold putI; rw [HD.out, show decide (12 ≤ k) = false from by simp; omega, if_neg (by decide), if_pos (by omega)])
                        have ez : (0 : Int) < (j : Int) := by omega
                        clear hj0
                        go_wp2
                        go_roundw
                        case rel => exact ⟨j + 1, hjl, by go_num, HI.out.set2 hjl 3 2 HE.out⟩
                        case measure => simp [intOf]; omega
                    · have HE : Hid (putI j (dOf (stepR ks) j) (o : Int) (decide (12 ≤ k)) (a : Int) = (a : Int)) := Lib.hid (by unfold putI; rw [HD.out, show decide (12 ≤ k) = false from by simp; omega, if_neg (by decide), if_neg (by omega)])
                      have ea : ((a : Int) == 3) = false := by simp; omega
                      clear ha3
                      go_wp2
                      go_roundw
                      case rel => exact ⟨j + 1, hjl, by go_num, HI.out.set hjl a HE.out⟩
                      case measure => simp [intOf]; omega
                  · have ej : ((j : Int) == (o : Int)) = false := by simp; omega
                    have HD : Hid (decide ((j : Int) = (o : Int)) = false) := Lib.hid (by simp; omega)
                    clear hjo
                    have HE : Hid (putI j (dOf (stepR ks) j) (o : Int) (decide (12 ≤ k)) (a : Int) = dOf (stepR ks) j) := Lib.hid (by unfold putI; rw [HD.out, show decide (12 ≤ k) = false from by simp; omega]; rfl)
                    go_wp2
                    go_roundw
                    case rel => exact ⟨j + 1, hjl, by go_num, HI.out.skip HE.out⟩
                    case measure => simp [intOf]; omega
                · obtain rfl : j = 4 := by omega
                  clear hI
                  go_wp2
                  go_roundw
                  case rel =>
                    refine ⟨i + 1, ks ++ [k], by omega, by omega, by go_num, by rw [List.length_append]; have := HKl.out; simp; omega, mem24 HKs.out hk24, by rw [HXe.out], by rw [List.length_append, HNk.out]; go_num, ?_, fun q h1 h2 => (HI.out.rest q h1).trans (HKq.out q h1 h2), ?_, by rw [HI.out.size]; exact HZq.out⟩
                    · rw [HSt.out, HI.out.blk]
                      obtain ⟨g1, g2⟩ := HK.out
                      subst g1
                      subst g2
                      rw [wIn_end]
                    · exact HBq.out.trans ⟨HI.out.os, HI.out.tape, HI.out.output, by rw [HI.out.size]; exact Nat.le_refl _, fun q hq => HI.out.rest q (by omega)⟩
                  case measure => simp [intOf]; omega
    · have hsel : ¬ ((i : Int) < (n0 : Int)) ∨ ((i : Int) < (n0 : Int) ∧ ¬ ((i : Int) < 10)) := by omega
      obtain ⟨P, hP, hp1⟩ := rules_ok ks HKs.out (by have := HKl.out; omega)
      have HN1 : Hid (nOf P 1 = 1) := Lib.hid (by unfold nOf; rw [hp1]; rfl)
      have HP1 := Lib.hid hp1
      clear hp1
      by_cases hks0 : ks = []
      · have en : ¬ (0 : Int) < (nk : Int) := by have := HNk.out; rw [hks0] at this; simp at this; omega
        obtain ⟨Sx, hSx⟩ : ∃ Sx : ByteArray, S = Sx := ⟨_, rfl⟩
        have hSd : Sx.data.toList = endR ks := by rw [← hSx, HSd.out]; unfold endR; rw [if_pos hks0]
        have hSs2 : Sx.size ≤ 1000000 := by rw [← hSx]; omega
        clear hks0
        obtain ⟨capF, objF, hcv, hpa⟩ := conv_all Sx hSs2
        rw [hSd, hP] at hpa
        have HPa : Hid (∀ (V V' : World) (s0 : Nat), Below W.heap.size W V → V.heap.size = s0 → Below (V.heap.size + 1) (V.alloc (objF V)) V' → Calls Tryd.prog 9 #[.slice (some ⟨s0, 0, none⟩) Sx.size (capF V)] V' (GoodQ V' P)) := Lib.hid (fun V V' s0 h1 h2 h3 => by
          subst h2
          exact (hpa V V' h3 (HG.out.below (h1.trans ((((Below.refl _ _).alloc (Nat.le_refl _) _).trans (h3.mono (Nat.le_succ _))).mono h1.size)))).mono fun e w' h => good_q h)
        have hw16 : wr.heap.size < wr.heap.size + 1 := by omega
        have hbk : B1 + 2 < wr.heap.size := by have := HBig.out; omega
        clear hpa hP hSd hSs2 hgo
        rcases hsel with hsel | ⟨hsel, hsel2⟩
        · go_upto_region 30 with (fail)
          try rw [hSx]
          go_upto_region 31 with (go_at_call 9; refine (HPa.out wr (wr.drew.alloc (objF wr)) wr.heap.size HB.out rfl ⟨rfl, rfl, rfl, Nat.le_refl _, fun _ _ => rfl⟩).mono ?_; rintro e w3 ⟨pp, cc, rfl, hb3, hs3⟩; have HBr3 := Lib.hid hb3; clear hb3)
          have hhV : (w3.alloc (.cells #[.slice (pp 0) (nOf P 0) (cc 0), .slice (pp 1) (nOf P 1) (cc 1), .slice (pp 2) (nOf P 2) (cc 2), .slice (pp 3) (nOf P 3) (cc 3), .slice (pp 4) (nOf P 4) (cc 4)] 28)).heap[w3.heap.size]? = some (.cells #[.slice (pp 0) (nOf P 0) (cc 0), .slice (pp 1) (nOf P 1) (cc 1), .slice (pp 2) (nOf P 2) (cc 2), .slice (pp 3) (nOf P 3) (cc 3), .slice (pp 4) (nOf P 4) (cc 4)] 28 (0, 0)) := heap_alloc_new w3 _
          have hbA : Below wr.heap.size wr (wr.drew.alloc (objF wr)) := (Below.refl _ _).drew.alloc (Nat.le_refl _) _
          have hb3V : Below w3.heap.size w3 (w3.alloc (.cells #[.slice (pp 0) (nOf P 0) (cc 0), .slice (pp 1) (nOf P 1) (cc 1), .slice (pp 2) (nOf P 2) (cc 2), .slice (pp 3) (nOf P 3) (cc 3), .slice (pp 4) (nOf P 4) (cc 4)] 28)) := (Below.refl _ _).alloc (Nat.le_refl _) _
          have hbV : Below wr.heap.size wr (w3.alloc (.cells #[.slice (pp 0) (nOf P 0) (cc 0), .slice (pp 1) (nOf P 1) (cc 1), .slice (pp 2) (nOf P 2) (cc 2), .slice (pp 3) (nOf P 3) (cc 3), .slice (pp 4) (nOf P 4) (cc 4)] 28)) := (hbA.trans (HBr3.out.mono hbA.size)).trans (hb3V.mono (Nat.le_trans hbA.size HBr3.out.size))
          have hsV : StepsC 0 (w3.alloc (.cells #[.slice (pp 0) (nOf P 0) (cc 0), .slice (pp 1) (nOf P 1) (cc 1), .slice (pp 2) (nOf P 2) (cc 2), .slice (pp 3) (nOf P 3) (cc 3), .slice (pp 4) (nOf P 4) (cc 4)] 28)) (.slice (pp 1) (nOf P 1) (cc 1)) (P 1) := own_base (own_below (hs3.out 1 (by decide)) hb3V) (Nat.zero_le _)
          clear hs3 hbA hb3V HBr3 HPa hcv
          generalize hb9 : w3.heap.size = b9 at *
          generalize (w3.alloc (.cells #[.slice (pp 0) (nOf P 0) (cc 0), .slice (pp 1) (nOf P 1) (cc 1), .slice (pp 2) (nOf P 2) (cc 2), .slice (pp 3) (nOf P 3) (cc 3), .slice (pp 4) (nOf P 4) (cc 4)] 28)) = w9 at *
          obtain ⟨_, y1, _, _, _⟩ := cellV hhV
          rw [HP1.out] at hsV
          obtain ⟨p', c', hv', hat⟩ := StpsAt.of hsV
          obtain ⟨g1, hg1, hc1⟩ := hat 0 (stepR ks) rfl
          injection hv' with e1 e2 e3
          rw [e1, hg1, HN1.out] at y1
          have HY : Hid (∀ V, Below w9.heap.size w9 V → V.cell? ⟨b9, 1, none⟩ = some (.slice (some ⟨g1, 0, none⟩) 1 (cc 1))) := Lib.hid (fun V hV => (hV.cell (block_lt_of_cell y1)).trans y1)
          have HD : Hid (∀ V, Below w9.heap.size w9 V → ∀ j, j < 4 → V.cell? ⟨g1, 1 + j, none⟩ = some (.int .i64 (dOf (stepR ks) j)) ∧ V.cell? ⟨B1 + 1 + 1, j, none⟩ = some (.int .i64 (dOf (stepR ks) j))) := Lib.hid (fun V hV j hj => by
            have h1 : w9.cell? ⟨g1, 0 * 5 + (1 + j), none⟩ = some (.int .i64 (dOf (stepR ks) j)) := hc1 (1 + j) _ (by
              have hh : j = 0 ∨ j = 1 ∨ j = 2 ∨ j = 3 := by omega
              rcases hh with rfl | rfl | rfl | rfl <;> rfl)
            rw [Nat.zero_mul, Nat.zero_add] at h1
            have h2 : w9.cell? ⟨B1 + 1 + 1, j, none⟩ = some (.int .i64 (dOf (stepR ks) j)) := by
              unfold World.cell?
              rw [show (⟨B1 + 1 + 1, j, none⟩ : Addr).block = B1 + 2 from rfl, hbV.block (B1 + 2) hbk, HWb.out]
              exact wArr_at _ j hj
            exact ⟨(hV.cell (block_lt_of_cell h1)).trans h1, (hV.cell (block_lt_of_cell h2)).trans h2⟩)
          have HBV : Hid (Below W.heap.size W w9) := Lib.hid (HB.out.trans (hbV.mono HB.out.size))
          clear hhV hbV hsV hat hg1 hc1 e1 e2 e3 hbk hw16
          go_upto_region 33 with (fail)
          go_wp2
          go_loopw [17] (fun jv wq => ∃ j : Nat, j ≤ 4 ∧ jv = .int .i64 j ∧ Below w9.heap.size w9 wq) (fun jv _ => 4 - (intOf jv).toNat)
          case atStart => exact ⟨0, by decide, rfl, Below.refl _ _⟩
          case round =>
            obtain ⟨j, hj4, rfl, hBq⟩ := hrel
            have HBq := Lib.hid hBq
            by_cases hjl : j < 4
            · obtain ⟨x1, x2⟩ := HD.out _ hBq j hjl
              have x3 := HY.out _ hBq
              have jj : (0 : Int) ≤ (j : Int) := by omega
              have jj4 : (j : Int) < 4 := by omega
              have jn : (dOf (stepR ks) j != dOf (stepR ks) j) = false := by simp
              clear hBq y1
              go_upto_region 36 with (fail)
              go_quiet (fail)
              go_wp2
              go_roundw
              case rel => exact ⟨j + 1, hjl, by go_num, bel_drewN9 HBq.out _⟩
              case measure => simp [intOf]; omega
            · obtain rfl : j = 4 := by omega
              clear hBq
              go_wp2
              go_ret
              exact ⟨rfl, HBV.out.trans (HBq.out.mono HBV.out.size)⟩
        · go_upto_region 30 with (fail)
          try rw [hSx]
          go_upto_region 31 with (go_at_call 9; refine (HPa.out wr (wr.drew.alloc (objF wr)) wr.heap.size HB.out rfl ⟨rfl, rfl, rfl, Nat.le_refl _, fun _ _ => rfl⟩).mono ?_; rintro e w3 ⟨pp, cc, rfl, hb3, hs3⟩; have HBr3 := Lib.hid hb3; clear hb3)
          have hhV : (w3.alloc (.cells #[.slice (pp 0) (nOf P 0) (cc 0), .slice (pp 1) (nOf P 1) (cc 1), .slice (pp 2) (nOf P 2) (cc 2), .slice (pp 3) (nOf P 3) (cc 3), .slice (pp 4) (nOf P 4) (cc 4)] 28)).heap[w3.heap.size]? = some (.cells #[.slice (pp 0) (nOf P 0) (cc 0), .slice (pp 1) (nOf P 1) (cc 1), .slice (pp 2) (nOf P 2) (cc 2), .slice (pp 3) (nOf P 3) (cc 3), .slice (pp 4) (nOf P 4) (cc 4)] 28 (0, 0)) := heap_alloc_new w3 _
          have hbA : Below wr.heap.size wr (wr.drew.alloc (objF wr)) := (Below.refl _ _).drew.alloc (Nat.le_refl _) _
          have hb3V : Below w3.heap.size w3 (w3.alloc (.cells #[.slice (pp 0) (nOf P 0) (cc 0), .slice (pp 1) (nOf P 1) (cc 1), .slice (pp 2) (nOf P 2) (cc 2), .slice (pp 3) (nOf P 3) (cc 3), .slice (pp 4) (nOf P 4) (cc 4)] 28)) := (Below.refl _ _).alloc (Nat.le_refl _) _
          have hbV : Below wr.heap.size wr (w3.alloc (.cells #[.slice (pp 0) (nOf P 0) (cc 0), .slice (pp 1) (nOf P 1) (cc 1), .slice (pp 2) (nOf P 2) (cc 2), .slice (pp 3) (nOf P 3) (cc 3), .slice (pp 4) (nOf P 4) (cc 4)] 28)) := (hbA.trans (HBr3.out.mono hbA.size)).trans (hb3V.mono (Nat.le_trans hbA.size HBr3.out.size))
          have hsV : StepsC 0 (w3.alloc (.cells #[.slice (pp 0) (nOf P 0) (cc 0), .slice (pp 1) (nOf P 1) (cc 1), .slice (pp 2) (nOf P 2) (cc 2), .slice (pp 3) (nOf P 3) (cc 3), .slice (pp 4) (nOf P 4) (cc 4)] 28)) (.slice (pp 1) (nOf P 1) (cc 1)) (P 1) := own_base (own_below (hs3.out 1 (by decide)) hb3V) (Nat.zero_le _)
          clear hs3 hbA hb3V HBr3 HPa hcv
          generalize hb9 : w3.heap.size = b9 at *
          generalize (w3.alloc (.cells #[.slice (pp 0) (nOf P 0) (cc 0), .slice (pp 1) (nOf P 1) (cc 1), .slice (pp 2) (nOf P 2) (cc 2), .slice (pp 3) (nOf P 3) (cc 3), .slice (pp 4) (nOf P 4) (cc 4)] 28)) = w9 at *
          obtain ⟨_, y1, _, _, _⟩ := cellV hhV
          rw [HP1.out] at hsV
          obtain ⟨p', c', hv', hat⟩ := StpsAt.of hsV
          obtain ⟨g1, hg1, hc1⟩ := hat 0 (stepR ks) rfl
          injection hv' with e1 e2 e3
          rw [e1, hg1, HN1.out] at y1
          have HY : Hid (∀ V, Below w9.heap.size w9 V → V.cell? ⟨b9, 1, none⟩ = some (.slice (some ⟨g1, 0, none⟩) 1 (cc 1))) := Lib.hid (fun V hV => (hV.cell (block_lt_of_cell y1)).trans y1)
          have HD : Hid (∀ V, Below w9.heap.size w9 V → ∀ j, j < 4 → V.cell? ⟨g1, 1 + j, none⟩ = some (.int .i64 (dOf (stepR ks) j)) ∧ V.cell? ⟨B1 + 1 + 1, j, none⟩ = some (.int .i64 (dOf (stepR ks) j))) := Lib.hid (fun V hV j hj => by
            have h1 : w9.cell? ⟨g1, 0 * 5 + (1 + j), none⟩ = some (.int .i64 (dOf (stepR ks) j)) := hc1 (1 + j) _ (by
              have hh : j = 0 ∨ j = 1 ∨ j = 2 ∨ j = 3 := by omega
              rcases hh with rfl | rfl | rfl | rfl <;> rfl)
            rw [Nat.zero_mul, Nat.zero_add] at h1
            have h2 : w9.cell? ⟨B1 + 1 + 1, j, none⟩ = some (.int .i64 (dOf (stepR ks) j)) := by
              unfold World.cell?
              rw [show (⟨B1 + 1 + 1, j, none⟩ : Addr).block = B1 + 2 from rfl, hbV.block (B1 + 2) hbk, HWb.out]
              exact wArr_at _ j hj
            exact ⟨(hV.cell (block_lt_of_cell h1)).trans h1, (hV.cell (block_lt_of_cell h2)).trans h2⟩)
          have HBV : Hid (Below W.heap.size W w9) := Lib.hid (HB.out.trans (hbV.mono HB.out.size))
          clear hhV hbV hsV hat hg1 hc1 e1 e2 e3 hbk hw16
          go_upto_region 33 with (fail)
          go_wp2
          go_loopw [17] (fun jv wq => ∃ j : Nat, j ≤ 4 ∧ jv = .int .i64 j ∧ Below w9.heap.size w9 wq) (fun jv _ => 4 - (intOf jv).toNat)
          case atStart => exact ⟨0, by decide, rfl, Below.refl _ _⟩
          case round =>
            obtain ⟨j, hj4, rfl, hBq⟩ := hrel
            have HBq := Lib.hid hBq
            by_cases hjl : j < 4
            · obtain ⟨x1, x2⟩ := HD.out _ hBq j hjl
              have x3 := HY.out _ hBq
              have jj : (0 : Int) ≤ (j : Int) := by omega
              have jj4 : (j : Int) < 4 := by omega
              have jn : (dOf (stepR ks) j != dOf (stepR ks) j) = false := by simp
              clear hBq y1
              go_upto_region 36 with (fail)
              go_quiet (fail)
              go_wp2
              go_roundw
              case rel => exact ⟨j + 1, hjl, by go_num, bel_drewN9 HBq.out _⟩
              case measure => simp [intOf]; omega
            · obtain rfl : j = 4 := by omega
              clear hBq
              go_wp2
              go_ret
              exact ⟨rfl, HBV.out.trans (HBq.out.mono HBV.out.size)⟩
      · have en : (0 : Int) < (nk : Int) := by have := HNk.out; have := List.length_pos_iff.2 hks0; omega
        have q1 : ¬ 9223372036854775807 < S.size + 1 := by omega
        obtain ⟨Sx, hSx⟩ : ∃ Sx : ByteArray, S ++ (⟨#[93]⟩ : ByteArray) = Sx := ⟨_, rfl⟩
        have hSd : Sx.data.toList = endR ks := by rw [← hSx]; unfold endR; rw [if_neg hks0]; simp [HSd.out]
        have hSs2 : Sx.size ≤ 1000000 := by rw [← hSx]; simp only [ByteArray.size_append]; show S.size + 1 ≤ 1000000; omega
        clear hks0
        obtain ⟨capF, objF, hcv, hpa⟩ := conv_all Sx hSs2
        rw [hSd, hP] at hpa
        have HPa : Hid (∀ (V V' : World) (s0 : Nat), Below W.heap.size W V → V.heap.size = s0 → Below (V.heap.size + 1) (V.alloc (objF V)) V' → Calls Tryd.prog 9 #[.slice (some ⟨s0, 0, none⟩) Sx.size (capF V)] V' (GoodQ V' P)) := Lib.hid (fun V V' s0 h1 h2 h3 => by
          subst h2
          exact (hpa V V' h3 (HG.out.below (h1.trans ((((Below.refl _ _).alloc (Nat.le_refl _) _).trans (h3.mono (Nat.le_succ _))).mono h1.size)))).mono fun e w' h => good_q h)
        have hw16 : wr.heap.size < wr.heap.size + 1 := by omega
        have hbk : B1 + 2 < wr.heap.size := by have := HBig.out; omega
        clear hpa hP hSd hSs2 hgo
        rcases hsel with hsel | ⟨hsel, hsel2⟩
        · go_upto_region 30 with (fail)
          try rw [hSx]
          go_upto_region 31 with (go_at_call 9; refine (HPa.out wr (wr.drew.alloc (objF wr)) wr.heap.size HB.out rfl ⟨rfl, rfl, rfl, Nat.le_refl _, fun _ _ => rfl⟩).mono ?_; rintro e w3 ⟨pp, cc, rfl, hb3, hs3⟩; have HBr3 := Lib.hid hb3; clear hb3)
          have hhV : (w3.alloc (.cells #[.slice (pp 0) (nOf P 0) (cc 0), .slice (pp 1) (nOf P 1) (cc 1), .slice (pp 2) (nOf P 2) (cc 2), .slice (pp 3) (nOf P 3) (cc 3), .slice (pp 4) (nOf P 4) (cc 4)] 28)).heap[w3.heap.size]? = some (.cells #[.slice (pp 0) (nOf P 0) (cc 0), .slice (pp 1) (nOf P 1) (cc 1), .slice (pp 2) (nOf P 2) (cc 2), .slice (pp 3) (nOf P 3) (cc 3), .slice (pp 4) (nOf P 4) (cc 4)] 28 (0, 0)) := heap_alloc_new w3 _
          have hbA : Below wr.heap.size wr (wr.drew.alloc (objF wr)) := (Below.refl _ _).drew.alloc (Nat.le_refl _) _
          have hb3V : Below w3.heap.size w3 (w3.alloc (.cells #[.slice (pp 0) (nOf P 0) (cc 0), .slice (pp 1) (nOf P 1) (cc 1), .slice (pp 2) (nOf P 2) (cc 2), .slice (pp 3) (nOf P 3) (cc 3), .slice (pp 4) (nOf P 4) (cc 4)] 28)) := (Below.refl _ _).alloc (Nat.le_refl _) _
          have hbV : Below wr.heap.size wr (w3.alloc (.cells #[.slice (pp 0) (nOf P 0) (cc 0), .slice (pp 1) (nOf P 1) (cc 1), .slice (pp 2) (nOf P 2) (cc 2), .slice (pp 3) (nOf P 3) (cc 3), .slice (pp 4) (nOf P 4) (cc 4)] 28)) := (hbA.trans (HBr3.out.mono hbA.size)).trans (hb3V.mono (Nat.le_trans hbA.size HBr3.out.size))
          have hsV : StepsC 0 (w3.alloc (.cells #[.slice (pp 0) (nOf P 0) (cc 0), .slice (pp 1) (nOf P 1) (cc 1), .slice (pp 2) (nOf P 2) (cc 2), .slice (pp 3) (nOf P 3) (cc 3), .slice (pp 4) (nOf P 4) (cc 4)] 28)) (.slice (pp 1) (nOf P 1) (cc 1)) (P 1) := own_base (own_below (hs3.out 1 (by decide)) hb3V) (Nat.zero_le _)
          clear hs3 hbA hb3V HBr3 HPa hcv
          generalize hb9 : w3.heap.size = b9 at *
          generalize (w3.alloc (.cells #[.slice (pp 0) (nOf P 0) (cc 0), .slice (pp 1) (nOf P 1) (cc 1), .slice (pp 2) (nOf P 2) (cc 2), .slice (pp 3) (nOf P 3) (cc 3), .slice (pp 4) (nOf P 4) (cc 4)] 28)) = w9 at *
          obtain ⟨_, y1, _, _, _⟩ := cellV hhV
          rw [HP1.out] at hsV
          obtain ⟨p', c', hv', hat⟩ := StpsAt.of hsV
          obtain ⟨g1, hg1, hc1⟩ := hat 0 (stepR ks) rfl
          injection hv' with e1 e2 e3
          rw [e1, hg1, HN1.out] at y1
          have HY : Hid (∀ V, Below w9.heap.size w9 V → V.cell? ⟨b9, 1, none⟩ = some (.slice (some ⟨g1, 0, none⟩) 1 (cc 1))) := Lib.hid (fun V hV => (hV.cell (block_lt_of_cell y1)).trans y1)
          have HD : Hid (∀ V, Below w9.heap.size w9 V → ∀ j, j < 4 → V.cell? ⟨g1, 1 + j, none⟩ = some (.int .i64 (dOf (stepR ks) j)) ∧ V.cell? ⟨B1 + 1 + 1, j, none⟩ = some (.int .i64 (dOf (stepR ks) j))) := Lib.hid (fun V hV j hj => by
            have h1 : w9.cell? ⟨g1, 0 * 5 + (1 + j), none⟩ = some (.int .i64 (dOf (stepR ks) j)) := hc1 (1 + j) _ (by
              have hh : j = 0 ∨ j = 1 ∨ j = 2 ∨ j = 3 := by omega
              rcases hh with rfl | rfl | rfl | rfl <;> rfl)
            rw [Nat.zero_mul, Nat.zero_add] at h1
            have h2 : w9.cell? ⟨B1 + 1 + 1, j, none⟩ = some (.int .i64 (dOf (stepR ks) j)) := by
              unfold World.cell?
              rw [show (⟨B1 + 1 + 1, j, none⟩ : Addr).block = B1 + 2 from rfl, hbV.block (B1 + 2) hbk, HWb.out]
              exact wArr_at _ j hj
            exact ⟨(hV.cell (block_lt_of_cell h1)).trans h1, (hV.cell (block_lt_of_cell h2)).trans h2⟩)
          have HBV : Hid (Below W.heap.size W w9) := Lib.hid (HB.out.trans (hbV.mono HB.out.size))
          clear hhV hbV hsV hat hg1 hc1 e1 e2 e3 hbk hw16
          go_upto_region 33 with (fail)
          go_wp2
          go_loopw [17] (fun jv wq => ∃ j : Nat, j ≤ 4 ∧ jv = .int .i64 j ∧ Below w9.heap.size w9 wq) (fun jv _ => 4 - (intOf jv).toNat)
          case atStart => exact ⟨0, by decide, rfl, Below.refl _ _⟩
          case round =>
            obtain ⟨j, hj4, rfl, hBq⟩ := hrel
            have HBq := Lib.hid hBq
            by_cases hjl : j < 4
            · obtain ⟨x1, x2⟩ := HD.out _ hBq j hjl
              have x3 := HY.out _ hBq
              have jj : (0 : Int) ≤ (j : Int) := by omega
              have jj4 : (j : Int) < 4 := by omega
              have jn : (dOf (stepR ks) j != dOf (stepR ks) j) = false := by simp
              clear hBq y1
              go_upto_region 36 with (fail)
              go_quiet (fail)
              go_wp2
              go_roundw
              case rel => exact ⟨j + 1, hjl, by go_num, bel_drewN9 HBq.out _⟩
              case measure => simp [intOf]; omega
            · obtain rfl : j = 4 := by omega
              clear hBq
              go_wp2
              go_ret
              exact ⟨rfl, HBV.out.trans (HBq.out.mono HBV.out.size)⟩
        · go_upto_region 30 with (fail)
          try rw [hSx]
          go_upto_region 31 with (go_at_call 9; refine (HPa.out wr (wr.drew.alloc (objF wr)) wr.heap.size HB.out rfl ⟨rfl, rfl, rfl, Nat.le_refl _, fun _ _ => rfl⟩).mono ?_; rintro e w3 ⟨pp, cc, rfl, hb3, hs3⟩; have HBr3 := Lib.hid hb3; clear hb3)
          have hhV : (w3.alloc (.cells #[.slice (pp 0) (nOf P 0) (cc 0), .slice (pp 1) (nOf P 1) (cc 1), .slice (pp 2) (nOf P 2) (cc 2), .slice (pp 3) (nOf P 3) (cc 3), .slice (pp 4) (nOf P 4) (cc 4)] 28)).heap[w3.heap.size]? = some (.cells #[.slice (pp 0) (nOf P 0) (cc 0), .slice (pp 1) (nOf P 1) (cc 1), .slice (pp 2) (nOf P 2) (cc 2), .slice (pp 3) (nOf P 3) (cc 3), .slice (pp 4) (nOf P 4) (cc 4)] 28 (0, 0)) := heap_alloc_new w3 _
          have hbA : Below wr.heap.size wr (wr.drew.alloc (objF wr)) := (Below.refl _ _).drew.alloc (Nat.le_refl _) _
          have hb3V : Below w3.heap.size w3 (w3.alloc (.cells #[.slice (pp 0) (nOf P 0) (cc 0), .slice (pp 1) (nOf P 1) (cc 1), .slice (pp 2) (nOf P 2) (cc 2), .slice (pp 3) (nOf P 3) (cc 3), .slice (pp 4) (nOf P 4) (cc 4)] 28)) := (Below.refl _ _).alloc (Nat.le_refl _) _
          have hbV : Below wr.heap.size wr (w3.alloc (.cells #[.slice (pp 0) (nOf P 0) (cc 0), .slice (pp 1) (nOf P 1) (cc 1), .slice (pp 2) (nOf P 2) (cc 2), .slice (pp 3) (nOf P 3) (cc 3), .slice (pp 4) (nOf P 4) (cc 4)] 28)) := (hbA.trans (HBr3.out.mono hbA.size)).trans (hb3V.mono (Nat.le_trans hbA.size HBr3.out.size))
          have hsV : StepsC 0 (w3.alloc (.cells #[.slice (pp 0) (nOf P 0) (cc 0), .slice (pp 1) (nOf P 1) (cc 1), .slice (pp 2) (nOf P 2) (cc 2), .slice (pp 3) (nOf P 3) (cc 3), .slice (pp 4) (nOf P 4) (cc 4)] 28)) (.slice (pp 1) (nOf P 1) (cc 1)) (P 1) := own_base (own_below (hs3.out 1 (by decide)) hb3V) (Nat.zero_le _)
          clear hs3 hbA hb3V HBr3 HPa hcv
          generalize hb9 : w3.heap.size = b9 at *
          generalize (w3.alloc (.cells #[.slice (pp 0) (nOf P 0) (cc 0), .slice (pp 1) (nOf P 1) (cc 1), .slice (pp 2) (nOf P 2) (cc 2), .slice (pp 3) (nOf P 3) (cc 3), .slice (pp 4) (nOf P 4) (cc 4)] 28)) = w9 at *
          obtain ⟨_, y1, _, _, _⟩ := cellV hhV
          rw [HP1.out] at hsV
          obtain ⟨p', c', hv', hat⟩ := StpsAt.of hsV
          obtain ⟨g1, hg1, hc1⟩ := hat 0 (stepR ks) rfl
          injection hv' with e1 e2 e3
          rw [e1, hg1, HN1.out] at y1
          have HY : Hid (∀ V, Below w9.heap.size w9 V → V.cell? ⟨b9, 1, none⟩ = some (.slice (some ⟨g1, 0, none⟩) 1 (cc 1))) := Lib.hid (fun V hV => (hV.cell (block_lt_of_cell y1)).trans y1)
          have HD : Hid (∀ V, Below w9.heap.size w9 V → ∀ j, j < 4 → V.cell? ⟨g1, 1 + j, none⟩ = some (.int .i64 (dOf (stepR ks) j)) ∧ V.cell? ⟨B1 + 1 + 1, j, none⟩ = some (.int .i64 (dOf (stepR ks) j))) := Lib.hid (fun V hV j hj => by
            have h1 : w9.cell? ⟨g1, 0 * 5 + (1 + j), none⟩ = some (.int .i64 (dOf (stepR ks) j)) := hc1 (1 + j) _ (by
              have hh : j = 0 ∨ j = 1 ∨ j = 2 ∨ j = 3 := by omega
              rcases hh with rfl | rfl | rfl | rfl <;> rfl)
            rw [Nat.zero_mul, Nat.zero_add] at h1
            have h2 : w9.cell? ⟨B1 + 1 + 1, j, none⟩ = some (.int .i64 (dOf (stepR ks) j)) := by
              unfold World.cell?
              rw [show (⟨B1 + 1 + 1, j, none⟩ : Addr).block = B1 + 2 from rfl, hbV.block (B1 + 2) hbk, HWb.out]
              exact wArr_at _ j hj
            exact ⟨(hV.cell (block_lt_of_cell h1)).trans h1, (hV.cell (block_lt_of_cell h2)).trans h2⟩)
          have HBV : Hid (Below W.heap.size W w9) := Lib.hid (HB.out.trans (hbV.mono HB.out.size))
          clear hhV hbV hsV hat hg1 hc1 e1 e2 e3 hbk hw16
          go_upto_region 33 with (fail)
          go_wp2
          go_loopw [17] (fun jv wq => ∃ j : Nat, j ≤ 4 ∧ jv = .int .i64 j ∧ Below w9.heap.size w9 wq) (fun jv _ => 4 - (intOf jv).toNat)
          case atStart => exact ⟨0, by decide, rfl, Below.refl _ _⟩
          case round =>
            obtain ⟨j, hj4, rfl, hBq⟩ := hrel
            have HBq := Lib.hid hBq
            by_cases hjl : j < 4
            · obtain ⟨x1, x2⟩ := HD.out _ hBq j hjl
              have x3 := HY.out _ hBq
              have jj : (0 : Int) ≤ (j : Int) := by omega
              have jj4 : (j : Int) < 4 := by omega
              have jn : (dOf (stepR ks) j != dOf (stepR ks) j) = false := by simp
              clear hBq y1
              go_upto_region 36 with (fail)
              go_quiet (fail)
              go_wp2
              go_roundw
              case rel => exact ⟨j + 1, hjl, by go_num, bel_drewN9 HBq.out _⟩
              case measure => simp [intOf]; omega
            · obtain rfl : j = 4 := by omega
              clear hBq
              go_wp2
              go_ret
              exact ⟨rfl, HBV.out.trans (HBq.out.mono HBV.out.size)⟩
end Go.Proofs.YtpighkpdnifejaaDoor

