/- Contracts: Poll at the law's own questions. -/
import Derived.Test.YtpdkjifalgeodaaSu
namespace Go.Proofs.Ytpdkjifalgeodaa
open Go.RowKit Go.Extern.Stop Go.Stop Go.Extern Go.Lib Go.Tx
/-- What a source's answer reads as, whatever happens to block b and behind. -/
structure DefT (w : World) (b : Nat) (d : DefL) (ns as_ : List (List UInt8)) (ds : List (ByteArray × Int)) : Prop where
  tn : ∀ W, w.heap.size ≤ W.heap.size → (∀ k, k < w.heap.size → k ≠ b → W.heap[k]? = w.heap[k]?) → ∃ B, StrC B W (.slice d.np d.nn d.nc) ns
  ta : ∀ W, w.heap.size ≤ W.heap.size → (∀ k, k < w.heap.size → k ≠ b → W.heap[k]? = w.heap[k]?) → ∃ B, StrC B W (.slice d.ap d.an d.ac) as_
  td : ∀ W, w.heap.size ≤ W.heap.size → (∀ k, k < w.heap.size → k ≠ b → W.heap[k]? = w.heap[k]?) → DepS W d.dp d.dn d.dc ds
  nl : ns.length ≤ 1000
  al : as_.length ≤ 1000
  dl : d.dn ≤ 1000
theorem DefT.but {w w' : World} {b : Nat} {d : DefL} {ns as_ : List (List UInt8)} {ds : List (ByteArray × Int)} (h : DefT w b d ns as_ ds) (hb : ButL w.heap.size [b] w w') : DefT w' b d ns as_ ds :=
  have key : ∀ W : World, w'.heap.size ≤ W.heap.size → (∀ k, k < w'.heap.size → k ≠ b → W.heap[k]? = w'.heap[k]?) → w.heap.size ≤ W.heap.size ∧ ∀ k, k < w.heap.size → k ≠ b → W.heap[k]? = w.heap[k]? := fun W h1 h2 =>
    ⟨Nat.le_trans hb.size h1, fun k hk hn => (h2 k (Nat.lt_of_lt_of_le hk hb.size) hn).trans (hb.block k hk (by rw [List.mem_singleton]; exact hn))⟩
  ⟨fun W h1 h2 => h.tn W (key W h1 h2).1 (key W h1 h2).2, fun W h1 h2 => h.ta W (key W h1 h2).1 (key W h1 h2).2, fun W h1 h2 => h.td W (key W h1 h2).1 (key W h1 h2).2, h.nl, h.al, h.dl⟩
theorem opC_next (d : DefL) (n y : Int) : (opC d n).setIfInBounds 18 (.int .i64 y) = opC d y := by unfold opC defC; rfl
theorem heC_next (d : DefL) (n h y : Int) : (heC d n h).setIfInBounds 18 (.int .i64 y) = heC d y h := by unfold heC opC defC; rfl
/-- What such a question answers when it is polled for the n-th time. -/
def ansA (d : DefL) (n : Int) : PollA :=
  if n ≤ d.polls then ⟨none, 0, 0, none, 0, 0, 0, 0, none, 0, 0, none, false⟩
  else if d.code = 0 then ⟨d.np, d.nn, d.nc, d.ap, d.an, d.ac, d.port, d.life, d.dp, d.dn, d.dc, none, true⟩
  else ⟨none, 0, 0, none, 0, 0, 0, 0, d.dp, d.dn, d.dc, some (errL d, d.code), true⟩
theorem lpoll_res (d : DefL) (n : Int) (b : Nat) (cs : Array Value) (t : TypeId) (hc : OpCells cs d n) (h0 : 0 ≤ n) (h1 : n < 1000) (hb : ¬ (¬ n + 1 ≤ d.polls ∧ d.boom = true)) (W : World) (hW : W.heap[b]? = some (.cells cs t (0, 0))) :
    Calls Try.prog 93 #[.pointer (some ⟨b, 0, none⟩)] W (PollRes W b (cs.setIfInBounds 18 (.int .i64 (n + 1))) t (ansA d (n + 1))) := by
  by_cases hw : n + 1 ≤ d.polls
  · refine (lpoll_wait d n b cs t W hW hc h0 h1 hw).mono ?_
    rintro e w' ⟨he, hop, hbl⟩
    unfold PollRes ansA
    rw [if_pos hw]
    exact ⟨⟨_, he, rfl⟩, hop, hbl⟩
  · have hbm : d.boom = false := by
      cases hq : d.boom
      · rfl
      · exact absurd ⟨hw, hq⟩ hb
    by_cases hco : d.code = 0
    · refine (lpoll_ok d n b cs t W hW hc h0 h1 hw hbm hco).mono ?_
      rintro e w' ⟨he, hop, hbl⟩
      unfold PollRes ansA
      rw [if_neg hw, if_pos hco]
      exact ⟨⟨_, he, rfl⟩, hop, hbl⟩
    · refine (lpoll_err d n b cs t W hW hc h0 h1 hw hbm hco).mono ?_
      rintro e w' ⟨⟨er, he, her⟩, hop, hbl⟩
      unfold PollRes ansA
      rw [if_neg hw, if_neg hco]
      exact ⟨⟨_, he, her⟩, hop, hbl⟩
/-- The block of a question: its cells and type. -/
theorem OpAt.cells {w : World} {d : DefL} {n h : Int} {b : Nat} {v : Value} (hO : OpAt w d n h b v) : ∃ cs t, w.heap[b]? = some (.cells cs t (0, 0)) ∧ opTy t ∧ OpCells cs d n ∧ ∀ w', w'.heap[b]? = some (.cells (cs.setIfInBounds 18 (.int .i64 (n + 1))) t (0, 0)) → OpAt w' d (n + 1) h b v := by
  rcases hO with ⟨h1, e, hc⟩ | ⟨h1, e, hc⟩
  · exact ⟨_, _, hc, ⟨by decide, by decide, by decide, by decide, by decide⟩, opCells_op d n, fun w' h' => .inl ⟨h1, e, by rw [opC_next] at h'; exact h'⟩⟩
  · exact ⟨_, _, hc, ⟨by decide, by decide, by decide, by decide, by decide⟩, opCells_he d n h, fun w' h' => .inr ⟨h1, e, by rw [heC_next] at h'; exact h'⟩⟩
theorem spoll_wait (s : ByteArray) (d : DefL) (n h : Int) (b : Nat) (v : Value) (w : World) (hO : OpAt w d n h b v) (h0 : 0 ≤ n) (h1 : n < 1000) (hw : n + 1 ≤ d.polls) :
    Calls Try.prog 15 #[.string s, v] w fun e w' => e = .returned (.tuple #[zAns, .slice none 0 0, .nilIface, .bool false]) ∧ OpAt w' d (n + 1) h b v ∧ ButL w.heap.size [b] w w' := by
  obtain ⟨cs, t, hc, ht, hcl, hnx⟩ := hO.cells
  obtain ⟨tv, rfl, hm⟩ := op_meth hO
  have ha : (ansA d (n + 1)).done = false := by unfold ansA; rw [if_pos hw]
  refine (poll_wait s w tv _ b (cs.setIfInBounds 18 (.int .i64 (n + 1))) t (ansA d (n + 1)) ha hO.lt (fun W hG => poll_guard s w W tv b cs _ t _ hG hc ht hm (fun W2 h2 => lpoll_res d n b cs t hcl h0 h1 (fun hh => hh.1 hw) W2 h2))).mono ?_
  rintro e w' ⟨he, hop, hbl⟩
  exact ⟨he, hnx w' hop, hbl⟩
theorem spoll_boom (s : ByteArray) (d : DefL) (n h : Int) (b : Nat) (v : Value) (w : World) (hO : OpAt w d n h b v) (h0 : 0 ≤ n) (h1 : n < 1000) (hw : ¬ n + 1 ≤ d.polls) (hbm : d.boom = true) :
    Calls Try.prog 15 #[.string s, v] w fun e w' => ∃ er, e = .returned (.tuple #[zAns, .slice none 0 0, er, .bool true]) ∧ ErrS w' [s] 2 er ∧ ButL w.heap.size [b] w w' := by
  obtain ⟨cs, t, hc, ht, hcl, hnx⟩ := hO.cells
  obtain ⟨tv, rfl, hm⟩ := op_meth hO
  have hlt := hO.lt
  refine poll_bad s w _ (.inr ⟨tv, _, rfl⟩) (fun w' => ButL w.heap.size [b] w w') (fun w2 x0 x1 x2 x3 hx => but_set4 hx (.inr (by omega)) _ _ _ _) (fun W hG => ?_)
  have hz := hG.size
  have hbW : (W.alloc gbox).heap[b]? = some (.cells cs t (0, 0)) := al_keep ((hG.below.block b hlt).trans hc)
  have hcl2 := pollC_boom (W.alloc gbox) tv b w.heap.size (w.heap.size + 2) (w.heap.size + 3) (w.heap.size + 4) (w.heap.size + 5) _ (al_keep hG.box.hO) hm (lpoll_boom d n b cs t (W.alloc gbox) hbW hcl h0 h1 hw hbm)
  refine (guard_bad 34 _ W s _ (fun w => by kernel_rfl) hcl2 (fun w' hx => (hx.2.block _ (by rw [al_size]; omega) (by rw [List.mem_singleton]; omega)).trans (heap_alloc_new W _))).mono ?_
  rintro e w2 ⟨w3, ⟨_, hbl⟩, rfl, he⟩
  refine ⟨_, he, ErrS.wrap (w := w3) (L := []) (k := 2) rfl s, al_keep ((hbl.block _ (by rw [al_size]; omega) (by rw [List.mem_singleton]; omega)).trans (al_keep hG.res)), ?_⟩
  exact (((ButL.of_below hG.below).alloc (by omega) gbox).but hbl (by rw [al_size]; omega) (fun k hk => .inl hk)).alloc (by have := hbl.size; rw [al_size] at this; omega) _
theorem spoll_nil (s : ByteArray) (w : World) :
    Calls Try.prog 15 #[.string s, .nilIface] w fun e w' => ∃ er, e = .returned (.tuple #[zAns, .slice none 0 0, er, .bool true]) ∧ ErrS w' [s] 2 er ∧ Below w.heap.size w w' := by
  refine poll_bad s w _ (.inl rfl) (fun w' => Below w.heap.size w w') (fun w2 x0 x1 x2 x3 hx => (but_set4 (S := []) (ButL.of_below hx) (.inr (by omega)) _ _ _ _).toBelow) (fun W hG => ?_)
  have hz := hG.size
  refine (guard_bad 34 _ W s _ (fun w => by kernel_rfl) (pollC_nil (W.alloc gbox) w.heap.size (w.heap.size + 2) (w.heap.size + 3) (w.heap.size + 4) (w.heap.size + 5) (al_keep hG.box.hO)) (fun w' hx => hx ▸ heap_alloc_new W _)).mono ?_
  rintro e w2 ⟨w3, rfl, rfl, he⟩
  exact ⟨_, he, ErrS.wrap (L := []) (k := 2) rfl s, al_keep (al_keep hG.res), keepE (keepE hG.below (al_bel _ _)) (al_bel _ _)⟩
/-- The texts that the answer of a question that has ended holds. -/
def endN (d : DefL) (ns : List (List UInt8)) : List (List UInt8) := if d.code = 0 then ns else []
theorem spoll_done (s : ByteArray) (d : DefL) (n h : Int) (b : Nat) (v : Value) (ns as_ : List (List UInt8)) (ds : List (ByteArray × Int)) (w : World) (hO : OpAt w d n h b v) (hT : DefT w b d ns as_ ds) (h0 : 0 ≤ n) (h1 : n < 1000) (hw : ¬ n + 1 ≤ d.polls) (hbm : d.boom = false) :
    Calls Try.prog 15 #[.string s, v] w fun e w' => (∃ v1 v2 p' c' er, e = .returned (.tuple #[.agg #[v1, v2, .int .i64 (ansA d (n + 1)).po, .int .i64 (ansA d (n + 1)).li], .slice p' d.dn c', er, .bool true]) ∧ StrC w.heap.size w' v1 (endN d ns) ∧ StrC w.heap.size w' v2 (endN d as_) ∧ DepS w' p' d.dn c' ds ∧ ErrO w' (if d.code = 0 then none else some (s :: errL d, d.code)) er) ∧ ButL w.heap.size [b] w w' := by
  obtain ⟨cs, t, hc, ht, hcl, hnx⟩ := hO.cells
  obtain ⟨tv, rfl, hm⟩ := op_meth hO
  have ha : (ansA d (n + 1)).done = true := by unfold ansA; rw [if_neg hw]; split <;> rfl
  have hdn : (ansA d (n + 1)).dn = d.dn := by unfold ansA; rw [if_neg hw]; split <;> rfl
  have hPT : PollT w b (ansA d (n + 1)) (endN d ns) (endN d as_) ds := by
    unfold ansA endN
    rw [if_neg hw]
    by_cases hco : d.code = 0
    · rw [if_pos hco, if_pos hco, if_pos hco]
      exact ⟨hT.tn, hT.ta, hT.td, hT.nl, hT.al, hT.dl⟩
    · rw [if_neg hco, if_neg hco, if_neg hco]
      exact ⟨fun W _ _ => ⟨0, World.ownsRow_nil _ _ _ _⟩, fun W _ _ => ⟨0, World.ownsRow_nil _ _ _ _⟩, hT.td, by simp, by simp, hT.dl⟩
  have he0 : ((ansA d (n + 1)).err.map fun y => (s :: y.1, y.2)) = if d.code = 0 then none else some (s :: errL d, d.code) := by
    unfold ansA
    rw [if_neg hw]
    split <;> rfl
  have hD := poll_done s w tv _ b (cs.setIfInBounds 18 (.int .i64 (n + 1))) t (ansA d (n + 1)) (endN d ns) (endN d as_) ds ha hO.lt hPT (fun W hG => poll_guard s w W tv b cs _ t _ hG hc ht hm (fun W2 h2 => lpoll_res d n b cs t hcl h0 h1 (fun hh => by rw [hbm] at hh; exact Bool.noConfusion hh.2) W2 h2))
  rw [he0, hdn] at hD
  refine hD.mono ?_
  rintro e w' ⟨hr, _, hbl⟩
  exact ⟨hr, hbl⟩
end Go.Proofs.Ytpdkjifalgeodaa
