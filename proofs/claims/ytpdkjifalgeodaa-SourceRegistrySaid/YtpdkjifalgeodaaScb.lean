/- SourceCalls: what comes in, and the refusals. -/
import Derived.Test.YtpdkjifalgeodaaSca
import Derived.Test.YtpdkjifalgeodaaSz
namespace Go.Proofs.Ytpdkjifalgeodaa
open Go.RowKit Go.Extern.Stop Go.Stop Go.Extern Go.Lib Go.Tx
/-- A source's description that comes in. -/
structure DefIn (w : World) (d : DefL) (ns as_ : List (List UInt8)) (ds : List (ByteArray × Int)) : Prop where
  hl : d.label.size ≤ maxLen
  tn : TxAt w d.np ns
  ta : TxAt w d.ap as_
  nn : ns.length = d.nn
  an : as_.length = d.an
  nc : d.nn ≤ maxLen
  ac : d.an ≤ maxLen
  ln : ∀ x ∈ ns, x.length ≤ maxLen
  la : ∀ x ∈ as_, x.length ≤ maxLen
  dp : DepS w d.dp d.dn d.dc ds
theorem DefIn.below {w w' : World} {d : DefL} {ns as_ : List (List UInt8)} {ds : List (ByteArray × Int)} (h : DefIn w d ns as_ ds) (hb : Below w.heap.size w w') : DefIn w' d ns as_ ds :=
  ⟨h.hl, h.tn.below hb, h.ta.below hb, h.nn, h.an, h.nc, h.ac, h.ln, h.la, h.dp.below hb⟩
theorem deps_cut {w : World} {p : Option Addr} {n c : Nat} {ds : List (ByteArray × Int)} (h : DepS w p n c ds) : DepS w p (if 4 < n then 4 else n) c (ds.take 4) := by
  obtain ⟨h1, h2, h3, h4, h5⟩ := h
  refine ⟨by rw [List.length_take, h1]; split <;> omega, by split <;> omega, h3, h4, fun hn => ?_⟩
  obtain ⟨b, off, e, hb, hc⟩ := h5 (by split at hn <;> omega)
  refine ⟨b, off, e, hb, fun j u hj => hc j u ?_⟩
  have e1 : depC ds = depC (ds.take 4) ++ depC (ds.drop 4) := by
    unfold depC
    rw [← List.flatMap_append, List.take_append_drop]
  rw [e1, List.getElem?_append_left (List.getElem?_eq_some_iff.1 hj).1]
  exact hj
/-- A description that was cut: what its slices hold, and that it is kept. -/
structure DefCut (w : World) (d : DefL) (ns as_ : List (List UInt8)) (ds : List (ByteArray × Int)) : Prop where
  tn : ∃ B, StrC B w (.slice d.np d.nn d.nc) ns
  ta : ∃ B, StrC B w (.slice d.ap d.an d.ac) as_
  td : DepS w d.dp d.dn d.dc ds
  nl : ns.length ≤ 40
  al : as_.length ≤ 40
  dl : d.dn ≤ 4
  p0 : 0 ≤ d.polls
  p4 : d.polls ≤ 4
theorem DefCut.below {w w' : World} {d : DefL} {ns as_ : List (List UInt8)} {ds : List (ByteArray × Int)} (h : DefCut w d ns as_ ds) (hb : Below w.heap.size w w') : DefCut w' d ns as_ ds :=
  ⟨h.tn.imp fun _ h => own_below h hb, h.ta.imp fun _ h => own_below h hb, h.td.below hb, h.nl, h.al, h.dl, h.p0, h.p4⟩
theorem DefCut.defT {w w' : World} {d : DefL} {ns as_ : List (List UInt8)} {ds : List (ByteArray × Int)} (h : DefCut w d ns as_ ds) (hb : Below w.heap.size w w') {b : Nat} (hbl : w.heap.size ≤ b) : DefT w' b d ns as_ ds := by
  have key : ∀ W : World, w'.heap.size ≤ W.heap.size → (∀ k, k < w'.heap.size → k ≠ b → W.heap[k]? = w'.heap[k]?) → w.heap.size ≤ W.heap.size ∧ ∀ k, k < w.heap.size → W.heap[k]? = w.heap[k]? := fun W h1 h2 =>
    ⟨Nat.le_trans hb.size h1, fun k hk => (h2 k (Nat.lt_of_lt_of_le hk hb.size) (by omega)).trans (hb.block k hk)⟩
  have own : ∀ (W : World) (v : Value) (ws : List (List UInt8)), (∀ k, k < w.heap.size → W.heap[k]? = w.heap[k]?) → (∃ B, StrC B w v ws) → ∃ B, StrC B W v ws := fun W v ws hk ⟨B, h⟩ => by
    refine ⟨B, h.1, ?_⟩
    rcases h.2 with h | ⟨g, cap, cur, h1, h2, h3, h4⟩
    · exact .inl h
    · exact .inr ⟨g, cap, cur, h1, h2, by rw [hk g (Array.getElem?_eq_some_iff.1 h3).1]; exact h3, h4⟩
  exact ⟨fun W h1 h2 => own W _ _ (key W h1 h2).2 h.tn, fun W h1 h2 => own W _ _ (key W h1 h2).2 h.ta, fun W h1 h2 => h.td.same (fun hn a ha => (key W h1 h2).2 _ (by
      obtain ⟨_, _, _, _, h5⟩ := h.td
      obtain ⟨b', off, e, hl, _⟩ := h5 hn
      rw [e] at ha
      injection ha with ha
      rw [← ha]
      exact hl)) (key W h1 h2).1, by have := h.nl; omega, by have := h.al; omega, by have := h.dl; omega⟩
theorem cutTs_len (ns : List (List UInt8)) : (cutTs ns).length ≤ 40 := by
  unfold cutTs
  rw [List.length_map, List.length_take]
  omega
/-- What the law's Cut makes: it holds wherever what lies between the two sizes was written. -/
theorem cut12_of (d : DefL) (ns as_ : List (List UInt8)) (ds : List (ByteArray × Int)) (w0 w : World) (h : DefIn w0 d ns as_ ds) (hw : Below w0.heap.size w0 w) :
    Calls Try.prog 8 #[defV d] w fun e w' => ∃ d2, e = .returned (defV d2) ∧ d2.label = cutB 20 d.label ∧ (∀ W' : World, w'.heap.size ≤ W'.heap.size → (∀ k, k < w'.heap.size → k < w0.heap.size ∨ w.heap.size ≤ k → W'.heap[k]? = w'.heap[k]?) → DefCut W' d2 (cutTs ns) (cutTs as_) (ds.take 4)) ∧ Below w.heap.size w w' := by
  have hin := h.below hw
  refine (cut12_any d ns as_ w h.hl hin.tn hin.ta h.nn h.an h.nc h.ac h.ln h.la h.dp.2.1 h.dp.2.2.1 h.dp.2.2.2.1).mono ?_
  rintro e w' ⟨p1, n1, c1, p2, n2, c2, he, ⟨B1, hB1, h1⟩, ⟨B2, hB2, h2⟩, hb⟩
  refine ⟨_, he, rfl, fun W' hz hk => ⟨⟨B1, ?_⟩, ⟨B2, ?_⟩, ?_, cutTs_len _, cutTs_len _, ?_, ?_, ?_⟩, hb⟩
  · refine ⟨h1.1, ?_⟩
    rcases h1.2 with h | ⟨g, cap, cur, q1, q2, q3, q4⟩
    · exact .inl h
    · exact .inr ⟨g, cap, cur, q1, q2, by rw [hk g (Array.getElem?_eq_some_iff.1 q3).1 (.inr (by omega))]; exact q3, q4⟩
  · refine ⟨h2.1, ?_⟩
    rcases h2.2 with h | ⟨g, cap, cur, q1, q2, q3, q4⟩
    · exact .inl h
    · exact .inr ⟨g, cap, cur, q1, q2, by rw [hk g (Array.getElem?_eq_some_iff.1 q3).1 (.inr (by omega))]; exact q3, q4⟩
  · have hz1 := hw.size
    have hz2 := hb.size
    refine (deps_cut h.dp).same (fun hn a ha => ?_) (by omega)
    obtain ⟨_, _, _, _, h5⟩ := deps_cut h.dp
    obtain ⟨b', off, e, hl, _⟩ := h5 hn
    rw [e] at ha
    injection ha with ha
    rw [← ha]
    exact (hk b' (by omega) (.inl hl)).trans ((hb.block b' (by omega)).trans (hw.block b' hl))
  · show (if 4 < d.dn then 4 else d.dn) ≤ 4
    split <;> omega
  · show 0 ≤ (if d.polls < 0 ∨ 4 < d.polls then 0 else d.polls)
    split <;> omega
  · show (if d.polls < 0 ∨ 4 < d.polls then 0 else d.polls) ≤ 4
    split <;> omega
theorem bytS_take {w : World} {p : Option Addr} {n c : Nat} {xs : List Int} (h : BytS w p n c xs) : BytS w p (if 20 < n then 20 else n) c (xs.take 20) := by
  obtain ⟨h1, h2, h3, h4⟩ := h
  refine ⟨by rw [List.length_take, h1]; split <;> omega, by split <;> omega, h3, fun hn => ?_⟩
  obtain ⟨ad, e, hc⟩ := h4 (by split at hn <;> omega)
  refine ⟨ad, e, fun j x hj => hc j x ?_⟩
  rw [List.getElem?_take] at hj
  split at hj
  · exact hj
  · cases hj
theorem but_keep {W2 w5 w6 : World} {b : Nat} (hb : W2.heap.size ≤ b) (h1 : Below W2.heap.size W2 w5) (h2 : ButL w5.heap.size [b] w5 w6) : Below W2.heap.size W2 w6 :=
  ⟨h2.os.trans h1.os, h2.tape.trans h1.tape, h2.output.trans h1.output, Nat.le_trans h1.size h2.size, fun k hk => (h2.block k (Nat.lt_of_lt_of_le hk h1.size) (by rw [List.mem_singleton]; omega)).trans (h1.block k hk)⟩
/-- What the last Poll gave. -/
structure DoneR (w : World) (d : DefL) (ns as_ : List (List UInt8)) (ds : List (ByteArray × Int)) (v1 v2 : Value) (po li : Int) (p' : Option Addr) (c' : Nat) (er : Value) : Prop where
  s1 : ∃ B, StrC B w v1 (endN d ns)
  s2 : ∃ B, StrC B w v2 (endN d as_)
  dp : DepS w p' d.dn c' ds
  er : ErrO w (if d.code = 0 then none else some (d.label :: errL d, d.code)) er
  pl : d.code = 0 → po = d.port ∧ li = d.life
theorem DoneR.below {w w' : World} {d : DefL} {ns as_ : List (List UInt8)} {ds : List (ByteArray × Int)} {v1 v2 : Value} {po li : Int} {p' : Option Addr} {c' : Nat} {er : Value} (h : DoneR w d ns as_ ds v1 v2 po li p' c' er) (hb : Below w.heap.size w w') : DoneR w' d ns as_ ds v1 v2 po li p' c' er :=
  ⟨h.s1.imp fun _ h => own_below h hb, h.s2.imp fun _ h => own_below h hb, h.dp.below hb, h.er.below hb, h.pl⟩
theorem DoneR.code {w : World} {d : DefL} {ns as_ : List (List UInt8)} {ds : List (ByteArray × Int)} {v1 v2 : Value} {po li : Int} {p' : Option Addr} {c' : Nat} {er : Value} (h : DoneR w d ns as_ ds v1 v2 po li p' c' er) :
    Calls Try.prog 11 #[er] w fun e w' => e = .returned (.int .i64 (toldV d)) ∧ Below w.heap.size w w' := by
  have he := h.er
  by_cases hc : d.code = 0
  · rw [if_pos hc] at he
    obtain rfl : er = .nilIface := he
    refine (code0_nil w).mono ?_
    rintro e w' ⟨he, rfl⟩
    exact ⟨by rw [he]; unfold toldV; rw [if_pos hc], Below.refl _ _⟩
  · rw [if_neg hc] at he
    refine (code0_any w _ _ _ he (by unfold errL; split <;> simp)).mono ?_
    rintro e w' ⟨he, hb⟩
    exact ⟨by rw [he]; unfold toldV; rw [if_neg hc], hb⟩
theorem done_poll (d d4 : DefL) (k : Nat) (h : Int) (b : Nat) (v : Value) (ns as_ : List (List UInt8)) (ds : List (ByteArray × Int)) (W2 w : World) (hd : d4 = { d with polls := (k : Int) }) (hO : OpAt w d4 k h b v) (hT : DefT w b d ns as_ ds) (hk : (k : Int) ≤ 4) (hbm : d.boom = false) (hbl : W2.heap.size ≤ b) (h2 : Below W2.heap.size W2 w) :
    Calls Try.prog 15 #[.string d.label, v] w fun e w' => ∃ p1 n1 c1 p2 n2 c2 po li p' c' er, e = .returned (.tuple #[.agg #[.slice p1 n1 c1, .slice p2 n2 c2, .int .i64 po, .int .i64 li], .slice p' d.dn c', er, .bool true]) ∧ DoneR w' d ns as_ ds (.slice p1 n1 c1) (.slice p2 n2 c2) po li p' c' er ∧ Below W2.heap.size W2 w' := by
  subst hd
  have hT' : DefT w b { d with polls := (k : Int) } ns as_ ds := ⟨hT.tn, hT.ta, hT.td, hT.nl, hT.al, hT.dl⟩
  have hw : ¬ (k : Int) + 1 ≤ k := by omega
  refine (spoll_done d.label _ k h b v ns as_ ds w hO hT' (by omega) (by omega) hw hbm).mono ?_
  rintro e w' ⟨⟨v1, v2, p', c', er, he, h1, h2', h3, h4⟩, hbb⟩
  obtain ⟨p1, c1, rfl⟩ := h1.shape
  obtain ⟨p2, c2, rfl⟩ := h2'.shape
  refine ⟨_, _, _, _, _, _, _, _, _, _, _, he, ⟨⟨_, h1⟩, ⟨_, h2'⟩, h3, h4, fun h0 => ?_⟩, but_keep hbl h2 hbb⟩
  unfold ansA
  rw [if_neg hw, if_pos h0]
  exact ⟨rfl, rfl⟩
end Go.Proofs.Ytpdkjifalgeodaa
