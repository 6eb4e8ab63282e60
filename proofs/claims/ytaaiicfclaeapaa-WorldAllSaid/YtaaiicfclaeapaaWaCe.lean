/- Contracts and plain facts that the law leans on. -/
import Derived.Test.YtaaiicfclaeapaaWaCd
import Derived.Test.YtaaiicfclaeapaaKkM
namespace Go.Proofs.Ytaaiicfclaeapaa
open Go.RowKit Go.Mp Go.Rb Go.Lib
set_option maxHeartbeats 1000000 in
set_option maxRecDepth 100000 in
theorem same_d (s : ByteArray) (lk : Bool) (a b : Option Addr) (n ca m cb : Nat) (l : List UInt8) (w : World) (ha : RB 0 w (.slice a n ca) l) (hb : RB 0 w (.slice b m cb) l) :
    Calls Try.prog 44 #[.agg #[.string s, .bool lk, .slice a n ca], .agg #[.string s, .bool lk, .slice b m cb]] w fun e w' => e = .returned (.bool true) ∧ Below w.heap.size w w' := by
  obtain ⟨w1, hw1⟩ : ∃ w1, (w.alloc (.cells #[.string s, .bool lk, .slice a n ca] 42)).alloc (.cells #[.string s, .bool lk, .slice b m cb] 42) = w1 := ⟨_, rfl⟩
  have hb1 : Below w.heap.size w w1 := by rw [← hw1]; exact ((Below.refl _ w).alloc (Nat.le_refl _) _).alloc (by show w.heap.size ≤ (w.heap.push _).size; simp) _
  have hc1 : w1.heap[w.heap.size]? = some (.cells #[.string s, .bool lk, .slice a n ca] 42 (0, 0)) := by rw [← hw1]; show ((w.heap.push _).push _)[_]? = _; rw [Array.getElem?_push, if_neg (by simp), Array.getElem?_push, if_pos rfl]
  have hc2 : w1.heap[w.heap.size + 1]? = some (.cells #[.string s, .bool lk, .slice b m cb] 42 (0, 0)) := by rw [← hw1]; show ((w.heap.push _).push _)[_]? = _; rw [Array.getElem?_push, if_pos (by simp)]
  have a0 : w1.cell? ⟨w.heap.size, 0, none⟩ = some (.string s) := by simp [World.cell?, hc1]
  have a1 : w1.cell? ⟨w.heap.size, 1, none⟩ = some (.bool lk) := by simp [World.cell?, hc1]
  have a2 : w1.cell? ⟨w.heap.size, 2, none⟩ = some (.slice a n ca) := by simp [World.cell?, hc1]
  have b0 : w1.cell? ⟨w.heap.size + 1, 0, none⟩ = some (.string s) := by simp [World.cell?, hc2]
  have b1 : w1.cell? ⟨w.heap.size + 1, 1, none⟩ = some (.bool lk) := by simp [World.cell?, hc2]
  have b2 : w1.cell? ⟨w.heap.size + 1, 2, none⟩ = some (.slice b m cb) := by simp [World.cell?, hc2]
  have cv1 := (RB.below ha hb1).str (P := Try.prog) (src := 33) (dst := 9) Try.underlying33 Try.underlying5 Try.underlying9
  have cv2 := (RB.below hb hb1).str (P := Try.prog) (src := 33) (dst := 9) Try.underlying33 Try.underlying5 Try.underlying9
  have hll : (lk == lk) = true := by simp
  have HB1 := Lib.hid hb1
  clear ha hb hc1 hc2 hb1
  go_enter Try.func44, Try.ntmps44
  go_upto_region 1 with (fail)
  clear hw1
  go_wp2
  go_ret
  exact ⟨rfl, HB1.out⟩
end Go.Proofs.Ytaaiicfclaeapaa

namespace Go.Proofs.Ytaaiicfclaeapaa
open Go.RowKit Go.Mp Go.Rb Go.Lib
/-- Both worlds, as the document tells them. -/
structure StW where
  now : Int
  cnt : Int
  files : List FilD
  sent : List DgT
  strm : List StmT
  raws : List RawD
  syn : Nat
  /-- How many raw writes there were, those that a cut undid too. -/
  wr : Nat
/-- What the disk holds ahead of each raw write that isn't synced. -/
def ulF : List RawD → List RawD → List (ByteArray × List UInt8)
  | _, [] => []
  | pre, x :: L => (x.1, loadL pre x.1) :: ulF (pre ++ [x]) L
theorem ulF_len : ∀ (pre L : List RawD), (ulF pre L).length = L.length
  | _, [] => rfl
  | pre, x :: L => by simp [ulF, ulF_len (pre ++ [x]) L]
theorem ulF_snoc (x : RawD) : ∀ (pre L : List RawD), ulF pre (L ++ [x]) = ulF pre L ++ [(x.1, loadL (pre ++ L) x.1)]
  | pre, [] => by simp [ulF]
  | pre, y :: L => by
    rw [List.cons_append]
    unfold ulF
    rw [ulF_snoc x (pre ++ [y]) L, List.cons_append, List.append_assoc]
    rfl
theorem ulF_drop : ∀ (pre L : List RawD) (k : Nat), (ulF pre L).drop k = ulF (pre ++ L.take k) (L.drop k)
  | pre, L, 0 => by simp
  | pre, [], k + 1 => by simp [ulF]
  | pre, x :: L, k + 1 => by
    have := ulF_drop (pre ++ [x]) L k
    simp [ulF, this]
theorem ulF_cut (t : ByteArray) : ∀ (pre L : List RawD), (fstB (ulF pre L) t).getD (loadL (pre ++ L) t) = loadL pre t
  | pre, [] => by simp [ulF, fstB]
  | pre, x :: L => by
    unfold ulF
    rw [fstB_cons]
    by_cases h : t = x.1
    · subst h
      rw [if_pos rfl]
      rfl
    · rw [if_neg h]
      have ih := ulF_cut t (pre ++ [x]) L
      rw [List.append_assoc, List.singleton_append] at ih
      rw [ih, loadL_snoc]
      unfold stepR
      rw [if_neg (fun e => h e.symm)]
def isU8 (w : World) (k : Nat) : Prop := ∃ cs fr, w.heap[k]? = some (.cells cs 5 fr)
/-- Colours: 1 files, 2 datagrams, 3 streams, 5 the disk and the world's own block, 7 the document's bytes, 8 and more the document's rows. -/
structure ColOk (W0 : Nat) (col : Nat → Nat) (w : World) : Prop where
  base : W0 ≤ w.heap.size
  lo : ∀ k, col k ≠ 0 → W0 ≤ k ∧ k < w.heap.size
  u8 : ∀ k, col k = 7 → ∃ cs fr, w.heap[k]? = some (.cells cs 5 fr)
structure Fr (cs : Nat → Prop) (col col' : Nat → Nat) (w w' : World) : Prop where
  os : w'.os = w.os
  tape : w'.tape = w.tape
  output : w'.output = w.output
  size : w.heap.size ≤ w'.heap.size
  old : ∀ k, k < w.heap.size → col' k = col k
  keep : ∀ k, k < w.heap.size → ¬ cs (col k) → w'.heap[k]? = w.heap[k]?
  bod : ∀ k, k < w.heap.size → 8 ≤ col k → isU8 w k → w'.heap[k]? = w.heap[k]?
/-- The document's blocks: its rows, and bytes. -/
def Rd (d : Nat) (col : Nat → Nat) (w : World) : Nat → Prop := fun k => col k = d ∨ col k = 7 ∨ (8 ≤ col k ∧ isU8 w k)
def paint (w w' : World) (c : Nat) (col : Nat → Nat) : Nat → Nat := fun k => if w.heap.size ≤ k ∧ k < w'.heap.size then c else col k
theorem paint_old {w w' : World} {c : Nat} {col : Nat → Nat} {k : Nat} (h : k < w.heap.size) : paint w w' c col k = col k := if_neg (by omega)
theorem paint_new {w w' : World} {c : Nat} {col : Nat → Nat} {k : Nat} (h : w.heap.size ≤ k ∧ k < w'.heap.size) : paint w w' c col k = c := if_pos h
open Classical in
noncomputable def paintD (w w' : World) (d : Nat) (col : Nat → Nat) : Nat → Nat := fun k => if w.heap.size ≤ k ∧ k < w'.heap.size then (if isU8 w' k then 7 else d) else col k
theorem paintD_old {w w' : World} {d : Nat} {col : Nat → Nat} {k : Nat} (h : k < w.heap.size) : paintD w w' d col k = col k := if_neg (by omega)
theorem paintD_new {w w' : World} {d : Nat} {col : Nat → Nat} {k : Nat} (h : w.heap.size ≤ k ∧ k < w'.heap.size) : paintD w w' d col k = 7 ∧ isU8 w' k ∨ paintD w w' d col k = d := by
  unfold paintD
  rw [if_pos h]
  by_cases hu : isU8 w' k
  · rw [if_pos hu]; exact .inl ⟨rfl, hu⟩
  · rw [if_neg hu]; exact .inr rfl
theorem ColOk.below {W0 : Nat} {col : Nat → Nat} {w w' : World} (h : ColOk W0 col w) (hb : Below w.heap.size w w') : ColOk W0 col w' :=
  ⟨Nat.le_trans h.base hb.size, fun k hk => ⟨(h.lo k hk).1, Nat.lt_of_lt_of_le (h.lo k hk).2 hb.size⟩, fun k hk => by
    obtain ⟨cs, fr, e⟩ := h.u8 k hk
    exact ⟨cs, fr, (hb.block k (Array.getElem?_eq_some_iff.1 e).1).trans e⟩⟩
theorem Fr.below {cs : Nat → Prop} {col : Nat → Nat} {w w' : World} (hb : Below w.heap.size w w') : Fr cs col col w w' := ⟨hb.os, hb.tape, hb.output, hb.size, fun _ _ => rfl, fun k hk _ => hb.block k hk, fun k hk _ _ => hb.block k hk⟩
theorem Fr.trans {cs : Nat → Prop} {c0 c1 c2 : Nat → Nat} {w0 w1 w2 : World} (h : Fr cs c0 c1 w0 w1) (k : Fr cs c1 c2 w1 w2) : Fr cs c0 c2 w0 w2 :=
  ⟨k.os.trans h.os, k.tape.trans h.tape, k.output.trans h.output, Nat.le_trans h.size k.size, fun j hj => (k.old j (Nat.lt_of_lt_of_le hj h.size)).trans (h.old j hj), fun j hj hn => (k.keep j (Nat.lt_of_lt_of_le hj h.size) (by rw [h.old j hj]; exact hn)).trans (h.keep j hj hn), fun j hj h8 hu => (k.bod j (Nat.lt_of_lt_of_le hj h.size) (by rw [h.old j hj]; exact h8) (by obtain ⟨cs', fr, e⟩ := hu; exact ⟨cs', fr, (h.bod j hj h8 ⟨cs', fr, e⟩).trans e⟩)).trans (h.bod j hj h8 hu)⟩
theorem Fr.weak {cs cs' : Nat → Prop} {c0 c1 : Nat → Nat} {w0 w1 : World} (h : Fr cs c0 c1 w0 w1) (hc : ∀ c, cs c → cs' c) : Fr cs' c0 c1 w0 w1 := ⟨h.os, h.tape, h.output, h.size, h.old, fun j hj hn => h.keep j hj (fun e => hn (hc _ e)), h.bod⟩
/-- The program's world. -/
def ProgIn (col : Nat → Nat) (w : World) (b : Nat) (s : StW) : Prop :=
  ∃ (mp : Option Nat) (vs vt : Value) (B K : Nat) (T : ByteArray → Option FileT) (Ms : List (DgT × Value)) (Mt : List (StmT × Value)),
    DKX (fun k => k < w.heap.size ∧ col k ≠ 5) w b B K (.int .i64 s.now, .int .i64 s.cnt, .map mp, vs, vt) s.syn (loadL s.raws) (ulF (s.raws.take s.syn) (s.raws.drop s.syn)) ∧ K ≤ s.wr ∧ col b = 5 ∧
    FilesIn (fun k => col k = 1) w b mp T ∧ (∀ p, (T p).getD ([], 0, false) = (lookF p s.files).2) ∧ DgsIn (fun k => col k = 2) w vs s.sent Ms ∧ StmIn (fun k => col k = 3) w vt s.strm Mt
/-- The document's world. -/
def DocIn (d : Nat) (col : Nat → Nat) (w : World) (r : Nat) (s : StW) : Prop :=
  ∃ (vF vS vT vR : Value), W7 w r s.now s.cnt vF vS vT vR (s.syn : Int) ∧ col r = d ∧
    FRow (Rd d col w) w vF s.files ∧ SRow (Rd d col w) w vS s.sent ∧ TRow (Rd d col w) w vT s.strm ∧ RRow (Rd d col w) w vR s.raws
theorem DgsIn.same {S S' : Nat → Prop} {w w' : World} {v : Value} {L : List DgT} {M : List (DgT × Value)} (h : DgsIn S w v L M) (hS : ∀ k, S k → S' k) (hh : ∀ k, S k → w'.heap[k]? = w.heap[k]?) : DgsIn S' w' v L M where
  map := h.map
  row := ⟨h.row.1, h.row.2.imp id (fun ⟨g, cp, cur, a, r1, r2, r3⟩ => ⟨g, cp, cur, a, r1, (hh g (h.own g (by rw [a]; rfl))).trans r2, r3⟩)⟩
  own := fun q e => hS q (h.own q e)
  at_ := fun x hx => by
    obtain ⟨a, n, c, e, hr, ha⟩ := h.at_ x hx
    exact ⟨a, n, c, e, RB.keepB hr (fun q cs fr ea _ => hh _ (ha q ea)), fun q ea => hS _ (ha q ea)⟩
theorem StmIn.same {S S' : Nat → Prop} {w w' : World} {v : Value} {L : List StmT} {M : List (StmT × Value)} (h : StmIn S w v L M) (hS : ∀ k, S k → S' k) (hh : ∀ k, S k → w'.heap[k]? = w.heap[k]?) : StmIn S' w' v L M where
  map := h.map
  row := ⟨h.row.1, h.row.2.imp id (fun ⟨g, cp, cur, a, r1, r2, r3⟩ => ⟨g, cp, cur, a, r1, (hh g (h.own g (by rw [a]; rfl))).trans r2, r3⟩)⟩
  own := fun q e => hS q (h.own q e)
  at_ := fun x hx => by
    obtain ⟨a, n, c, e, hr, ha⟩ := h.at_ x hx
    exact ⟨a, n, c, e, RB.keepB hr (fun q cs fr ea _ => hh _ (ha q ea)), fun q ea => hS _ (ha q ea)⟩
  apart := h.apart
section
variable {W0 : Nat} {cs : Nat → Prop} {col col' : Nat → Nat} {w w' : World} {s : StW}
theorem ProgIn.keep {b : Nat} (h : ProgIn col w b s) (hc : ColOk W0 col w) (hf : Fr cs col col' w w') (hcs : ¬ cs 1 ∧ ¬ cs 2 ∧ ¬ cs 3 ∧ ¬ cs 5) : ProgIn col' w' b s := by
  obtain ⟨mp, vs, vt, B, K, T, Ms, Mt, h1, hK, h2, h3, h4, h5, h6⟩ := h
  have hlt : ∀ k c, c ≠ 0 → col k = c → k < w.heap.size := fun k c hn e => (hc.lo k (by rw [e]; exact hn)).2
  have hcl : ∀ k c, c ≠ 0 → col k = c → col' k = c := fun k c hn e => (hf.old k (hlt k c hn e)).trans e
  have hkp : ∀ k c, c ≠ 0 → ¬ cs c → col k = c → w'.heap[k]? = w.heap[k]? := fun k c hn hcc e => hf.keep k (hlt k c hn e) (by rw [e]; exact hcc)
  refine ⟨mp, vs, vt, B, K, T, Ms, Mt, ?_, hK, hcl b 5 (by decide) h2, h3.same (fun k hk => hcl k 1 (by decide) hk) (fun k hk => hkp k 1 (by decide) hcs.1 hk), h4, h5.same (fun k hk => hcl k 2 (by decide) hk) (fun k hk => hkp k 2 (by decide) hcs.2.1 hk), h6.same (fun k hk => hcl k 3 (by decide) hk) (fun k hk => hkp k 3 (by decide) hcs.2.2.1 hk)⟩
  refine DKX.same (h1.grow (Y := fun k => k < w'.heap.size ∧ col' k ≠ 5) (fun k _ hk hY => ⟨hk, fun e => hY.2 ((hf.old k hk).trans e)⟩)) (fun k hk hY => ?_)
  have h5 : col k = 5 := Classical.byContradiction fun hn => hY ⟨Nat.lt_of_lt_of_le hk hf.size, fun e => hn ((hf.old k hk).symm.trans e)⟩
  exact hkp k 5 (by decide) hcs.2.2.2 h5
theorem Rd.lt (hc : ColOk W0 col w) {d : Nat} (hd : 8 ≤ d) {k : Nat} (hk : Rd d col w k) : k < w.heap.size := by
  rcases hk with hk | hk | ⟨hk, _⟩
  · exact (hc.lo k (by omega)).2
  · exact (hc.lo k (by omega)).2
  · exact (hc.lo k (by omega)).2
theorem Rd.keep (hc : ColOk W0 col w) (hf : Fr cs col col' w w') {d : Nat} (hd : 8 ≤ d) (hcs : ¬ cs d ∧ ¬ cs 7) {k : Nat} (hk : Rd d col w k) : w'.heap[k]? = w.heap[k]? ∧ Rd d col' w' k := by
  have hlt := hk.lt hc hd
  have e := hf.old k hlt
  rcases hk with hk | hk | ⟨hk, hu⟩
  · exact ⟨hf.keep k hlt (by rw [hk]; exact hcs.1), .inl (e.trans hk)⟩
  · exact ⟨hf.keep k hlt (by rw [hk]; exact hcs.2), .inr (.inl (e.trans hk))⟩
  · have h := hf.bod k hlt hk hu
    obtain ⟨cs', fr, e2⟩ := hu
    exact ⟨h, .inr (.inr ⟨by rw [e]; exact hk, cs', fr, h.trans e2⟩)⟩
theorem DocIn.keep {d r : Nat} (h : DocIn d col w r s) (hd : 8 ≤ d) (hc : ColOk W0 col w) (hf : Fr cs col col' w w') (hcs : ¬ cs d ∧ ¬ cs 7) : DocIn d col' w' r s := by
  obtain ⟨vF, vS, vT, vR, h1, h2, h3, h4, h5, h6⟩ := h
  have hR : ∀ k, Rd d col w k → Rd d col' w' k := fun k hk => (hk.keep hc hf hd hcs).2
  have hh : ∀ k, Rd d col w k → w'.heap[k]? = w.heap[k]? := fun k hk => (hk.keep hc hf hd hcs).1
  exact ⟨vF, vS, vT, vR, (hh r (.inl h2)).trans h1, (hf.old r h1.lt).trans h2, h3.same hh hR, h4.same hh hR, h5.same hh hR, h6.same hh hR⟩
theorem ColOk.paint (hc : ColOk W0 col w) {c : Nat} (h7 : c ≠ 7) (hs : w.heap.size ≤ w'.heap.size) (hk : ∀ k, col k = 7 → w'.heap[k]? = w.heap[k]?) : ColOk W0 (paint w w' c col) w' :=
  ⟨Nat.le_trans hc.base hs, fun k hn => by
    by_cases hk2 : w.heap.size ≤ k ∧ k < w'.heap.size
    · exact ⟨Nat.le_trans hc.base hk2.1, hk2.2⟩
    · rw [show Go.Proofs.Ytaaiicfclaeapaa.paint w w' c col k = col k from if_neg hk2] at hn
      exact ⟨(hc.lo k hn).1, Nat.lt_of_lt_of_le (hc.lo k hn).2 hs⟩, fun k h => by
    by_cases hk2 : w.heap.size ≤ k ∧ k < w'.heap.size
    · rw [paint_new hk2] at h; exact absurd h h7
    · rw [show Go.Proofs.Ytaaiicfclaeapaa.paint w w' c col k = col k from if_neg hk2] at h
      obtain ⟨cs', fr, e⟩ := hc.u8 k h
      exact ⟨cs', fr, (hk k h).trans e⟩⟩
theorem ColOk.paintD (hc : ColOk W0 col w) {d : Nat} (h7 : d ≠ 7) (hs : w.heap.size ≤ w'.heap.size) (hk : ∀ k, col k = 7 → w'.heap[k]? = w.heap[k]?) : ColOk W0 (paintD w w' d col) w' :=
  ⟨Nat.le_trans hc.base hs, fun k hn => by
    by_cases hk2 : w.heap.size ≤ k ∧ k < w'.heap.size
    · exact ⟨Nat.le_trans hc.base hk2.1, hk2.2⟩
    · rw [show Go.Proofs.Ytaaiicfclaeapaa.paintD w w' d col k = col k from if_neg hk2] at hn
      exact ⟨(hc.lo k hn).1, Nat.lt_of_lt_of_le (hc.lo k hn).2 hs⟩, fun k h => by
    by_cases hk2 : w.heap.size ≤ k ∧ k < w'.heap.size
    · rcases paintD_new (d := d) (col := col) hk2 with ⟨_, h8⟩ | h8
      · exact h8
      · rw [h8] at h; exact absurd h h7
    · rw [show Go.Proofs.Ytaaiicfclaeapaa.paintD w w' d col k = col k from if_neg hk2] at h
      obtain ⟨cs', fr, e⟩ := hc.u8 k h
      exact ⟨cs', fr, (hk k h).trans e⟩⟩
/-- What a call of the document's world leaves, by its own frame. -/
theorem Chg.fr {d : Nat} {Ty : TypeId → Prop} (hc : ColOk W0 col w) (hd : 8 ≤ d) (h : Chg (Rd d col w) Ty w w') (h8 : ¬ Ty 5) : Fr (fun c => c = d) col (paintD w w' d col) w w' ∧ ColOk W0 (paintD w w' d col) w' ∧ ∀ k, nw (Rd d col w) w w' k → Rd d (paintD w w' d col) w' k := by
  have hu : ∀ k, k < w.heap.size → isU8 w k → w'.heap[k]? = w.heap[k]? := fun k hk hu => h.keep k hk (.inr (fun cs t fr e ht => by
    obtain ⟨cs', fr', e2⟩ := hu
    rw [e2] at e
    cases e
    exact h8 ht))
  have h7 : ∀ k, col k = 7 → w'.heap[k]? = w.heap[k]? := fun k hk => hu k (hc.lo k (by omega)).2 (hc.u8 k hk)
  refine ⟨⟨h.os, h.tape, h.output, h.size, fun k hk => paintD_old hk, fun k hk hn => ?_, fun k hk _ hu2 => hu k hk hu2⟩, hc.paintD (by omega) h.size h7, fun k hk => ?_⟩
  · by_cases hR : Rd d col w k
    · rcases hR with e | e | ⟨_, e⟩
      · exact absurd e hn
      · exact h7 k e
      · exact hu k hk e
    · exact h.keep k hk (.inl hR)
  · rcases hk with hk | hk
    · have hlt := hk.lt hc hd
      rcases hk with e | e | ⟨e, hu2⟩
      · exact .inl ((paintD_old hlt).trans e)
      · exact .inr (.inl ((paintD_old hlt).trans e))
      · have h9 := hu k hlt hu2
        obtain ⟨cs', fr, e2⟩ := hu2
        exact .inr (.inr ⟨by rw [paintD_old hlt]; exact e, cs', fr, h9.trans e2⟩)
    · rcases paintD_new (d := d) (col := col) hk with ⟨e, _⟩ | e
      · exact .inr (.inl e)
      · exact .inl e
end
end Go.Proofs.Ytaaiicfclaeapaa

