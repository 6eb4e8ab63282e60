/- Contracts and plain facts that the law leans on. -/
import Derived.Test.YtaaiicfclaeapaaWaCe
import Derived.Test.YtaaiicfclaeapaaGpM
namespace Go.Proofs.Ytaaiicfclaeapaa
open Go.RowKit Go.Mp Go.Rb Go.Lib
/-- How great both worlds are behind i operations. -/
structure Okw (s : StW) (i : Nat) : Prop where
  few : i ≤ 40
  now : 0 ≤ s.now ∧ s.now ≤ 1152921504606846976
  cnt : 0 ≤ s.cnt ∧ s.cnt ≤ i
  files : s.files.length ≤ 10 * i
  sent : s.sent.length ≤ i
  strm : s.strm.length ≤ i
  raws : s.raws.length ≤ i
  syn : s.syn ≤ s.raws.length
  wr : s.wr ≤ i
  bF : ∀ x ∈ s.files, x.2.1.length ≤ 60
  bS : ∀ x ∈ s.sent, x.2.2.length ≤ 60
  bT : ∀ x ∈ s.strm, x.2.1.length ≤ 60 * i
  bR : ∀ x ∈ s.raws, x.2.1.length ≤ 60
def PC (c : Nat) : Prop := c = 1 ∨ c = 2 ∨ c = 3 ∨ c = 5
def PStep (W0 : Nat) (col : Nat → Nat) (w : World) (b : Nat) (s' : StW) (v : Value) (e : Ending) (w' : World) : Prop :=
  e = .returned v ∧ ∃ col', ColOk W0 col' w' ∧ Fr PC col col' w w' ∧ ProgIn col' w' b s'
theorem DKX.w8 {X : Nat → Prop} {w : World} {b B K : Nat} {c0 c3 c4 : Value} {st : Int} {mp : Option Nat} {syn : Nat} {F : ByteArray → List UInt8} {UL : List (ByteArray × List UInt8)} (h : DKX X w b B K (c0, .int .i64 st, .map mp, c3, c4) syn F UL) : ∃ m uv, W8 w b c0 st mp c3 c4 (.map m) (.int .i64 (syn : Int)) uv := by
  obtain ⟨mp', D, V, p, cap, hd, _⟩ := h
  exact ⟨_, _, hd.wd⟩
theorem wd_of {w w' : World} {b syn : Nat} {c0 c3 c4 c5 c6 c7 c0' c3' c4' : Value} {st st' : Int} {mp mp' : Option Nat} (h : W8 w b c0 st mp c3 c4 c5 c6 c7) (h' : W8 w' b c0' st' mp' c3' c4' c5 c6 c7) : ∀ m uv, WD w b (c0, .int .i64 st, .map mp, c3, c4) m syn uv → WD w' b (c0', .int .i64 st', .map mp', c3', c4') m syn uv := fun m uv hw => by
  unfold WD at hw
  unfold W8 at h h'
  rw [h] at hw
  simp only [Option.some.injEq, Obj.cells.injEq] at hw
  have e := hw.1
  simp at e
  obtain ⟨rfl, rfl, rfl⟩ := e
  exact h'
section
variable {W0 : Nat} {col : Nat → Nat} {w : World} {b i : Nat} {s : StW}
theorem DKX.step {w' : World} {B K : Nat} {c0 c3 c4 c5 c6 c7 c0' c3' c4' : Value} {st st' : Int} {mp mp' : Option Nat} {syn c : Nat} {F : ByteArray → List UInt8} {UL : List (ByteArray × List UInt8)} (hc : ColOk W0 col w) (h : DKX (fun k => k < w.heap.size ∧ col k ≠ 5) w b B K (c0, .int .i64 st, .map mp, c3, c4) syn F UL)
    (h8 : W8 w b c0 st mp c3 c4 c5 c6 c7) (h8' : W8 w' b c0' st' mp' c3' c4' c5 c6 c7) (hs : w.heap.size ≤ w'.heap.size) (hc5 : c ≠ 5) (hh : ∀ k, k < w.heap.size → k ≠ b → col k ≠ c → w'.heap[k]? = w.heap[k]?) :
    DKX (fun k => k < w'.heap.size ∧ paint w w' c col k ≠ 5) w' b B K (c0', .int .i64 st', .map mp', c3', c4') syn F UL := by
  refine DKX.world (h.grow (Y := fun k => k < w'.heap.size ∧ paint w w' c col k ≠ 5) (fun k _ hk hY => ⟨hk, fun e => hY.2 ((paint_old hk).trans e)⟩)) (wd_of h8 h8') (fun k hk hkb hY => hh k hk hkb (fun e => hY ⟨Nat.lt_of_lt_of_le hk hs, ?_⟩))
  rw [paint_old hk, e]
  exact hc5
theorem fr_paint {w' : World} {c : Nat} (hc : PC c) (hb : col b = 5) (o : w'.os = w.os ∧ w'.tape = w.tape ∧ w'.output = w.output) (hs : w.heap.size ≤ w'.heap.size) (hh : ∀ k, k < w.heap.size → k ≠ b → col k ≠ c → w'.heap[k]? = w.heap[k]?) : Fr PC col (paint w w' c col) w w' :=
  ⟨o.1, o.2.1, o.2.2, hs, fun k hk => paint_old hk, fun k hk hn => hh k hk (fun e => hn (by rw [e, hb]; exact .inr (.inr (.inr rfl)))) (fun e => hn (by rw [e]; exact hc)), fun k hk h8 _ => hh k hk (fun e => by rw [e, hb] at h8; omega) (by rcases hc with rfl | rfl | rfl | rfl <;> omega)⟩
theorem ok_paint {w' : World} {c : Nat} (hc : ColOk W0 col w) (hP : PC c) (hb : col b = 5) (hs : w.heap.size ≤ w'.heap.size) (hh : ∀ k, k < w.heap.size → k ≠ b → col k ≠ c → w'.heap[k]? = w.heap[k]?) : ColOk W0 (paint w w' c col) w' :=
  hc.paint (by rcases hP with rfl | rfl | rfl | rfl <;> decide) hs (fun k hk => hh k (hc.lo k (by omega)).2 (fun e => by rw [e, hb] at hk; cases hk) (by rw [hk]; rcases hP with rfl | rfl | rfl | rfl <;> decide))
/-- A set of one colour, painted on. -/
theorem set_paint {w' : World} {c : Nat} (hc : ColOk W0 col w) (hn : c ≠ 0) (k : Nat) (h : col k = c ∨ (w.heap.size ≤ k ∧ k < w'.heap.size)) : paint w w' c col k = c := by
  rcases h with h | h
  · rw [paint_old (hc.lo k (by rw [h]; exact hn)).2, h]
  · exact paint_new h
theorem set_paint2 {w' : World} {c c2 : Nat} (hc : ColOk W0 col w) (hn : c2 ≠ 0) (k : Nat) (h : col k = c2) : paint w w' c col k = c2 := by
  rw [paint_old (hc.lo k (by rw [h]; exact hn)).2, h]
theorem col_new (hc : ColOk W0 col w) {c : Nat} (hn : c ≠ 0) (k : Nat) (h : col k = c) : k < w.heap.size := (hc.lo k (by rw [h]; exact hn)).2
theorem ProgIn.advance (h : ProgIn col w b s) (hc : ColOk W0 col w) (ho : Okw s i) (n : Int) (hn : -9223372036854775808 ≤ n ∧ n ≤ 9223372036854775807) :
    Calls Try.prog 7 #[.pointer (some ⟨b, 0, none⟩), .int .i64 n] w (PStep W0 col w b { s with now := advT s.now n } (.tuple #[])) := by
  obtain ⟨mp, vs, vt, B, K, T, Ms, Mt, h1, hK, h2, h3, h4, h5, h6⟩ := h
  obtain ⟨m, uv, h8⟩ := h1.w8
  refine (advance_x h8 ho.now.1 ho.now.2 n hn).mono fun e w' ⟨he, h8', hk⟩ => ?_
  have hh : ∀ k, k < w.heap.size → k ≠ b → col k ≠ 1 → w'.heap[k]? = w.heap[k]? := fun k hk1 hk2 _ => hk.keep k hk2 hk1
  have hne : ∀ k c, c ≠ 5 → col k = c → k ≠ b := fun k c hc5 e e2 => hc5 (by rw [← e, e2, h2])
  have hcol := fun c (hn : c ≠ 0) k (h : col k = c) => set_paint2 (w' := w') (c := 1) hc hn k h
  refine ⟨he, _, ok_paint hc (.inl rfl) h2 hk.size hh, fr_paint (.inl rfl) h2 ⟨hk.os, hk.tape, hk.output⟩ hk.size hh, mp, vs, vt, B, K, T, Ms, Mt, h1.step hc h8 h8' hk.size (by decide) hh, hK, hcol 5 (by decide) b h2, h3.same (fun k hk9 => hcol 1 (by decide) k hk9) (fun k hk9 => hk.keep k (hne k 1 (by decide) hk9) (col_new hc (by decide) k hk9)), h4, h5.same (fun k hk9 => hcol 2 (by decide) k hk9) (fun k hk9 => hk.keep k (hne k 2 (by decide) hk9) (col_new hc (by decide) k hk9)), h6.same (fun k hk9 => hcol 3 (by decide) k hk9) (fun k hk9 => hk.keep k (hne k 3 (by decide) hk9) (col_new hc (by decide) k hk9))⟩
def lookR (p : ByteArray) : List FilD → FilD
  | [] => (p, [], 0, false)
  | x :: L => if x.1 = p then x else lookR p L
theorem fadd_cons (p : ByteArray) (x : FilD) (L : List FilD) : fadd p (x :: L) = if x.1 = p then x :: L else x :: fadd p L := by
  unfold fadd
  by_cases h : x.1 = p
  · simp [fidx, h]
  · have e : fidx p (x :: L) = fidx p L + 1 := by simp [fidx, h]
    rw [if_neg h, e]
    by_cases h2 : fidx p L < L.length
    · rw [if_pos h2, if_pos (by simp; omega)]
    · rw [if_neg h2, if_neg (by simp; omega)]
      rfl
theorem lookF_eq (p : ByteArray) : ∀ L : List FilD, lookF p L = lookR p L
  | [] => rfl
  | x :: L => by
    have ih := lookF_eq p L
    unfold lookF at ih ⊢
    rw [fadd_cons]
    by_cases h : x.1 = p
    · simp [fidx, lookR, h]
    · have e : fidx p (x :: L) = fidx p L + 1 := by simp [fidx, h]
      rw [if_neg h, e, List.getElem?_cons_succ, ih]
      simp [lookR, h]
theorem fput_lookR (p q : ByteArray) (x : FilD) (hx : x.1 = p) : ∀ L : List FilD, lookR q (fput p x L) = if q = p then x else lookR q L
  | [] => by
    subst hx
    by_cases h : q = x.1
    · subst h; simp [fput, fadd, fidx, lookR]
    · have h2 : ¬ x.1 = q := fun e => h e.symm
      simp [fput, fadd, fidx, lookR, h, h2]
  | y :: L => by
    have ih := fput_lookR p q x hx L
    unfold fput at ih ⊢
    rw [fadd_cons]
    by_cases h : y.1 = p
    · have e : fidx p (y :: L) = 0 := by simp [fidx, h]
      rw [if_pos h, e, List.set_cons_zero]
      subst hx
      by_cases hq : q = x.1
      · subst hq; simp [lookR]
      · have h2 : ¬ x.1 = q := fun e => hq e.symm
        have h3 : ¬ y.1 = q := fun e => hq (e.symm.trans h)
        simp [lookR, hq, h2, h3]
    · have e : fidx p (y :: L) = fidx p L + 1 := by simp [fidx, h]
      rw [if_neg h, e, List.set_cons_succ]
      show (if y.1 = q then y else lookR q ((fadd p L).set (fidx p L) x)) = _
      rw [ih]
      by_cases hq : q = p
      · subst hq; simp [h]
      · simp [lookR, hq]
theorem fput_look (p q : ByteArray) (x : FilD) (hx : x.1 = p) (L : List FilD) : (lookF q (fput p x L)).2 = if q = p then x.2 else (lookF q L).2 := by
  rw [lookF_eq, lookF_eq, fput_lookR p q x hx]
  by_cases h : q = p
  · rw [if_pos h, if_pos h]
  · rw [if_neg h, if_neg h]
theorem fadd_lookR (p q : ByteArray) : ∀ L : List FilD, (lookR q (fadd p L)).2 = (lookR q L).2
  | [] => by
    by_cases h : p = q
    · subst h; simp [fadd, fidx, lookR]
    · simp [fadd, fidx, lookR, h]
  | y :: L => by
    have ih := fadd_lookR p q L
    rw [fadd_cons]
    by_cases h : y.1 = p
    · rw [if_pos h]
    · rw [if_neg h]
      by_cases hq : y.1 = q
      · simp [lookR, hq]
      · simp [lookR, hq, ih]
theorem fadd_look (p q : ByteArray) (L : List FilD) : (lookF q (fadd p L)).2 = (lookF q L).2 := by
  rw [lookF_eq, lookF_eq, fadd_lookR]
theorem ProgIn.files {w' : World} {mp : Option Nat} {vs vt c5 c6 c7 : Value} {B K : Nat} {T' : ByteArray → Option FileT} {Ms : List (DgT × Value)} {Mt : List (StmT × Value)} {st' : Int} {F' : List FilD} (hc : ColOk W0 col w)
    (h1 : DKX (fun k => k < w.heap.size ∧ col k ≠ 5) w b B K (.int .i64 s.now, .int .i64 s.cnt, .map mp, vs, vt) s.syn (loadL s.raws) (ulF (s.raws.take s.syn) (s.raws.drop s.syn))) (hK : K ≤ s.wr) (h2 : col b = 5) (h5 : DgsIn (fun k => col k = 2) w vs s.sent Ms) (h6 : StmIn (fun k => col k = 3) w vt s.strm Mt)
    (h8 : W8 w b (.int .i64 s.now) s.cnt mp vs vt c5 c6 c7) {e : Ending} (hr : FilesR (fun k => col k = 1) w b (.int .i64 s.now) st' mp vs vt c5 c6 c7 T' e w') (hT : ∀ p, (T' p).getD ([], 0, false) = (lookF p F').2) : PStep W0 col w b { s with cnt := st', files := F' } (.tuple #[]) e w' := by
  obtain ⟨he, m, h8', hf, o1, o2, o3, hsz, hk⟩ := hr
  have hh : ∀ k, k < w.heap.size → k ≠ b → col k ≠ 1 → w'.heap[k]? = w.heap[k]? := hk
  have hne : ∀ k c, c ≠ 5 → col k = c → k ≠ b := fun k c hc5 e e2 => hc5 (by rw [← e, e2, h2])
  have hkk : ∀ k c, c ≠ 5 → c ≠ 1 → c ≠ 0 → col k = c → w'.heap[k]? = w.heap[k]? := fun k c q1 q2 q3 e => hh k (col_new hc q3 k e) (hne k c q1 e) (by rw [e]; exact q2)
  have hcol := fun c (hn : c ≠ 0) k (h : col k = c) => set_paint2 (w' := w') (c := 1) hc hn k h
  exact ⟨he, _, ok_paint hc (.inl rfl) h2 hsz hh, fr_paint (.inl rfl) h2 ⟨o1, o2, o3⟩ hsz hh, some m, vs, vt, B, K, T', Ms, Mt, h1.step hc h8 h8' hsz (by decide) hh, hK, hcol 5 (by decide) b h2, hf.same (fun k hk9 => set_paint hc (by decide) k hk9) (fun _ _ => rfl), hT, h5.same (fun k hk9 => hcol 2 (by decide) k hk9) (fun k hk9 => hkk k 2 (by decide) (by decide) (by decide) hk9), h6.same (fun k hk9 => hcol 3 (by decide) k hk9) (fun k hk9 => hkk k 3 (by decide) (by decide) (by decide) hk9)⟩
theorem ProgIn.put (h : ProgIn col w b s) (hc : ColOk W0 col w) (ho : Okw s i) (p : ByteArray) (a : Option Addr) (n c : Nat) (l : List UInt8) (hr : RB 0 w (.slice a n c) l) (hl : l.length ≤ 60) :
    Calls Try.prog 9 #[.pointer (some ⟨b, 0, none⟩), .string p, .slice a n c] w (PStep W0 col w b { s with cnt := s.cnt + 1, files := fput p (p, l, s.cnt + 1, true) s.files } (.tuple #[])) := by
  obtain ⟨mp, vs, vt, B, K, T, Ms, Mt, h1, hK, h2, h3, h4, h5, h6⟩ := h
  obtain ⟨m, uv, h8⟩ := h1.w8
  have := ho.cnt
  have := ho.few
  refine (put_x h8 h3 (by rw [h2]; decide) (fun k hk => col_new hc (by decide) k hk) ho.cnt.1 (by omega) p a n c l hr (by omega)).mono fun e w' hr => ?_
  refine ProgIn.files hc h1 hK h2 h5 h6 h8 hr (fun q => ?_)
  rw [fput_look p q _ rfl]
  unfold updT
  by_cases hq : q = p
  · rw [if_pos hq, if_pos hq]; rfl
  · rw [if_neg hq, if_neg hq]; exact h4 q
theorem ProgIn.remove (h : ProgIn col w b s) (hc : ColOk W0 col w) (ho : Okw s i) (p : ByteArray) :
    Calls Try.prog 11 #[.pointer (some ⟨b, 0, none⟩), .string p] w (PStep W0 col w b { s with cnt := s.cnt + 1, files := fput p (p, [], s.cnt + 1, false) s.files } (.tuple #[])) := by
  obtain ⟨mp, vs, vt, B, K, T, Ms, Mt, h1, hK, h2, h3, h4, h5, h6⟩ := h
  obtain ⟨m, uv, h8⟩ := h1.w8
  have := ho.cnt
  have := ho.few
  refine (remove_x h8 h3 (by rw [h2]; decide) (fun k hk => col_new hc (by decide) k hk) ho.cnt.1 (by omega) p).mono fun e w' hr => ?_
  refine ProgIn.files hc h1 hK h2 h5 h6 h8 hr (fun q => ?_)
  rw [fput_look p q _ rfl]
  unfold updT
  by_cases hq : q = p
  · rw [if_pos hq, if_pos hq]; rfl
  · rw [if_neg hq, if_neg hq]; exact h4 q
end
end Go.Proofs.Ytaaiicfclaeapaa

namespace Go.Proofs.Ytaaiicfclaeapaa
open Go.RowKit Go.Mp Go.Rb Go.Lib
theorem loadL_app (L : List RawD) (p : ByteArray) (l : List UInt8) : loadL (L ++ [(p, l, false)]) = updF (loadL L) p (loadL L p ++ l) := by
  funext t
  rw [loadL_snoc]
  unfold stepR updF
  by_cases h : t = p
  · subst h; simp
  · have h2 : ¬ p = t := fun e => h e.symm
    simp [h, h2]
theorem loadL_rep (L : List RawD) (p : ByteArray) (l : List UInt8) : loadL (L ++ [(p, l, true)]) = updF (loadL L) p l := by
  funext t
  rw [loadL_snoc]
  unfold stepR updF
  by_cases h : t = p
  · subst h; simp
  · have h2 : ¬ p = t := fun e => h e.symm
    simp [h, h2]
theorem ul_app {L : List RawD} {n : Nat} (hn : n ≤ L.length) (x : RawD) : ulF ((L ++ [x]).take n) ((L ++ [x]).drop n) = ulF (L.take n) (L.drop n) ++ [(x.1, loadL L x.1)] := by
  rw [List.take_append_of_le_length hn, List.drop_append_of_le_length hn, ulF_snoc, List.take_append_drop]
theorem ul_len (L : List RawD) (n : Nat) : (ulF (L.take n) (L.drop n)).length = L.length - n := by rw [ulF_len, List.length_drop]
theorem ul_cut (L : List RawD) (n k : Nat) (t : ByteArray) : (fstB ((ulF (L.take n) (L.drop n)).drop k) t).getD (loadL L t) = loadL (L.take (n + k)) t := by
  rw [ulF_drop, List.take_add]
  have h := ulF_cut t (L.take n ++ (L.drop n).take k) ((L.drop n).drop k)
  rw [List.append_assoc, List.take_append_drop, List.take_append_drop] at h
  exact h
theorem DgsIn.none (S : Nat → Prop) (w : World) : DgsIn S w (.slice none 0 0) [] [] where
  map := rfl
  row := World.ownsRow_nil _ _ _ _
  own := fun q e => by cases e
  at_ := fun x hx => by cases hx
theorem StmIn.none (S : Nat → Prop) (w : World) : StmIn S w (.slice none 0 0) [] [] where
  map := rfl
  row := World.ownsRow_nil _ _ _ _
  own := fun q e => by cases e
  at_ := fun x hx => by cases hx
  apart := fun i j x y a n c a' n' c' _ hi => by simp at hi
section
variable {W0 : Nat} {col : Nat → Nat} {w : World} {b i : Nat} {s : StW}
theorem ProgIn.send (h : ProgIn col w b s) (hc : ColOk W0 col w) (ho : Okw s i) (p : ByteArray) (lk : Bool) (a : Option Addr) (n c : Nat) (l : List UInt8) (hr : RB 0 w (.slice a n c) l) (hl : l.length ≤ 60) :
    Calls Try.prog 13 #[.pointer (some ⟨b, 0, none⟩), .agg #[.string p, .bool lk, .slice a n c]] w (PStep W0 col w b { s with sent := s.sent ++ [(p, lk, l)] } (.tuple #[])) := by
  obtain ⟨mp, vs, vt, B, K, T, Ms, Mt, h1, hK, h2, h3, h4, h5, h6⟩ := h
  obtain ⟨m, uv, h8⟩ := h1.w8
  have := ho.sent
  have := ho.few
  refine (send_x h8 h5 (by rw [h2]; decide) (by omega) p lk a n c l hr (by omega)).mono fun e w' ⟨he, v', M', h8', hs, hk⟩ => ?_
  have hh : ∀ k, k < w.heap.size → k ≠ b → col k ≠ 2 → w'.heap[k]? = w.heap[k]? := fun k q1 q2 q3 => hk.keep k ⟨q2, q3⟩ q1
  have hne : ∀ k c, c ≠ 5 → col k = c → k ≠ b := fun k c hc5 e e2 => hc5 (by rw [← e, e2, h2])
  have hkk : ∀ k c, c ≠ 5 → c ≠ 2 → c ≠ 0 → col k = c → w'.heap[k]? = w.heap[k]? := fun k c q1 q2 q3 e => hh k (col_new hc q3 k e) (hne k c q1 e) (by rw [e]; exact q2)
  have hcol := fun c (hn : c ≠ 0) k (h : col k = c) => set_paint2 (w' := w') (c := 2) hc hn k h
  exact ⟨he, _, ok_paint hc (.inr (.inl rfl)) h2 hk.size hh, fr_paint (.inr (.inl rfl)) h2 ⟨hk.os, hk.tape, hk.output⟩ hk.size hh, mp, v', vt, B, K, T, M', Mt, h1.step hc h8 h8' hk.size (by decide) hh, hK, hcol 5 (by decide) b h2, h3.same (fun k hk9 => hcol 1 (by decide) k hk9) (fun k hk9 => hkk k 1 (by decide) (by decide) (by decide) hk9), h4, hs.same (fun k hk9 => set_paint hc (by decide) k hk9) (fun _ _ => rfl), h6.same (fun k hk9 => hcol 3 (by decide) k hk9) (fun k hk9 => hkk k 3 (by decide) (by decide) (by decide) hk9)⟩
/-- What a call on the streams leaves. -/
theorem ProgIn.strms {w' : World} {mp : Option Nat} {vs vt vt' c5 c6 c7 : Value} {B K : Nat} {T : ByteArray → Option FileT} {Ms : List (DgT × Value)} {Mt' : List (StmT × Value)} {L' : List StmT} (hc : ColOk W0 col w)
    (h1 : DKX (fun k => k < w.heap.size ∧ col k ≠ 5) w b B K (.int .i64 s.now, .int .i64 s.cnt, .map mp, vs, vt) s.syn (loadL s.raws) (ulF (s.raws.take s.syn) (s.raws.drop s.syn))) (hK : K ≤ s.wr) (h2 : col b = 5) (h3 : FilesIn (fun k => col k = 1) w b mp T) (h4 : ∀ p, (T p).getD ([], 0, false) = (lookF p s.files).2) (h5 : DgsIn (fun k => col k = 2) w vs s.sent Ms)
    (h8 : W8 w b (.int .i64 s.now) s.cnt mp vs vt c5 c6 c7) (h8' : W8 w' b (.int .i64 s.now) s.cnt mp vs vt' c5 c6 c7) {Q : Nat → Prop} (hQ : ∀ k, Q k → col k = 3 ∨ (w.heap.size ≤ k ∧ k < w'.heap.size)) (hs : StmIn Q w' vt' L' Mt') (hk : KX (fun k => k ≠ b ∧ ¬ col k = 3) w w') {v : Value} :
    PStep W0 col w b { s with strm := L' } v (.returned v) w' := by
  have hh : ∀ k, k < w.heap.size → k ≠ b → col k ≠ 3 → w'.heap[k]? = w.heap[k]? := fun k q1 q2 q3 => hk.keep k ⟨q2, q3⟩ q1
  have hne : ∀ k c, c ≠ 5 → col k = c → k ≠ b := fun k c hc5 e e2 => hc5 (by rw [← e, e2, h2])
  have hkk : ∀ k c, c ≠ 5 → c ≠ 3 → c ≠ 0 → col k = c → w'.heap[k]? = w.heap[k]? := fun k c q1 q2 q3 e => hh k (col_new hc q3 k e) (hne k c q1 e) (by rw [e]; exact q2)
  have hcol := fun c (hn : c ≠ 0) k (h : col k = c) => set_paint2 (w' := w') (c := 3) hc hn k h
  exact ⟨rfl, _, ok_paint hc (.inr (.inr (.inl rfl))) h2 hk.size hh, fr_paint (.inr (.inr (.inl rfl))) h2 ⟨hk.os, hk.tape, hk.output⟩ hk.size hh, mp, vs, vt', B, K, T, Ms, Mt', h1.step hc h8 h8' hk.size (by decide) hh, hK, hcol 5 (by decide) b h2, h3.same (fun k hk9 => hcol 1 (by decide) k hk9) (fun k hk9 => hkk k 1 (by decide) (by decide) (by decide) hk9), h4, h5.same (fun k hk9 => hcol 2 (by decide) k hk9) (fun k hk9 => hkk k 2 (by decide) (by decide) (by decide) hk9), hs.same (fun k hk9 => set_paint hc (by decide) k (hQ k hk9)) (fun _ _ => rfl)⟩
theorem ProgIn.opened (h : ProgIn col w b s) (hc : ColOk W0 col w) (ho : Okw s i) (p : ByteArray) :
    Calls Try.prog 14 #[.pointer (some ⟨b, 0, none⟩), .string p] w (PStep W0 col w b { s with strm := s.strm ++ [(p, [], false)] } (.int .i64 (s.strm.length : Int))) := by
  obtain ⟨mp, vs, vt, B, K, T, Ms, Mt, h1, hK, h2, h3, h4, h5, h6⟩ := h
  obtain ⟨m, uv, h8⟩ := h1.w8
  have := ho.strm
  have := ho.few
  refine (open_x h8 h6 (by rw [h2]; decide) (by omega) p).mono fun e w' ⟨he, v', M', h8', hs, hk⟩ => ?_
  rw [he]
  exact ProgIn.strms hc h1 hK h2 h3 h4 h5 h8 h8' (fun k hk => hk) hs (hk.sub (fun k _ hk => hk))
theorem ProgIn.wrote (h : ProgIn col w b s) (hc : ColOk W0 col w) (ho : Okw s i) (k : Int) (hk : -9223372036854775808 ≤ k ∧ k ≤ 9223372036854775807) (a : Option Addr) (n c : Nat) (l : List UInt8) (hr : RB 0 w (.slice a n c) l) (hl : l.length ≤ 60) :
    Calls Try.prog 16 #[.pointer (some ⟨b, 0, none⟩), .int .i64 k, .slice a n c] w (PStep W0 col w b { s with strm := writeL s.strm k l } (.tuple #[])) := by
  obtain ⟨mp, vs, vt, B, K, T, Ms, Mt, h1, hK, h2, h3, h4, h5, h6⟩ := h
  obtain ⟨m, uv, h8⟩ := h1.w8
  have := ho.strm
  have := ho.few
  refine (wwrite_x h8 h6 (by rw [h2]; decide) (by omega) k hk a n c l (RB.src hr) (fun x hx => by have := ho.bT x hx; omega)).mono fun e w' ⟨he, M', h8', hs, hkx⟩ => ?_
  rw [he]
  exact ProgIn.strms hc h1 hK h2 h3 h4 h5 h8 h8' (fun k hk => hk) hs (hkx.sub (fun k _ hk => hk.2))
theorem ProgIn.closed (h : ProgIn col w b s) (hc : ColOk W0 col w) (ho : Okw s i) (k : Int) (hk : -9223372036854775808 ≤ k ∧ k ≤ 9223372036854775807) :
    Calls Try.prog 18 #[.pointer (some ⟨b, 0, none⟩), .int .i64 k] w (PStep W0 col w b { s with strm := closeL s.strm k } (.tuple #[])) := by
  obtain ⟨mp, vs, vt, B, K, T, Ms, Mt, h1, hK, h2, h3, h4, h5, h6⟩ := h
  obtain ⟨m, uv, h8⟩ := h1.w8
  have := ho.strm
  have := ho.few
  refine (close_x h8 h6 (by rw [h2]; decide) (by omega) k hk).mono fun e w' ⟨he, M', h8', hs, hkx⟩ => ?_
  rw [he]
  exact ProgIn.strms hc h1 hK h2 h3 h4 h5 h8 h8' (fun k hk => .inl hk) hs (hkx.sub (fun k _ hk => hk.2))
/-- What a call on the disk leaves. -/
theorem ProgIn.disk {w' : World} {mp : Option Nat} {vs vt : Value} {B K' syn' : Nat} {T : ByteArray → Option FileT} {Ms : List (DgT × Value)} {Mt : List (StmT × Value)} {raws' : List RawD} {wr' : Nat} (hc : ColOk W0 col w)
    (h1 : DKX (fun k => k < w.heap.size ∧ col k ≠ 5) w' b B K' (.int .i64 s.now, .int .i64 s.cnt, .map mp, vs, vt) syn' (loadL raws') (ulF (raws'.take syn') (raws'.drop syn'))) (hK : K' ≤ wr') (h2 : col b = 5) (h3 : FilesIn (fun k => col k = 1) w b mp T) (h4 : ∀ p, (T p).getD ([], 0, false) = (lookF p s.files).2) (h5 : DgsIn (fun k => col k = 2) w vs s.sent Ms) (h6 : StmIn (fun k => col k = 3) w vt s.strm Mt)
    (hk : KX (fun k => k < w.heap.size ∧ col k ≠ 5) w w') : PStep W0 col w b { s with raws := raws', syn := syn', wr := wr' } (.tuple #[]) (.returned (.tuple #[])) w' := by
  have hh : ∀ k, k < w.heap.size → k ≠ b → col k ≠ 5 → w'.heap[k]? = w.heap[k]? := fun k q1 _ q3 => hk.keep k ⟨q1, q3⟩ q1
  have hkk : ∀ k c, c ≠ 5 → c ≠ 0 → col k = c → w'.heap[k]? = w.heap[k]? := fun k c q1 q3 e => hk.keep k ⟨col_new hc q3 k e, by rw [e]; exact q1⟩ (col_new hc q3 k e)
  have hcol := fun c (hn : c ≠ 0) k (h : col k = c) => set_paint2 (w' := w') (c := 5) hc hn k h
  refine ⟨rfl, _, ok_paint hc (.inr (.inr (.inr rfl))) h2 hk.size hh, fr_paint (.inr (.inr (.inr rfl))) h2 ⟨hk.os, hk.tape, hk.output⟩ hk.size hh, mp, vs, vt, B, K', T, Ms, Mt, h1.grow (fun k _ hk2 hY => ?_), hK, hcol 5 (by decide) b h2, h3.same (fun k hk9 => hcol 1 (by decide) k hk9) (fun k hk9 => hkk k 1 (by decide) (by decide) hk9), h4, h5.same (fun k hk9 => hcol 2 (by decide) k hk9) (fun k hk9 => hkk k 2 (by decide) (by decide) hk9), h6.same (fun k hk9 => hcol 3 (by decide) k hk9) (fun k hk9 => hkk k 3 (by decide) (by decide) hk9)⟩
  by_cases hlt : k < w.heap.size
  · exact ⟨hlt, fun e => hY.2 ((paint_old hlt).trans e)⟩
  · exact absurd (paint_new ⟨by omega, hk2⟩) hY.2
theorem load_le {L : List RawD} (h : ∀ x ∈ L, x.2.1.length ≤ 60) (hl : L.length ≤ 40) (t : ByteArray) : (loadL L t).length ≤ 2400 := by
  have := loadL_len t (m := 60) h
  have h2 : 60 * L.length ≤ 60 * 40 := Nat.mul_le_mul_left _ hl
  omega
theorem ProgIn.appended (h : ProgIn col w b s) (hc : ColOk W0 col w) (ho : Okw s i) (p : ByteArray) (hp : p.size ≤ maxLen) (a : Option Addr) (n c : Nat) (l : List UInt8) (hr : RB 0 w (.slice a n c) l) (hl : l.length ≤ 60) :
    Calls Try.prog 20 #[.pointer (some ⟨b, 0, none⟩), .string p, .slice a n c] w (PStep W0 col w b { s with raws := s.raws ++ [(p, l, false)], syn := s.syn, wr := s.wr + 1 } (.tuple #[])) := by
  obtain ⟨mp, vs, vt, B, K, T, Ms, Mt, h1, hK, h2, h3, h4, h5, h6⟩ := h
  have := ho.raws
  have := ho.few
  have := ho.wr
  have hll := load_le ho.bR (by omega) p
  refine (append_x h1 (fun k hk => hk.1) (by omega) (by rw [ul_len]; omega) p hp a n c l (RB.src hr) (by omega)).mono fun e w' ⟨he, hd, _, hk⟩ => ?_
  rw [he]
  rw [← loadL_app, ← ul_app ho.syn (p, l, false)] at hd
  exact ProgIn.disk hc hd (by omega) h2 h3 h4 h5 h6 hk
theorem ProgIn.replaced (h : ProgIn col w b s) (hc : ColOk W0 col w) (ho : Okw s i) (p : ByteArray) (hp : p.size ≤ maxLen) (a : Option Addr) (n c : Nat) (l : List UInt8) (hr : RB 0 w (.slice a n c) l) (hl : l.length ≤ 60) :
    Calls Try.prog 21 #[.pointer (some ⟨b, 0, none⟩), .string p, .slice a n c] w (PStep W0 col w b { s with raws := s.raws ++ [(p, l, true)], syn := s.syn, wr := s.wr + 1 } (.tuple #[])) := by
  obtain ⟨mp, vs, vt, B, K, T, Ms, Mt, h1, hK, h2, h3, h4, h5, h6⟩ := h
  have := ho.raws
  have := ho.few
  have := ho.wr
  refine (wreplace_x h1 (fun k hk => hk.1) (by omega) (by rw [ul_len]; omega) p hp a n c l hr (by omega)).mono fun e w' ⟨he, hd, _, hk⟩ => ?_
  rw [he]
  rw [← loadL_rep, ← ul_app ho.syn (p, l, true)] at hd
  exact ProgIn.disk hc hd (by omega) h2 h3 h4 h5 h6 hk
theorem ProgIn.synced (h : ProgIn col w b s) (hc : ColOk W0 col w) (ho : Okw s i) :
    Calls Try.prog 22 #[.pointer (some ⟨b, 0, none⟩)] w (PStep W0 col w b { s with raws := s.raws, syn := s.raws.length, wr := s.wr } (.tuple #[])) := by
  obtain ⟨mp, vs, vt, B, K, T, Ms, Mt, h1, hK, h2, h3, h4, h5, h6⟩ := h
  have := ho.raws
  have := ho.few
  have h7 := ho.syn
  refine (wsync_x h1 (by omega) (by rw [ul_len]; omega)).mono fun e w' ⟨he, hd, _, hk⟩ => ?_
  rw [he]
  rw [ul_len, show s.syn + (s.raws.length - s.syn) = s.raws.length from by omega] at hd
  refine ProgIn.disk (B := B) hc ?_ hK h2 h3 h4 h5 h6 hk
  rw [List.drop_length]
  exact hd
/-- Behind a cut: the new world, the elder one as it was. -/
def CutP (W0 : Nat) (col : Nat → Nat) (w : World) (b : Nat) (s : StW) (N : Nat) (e : Ending) (w' : World) : Prop :=
  ∃ (bn : Nat) (col' : Nat → Nat), e = .returned (.pointer (some ⟨bn, 0, none⟩)) ∧ ColOk W0 col' w' ∧ Fr (fun _ => False) col col' w w' ∧ ProgIn col' w' b s ∧ ProgIn col' w' bn { s with sent := [], strm := [], raws := s.raws.take N, syn := N }
theorem ProgIn.cut (h : ProgIn col w b s) (hc : ColOk W0 col w) (ho : Okw s i) (n : Int) (hn : -9223372036854775808 ≤ n ∧ n ≤ 9223372036854775807) (N : Nat)
    (hN : (n < s.syn ∧ N = s.syn) ∨ (¬ n < s.syn ∧ (s.raws.length : Int) < n ∧ N = s.raws.length) ∨ (¬ n < s.syn ∧ ¬ (s.raws.length : Int) < n ∧ n = N)) :
    Calls Try.prog 23 #[.pointer (some ⟨b, 0, none⟩), .int .i64 n] w (CutP W0 col w b s N) := by
  have h0 := h
  obtain ⟨mp, vs, vt, B, K, T, Ms, Mt, h1, hK, h2, h3, h4, h5, h6⟩ := h
  have := ho.raws
  have := ho.few
  have := ho.wr
  have h7 := ho.syn
  have hNs : s.syn ≤ N ∧ N ≤ s.raws.length := by rcases hN with ⟨_, rfl⟩ | ⟨_, _, rfl⟩ | ⟨q1, q2, q3⟩ <;> omega
  have hm0 : ∀ m, mp = some m → ∃ es cl, w.heap[m]? = some (.map es cl) := fun m e => by
    subst e
    obtain ⟨F, q, _⟩ := h3
    obtain ⟨es, cl, e, _⟩ := q.2.2
    exact ⟨es, cl, e⟩
  refine (wcut_x h1.dks hm0 n hn (by omega) (by rw [ul_len]; omega) (by omega) (fun k t _ => by rw [ul_cut]; have := load_le (L := s.raws.take (s.syn + k)) (fun x hx => ho.bR x (List.mem_of_mem_take hx)) (by rw [List.length_take]; omega) t; omega) N (by rw [ul_len]; rcases hN with ⟨q1, q2⟩ | ⟨q1, q2, q3⟩ | ⟨q1, q2, q3⟩ <;> omega)).mono ?_
  rintro e w' ⟨bn, mp', he, hbn, hmn, hms, hY, hbl⟩
  have hF : (fun t => (fstB ((ulF (s.raws.take s.syn) (s.raws.drop s.syn)).drop (N - s.syn)) t).getD (loadL s.raws t)) = loadL (s.raws.take N) := funext fun t => by rw [ul_cut, show s.syn + (N - s.syn) = N from by omega]
  rw [hF] at hY
  obtain ⟨col', hcol'⟩ : ∃ col' : Nat → Nat, col' = fun k => if w.heap.size ≤ k ∧ k < w'.heap.size then (if mp' = some k then 1 else 5) else col k := ⟨_, rfl⟩
  have hold : ∀ k, k < w.heap.size → col' k = col k := fun k hk => by rw [hcol']; exact if_neg (by omega)
  have hnew : ∀ k, w.heap.size ≤ k ∧ k < w'.heap.size → col' k = if mp' = some k then 1 else 5 := fun k hk => by rw [hcol']; exact if_pos hk
  have hfr : Fr (fun _ => False) col col' w w' := ⟨hbl.os, hbl.tape, hbl.output, hbl.size, hold, fun k hk _ => hbl.block k hk, fun k hk _ _ => hbl.block k hk⟩
  have hok : ColOk W0 col' w' := ⟨Nat.le_trans hc.base hbl.size, fun k hk => by
    by_cases hlt : k < w.heap.size
    · rw [hold k hlt] at hk
      exact ⟨(hc.lo k hk).1, Nat.lt_of_lt_of_le hlt hbl.size⟩
    · by_cases hk2 : k < w'.heap.size
      · exact ⟨Nat.le_trans hc.base (by omega), hk2⟩
      · rw [hcol'] at hk
        simp only [if_neg (show ¬ (w.heap.size ≤ k ∧ k < w'.heap.size) from by omega)] at hk
        exact absurd (hc.lo k hk).2 hlt, fun k hk => by
    by_cases hlt : k < w.heap.size
    · rw [hold k hlt] at hk
      obtain ⟨cs, fr, e⟩ := hc.u8 k hk
      exact ⟨cs, fr, (hbl.block k hlt).trans e⟩
    · by_cases hk2 : k < w'.heap.size
      · rw [hnew k ⟨by omega, hk2⟩] at hk
        split at hk <;> cases hk
      · rw [hcol'] at hk
        simp only [if_neg (show ¬ (w.heap.size ≤ k ∧ k < w'.heap.size) from by omega)] at hk
        exact absurd (hc.lo k (by rw [hk]; decide)).2 hlt⟩
  have hd := hY (fun k => k < w'.heap.size ∧ col' k ≠ 5) (fun k ⟨hk, hk5⟩ => by
    by_cases hlt : k < w.heap.size
    · exact .inl hlt
    · rw [hnew k ⟨by omega, hk⟩] at hk5
      by_cases hm : mp' = some k
      · exact .inr hm
      · rw [if_neg hm] at hk5; exact absurd rfl hk5)
  have hbl2 : bn < w'.heap.size := by
    obtain ⟨m, uv, h8⟩ := hd.w8
    exact h8.lt
  have hb5 : col' bn = 5 := by
    rw [hnew bn ⟨hbn, hbl2⟩]
    cases hmp : mp with
    | none =>
      rw [hmn.2 hmp]
      rfl
    | some m =>
      obtain ⟨q1, q2, _⟩ := hms m hmp
      rw [q1, if_neg (fun e => q2 (by injection e with e; exact e.symm))]
  refine ⟨bn, col', he, hok, hfr, h0.keep hc hfr ⟨fun h => h, fun h => h, fun h => h, fun h => h⟩, mp', .slice none 0 0, .slice none 0 0, w.heap.size, K, T, [], [], ?_, hK, hb5, ?_, h4, DgsIn.none _ _, StmIn.none _ _⟩
  · have e : ulF ((s.raws.take N).take N) ((s.raws.take N).drop N) = [] := by
      rw [List.drop_of_length_le (by rw [List.length_take]; omega)]
      rfl
    show DKX _ w' bn _ K _ N (loadL (s.raws.take N)) (ulF ((s.raws.take N).take N) ((s.raws.take N).drop N))
    rw [e]
    exact hd
  · obtain ⟨F, q1, q2⟩ := h3
    refine ⟨F, ?_, fun k => ?_⟩
    · cases hmp : mp with
      | none =>
        rw [hmp] at q1
        rw [hmn.2 hmp]
        exact q1
      | some m =>
        rw [hmp] at q1
        obtain ⟨r1, r2, r3⟩ := hms m hmp
        rw [r1]
        have hwl : w.heap.size < w'.heap.size := by
          rcases Nat.lt_or_ge w.heap.size w'.heap.size with q | q
          · exact q
          · rw [Array.getElem?_eq_none q] at r3
            obtain ⟨es, cl, e⟩ := hm0 m hmp
            rw [e] at r3; cases r3
        refine ⟨fun e => r2 e.symm, ?_, ?_⟩
        · show col' w.heap.size = 1
          rw [hnew _ ⟨Nat.le_refl _, hwl⟩, r1, if_pos rfl]
        · obtain ⟨es, cl, e1, e2⟩ := q1.2.2
          exact ⟨es, cl, r3.trans e1, e2⟩
    · have := q2 k
      cases hT : T k with
      | none => rw [hT] at this; exact this
      | some x =>
        obtain ⟨l, st, th⟩ := x
        rw [hT] at this
        obtain ⟨a, n', c', e, hr, hs⟩ := this
        exact ⟨a, n', c', e, RB.below hr hbl, fun q e => (hold _ (col_new hc (by decide) _ (hs q e))).trans (hs q e)⟩
end
end Go.Proofs.Ytaaiicfclaeapaa

namespace Go.Proofs.Ytaaiicfclaeapaa
open Go.RowKit Go.Mp Go.Rb Go.Lib
def DStep (W0 d : Nat) (col : Nat → Nat) (w : World) (r : Nat) (s' : StW) (w' : World) : Prop :=
  ∃ col', ColOk W0 col' w' ∧ Fr (fun c => c = d) col col' w w' ∧ DocIn d col' w' r s'
section
variable {W0 d : Nat} {col : Nat → Nat} {w : World} {b r i : Nat} {s : StW}
theorem DocIn.step {w' : World} {s' : StW} {Ty : TypeId → Prop} {vF vS vT vR : Value} (hc : ColOk W0 col w) (hd : 8 ≤ d) (hch : Chg (Rd d col w) Ty w w') (h8 : ¬ Ty 5) (hW : W7 w' r s'.now s'.cnt vF vS vT vR (s'.syn : Int)) (hr : col r = d)
    (hF : FRow (nw (Rd d col w) w w') w' vF s'.files) (hS : SRow (nw (Rd d col w) w w') w' vS s'.sent) (hT : TRow (nw (Rd d col w) w w') w' vT s'.strm) (hR : RRow (nw (Rd d col w) w w') w' vR s'.raws) : DStep W0 d col w r s' w' := by
  obtain ⟨h1, h2, h3⟩ := hch.fr hc hd h8
  exact ⟨_, h2, h1, vF, vS, vT, vR, hW, (h1.old r (hc.lo r (by omega)).2).trans hr, hF.same (fun _ _ => rfl) h3, hS.same (fun _ _ => rfl) h3, hT.same (fun _ _ => rfl) h3, hR.same (fun _ _ => rfl) h3⟩
theorem DocIn.advance (h : DocIn d col w r s) (hd : 8 ≤ d) (hc : ColOk W0 col w) (ho : Okw s i) (n : Int) (hn : -9223372036854775808 ≤ n ∧ n ≤ 9223372036854775807) :
    Calls Try.prog 8 #[.pointer (some ⟨r, 0, none⟩), .int .i64 n] w fun e w' => e = .returned (.tuple #[]) ∧ DStep W0 d col w r { s with now := advT s.now n } w' := by
  obtain ⟨vF, vS, vT, vR, h1, h2, h3, h4, h5, h6⟩ := h
  refine (advance_d h1 (R := Rd d col w) (.inl h2) ho.now.1 ho.now.2 n hn).mono fun e w' ⟨he, hw, hch⟩ => ⟨he, ?_⟩
  exact DocIn.step hc hd hch (by unfold WTy; decide) hw h2 (h3.chg hch (by unfold WTy; decide) (by unfold WTy; decide) (fun k hk => .inl hk)) (h4.chg hch (by unfold WTy; decide) (by unfold WTy; decide) (fun k hk => .inl hk)) (h5.chg hch (by unfold WTy; decide) (by unfold WTy; decide) (fun k hk => .inl hk)) (h6.chg hch (by unfold WTy; decide) (by unfold WTy; decide) (fun k hk => .inl hk))
theorem DocIn.put (h : DocIn d col w r s) (hd : 8 ≤ d) (hc : ColOk W0 col w) (ho : Okw s i) (p : ByteArray) (a : Option Addr) (n c : Nat) (l : List UInt8) (hr : RB 0 w (.slice a n c) l) (hl : l.length ≤ 60) :
    Calls Try.prog 10 #[.pointer (some ⟨r, 0, none⟩), .string p, .slice a n c] w fun e w' => e = .returned (.tuple #[]) ∧ DStep W0 d col w r { s with cnt := s.cnt + 1, files := fput p (p, l, s.cnt + 1, true) s.files } w' := by
  obtain ⟨vF, vS, vT, vR, h1, h2, h3, h4, h5, h6⟩ := h
  have := ho.files
  have := ho.few
  have := ho.cnt
  refine (put_d h1 h3 (.inl h2) (by omega) ho.cnt.1 (by omega) p a n c l hr (by omega)).mono fun e w' ⟨he, v', hw, hf, hch⟩ => ⟨he, ?_⟩
  exact DocIn.step hc hd hch (by unfold FTy; decide) hw h2 hf (h4.chg hch (by unfold FTy; decide) (by unfold FTy; decide) (fun k hk => .inl hk)) (h5.chg hch (by unfold FTy; decide) (by unfold FTy; decide) (fun k hk => .inl hk)) (h6.chg hch (by unfold FTy; decide) (by unfold FTy; decide) (fun k hk => .inl hk))
theorem DocIn.remove (h : DocIn d col w r s) (hd : 8 ≤ d) (hc : ColOk W0 col w) (ho : Okw s i) (p : ByteArray) :
    Calls Try.prog 12 #[.pointer (some ⟨r, 0, none⟩), .string p] w fun e w' => e = .returned (.tuple #[]) ∧ DStep W0 d col w r { s with cnt := s.cnt + 1, files := fput p (p, [], s.cnt + 1, false) s.files } w' := by
  obtain ⟨vF, vS, vT, vR, h1, h2, h3, h4, h5, h6⟩ := h
  have := ho.files
  have := ho.few
  have := ho.cnt
  refine (remove_d h1 h3 (.inl h2) (by omega) ho.cnt.1 (by omega) p).mono fun e w' ⟨he, v', hw, hf, hch⟩ => ⟨he, ?_⟩
  exact DocIn.step hc hd hch (by unfold FTy; decide) hw h2 hf (h4.chg hch (by unfold FTy; decide) (by unfold FTy; decide) (fun k hk => .inl hk)) (h5.chg hch (by unfold FTy; decide) (by unfold FTy; decide) (fun k hk => .inl hk)) (h6.chg hch (by unfold FTy; decide) (by unfold FTy; decide) (fun k hk => .inl hk))
theorem DocIn.read (h : DocIn d col w r s) (hd : 8 ≤ d) (hc : ColOk W0 col w) (ho : Okw s i) (p : ByteArray) (l : List UInt8) (st : Int) (th : Bool) (hx : (lookF p s.files).2 = (l, st, th)) :
    Calls Try.prog 40 #[.pointer (some ⟨r, 0, none⟩), .string p] w fun e w' => ∃ (a : Option Addr) (n ca : Nat), e = .returned (.tuple #[.slice a n ca, .int .i64 st, .bool th]) ∧ RB 0 w' (.slice a n ca) l ∧ DStep W0 d col w r { s with files := fadd p s.files } w' := by
  obtain ⟨vF, vS, vT, vR, h1, h2, h3, h4, h5, h6⟩ := h
  have := ho.files
  have := ho.few
  refine (read_d h1 h3 (.inl h2) (by omega) p l st th hx).mono fun e w' ⟨a, n, ca, he, hr, v', hw, hf, hch⟩ => ⟨a, n, ca, he, hr, ?_⟩
  exact DocIn.step hc hd hch (by unfold FTy; decide) hw h2 hf (h4.chg hch (by unfold FTy; decide) (by unfold FTy; decide) (fun k hk => .inl hk)) (h5.chg hch (by unfold FTy; decide) (by unfold FTy; decide) (fun k hk => .inl hk)) (h6.chg hch (by unfold FTy; decide) (by unfold FTy; decide) (fun k hk => .inl hk))
theorem DocIn.opened (h : DocIn d col w r s) (hd : 8 ≤ d) (hc : ColOk W0 col w) (ho : Okw s i) (p : ByteArray) :
    Calls Try.prog 15 #[.pointer (some ⟨r, 0, none⟩), .string p] w fun e w' => e = .returned (.int .i64 (s.strm.length : Int)) ∧ DStep W0 d col w r { s with strm := s.strm ++ [(p, [], false)] } w' := by
  obtain ⟨vF, vS, vT, vR, h1, h2, h3, h4, h5, h6⟩ := h
  have := ho.strm
  have := ho.few
  refine (open_d h1 h5 (.inl h2) (by omega) p).mono fun e w' ⟨he, v', hw, hf, hch⟩ => ⟨he, ?_⟩
  exact DocIn.step hc hd hch (by unfold TTy; decide) hw h2 (h3.chg hch (by unfold TTy; decide) (by unfold TTy; decide) (fun k hk => .inl hk)) (h4.chg hch (by unfold TTy; decide) (by unfold TTy; decide) (fun k hk => .inl hk)) hf (h6.chg hch (by unfold TTy; decide) (by unfold TTy; decide) (fun k hk => .inl hk))
theorem DocIn.wrote (h : DocIn d col w r s) (hd : 8 ≤ d) (hc : ColOk W0 col w) (ho : Okw s i) (k : Int) (hk : -9223372036854775808 ≤ k ∧ k ≤ 9223372036854775807) (a : Option Addr) (n c : Nat) (l : List UInt8) (hr : RB 0 w (.slice a n c) l) (hl : l.length ≤ 60) :
    Calls Try.prog 17 #[.pointer (some ⟨r, 0, none⟩), .int .i64 k, .slice a n c] w fun e w' => e = .returned (.tuple #[]) ∧ DStep W0 d col w r { s with strm := writeL s.strm k l } w' := by
  obtain ⟨vF, vS, vT, vR, h1, h2, h3, h4, h5, h6⟩ := h
  have := ho.strm
  have := ho.few
  refine (write_d h1 h5 (.inl h2) (by omega) k hk a n c l hr (fun x hx => by have := ho.bT x hx; omega)).mono fun e w' ⟨he, hw, hf, hch⟩ => ⟨he, ?_⟩
  exact DocIn.step hc hd hch (by unfold TTy; decide) hw h2 (h3.chg hch (by unfold TTy; decide) (by unfold TTy; decide) (fun k hk => .inl hk)) (h4.chg hch (by unfold TTy; decide) (by unfold TTy; decide) (fun k hk => .inl hk)) hf (h6.chg hch (by unfold TTy; decide) (by unfold TTy; decide) (fun k hk => .inl hk))
theorem DocIn.closed (h : DocIn d col w r s) (hd : 8 ≤ d) (hc : ColOk W0 col w) (ho : Okw s i) (k : Int) (hk : -9223372036854775808 ≤ k ∧ k ≤ 9223372036854775807) :
    Calls Try.prog 19 #[.pointer (some ⟨r, 0, none⟩), .int .i64 k] w fun e w' => e = .returned (.tuple #[]) ∧ DStep W0 d col w r { s with strm := closeL s.strm k } w' := by
  obtain ⟨vF, vS, vT, vR, h1, h2, h3, h4, h5, h6⟩ := h
  have := ho.strm
  have := ho.few
  refine (close_d h1 h5 (.inl h2) (by omega) k hk).mono fun e w' ⟨he, hw, hf, hch⟩ => ⟨he, ?_⟩
  exact DocIn.step hc hd hch (by unfold TTy; decide) hw h2 (h3.chg hch (by unfold TTy; decide) (by unfold TTy; decide) (fun k hk => .inl hk)) (h4.chg hch (by unfold TTy; decide) (by unfold TTy; decide) (fun k hk => .inl hk)) hf (h6.chg hch (by unfold TTy; decide) (by unfold TTy; decide) (fun k hk => .inl hk))
theorem DocIn.load (h : DocIn d col w r s) (ho : Okw s i) (p : ByteArray) :
    Calls Try.prog 42 #[.pointer (some ⟨r, 0, none⟩), .string p, .int .i64 (s.raws.length : Int)] w fun e w' => ∃ q c', e = .returned (.slice q (loadL s.raws p).length c') ∧ RB w.heap.size w' (.slice q (loadL s.raws p).length c') (loadL s.raws p) ∧ Below w.heap.size w w' := by
  obtain ⟨vF, vS, vT, vR, h1, h2, h3, h4, h5, h6⟩ := h
  have := ho.raws
  have := ho.few
  exact load_d h1 h6 (by omega) (fun x hx => by have := ho.bR x hx; omega) p
/-- The document's cut: the new world's rows have a colour of their own. -/
theorem DocIn.cut (h : DocIn d col w r s) (hd : 8 ≤ d) (hc : ColOk W0 col w) (ho : Okw s i) (n : Int) (hn : -9223372036854775808 ≤ n ∧ n ≤ 9223372036854775807) (N : Nat)
    (hN : (n < s.syn ∧ N = s.syn) ∨ (¬ n < s.syn ∧ (s.raws.length : Int) < n ∧ N = s.raws.length) ∨ (¬ n < s.syn ∧ ¬ (s.raws.length : Int) < n ∧ n = N)) :
    Calls Try.prog 24 #[.pointer (some ⟨r, 0, none⟩), .int .i64 n] w fun e w' => ∃ (r2 : Nat) (col' : Nat → Nat), e = .returned (.pointer (some ⟨r2, 0, none⟩)) ∧ ColOk W0 col' w' ∧ Fr (fun _ => False) col col' w w' ∧ DocIn d col' w' r s ∧ DocIn (d + 1) col' w' r2 { s with sent := [], strm := [], raws := s.raws.take N, syn := N } := by
  have h0 := h
  obtain ⟨vF, vS, vT, vR, h1, h2, h3, h4, h5, h6⟩ := h
  have := ho.files
  have := ho.raws
  have := ho.few
  refine (cut_d h1 h3 h6 (by omega) (by omega) ho.syn n hn hN).mono ?_
  rintro e w' ⟨r2, vF2, vR2, he, hr2, hw, hF, hR, hbl, oF, oR⟩
  have hfr0 : Fr (fun _ => False) col (paintD w w' (d + 1) col) w w' := ⟨hbl.os, hbl.tape, hbl.output, hbl.size, fun k hk => paintD_old hk, fun k hk _ => hbl.block k hk, fun k hk _ _ => hbl.block k hk⟩
  have hok : ColOk W0 (paintD w w' (d + 1) col) w' := hc.paintD (by omega) hbl.size (fun k hk => hbl.block k (hc.lo k (by omega)).2)
  have hrow : ∀ {α : Type} {e : TypeId} {k : Nat} {c : α → Value → List Value} {f : α → List UInt8} {v : Value} {L : List α}, e ≠ 5 → GRow (nw (Rd d col w) w w') w' e k c f v L → (∀ g, v.ownBlock = some g → w.heap.size ≤ g) → GRow (Rd (d + 1) (paintD w w' (d + 1) col) w') w' e k c f v L := fun {α e k c f v L} hne hg ho => by
    obtain ⟨M, g1, g2, g3, g4⟩ := hg
    refine ⟨M, g1, g2, fun g hg => ?_, fun x hx => ?_⟩
    · have hlt := (g2.lt g hg).2
      rcases paintD_new (d := d + 1) (col := col) ⟨ho g hg, hlt⟩ with ⟨e, _⟩ | e
      · exact .inr (.inl e)
      · exact .inl e
    · obtain ⟨a, n, ca, e2, hr, ha⟩ := g4 x hx
      refine ⟨a, n, ca, e2, hr, fun q e3 => ?_⟩
      subst e3
      obtain ⟨_, _, _, _, _, cur, fr, hcur⟩ := RB.obj hr
      have hu : isU8 w' q.block := ⟨cur, fr, hcur⟩
      rcases ha q rfl with hk | hk
      · have hlt := hk.lt hc hd
        rcases hk with e | e | ⟨e, _⟩
        · exact .inr (.inr ⟨by rw [paintD_old hlt, e]; exact hd, hu⟩)
        · exact .inr (.inl (by rw [paintD_old hlt, e]))
        · exact .inr (.inr ⟨by rw [paintD_old hlt]; exact e, hu⟩)
      · rcases paintD_new (d := d + 1) (col := col) hk with ⟨e, _⟩ | e
        · exact .inr (.inl e)
        · exact .inl e
  refine ⟨r2, _, he, hok, hfr0, h0.keep hd hc hfr0 ⟨fun h => h, fun h => h⟩, vF2, .slice none 0 0, .slice none 0 0, vR2, hw, ?_, hrow (by decide) hF oF, GRow.nil _ _ _ _ _ _, GRow.nil _ _ _ _ _ _, hrow (by decide) hR oR⟩
  rcases paintD_new (d := d + 1) (col := col) ⟨hr2, hw.lt⟩ with ⟨_, h8⟩ | e
  · obtain ⟨cs, fr, e⟩ := h8
    rw [show w'.heap[r2]? = _ from hw] at e
    cases e
  · exact e
theorem ProgIn.touch {F : List FilD} (h : ProgIn col w b s) (hF : ∀ p, (lookF p F).2 = (lookF p s.files).2) : ProgIn col w b { s with files := F } := by
  obtain ⟨mp, vs, vt, B, K, T, Ms, Mt, h1, hK, h2, h3, h4, h5, h6⟩ := h
  exact ⟨mp, vs, vt, B, K, T, Ms, Mt, h1, hK, h2, h3, fun p => (h4 p).trans (hF p).symm, h5, h6⟩
theorem ProgIn.read (h : ProgIn col w b s) (p : ByteArray) (l : List UInt8) (st : Int) (th : Bool) (hx : (lookF p s.files).2 = (l, st, th)) (hl : l.length ≤ 60) :
    Calls Try.prog 26 #[.pointer (some ⟨b, 0, none⟩), .string p] w fun e w' => ∃ p1 c', e = .returned (.tuple #[.slice p1 l.length c', .int .i64 st, .bool th]) ∧ RB w.heap.size w' (.slice p1 l.length c') l ∧ Below w.heap.size w w' := by
  obtain ⟨mp, vs, vt, B, K, T, Ms, Mt, h1, hK, h2, h3, h4, h5, h6⟩ := h
  obtain ⟨m, uv, h8⟩ := h1.w8
  exact read_x h8 h3 p l st th ((h4 p).trans hx) (by omega)
theorem ProgIn.nowIs (h : ProgIn col w b s) : Calls Try.prog 41 #[.pointer (some ⟨b, 0, none⟩)] w fun e w' => e = .returned (.int .i64 s.now) ∧ w' = w := by
  obtain ⟨mp, vs, vt, B, K, T, Ms, Mt, h1, hK, h2, h3, h4, h5, h6⟩ := h
  obtain ⟨m, uv, h8⟩ := h1.w8
  exact now_x h8
theorem ProgIn.rawIs (h : ProgIn col w b s) (ho : Okw s i) : Calls Try.prog 28 #[.pointer (some ⟨b, 0, none⟩)] w fun e w' => e = .returned (.int .i64 (s.raws.length : Int)) ∧ Below w.heap.size w w' := by
  obtain ⟨mp, vs, vt, B, K, T, Ms, Mt, h1, hK, h2, h3, h4, h5, h6⟩ := h
  have := ho.raws
  have := ho.few
  have := ho.syn
  refine (raw_any h1.dks (by omega) (by rw [ul_len]; omega)).mono ?_
  rintro e w' ⟨he, q, rfl⟩
  refine ⟨?_, bel_drewN (Below.refl _ _) q⟩
  rw [he, ul_len, show ((s.syn : Int) + ((s.raws.length - s.syn : Nat) : Int)) = (s.raws.length : Int) from by omega]
theorem ProgIn.load (h : ProgIn col w b s) (ho : Okw s i) (p : ByteArray) (hp : p.size ≤ maxLen) : Calls Try.prog 29 #[.pointer (some ⟨b, 0, none⟩), .string p] w fun e w' => ∃ q c', e = .returned (.slice q (loadL s.raws p).length c') ∧ RB w.heap.size w' (.slice q (loadL s.raws p).length c') (loadL s.raws p) ∧ Below w.heap.size w w' := by
  obtain ⟨mp, vs, vt, B, K, T, Ms, Mt, h1, hK, h2, h3, h4, h5, h6⟩ := h
  have := ho.raws
  have := ho.few
  exact load_any h1.dks p hp (by have := load_le ho.bR (by omega) p; omega)
theorem ProgIn.sentAre (h : ProgIn col w b s) (ho : Okw s i) : Calls Try.prog 27 #[.pointer (some ⟨b, 0, none⟩)] w fun e w' => ∃ gm, e = .returned (.slice (some ⟨gm, 0, none⟩) s.sent.length s.sent.length) ∧ SentAt w w' gm s.sent.length s.sent s.sent.length ∧ Below w.heap.size w w' := by
  obtain ⟨mp, vs, vt, B, K, T, Ms, Mt, h1, hK, h2, h3, h4, h5, h6⟩ := h
  obtain ⟨m, uv, h8⟩ := h1.w8
  have := ho.sent
  have := ho.few
  exact sent_x h8 h5 (by omega) (fun x hx => by have := ho.bS x hx; omega)
theorem ProgIn.streamsAre (h : ProgIn col w b s) (ho : Okw s i) : Calls Try.prog 43 #[.pointer (some ⟨b, 0, none⟩)] w fun e w' => ∃ gm, e = .returned (.slice (some ⟨gm, 0, none⟩) s.strm.length s.strm.length) ∧ StrmAt w w' gm s.strm.length s.strm s.strm.length ∧ Below w.heap.size w w' := by
  obtain ⟨mp, vs, vt, B, K, T, Ms, Mt, h1, hK, h2, h3, h4, h5, h6⟩ := h
  obtain ⟨m, uv, h8⟩ := h1.w8
  have := ho.strm
  have := ho.few
  exact streams_x h8 h6 (by omega) (fun x hx => by have := ho.bT x hx; omega)
end
end Go.Proofs.Ytaaiicfclaeapaa

