/- Contracts and plain facts that the law leans on. -/
import Derived.Test.YtogdkmkganpaaaaGreatDoorIvM
import Derived.Test.YtogdkmkganpaaaaGreatDoorSnCa
import Derived.LoopTactic
import Derived.OwnWalk
import Derived.Test.YtogdkmkganpaaaaGreatDoorProg
import Derived.WalkKit
import Derived.Below
import Derived.Lib.Hide
import Derived.Laws.IdiomStrings
import Derived.Laws.CopyOwn
import Derived.Lib.IndexMore
import Derived.Test.YtogdkmkganpaaaaGreatDoorChecked
import Derived.Laws.AppendOwnNone
import Derived.Deep.CutRange
import Derived.Deep.AppendLies
import Derived.Laws.AppendOwn
import Derived.Test.YtogdkmkganpaaaaGreatDoorShelf
import Derived.Lib.SplitLaws
import Derived.Lib.ParseIntB
import Derived.Great.BuildSlice
namespace Go.Proofs.YtogdkmkganpaaaaGreatDoor
open Go.RowKit Go.Mp Go.Rb Go.Lib Go.Wi
/-- A lookup that has ended. -/
def endC (E : EndL) (vn va : Value) : Array Value :=
  #[.pointer none, .string pathR, .int .i64 E.stamp, .slice none 0 0, .slice none 0 0, .int .i64 0, .int .i64 0, .int .i64 0, .bool false, .slice none 0 0, .slice none 0 0, .int .i64 0, .slice none 0 0, .int .i64 0, .pointer none, .slice none 0 0, .int .i64 0, .bool false, .bool true, .int .i64 E.code, vn, va, .int .i64 0, .int .i64 E.life]
structure LkEnd (c : Nat) (col : Nat → Nat) (w : World) (lb : Nat) (E : EndL) : Prop where
  blk : ∃ vn va, w.heap[lb]? = some (.cells (endC E vn va) 120 (0, 0)) ∧ CsIn (fun k => col k = 6 ∨ col k = c) w vn (E.names.map .string) ∧ CsIn (fun k => col k = 6 ∨ col k = c) w va (E.addrs.map .string)
  own : col lb = c
/-- A lookup, on its way or at its end. -/
def LkAny (c : Nat) (col : Nat → Nat) (w : World) (sb lb : Nat) : LkS → Prop
  | .on l => ∃ V, LkIn c col w sb lb l V
  | .off E => LkEnd c col w lb E
structure AllS (w0 : World) (W0 c : Nat) (col : Nat → Nat) (w : World) (wb sb lb : Nat) (m : MS) (bg : Int) (s : LkS) : Prop where
  ok : ColOk W0 col w
  base : W0 = w0.heap.size
  bel : Below W0 w0 w
  net : PW col w wb m.net
  stb : SbIn col w sb wb m.id bg
  lk : LkAny c col w sb lb s
def StepS (w0 : World) (W0 c : Nat) (col : Nat → Nat) (w : World) (wb sb lb : Nat) (r : MS × LkS) (bg : Int) (v : Value) (e : Ending) (w' : World) : Prop :=
  e = .returned v ∧ ∃ col', AllS w0 W0 c col' w' wb sb lb r.1 bg r.2 ∧ Fr (LC c) col col' w w'
section
variable {W0 c : Nat} {col col' : Nat → Nat} {w w' : World} {sb lb wb : Nat} {l l' : LkL} {V V' : LkV} {cs : Nat → Prop} {id bg : Int}
theorem StepR.s {w0 : World} {m' : MS} {l' : LkL} {v : Value} {e : Ending} (h : StepR w0 W0 c col w wb sb lb m' bg l' v e w') : StepS w0 W0 c col w wb sb lb (m', .on l') bg v e w' :=
  ⟨h.1, let ⟨col', V', a, f⟩ := h.2; ⟨col', ⟨a.ok, a.base, a.bel, a.net, a.stb, V', a.lk⟩, f⟩⟩
theorem sz_lk : (Tryz.prog.info? 120).map (·.size) = some 24 := by kernel_rfl
set_option maxHeartbeats 1000000 in
set_option maxRecDepth 100000 in
/-- The end: told from now on. -/
theorem end_any (h : LkIn c col w sb lb l V) (hc : ColOk W0 col w) (h100 : 100 ≤ c) (k : Int) (ns as_ : List ByteArray) (life : Int) (vn va : Value) (hn : CsIn (fun k => col k = 6 ∨ (col k = c ∧ k ≠ lb)) w vn (ns.map .string)) (ha : CsIn (fun k => col k = 6 ∨ (col k = c ∧ k ≠ lb)) w va (as_.map .string)) :
    Calls Tryz.prog 37 #[.pointer (some ⟨lb, 0, none⟩), .int .i64 k, .agg #[vn, va, .int .i64 0, .int .i64 life]] w fun e w' => e = .returned (.tuple #[]) ∧ LkEnd c col w' lb ⟨l.stamp, k, ns, as_, life⟩ ∧ ColOk W0 col w' ∧ Fr (fun x => x = c) col col w w' := by
  have HN := Lib.hid hn
  have HA := Lib.hid ha
  obtain ⟨an, cn, rfl, _⟩ := hn
  obtain ⟨aa, ca, rfl, _⟩ := ha
  generalize (ns.map Value.string).length = nn at *
  generalize (as_.map Value.string).length = na at *
  have hlt := h.lt
  have hb1 : Below w.heap.size w (w.alloc (.cells #[.slice an nn cn, .slice aa na ca, .int .i64 0, .int .i64 life] 72)) := (Below.refl _ w).alloc (Nat.le_refl _) _
  have hr := heap_alloc_new w (.cells #[.slice an nn cn, .slice aa na ca, .int .i64 0, .int .i64 life] 72)
  have hb := (hb1.block lb hlt).trans h.blk
  have HB := Lib.hid hb
  have HB1 := Lib.hid hb1
  have a0 := cell_of (j := 0) (v := .slice an nn cn) hr rfl
  have a1 := cell_of (j := 1) (v := .slice aa na ca) hr rfl
  have a2 := cell_of (j := 2) (v := .int .i64 0) hr rfl
  have a3 := cell_of (j := 3) (v := .int .i64 life) hr rfl
  have k1 := cell_of (j := 1) (v := .string pathR) hb rfl
  have k2 := cell_of (j := 2) (v := .int .i64 l.stamp) hb rfl
  have HL := Lib.hid h
  have HC := Lib.hid hc
  clear h hc hb hr hb1
  go_enter Tryz.func37, Tryz.ntmps37
  go_upto_region 1 with (fail)
  refine region_tail 9 (by kernel_rfl) (by kernel_rfl) ?_
  simp only [List.take_succ_cons, List.take_zero, List.drop_succ_cons, List.drop_zero]
  repeat still_step
  refine wpStill_nil ?_
  refine wpList_store_row rfl 120 _ _ rfl lb (endC ⟨l.stamp, k, ns, as_, life⟩ (.slice an nn cn) (.slice aa na ca)) rfl rfl 120 (lkC sb l V) HB.out sz_lk rfl (by simp [endC, Value.oneCell']) ?_
  go_wp2
  go_end0
  have hs := HB1.out.size
  have hne : ∀ j, j < w.heap.size → j ≠ lb → (((w.alloc (.cells #[.slice an nn cn, .slice aa na ca, .int .i64 0, .int .i64 life] 72)).drew).setRow lb (endC ⟨l.stamp, k, ns, as_, life⟩ (.slice an nn cn) (.slice aa na ca))).heap[j]? = w.heap[j]? := fun j hj hk => (setRow_other _ _ _ _ hk).trans (HB1.out.block j hj)
  have hin : ∀ j, (col j = 6 ∨ (col j = c ∧ j ≠ lb)) → (col j = 6 ∨ col j = c) ∧ (((w.alloc (.cells #[.slice an nn cn, .slice aa na ca, .int .i64 0, .int .i64 life] 72)).drew).setRow lb (endC ⟨l.stamp, k, ns, as_, life⟩ (.slice an nn cn) (.slice aa na ca))).heap[j]? = w.heap[j]? := fun j hj => by
    rcases hj with e | ⟨e, e2⟩
    · exact ⟨.inl e, hne j (col_new HC.out (by decide) j e) (fun e2 => by rw [e2, HL.out.own] at e; omega)⟩
    · exact ⟨.inr e, hne j (col_new HC.out (by omega) j e) e2⟩
  refine ⟨rfl, ⟨⟨_, _, setRow_heap _ _ _ _ _ _ HB.out, HN.out.same hin, HA.out.same hin⟩, HL.out.own⟩, ⟨?_, fun j hj => ?_, fun j hj => ?_⟩, rfl, rfl, rfl, ?_, fun _ _ => rfl, fun j hj hn => hne j hj (fun e => hn (by rw [e]; exact HL.out.own)), fun j hj h8 _ => hne j hj (fun e => by rw [e, HL.out.own] at h8; omega)⟩
  · rw [size_setRow]; exact Nat.le_trans HC.out.base hs
  · rw [size_setRow]; exact ⟨(HC.out.lo j hj).1, Nat.lt_of_lt_of_le (HC.out.lo j hj).2 hs⟩
  · obtain ⟨cs, fr, e⟩ := HC.out.u8 j hj
    exact ⟨cs, fr, (hne j (col_new HC.out (by decide) j hj) (fun e2 => by rw [e2, HL.out.own] at hj; omega)).trans e⟩
  · rw [size_setRow]; exact hs
theorem RowIn.told {S S' : Nat → Prop} {e : TypeId} {v : Value} {L : List Value} (h : RowIn S w e 1 v L.length L) (hS : ∀ k, S k → (∃ (cs : Array Value) (fr : Nat × Nat), w.heap[k]? = some (Obj.cells cs e fr)) → S' k) : CsIn S' w v L := by
  obtain ⟨⟨_, h1⟩, h2⟩ := h
  rcases h1 with ⟨e1, e2⟩ | ⟨g, cap, cur, e1, _, hg, hn, hm, hc, ht⟩
  · have : L = [] := List.length_eq_zero_iff.1 e2
    subst this
    exact ⟨none, 0, e1, Nat.le_refl _, by decide, fun i x hx => by simp at hx⟩
  · refine ⟨_, _, e1, hn, by unfold maxLen at hm; omega, fun i x hx => ⟨g, 0, rfl, hS g (h2 g (by rw [e1]; rfl)) ⟨_, _, hg⟩, ?_⟩⟩
    have hi := (List.getElem?_eq_some_iff.1 hx).1
    rw [← ht, List.getElem?_take, if_pos (by omega)] at hx
    refine cell_of hg ?_
    rw [Nat.zero_add, ← Array.getElem?_toList]
    exact hx
/-- What a lookup found. -/
def FoundR (c : Nat) (col : Nat → Nat) (w : World) (lb : Nat) (E : EndL) (e : Ending) (w' : World) : Prop :=
  ∃ vn va, e = .returned (.agg #[vn, va, .int .i64 0, .int .i64 E.life]) ∧ CsIn (fun k => col k = 6 ∨ (col k = c ∧ k ≠ lb)) w' vn (E.names.map .string) ∧ CsIn (fun k => col k = 6 ∨ (col k = c ∧ k ≠ lb)) w' va (E.addrs.map .string) ∧ Below w.heap.size w w'
theorem FoundR.below {E : EndL} {e : Ending} {w0 w' : World} (h : FoundR c col w0 lb E e w') : ∃ vn va, e = .returned (.agg #[vn, va, .int .i64 0, .int .i64 E.life]) := let ⟨vn, va, he, _⟩ := h; ⟨vn, va, he⟩
theorem AllIn.ended {w0 : World} {m : MS} (h : AllIn w0 W0 c col w wb sb lb m bg l V) (h100 : 100 ≤ c) {E : EndL} (hE : LkEnd c col w' lb E) (hc : ColOk W0 col w') (hf : Fr (fun x => x = c) col col w w') : AllS w0 W0 c col w' wb sb lb m bg (.off E) :=
  ⟨hc, h.base, Below.fr h.bel h.ok hf (by omega), h.net.keep h.ok hf ⟨by omega, by omega, by omega, by omega⟩, h.stb.keep h.ok hf (by omega), hE⟩
theorem AllIn.below {w0 : World} {m : MS} (h : AllIn w0 W0 c col w wb sb lb m bg l V) (h0 : c ≠ 0) (hb : Below w.heap.size w w') : AllIn w0 W0 c col w' wb sb lb m bg l V :=
  ⟨h.ok.below hb, h.base, Below.fr (cs := fun _ => False) h.bel h.ok (Fr.below hb) id, h.net.below h.ok hb, h.stb.keep (cs := fun _ => False) h.ok (Fr.below hb) id, h.lk.below h.ok h0 hb⟩
theorem AllIn.set {w0 : World} {m : MS} (h : AllIn w0 W0 c col w wb sb lb m bg l V) (h100 : 100 ≤ c) (j : Nat) (v : Value) (he : (lkC sb l V).setIfInBounds j v = lkC sb l' V')
    (hsrv : CsIn (fun k => col k = 6) w V'.srv (l'.srv.map .string)) (hsub : CsIn (fun k => col k = 6) w V'.sub (l'.subj.map .string)) (hkin : CsIn (fun k => col k = 6) w V'.kin (l'.kinds.map (.int .i64)))
    (htri : RowIn (fun k => col k = c) w 162 2 V'.tri l'.tries.length (l'.tries.flatMap triC)) (hstr : StIn (fun k => col k = c) w V'.str l'.strm) (hdat : RowIn (fun k => col k = c) w 9 1 V'.dat l'.data.length (l'.data.map .string)) :
    AllIn w0 W0 c col (w.setCell ⟨lb, j, none⟩ v) wb sb lb m bg l' V' ∧ Fr (LC c) col col w (w.setCell ⟨lb, j, none⟩ v) := by
  have hf := fr_set (lb := lb) h.ok (.inl (by rw [h.lk.own]; exact h100)) j v
  rw [h.lk.own] at hf
  exact ⟨⟨hf.1, h.base, Below.fr h.bel h.ok hf.2 (by omega), h.net.keep h.ok hf.2 ⟨by omega, by omega, by omega, by omega⟩, h.stb.keep h.ok hf.2 (by omega), h.lk.set h100 j v he hsrv hsub hkin htri hstr hdat⟩, hf.2.weak (fun x hx => by unfold LC; omega)⟩
theorem LkOK.of {l l' : LkL} (h : LkOK l) (e : l'.srv = l.srv ∧ l'.att = l.att ∧ l'.tmo = l.tmo ∧ l'.kinds = l.kinds ∧ l'.data = l.data ∧ l'.life = l.life) (hs : 1 ≤ l'.subj.length ∧ l'.subj.length ≤ 8) (hg : ∀ x ∈ l'.subj, x ∈ l.subj) (ht : (l'.tries.length : Int) ≤ l.att * l.srv.length) : LkOK l' := by
  obtain ⟨e1, e2, e3, e4, e5, e6⟩ := e
  exact ⟨e1 ▸ h.srv, e1 ▸ h.srvB, e2 ▸ h.att, e3 ▸ h.tmo, hs, fun x hx => h.good x (hg x hx), e4 ▸ h.kinds, by rw [e1, e2]; exact ht, e5 ▸ h.data, e5 ▸ h.dataB, e6 ▸ h.life⟩
theorem LkOK.room (h : LkOK l) : 1 ≤ l.att * l.srv.length := by
  have h1 := h.srv
  have h2 := h.att
  have h3 : l.srv.length = 1 ∨ l.srv.length = 2 ∨ l.srv.length = 3 := by omega
  rcases h3 with e | e | e <;> rw [e] <;> omega
theorem StepS.after {w0 w1 : World} {col1 : Nat → Nat} {r : MS × LkS} {v : Value} {e : Ending} (hf : Fr (LC c) col col1 w w1) (h : StepS w0 W0 c col1 w1 wb sb lb r bg v e w') : StepS w0 W0 c col w wb sb lb r bg v e w' :=
  ⟨h.1, let ⟨col', a, f⟩ := h.2; ⟨col', a, hf.trans f⟩⟩
theorem cs_nil {S : Nat → Prop} (w : World) : CsIn S w (.slice none 0 0) (([] : List ByteArray).map .string) := ⟨none, 0, rfl, Nat.le_refl _, by decide, fun i x hx => by simp at hx⟩
end
end Go.Proofs.YtogdkmkganpaaaaGreatDoor

namespace Go.Proofs.YtogdkmkganpaaaaGreatDoor
open Go.RowKit Go.Lib Go.Tx
/-- What holds at the head of a round. -/
structure PI (w : World) (l : List UInt8) (c : UInt8) (n k F : Nat) (out fr : Value) (wr : World) (T : List (List UInt8)) : Prop where
  fr : fr = .int .i64 (F : Int)
  told : StrC w.heap.size wr out T
  go : k ≤ n → F ≤ k ∧ splitL c l = T ++ splitG c ((l.take k).drop F) (l.drop k)
  done : n < k → splitL c l = T
  few : T.length ≤ k
  bel : Below w.heap.size w wr
theorem ext_drop (s : ByteArray) (F k : Nat) : Value.string (s.extract F k) = strV ((s.data.toList.take k).drop F) := by
  unfold strV
  congr 1
  apply ByteArray.ext
  apply Array.ext'
  simp [ByteArray.extract, ByteArray.copySlice, List.drop_take, List.extract]
theorem PI.skip {w wr : World} {l : List UInt8} {c b : UInt8} {n k F : Nat} {out fr : Value} {T : List (List UInt8)} (h : PI w l c n k F out fr wr T) (hl : l.length = n) (hb : l[k]? = some b) (hc : ¬ b = c) : PI w l c n (k + 1) F out fr wr T := by
  have hk := (List.getElem?_eq_some_iff.1 hb).1
  obtain ⟨h1, h2⟩ := h.go (by omega)
  exact ⟨h.fr, h.told, fun _ => ⟨by omega, by rw [h2, splitG_step hb h1 hc]⟩, fun h => by omega, by have := h.few; omega, h.bel⟩
theorem PI.push {w wr w5 : World} {s : ByteArray} {c : UInt8} {n k F : Nat} {out out' fr : Value} {T : List (List UInt8)} (h : PI w s.data.toList c n k F out fr wr T) (hl : s.data.toList.length = n) (hk : k ≤ n) (hb : k < n → s.data.toList[k]? = some c)
    (ho : w5.ownsRow w.heap.size 9 1 out' (T.length + 1) (T.map strV ++ [.string (s.extract F k)])) (hbel : Below w.heap.size w w5) : PI w s.data.toList c n (k + 1) (k + 1) out' (.int .i64 ((k + 1 : Nat) : Int)) w5 (T ++ [(s.data.toList.take k).drop F]) := by
  obtain ⟨h1, h2⟩ := h.go hk
  refine ⟨rfl, ?_, fun h3 => ⟨Nat.le_refl _, ?_⟩, fun h3 => ?_, by have := h.few; simp; omega, hbel⟩
  · unfold StrC
    rw [List.length_append, List.map_append]
    rw [ext_drop] at ho
    exact ho
  · rw [h2, splitG_cut (hb (by omega)) rfl, List.append_assoc]
    rfl
  · have : k = n := by omega
    subst this
    rw [h2, splitG_last hl]
end Go.Proofs.YtogdkmkganpaaaaGreatDoor

namespace Go.Proofs.YtogdkmkganpaaaaGreatDoor
open Go.RowKit Go.Lib Go.Tx
theorem ret_num {l : List UInt8} {m a : Int} {b : Bool} (h : numRes l m = (a, b)) : Ending.returned (.tuple #[.int .i64 a, .bool b]) = .returned (.tuple #[.int .i64 (numRes l m).1, .bool (numRes l m).2]) := by rw [h]
theorem head_eq (s : ByteArray) (h1 : 1 ≤ s.size) : s.data.toList.head? = some s[0] := by
  rw [List.head?_eq_getElem?]
  have : s.data.toList.length = s.size := rfl
  rw [List.getElem?_eq_getElem (by omega)]
  rfl
theorem u8_48 (c : UInt8) : ((c.toNat : Int) == 48) = (c == 48) := by
  by_cases h : c = 48
  · subst h; rfl
  · rw [beq_eq_false_iff_ne.2 h, beq_eq_false_iff_ne]
    intro h2
    exact h (UInt8.toNat_inj.1 (by show c.toNat = 48; omega))
theorem size_len (s : ByteArray) : s.data.toList.length = s.size := rfl
end Go.Proofs.YtogdkmkganpaaaaGreatDoor

namespace Go.Tx
def okN (l : List UInt8) : Bool := (numRes l 255).2
def byN (l : List UInt8) : UInt8 := UInt8.ofNat (numRes l 255).1.toNat
def fourP (p : List (List UInt8)) : Option (List UInt8) := if p.length = 4 ∧ p.all okN = true then some (p.map byN) else none
theorem numRes_bd (l : List UInt8) (_h : okN l = true) : 0 ≤ (numRes l 255).1 ∧ (numRes l 255).1 ≤ 255 := by
  unfold okN at _h
  unfold numRes at _h ⊢
  split
  · simp
  · split
    · simp
    · rename_i h1 h2
      simp
      omega
theorem byN_int (l : List UInt8) (h : okN l = true) : ((byN l).toNat : Int) = (numRes l 255).1 := by
  have := numRes_bd l h
  unfold byN
  simp
  omega
def u8V (l : List UInt8) : List Value := l.map fun c => .int .u8 (c.toNat : Int)
end Go.Tx
namespace Go.Proofs.YtogdkmkganpaaaaGreatDoor
open Go.RowKit Go.Lib Go.Tx
def FourR (w : World) (r : Option (List UInt8)) (e : Ending) (w' : World) : Prop := e = .returned (.tuple #[.string ⟨(r.getD []).toArray⟩, .bool r.isSome]) ∧ Below w.heap.size w w'
theorem info5 : (Tryz.prog.info? 5).map (fun i => (i.zero, i.size, i.bytes)) = some (some (.int .u8 0), 1, 1) := by kernel_rfl
theorem fourP_no {p : List (List UInt8)} {k : Nat} {l : List UInt8} (h : p[k]? = some l) (hn : okN l = false) : fourP p = none := by
  unfold fourP
  rw [if_neg]
  rintro ⟨_, h2⟩
  rw [List.all_eq_true] at h2
  have := h2 l (List.mem_of_getElem? h)
  rw [hn] at this
  cases this
theorem all_push {P : List (List UInt8)} {k : Nat} {l : List UInt8} (hl : P[k]? = some l) (h : (P.take k).all okN = true) (ho : okN l = true) : (P.take (k + 1)).all okN = true := by
  have hk := (List.getElem?_eq_some_iff.1 hl).1
  have e : P.take (k + 1) = P.take k ++ [l] := by
    rw [List.take_succ_eq_append_getElem hk]
    rw [List.getElem?_eq_getElem hk] at hl
    cases hl
    rfl
  rw [e, List.all_append, h]
  simp [ho]
end Go.Proofs.YtogdkmkganpaaaaGreatDoor

namespace Go.Tx
def hexA (l : List UInt8) : Int := l.foldl (fun n c => 16 * n + hexV c) 0
def hexOk (l : List UInt8) : Bool := l.all fun c => decide (0 ≤ hexV c)
def hexG (l : List UInt8) : Option (List UInt8) :=
  if l.length < 1 ∨ 4 < l.length then none else if hexOk l = true then some [UInt8.ofNat ((hexA l).toNat / 256), UInt8.ofNat ((hexA l).toNat % 256)] else none
def partG (lst : Bool) (l : List UInt8) : Option (List UInt8) :=
  if lst = true then (match fourP (splitL 46 l) with | some f => some f | none => hexG l) else hexG l
def accG (last : Bool) (P : List (List UInt8)) : Nat → Option (List UInt8)
  | 0 => some []
  | k + 1 => match accG last P k with
    | none => none
    | some a => match partG (last && decide (k + 1 = P.length)) (P.getD k []) with
      | none => none
      | some x => some (a ++ x)
def groupsP (last : Bool) (s : List UInt8) : Option (List UInt8) := if s = [] then some [] else accG last (splitL 58 s) (splitL 58 s).length
theorem hexA_snoc (l : List UInt8) (c : UInt8) : hexA (l ++ [c]) = 16 * hexA l + hexV c := by simp [hexA, List.foldl_append]
theorem hexA_bd4 : ∀ l : List UInt8, l.length ≤ 4 → hexOk l = true → 0 ≤ hexA l ∧ hexA l ≤ 65535
  | [], _, _ => by simp [hexA]
  | [a], _, h => by
    have := hexV_bd a
    simp [hexOk, hexA] at h ⊢
    omega
  | [a, b], _, h => by
    have := hexV_bd a
    have := hexV_bd b
    simp [hexOk, hexA] at h ⊢
    omega
  | [a, b, c], _, h => by
    have := hexV_bd a
    have := hexV_bd b
    have := hexV_bd c
    simp [hexOk, hexA] at h ⊢
    omega
  | [a, b, c, d], _, h => by
    have := hexV_bd a
    have := hexV_bd b
    have := hexV_bd c
    have := hexV_bd d
    simp [hexOk, hexA] at h ⊢
    omega
  | a :: b :: c :: d :: e :: l, h, _ => by simp at h
theorem partG_four {l f : List UInt8} (h : fourP (splitL 46 l) = some f) : partG true l = some f := by simp [partG, h]
theorem partG_hex {l : List UInt8} {t : Bool} (h : t = true → fourP (splitL 46 l) = none) : partG t l = hexG l := by
  unfold partG
  cases t with
  | false => rfl
  | true => simp [h rfl]
theorem hexG_len {l : List UInt8} (h : l.length < 1 ∨ 4 < l.length) : hexG l = none := by unfold hexG; rw [if_pos h]
theorem hexG_bad {l : List UInt8} {k : Nat} {c : UInt8} (h : l[k]? = some c) (hc : hexV c < 0) : hexG l = none := by
  have hno : ¬ hexOk l = true := by
    unfold hexOk
    rw [List.all_eq_true]
    intro h2
    have := h2 c (List.mem_of_getElem? h)
    simp at this
    omega
  unfold hexG
  rw [if_neg hno]
  split <;> rfl
theorem hexG_ok {l : List UInt8} (h : ¬ (l.length < 1 ∨ 4 < l.length)) (h2 : hexOk l = true) : hexG l = some [UInt8.ofNat ((hexA l).toNat / 256), UInt8.ofNat ((hexA l).toNat % 256)] := by
  unfold hexG; rw [if_neg h, if_pos h2]
theorem partG_len {t : Bool} {l x : List UInt8} (h : partG t l = some x) : x.length ≤ 4 := by
  unfold partG at h
  have hh : ∀ x, hexG l = some x → x.length ≤ 4 := by
    intro x hx
    unfold hexG at hx
    split at hx
    · cases hx
    · split at hx
      · cases hx; simp
      · cases hx
  split at h
  · cases e : fourP (splitL 46 l) with
    | some f =>
      rw [e] at h
      cases h
      unfold fourP at e
      split at e
      · rename_i h4
        cases e
        rw [List.length_map]
        omega
      · cases e
    | none =>
      rw [e] at h
      exact hh _ h
  · exact hh _ h
theorem accG_len {last : Bool} {P : List (List UInt8)} : ∀ {k : Nat} {a : List UInt8}, accG last P k = some a → a.length ≤ 4 * k
  | 0, a, h => by simp [accG] at h; subst h; simp
  | k + 1, a, h => by
    unfold accG at h
    split at h
    · cases h
    · rename_i b hb
      split at h
      · cases h
      · rename_i x hx
        cases h
        have := accG_len hb
        have := partG_len hx
        simp
        omega
end Go.Tx

namespace Go.Tx
end Go.Tx
namespace Go.Proofs.YtogdkmkganpaaaaGreatDoor
open Go.RowKit Go.Lib Go.Tx
theorem toList_data (s : ByteArray) : s.toList = s.data.toList := by
  exact Go.Lib.toList_data s
end Go.Proofs.YtogdkmkganpaaaaGreatDoor

namespace Go.Rb
open Go.Ev
theorem RB.mono {B B' : Nat} {w : World} {v : Value} {l : List UInt8} (h : RB B w v l) (hB : B' ≤ B) : RB B' w v l := by
  rcases h with h | ⟨b, cap, h1, h2, h3, h4⟩
  · exact .inl h
  · exact .inr ⟨b, cap, h1, Nat.le_trans hB h2, h3, h4⟩
theorem lit2 {P : Program} {x y : Int} {c d : UInt8} (w : World) (_ty : Unit) (hx : (c.toNat : Int) = x) (hy : (d.toNat : Int) = y) :
    Src P (w.alloc (.cells #[.int .u8 x, .int .u8 y] 5)) (.slice (some ⟨w.heap.size, 0, none⟩) 2 2) [c, d] := by
  subst hx hy
  exact Src.lit P w [c, d]
end Go.Rb
namespace Go.Proofs.YtogdkmkganpaaaaGreatDoor
open Go.RowKit Go.Lib Go.Tx Go.Rb Go.Ev
end Go.Proofs.YtogdkmkganpaaaaGreatDoor

namespace Go.Tx
def ccAt (l : List UInt8) (k : Nat) : Bool := decide (l[k]? = some 58) && decide (l[k + 1]? = some 58)
def dblP (l : List UInt8) (k : Nat) : Option (List UInt8) :=
  match groupsP false (l.take k), groupsP true (l.drop (k + 2)) with
  | some a, some b => if 14 < a.length + b.length then none else some (a ++ List.replicate (16 - a.length - b.length) 0 ++ b)
  | _, _ => none
def parseP (l : List UInt8) : Option (List UInt8) :=
  match fourP (splitL 46 l) with
  | some f => some f
  | none => match (List.range l.length).find? (ccAt l) with
    | some k => dblP l k
    | none => match groupsP true l with
      | some b => if b.length = 16 then some b else none
      | none => none
theorem cc_some {l : List UInt8} {k : Nat} (h : ∀ j, j < k → ccAt l j = false) (hk : ccAt l k = true) : (List.range l.length).find? (ccAt l) = some k := by
  rw [List.find?_range_eq_some]
  refine ⟨hk, ?_, fun j hj => by simp [h j hj]⟩
  unfold ccAt at hk
  simp only [Bool.and_eq_true, decide_eq_true_eq] at hk
  exact List.mem_range.2 (List.getElem?_eq_some_iff.1 hk.1).1
theorem cc_none {l : List UInt8} {k : Nat} (h : ∀ j, j < k → ccAt l j = false) (hk : l.length ≤ k + 1) : (List.range l.length).find? (ccAt l) = none := by
  rw [List.find?_eq_none]
  intro j hj
  have hj := List.mem_range.1 hj
  by_cases hjk : j < k
  · simp [h j hjk]
  · have : l[j + 1]? = none := List.getElem?_eq_none (by omega)
    simp [ccAt, this]
end Go.Tx
namespace Go.Proofs.YtogdkmkganpaaaaGreatDoor
open Go.RowKit Go.Lib Go.Tx Go.Rb Go.Ev
end Go.Proofs.YtogdkmkganpaaaaGreatDoor

namespace Go.Tx
open Go.Lib
/-- Settings. -/
structure SetL where
  servers : List (List UInt8)
  search : List (List UInt8)
  dots : Int
  tmo : Int
  att : Int
  rot : Bool
def set0 : SetL := ⟨[], [], 1, 5, 2, false⟩
def kNs : List UInt8 := [110, 97, 109, 101, 115, 101, 114, 118, 101, 114]
def kSe : List UInt8 := [115, 101, 97, 114, 99, 104]
def kOp : List UInt8 := [111, 112, 116, 105, 111, 110, 115]
def kNd : List UInt8 := [110, 100, 111, 116, 115, 58]
def kTi : List UInt8 := [116, 105, 109, 101, 111, 117, 116, 58]
def kAt : List UInt8 := [97, 116, 116, 101, 109, 112, 116, 115, 58]
def kRo : List UInt8 := [114, 111, 116, 97, 116, 101]
/-- A word of options: its number, if it is that one. -/
def optN (w name : List UInt8) (lo hi : Int) : Option Int :=
  if name.length < w.length ∧ w.take name.length = name then (if (numRes (w.drop name.length) hi).2 = true ∧ lo ≤ (numRes (w.drop name.length) hi).1 then some (numRes (w.drop name.length) hi).1 else none) else none
def optS (S : SetL) (w : List UInt8) : SetL := ⟨S.servers, S.search, (optN w kNd 0 15).getD S.dots, (optN w kTi 1 30).getD S.tmo, (optN w kAt 1 5).getD S.att, S.rot || decide (w = kRo)⟩
/-- A name as it is asked for. -/
def nmC (l : List UInt8) : Option (List UInt8) := if nameB (bare l) = true then some ((bare l).map low) else none
def searchP (r : List (List UInt8)) : List (List UInt8) := (r.filterMap nmC).take 6
def srvS (S : SetL) : List (List UInt8) → SetL
  | [] => S
  | a :: _ => if S.servers.length < 3 then (match parseP a with | some x => ⟨S.servers ++ [x], S.search, S.dots, S.tmo, S.att, S.rot⟩ | none => S) else S
/-- What a line says. -/
def lineS (S : SetL) : List (List UInt8) → SetL
  | [] => S
  | h :: r => if h = kNs then srvS S r else if h = kSe then ⟨S.servers, searchP r, S.dots, S.tmo, S.att, S.rot⟩ else if h = kOp then r.foldl optS S else S
def setupP (T : List (Nat × List (List UInt8))) : SetL := T.foldl (fun S t => lineS S t.2) set0
theorem lineS_cons (S : SetL) (h : List UInt8) (r : List (List UInt8)) : lineS S (h :: r) = if h = kNs then srvS S r else if h = kSe then ⟨S.servers, searchP r, S.dots, S.tmo, S.att, S.rot⟩ else if h = kOp then r.foldl optS S else S := rfl
theorem setupP_snoc (T : List (Nat × List (List UInt8))) (t : Nat × List (List UInt8)) : setupP (T ++ [t]) = lineS (setupP T) t.2 := by
  unfold setupP
  rw [List.foldl_append]
  rfl
theorem opts_snoc (S : SetL) (r : List (List UInt8)) (w : List UInt8) : (r ++ [w]).foldl optS S = optS (r.foldl optS S) w := by rw [List.foldl_append]; rfl
/-- One word more of a search list. -/
theorem search_snoc (r : List (List UInt8)) (w : List UInt8) : searchP (r ++ [w]) = if (searchP r).length < 6 then searchP r ++ (nmC w).toList else searchP r := by
  unfold searchP
  rw [List.filterMap_append]
  have e : List.filterMap nmC [w] = (nmC w).toList := by cases h : nmC w <;> simp [h]
  rw [e, List.take_append]
  by_cases h : (r.filterMap nmC).length < 6
  · rw [if_pos (by rw [List.length_take]; omega)]
    congr 1
    refine List.take_of_length_le ?_
    cases nmC w <;> simp <;> omega
  · rw [if_neg (by rw [List.length_take]; omega)]
    rw [show 6 - (r.filterMap nmC).length = 0 by omega]
    simp
theorem search_few (r : List (List UInt8)) : (searchP r).length ≤ 6 := by unfold searchP; rw [List.length_take]; omega
theorem srv_few (S : SetL) (ws : List (List UInt8)) (h : S.servers.length ≤ 3) : (lineS S ws).servers.length ≤ 3 := by
  have hopt : ∀ (r : List (List UInt8)) (S : SetL), (r.foldl optS S).servers = S.servers := by
    intro r
    induction r with
    | nil => intro S; rfl
    | cons w r ih => intro S; rw [List.foldl_cons, ih]; rfl
  cases ws with
  | nil => exact h
  | cons a r =>
    rw [lineS_cons]
    by_cases h1 : a = kNs
    · rw [if_pos h1]
      cases r with
      | nil => exact h
      | cons b r =>
        unfold srvS
        simp only
        by_cases h3 : S.servers.length < 3
        · rw [if_pos h3]
          cases parseP b with
          | none => exact h
          | some x => simp only [List.length_append, List.length_singleton]; omega
        · rw [if_neg h3]; exact h
    · rw [if_neg h1]
      by_cases h2 : a = kSe
      · rw [if_pos h2]; exact h
      · rw [if_neg h2]
        by_cases h3 : a = kOp
        · rw [if_pos h3, hopt]; exact h
        · rw [if_neg h3]; exact h
theorem setup_few (T : List (Nat × List (List UInt8))) : (setupP T).servers.length ≤ 3 := by
  unfold setupP
  have : ∀ (T : List (Nat × List (List UInt8))) (S : SetL), S.servers.length ≤ 3 → (T.foldl (fun S t => lineS S t.2) S).servers.length ≤ 3 := by
    intro T
    induction T with
    | nil => intro S h; exact h
    | cons t T ih => intro S h; exact ih _ (srv_few S t.2 h)
  exact this T set0 (by decide)
end Go.Tx

namespace Go.Tx
open Go.Lib
def kNd5 : List UInt8 := [110, 100, 111, 116, 115]
def kTi7 : List UInt8 := [116, 105, 109, 101, 111, 117, 116]
def kAt8 : List UInt8 := [97, 116, 116, 101, 109, 112, 116, 115]
/-- A number as the program sets it. -/
def numV (l : List UInt8) (lo hi set : Int) : Int := if (numRes l hi).2 = true ∧ lo ≤ (numRes l hi).1 then (numRes l hi).1 else set
theorem numV_nil (lo hi set : Int) : numV [] lo hi set = set := by unfold numV; rw [numRes_nil _ _ rfl]; simp
/-- A word cut at its first colon. -/
def cutC (l : List UInt8) : List UInt8 × List UInt8 := ((Lib.cut l [58]).1, (Lib.cut l [58]).2.1)
theorem index58 : ∀ (l : List UInt8), (58 ∈ l → ∃ k v, l = k ++ 58 :: v ∧ 58 ∉ k ∧ Lib.index l [58] = (k.length : Int)) ∧ (58 ∉ l → Lib.index l [58] = -1)
  | [] => ⟨(fun h => by cases h), fun _ => by decide⟩
  | c :: l => by
    obtain ⟨h1, h2⟩ := index58 l
    by_cases hc : c = 58
    · subst hc
      refine ⟨fun _ => ⟨[], l, rfl, by simp, ?_⟩, fun h => absurd (by simp) h⟩
      simp [Lib.index]
    · have hp : ([58] : List UInt8).isPrefixOf (c :: l) = false := by simp [List.isPrefixOf, Ne.symm hc]
      refine ⟨fun h => ?_, fun h => ?_⟩
      · obtain ⟨k, v, e1, e2, e3⟩ := h1 (by simpa [Ne.symm hc] using h)
        refine ⟨c :: k, v, by rw [e1]; rfl, by simp [e2, Ne.symm hc], ?_⟩
        unfold Lib.index
        rw [hp, e3]
        simp only [Bool.false_eq_true, if_false, beq_iff_eq]
        rw [if_neg (by omega)]
        simp
      · unfold Lib.index
        rw [hp, h2 (fun h3 => h (List.mem_cons_of_mem _ h3))]
        simp
theorem cutC_some {k v : List UInt8} (h : 58 ∉ k) : cutC (k ++ 58 :: v) = (k, v) := by
  obtain ⟨k2, v2, e1, e2, e3⟩ := (index58 (k ++ 58 :: v)).1 (by simp)
  have hl : k.length = k2.length := by
    rcases Nat.lt_trichotomy k.length k2.length with hlt | heq | hgt
    · exfalso
      have e := congrArg (fun l => l[k.length]?) e1
      simp only [List.getElem?_append_right (Nat.le_refl _), Nat.sub_self, List.getElem?_append_left hlt] at e
      exact e2 (List.mem_of_getElem? e.symm)
    · exact heq
    · exfalso
      have e := congrArg (fun l => l[k2.length]?) e1
      simp only [List.getElem?_append_right (Nat.le_refl _), Nat.sub_self, List.getElem?_append_left hgt] at e
      exact h (List.mem_of_getElem? e)
  unfold cutC Lib.cut
  rw [e3, if_pos (by omega), ← hl]
  have e4 : k.length + ([58] : List UInt8).length = (k ++ [58]).length := by simp
  simp only [Int.toNat_natCast]
  rw [e4]
  refine Prod.ext ?_ ?_
  · exact List.take_left
  · show List.drop (k ++ [58]).length (k ++ 58 :: v) = v
    rw [show k ++ 58 :: v = (k ++ [58]) ++ v by simp]
    exact List.drop_left
theorem cutC_none {l : List UInt8} (h : 58 ∉ l) : cutC l = (l, []) := by
  unfold cutC Lib.cut
  rw [(index58 l).2 h, if_neg (by decide)]
theorem cutC_len (l : List UInt8) : (cutC l).1.length ≤ l.length ∧ (cutC l).2.length ≤ l.length := by
  unfold cutC Lib.cut
  split <;> simp <;> omega
theorem optN_cut (l nm : List UInt8) (lo hi set : Int) (h : 58 ∉ nm) : (optN l (nm ++ [58]) lo hi).getD set = if (cutC l).1 = nm then numV (cutC l).2 lo hi set else set := by
  have hn : (nm ++ [58]).length = nm.length + 1 := by simp
  by_cases hm : 58 ∈ l
  · obtain ⟨k, v, rfl, hk, _⟩ := (index58 l).1 hm
    rw [cutC_some hk]
    simp only
    by_cases hkn : k = nm
    · subst hkn
      rw [if_pos rfl]
      unfold optN numV
      have e1 : (k ++ 58 :: v).take (k ++ [58]).length = k ++ [58] := by
        rw [show k ++ 58 :: v = (k ++ [58]) ++ v by simp]
        exact List.take_left
      have e2 : (k ++ 58 :: v).drop (k ++ [58]).length = v := by
        rw [show k ++ 58 :: v = (k ++ [58]) ++ v by simp]
        exact List.drop_left
      rw [e1, e2]
      cases v with
      | nil =>
        rw [if_neg (by simp), numRes_nil _ _ rfl]
        simp
      | cons c v =>
        rw [if_pos ⟨by simp, rfl⟩]
        split
        · rfl
        · rfl
    · rw [if_neg hkn]
      unfold optN
      rw [if_neg]
      · rfl
      · rintro ⟨h1, h2⟩
        have e : k ++ 58 :: v = nm ++ 58 :: (k ++ 58 :: v).drop (nm ++ [58]).length := by
          have h3 := List.take_append_drop (nm ++ [58]).length (k ++ 58 :: v)
          rw [h2, List.append_assoc] at h3
          exact h3.symm
        have e2 := cutC_some (v := v) hk
        rw [e, cutC_some h] at e2
        exact hkn (congrArg Prod.fst e2).symm
  · rw [cutC_none hm]
    simp only
    have e : optN l (nm ++ [58]) lo hi = none := by
      unfold optN
      rw [if_neg]
      rintro ⟨h1, h2⟩
      apply hm
      apply List.mem_of_mem_take (i := (nm ++ [58]).length)
      rw [h2]
      simp
    rw [e, numV_nil]
    simp
theorem kNd_is : kNd = kNd5 ++ [58] := rfl
theorem kTi_is : kTi = kTi7 ++ [58] := rfl
theorem kAt_is : kAt = kAt8 ++ [58] := rfl
/-- What the program sets by a word. -/
def optC (S : SetL) (y : List UInt8) : SetL :=
  if y = kRo then ⟨S.servers, S.search, S.dots, S.tmo, S.att, true⟩
  else if (cutC y).1 = kNd5 then ⟨S.servers, S.search, numV (cutC y).2 0 15 S.dots, S.tmo, S.att, S.rot⟩
  else if (cutC y).1 = kTi7 then ⟨S.servers, S.search, S.dots, numV (cutC y).2 1 30 S.tmo, S.att, S.rot⟩
  else if (cutC y).1 = kAt8 then ⟨S.servers, S.search, S.dots, S.tmo, numV (cutC y).2 1 5 S.att, S.rot⟩
  else S
theorem optS_optC (S : SetL) (y : List UInt8) : optS S y = optC S y := by
  unfold optS optC
  rw [kNd_is, kTi_is, kAt_is, optN_cut _ _ _ _ _ (by decide), optN_cut _ _ _ _ _ (by decide), optN_cut _ _ _ _ _ (by decide)]
  by_cases h : y = kRo
  · subst h
    rw [if_pos rfl, cutC_none (by decide)]
    simp only
    rw [if_neg (by decide), if_neg (by decide), if_neg (by decide)]
    simp
  · rw [if_neg h, decide_eq_false h]
    by_cases h1 : (cutC y).1 = kNd5
    · rw [if_pos h1, if_pos h1, h1, if_neg (by decide), if_neg (by decide)]
      simp
    · rw [if_neg h1, if_neg h1]
      by_cases h2 : (cutC y).1 = kTi7
      · rw [if_pos h2, if_pos h2, h2, if_neg (by decide)]
        simp
      · rw [if_neg h2, if_neg h2]
        by_cases h3 : (cutC y).1 = kAt8
        · rw [if_pos h3, if_pos h3]
          simp
        · rw [if_neg h3, if_neg h3]
          simp
end Go.Tx

namespace Go.Tx
open Go.Lib
def ust (l : List UInt8) (k : Nat) : List UInt8 × List (List UInt8) := (hashCut (l.take k)).foldl (stepW blankN) ([], [])
theorem take_succ' (l : List UInt8) (k : Nat) (b : UInt8) (h : l[k]? = some b) : l.take (k + 1) = l.take k ++ [b] := by
  have hk := (List.getElem?_eq_some_iff.1 h).1
  rw [List.take_succ_eq_append_getElem hk]
  rw [List.getElem?_eq_getElem hk] at h
  cases h
  rfl
theorem stepW_len {u : List UInt8 × List (List UInt8)} {c : UInt8} : (stepW blankN u c).1.length ≤ u.1.length + 1 ∧ (stepW blankN u c).2.length ≤ u.2.length + 1 := by
  unfold stepW
  split
  · split <;> simp
  · simp
theorem fold_len (l : List UInt8) : ∀ u : List UInt8 × List (List UInt8), (l.foldl (stepW blankN) u).1.length ≤ u.1.length + l.length ∧ (l.foldl (stepW blankN) u).2.length ≤ u.2.length + l.length := by
  induction l with
  | nil => intro u; simp
  | cons c l ih =>
    intro u
    have h1 := ih (stepW blankN u c)
    have h2 := @stepW_len u c
    simp only [List.foldl_cons, List.length_cons]
    omega
/-- What holds at the head of a round. -/
structure OneI (l : List UInt8) (w : World) (k : Nat) (rest word lv : Value) (wr : World) (s : ByteArray) : Prop where
  rest : rest = .bool (decide ((35 : UInt8) ∈ l.take k))
  word : word = .string s
  text : s.data.toList = (ust l k).1
  row : StrC w.heap.size wr lv (ust l k).2
  fine : (l.take k).any forB = false
  bel : Go.RowKit.Below w.heap.size w wr
end Go.Tx
namespace Go.Proofs.YtogdkmkganpaaaaGreatDoor
open Go.RowKit Go.Lib Go.Tx Go.Proofs
end Go.Proofs.YtogdkmkganpaaaaGreatDoor

namespace Go.Proofs.YtogdkmkganpaaaaGreatDoor
open Go.RowKit Go.Lib Go.Tx Go.Proofs
theorem idx10 (a : Option Addr) (n c : Nat) (l : List UInt8) (b2 : Nat) (w : World) (h : BA w a n c l) (h2 : w.cell? ⟨b2, 0, none⟩ = some (.int .u8 10)) :
    Calls Tryz.prog 118 #[.slice a n c, .slice (some ⟨b2, 0, none⟩) 1 1] w fun e w' => e = .returned (.int .i64 (Lib.indexByte l 10)) ∧ ∃ q, w' = w.drewN q := by
  have hlen := h.len
  cases a with
  | none =>
    have := h.none rfl
    have hcap := h.cap
    obtain rfl : c = 0 := by omega
    obtain rfl : n = 0 := by omega
    obtain rfl : l = [] := List.eq_nil_of_length_eq_zero hlen
    refine (Tryz.bytes_Index_one_nil b2 0 1 10 w h2).mono ?_
    rintro e w' ⟨rfl, rfl⟩
    exact ⟨rfl, 0, rfl⟩
  | some x =>
    have := Tryz.bytes_Index_one_at x n c b2 0 1 (l.map fun b => (b.toNat : Int)) 10 w (by simpa using hlen) (fun i hi => by
      have hil : i < l.length := by omega
      rw [h.cell x rfl i _ (List.getElem?_eq_getElem hil)]
      simp [hil]) h2
    have e1 : Lib.bytesOf (l.map fun b => (b.toNat : Int)) = l := by
      simp [Lib.bytesOf, Function.comp_def]
    rw [e1] at this
    refine this.mono ?_
    rintro e w' ⟨rfl, rfl⟩
    exact ⟨rfl, 0, rfl⟩
theorem _root_.Go.Tx.BA.take {w : World} {a : Option Addr} {n c : Nat} {l : List UInt8} (h : BA w a n c l) {i : Nat} (hi : i ≤ n) : BA w a i c (l.take i) :=
  ⟨by rw [List.length_take, h.len]; omega, Nat.le_trans hi h.cap, h.max, h.none, fun x hx j b hj => h.cell x hx j b (by
    rw [List.getElem?_take] at hj
    split at hj
    · exact hj
    · cases hj)⟩
theorem add_add (x : Addr) (i j : Nat) : (x.add i).add j = x.add (i + j) := by
  unfold Addr.add
  by_cases h1 : i = 0
  · subst h1; simp
  · by_cases h2 : j = 0
    · subst h2; simp [h1]
    · simp [h1, h2]; omega
theorem _root_.Go.Tx.BA.from {w : World} {a : Option Addr} {n c : Nat} {l : List UInt8} (h : BA w a n c l) {j : Nat} (hj : j ≤ n) : BA w (if c = j then a else a.map fun x => x.add j) (n - j) (c - j) (l.drop j) := by
  have hcap := h.cap
  have hmax := h.max
  refine ⟨by rw [List.length_drop, h.len], by omega, by omega, fun ha => ?_, fun x hx k b hk => ?_⟩
  · split at ha
    · omega
    · have : a = none := by simpa using ha
      have := h.none this
      omega
  · rw [List.getElem?_drop] at hk
    have hlt := (List.getElem?_eq_some_iff.1 hk).1
    rw [h.len] at hlt
    split at hx
    · omega
    · cases a with
      | none => simp at hx
      | some y =>
        simp at hx
        subst hx
        rw [add_add]
        exact h.cell y rfl _ b hk
theorem cut10_yes (a : Option Addr) (n c : Nat) (l : List UInt8) (b2 i : Nat) (w : World) (h : BA w a n c l) (h2 : w.cell? ⟨b2, 0, none⟩ = some (.int .u8 10)) (hn : n ≤ 1000000) (hi : Lib.indexByte l 10 = i) :
    Calls Tryz.prog 95 #[.slice a n c, .slice (some ⟨b2, 0, none⟩) 1 1] w fun e w' => e = .returned (.tuple #[.slice a i c, .slice (if c = i + 1 then a else a.map fun x => x.add (i + 1)) (n - (i + 1)) (c - (i + 1)), .bool true]) ∧ ∃ q, w' = w.drewN q := by
  have hlt := indexByte_lt l 10
  have hlt : i < n := by
    rw [hi, h.len] at hlt
    rcases hlt with hlt | hlt
    · omega
    · rw [hlt] at hi; simp [Lib.indexByte] at hi
  have := Tryz.bytes_Cut_of a (some ⟨b2, 0, none⟩) n c 1 1 (Lib.indexByte l 10) w h.cap (Lib.indexByte_ge _ _) (by rw [hi]; omega) (by omega) (idx10 a n c l b2 w h h2)
  rw [hi] at this
  have e1 : Lib.cutV a n c 1 (i : Int) = .tuple #[.slice a i c, .slice (if c = i + 1 then a else a.map fun x => x.add (i + 1)) (n - (i + 1)) (c - (i + 1)), .bool true] := by
    unfold Lib.cutV Lib.fromV
    rw [if_pos (by omega)]
    simp
  rw [e1] at this
  exact this
theorem cut10_no (a : Option Addr) (n c : Nat) (l : List UInt8) (b2 : Nat) (w : World) (h : BA w a n c l) (h2 : w.cell? ⟨b2, 0, none⟩ = some (.int .u8 10)) (hn : n ≤ 1000000) (hi : Lib.indexByte l 10 < 0) :
    Calls Tryz.prog 95 #[.slice a n c, .slice (some ⟨b2, 0, none⟩) 1 1] w fun e w' => e = .returned (.tuple #[.slice a n c, .slice none 0 0, .bool false]) ∧ ∃ q, w' = w.drewN q := by
  have := Tryz.bytes_Cut_of a (some ⟨b2, 0, none⟩) n c 1 1 (Lib.indexByte l 10) w h.cap (Lib.indexByte_ge _ _) (by omega) (by omega) (idx10 a n c l b2 w h h2)
  have e1 : Lib.cutV a n c 1 (Lib.indexByte l 10) = .tuple #[.slice a n c, .slice none 0 0, .bool false] := by
    unfold Lib.cutV
    rw [if_neg (by omega)]
  rw [e1] at this
  exact this
theorem info68 : (Tryz.prog.info? 154).map (fun i => (i.zero, i.size, i.bytes)) = some (some (.agg #[.int .i64 0, .slice none 0 0]), 2, 32) := by kernel_rfl
theorem _root_.Go.Tx.BA.nil (w : World) : BA w none 0 0 [] := ⟨rfl, Nat.le_refl _, by decide, fun _ => rfl, fun x hx => by cases hx⟩
def LinesR (w : World) (T : List (Nat × List (List UInt8))) (e : Ending) (w' : World) : Prop := ∃ v, e = .returned v ∧ LinesAt w.heap.size w' v T ∧ Below w.heap.size w w'
theorem new_cells (w : World) (x y : Value) (e : TypeId) : ∀ j u, [x, y][j]? = some u → (w.alloc (.cells #[x, y] e)).cell? ((⟨w.heap.size, 0, none⟩ : Addr).add j) = some u := by
  intro j u hj
  have ha : (⟨w.heap.size, 0, none⟩ : Addr).add j = ⟨w.heap.size, j, none⟩ := by unfold Addr.add; split <;> simp_all
  rw [ha, World.cell?_alloc_new]
  simpa using hj
def lenOfV : Value → Nat
  | .slice _ n _ => n
  | _ => 0
/-- What holds at the head of each round. -/
structure LI (w : World) (l0 : List UInt8) (body told no : Value) (wr : World) (a : Option Addr) (n c N : Nat) (l : List UInt8) (T : List (Nat × List (List UInt8))) : Prop where
  body : body = .slice a n c
  no : no = .int .i64 N
  ba : BA w a n c l
  old : ∀ x, a = some x → x.block < w.heap.size
  told : LinesAt w.heap.size wr told T
  all : toldG 1 [] l0 = T ++ toldG N [] l
  few : T.length + 1 ≤ N
  sum : N + n ≤ l0.length + 1
  bel : Below w.heap.size w wr
theorem words_none (a : Option Addr) (n c : Nat) (l : List UInt8) (w : World) (h : BA w a n c l) (hw : wordsOf l = []) :
    Calls Tryz.prog 96 #[.slice a n c] w fun e w' => ∃ p, e = .returned (.slice p 0 0) ∧ Below w.heap.size w w' := by
  refine (words_any a n c l w h).mono ?_
  rintro e w' ⟨v, rfl, hs, hb⟩
  obtain ⟨p, rfl⟩ := hs.shape
  rw [hw]
  exact ⟨p, rfl, hb⟩
theorem words_some (a : Option Addr) (n c : Nat) (l : List UInt8) (w : World) (h : BA w a n c l) (hw : ¬ wordsOf l = []) :
    Calls Tryz.prog 96 #[.slice a n c] w fun e w' => ∃ p k, e = .returned (.slice p k k) ∧ 0 < k ∧ Hid (Strs w.heap.size w' (.slice p k k) (wordsOf l)) ∧ Below w.heap.size w w' := by
  refine (words_any a n c l w h).mono ?_
  rintro e w' ⟨v, rfl, hs, hb⟩
  obtain ⟨p, rfl⟩ := hs.shape
  exact ⟨p, _, rfl, List.length_pos_iff.2 hw, Lib.hid hs, hb⟩
theorem tell_none {no : Nat} {l : List UInt8} (h : wordsOf l = []) : tell no l = [] := by simp [tell, h]
theorem tell_some {no : Nat} {l : List UInt8} (h : ¬ wordsOf l = []) : tell no l = [(no, wordsOf l)] := by simp [tell, h]
theorem told_end (N : Nat) : toldG N [] [] = [] := by simp [toldG, tell_none wordsOf_nil]
/-- The world behind a cut and the words of a line. -/
theorem bel_words {w wr w3 : World} {o : Obj} {q : Nat} (hbel : Below w.heap.size w wr) (hb3 : Below ((wr.alloc o).drewN q).heap.size ((wr.alloc o).drewN q) w3) : Below w.heap.size w w3 :=
  (below_drewN' (hbel.alloc hbel.size o) q).trans (hb3.mono (by have := hbel.size; show w.heap.size ≤ (wr.heap.push o).size; simp; omega))
set_option maxHeartbeats 2000000 in
set_option maxRecDepth 100000 in
theorem lines_any (a : Option Addr) (n c : Nat) (l : List UInt8) (w : World) (h : BA w a n c l) (hold : ∀ x, a = some x → x.block < w.heap.size) (hn : n ≤ 1000000) :
    Calls Tryz.prog 61 #[.slice a n c] w (LinesR w (toldG 1 [] l)) := by
  obtain ⟨i0, hi, hz0, hz1, hz2⟩ := info_parts info68
  have hsum := h.len
  have HS := Lib.hid hsum
  clear hsum
  go_enter Tryz.func61, Tryz.ntmps61
  go_wp2
  go_loopw [0, 3, 4] (fun body told no wr => ∃ a n c N l' T, LI w l body told no wr a n c N l' T) (fun body _ _ _ => lenOfV body)
  case atStart => exact ⟨a, n, c, 1, l, [], rfl, rfl, h, hold, LinesAt.nil _ _, rfl, by simp, by rw [HS.out]; omega, Below.refl _ _⟩
  case round =>
    clear h hold
    obtain ⟨a', n', c', N, l', T, hL⟩ := hrel
    obtain ⟨rfl, rfl, hba, hold, htold, hall, hfew, hsum, hbel⟩ := hL
    have hw0 := hbel.size
    by_cases hpos : 0 < n'
    · have hn' : n' ≤ 1000000 := by have := HS.out; omega
      have hN : N ≤ 1000001 := by have := HS.out; omega
      have HBA : Hid (∀ o, BA (wr.alloc o) a' n' c' l') := Lib.hid fun o => hba.below (hbel.alloc hbel.size o) hold
      have HQ : Hid (∀ o q, BA ((wr.alloc o).drewN q) a' n' c' l') := Lib.hid fun o q => hba.below (below_drewN' (hbel.alloc hbel.size o) q) hold
      have hcap := hba.cap
      have hmax := hba.max
      obtain ⟨xs, hown, hent⟩ := htold
      have HE := Lib.hid hent
      have HO := Lib.hid hown
      have HALL := Lib.hid hall
      have HLEN := Lib.hid hba.len
      clear hent hown hall
      by_cases hidx : Lib.indexByte l' 10 < 0
      · have HI := Lib.hid hidx
        clear hidx
        by_cases hws : wordsOf l' = []
        · have HW := Lib.hid hws
          clear hws hba
          go_wp2_with (first | (go_at_call 95; refine (cut10_no a' n' c' l' wr.heap.size _ (HBA.out _) (World.cell?_alloc_new _ _ _ _) hn' HI.out).mono ?_; rintro e w2 ⟨rfl, q, rfl⟩) | (go_at_call 96; refine (words_none a' n' c' l' _ (HQ.out _ _) HW.out).mono ?_; rintro e w3 ⟨p, rfl, hb3⟩))
          go_roundw
          case rel => exact ⟨none, 0, 0, N + 1, [], T, rfl, by go_num, BA.nil w, (fun x hx => by cases hx), (show LinesAt w.heap.size wr _ T from ⟨xs, HO.out, HE.out⟩).below (bel_words (Below.refl _ _) hb3), by rw [HALL.out, toldG_no _ _ _ HI.out, List.nil_append, tell_none HW.out, told_end], by omega, by omega, bel_words hbel hb3⟩
          case measure => exact hpos
        · have HW := Lib.hid hws
          clear hws hba
          go_wp2_with (first | (go_at_call 95; refine (cut10_no a' n' c' l' wr.heap.size _ (HBA.out _) (World.cell?_alloc_new _ _ _ _) hn' HI.out).mono ?_; rintro e w2 ⟨rfl, q, rfl⟩) | (go_at_call 96; refine (words_some a' n' c' l' _ (HQ.out _ _) HW.out).mono ?_; rintro e w3 ⟨p, k, rfl, hk, hs, hb3⟩) | (at_builtin; refine wpList_append_own _ rfl _ _ 151 rfl w.heap.size 154 i0 (.agg #[.int .i64 0, .slice none 0 0]) 2 32 Tryz.underlying151 hi hz0 hz1 hz2 rfl (by decide) _ _ _ rfl ((own_below (own_drewN (HO.out.alloc _) q) hb3).alloc _) ⟨w3.heap.size, 0, none⟩ 1 1 [.int .i64 N, .slice p k k] rfl rfl (new_cells _ _ _ _) (by simp [Value.oneCell']) (by unfold maxLen; omega) (by omega) (by have := (bel_words hbel hb3).size; show w.heap.size ≤ (w3.heap.push _).size; simp; omega) ?_; intro v' w5 hown5 hg5 _))
          go_roundw
          case rel => exact ⟨none, 0, 0, N + 1, [], T ++ [(N, wordsOf l')], rfl, by go_num, BA.nil w, (fun x hx => by cases hx), LinesAt.push ((own_below (own_drewN (HO.out.alloc _) q) hb3).alloc _) (fun i no ws h => by obtain ⟨x1, wv, x2, x3⟩ := HE.out i no ws h; exact ⟨x1, wv, x2, (x3.below (bel_words (Below.refl _ _) hb3)).below (Below.alloc (Below.refl _ _) (Nat.le_refl _) _)⟩) ((hs.out.base (by show w.heap.size ≤ (wr.heap.push _).size; simp; omega)).below (Below.alloc (Below.refl _ _) (Nat.le_refl _) _)) hown5 hg5, by rw [HALL.out, toldG_no _ _ _ HI.out, List.nil_append, tell_some HW.out, told_end, List.append_nil], by simp; omega, by omega, ((bel_words hbel hb3).alloc (bel_words hbel hb3).size _).grown hg5 (by have := (bel_words hbel hb3).size; show w.heap.size ≤ (w3.heap.push _).size; simp; omega) (fun g hg => (HO.out.lt g hg).1)⟩
          case measure => exact hpos
      · obtain ⟨i, hi'⟩ : ∃ i : Nat, Lib.indexByte l' 10 = i := ⟨(Lib.indexByte l' 10).toNat, by omega⟩
        have hlt : i < n' := by
          have h1 := indexByte_lt l' 10
          have h2 := HLEN.out
          rcases h1 with h1 | h1
          · omega
          · rw [h1] at h2; simp at h2; omega
        have HI := Lib.hid hi'
        have HF := Lib.hid (hba.from (j := i + 1) hlt)
        have HOLD : Hid (∀ x, (if c' = i + 1 then a' else a'.map fun x => x.add (i + 1)) = some x → x.block < w.heap.size) := Lib.hid (by
          intro x hx
          split at hx
          · exact hold x hx
          · cases a' with
            | none => simp at hx
            | some y =>
              simp at hx
              subst hx
              have : (y.add (i + 1)).block = y.block := by unfold Addr.add; split <;> rfl
              rw [this]
              exact hold y rfl)
        have HLT := Lib.hid hlt
        clear hidx hi' hba
        by_cases hws : wordsOf (l'.take i) = []
        · have HW := Lib.hid hws
          clear hws
          go_wp2_with (first | (go_at_call 95; refine (cut10_yes a' n' c' l' wr.heap.size i _ (HBA.out _) (World.cell?_alloc_new _ _ _ _) hn' HI.out).mono ?_; rintro e w2 ⟨rfl, q, rfl⟩) | (go_at_call 96; refine (words_none a' i c' (l'.take i) _ ((HQ.out _ _).take (Nat.le_of_lt HLT.out)) HW.out).mono ?_; rintro e w3 ⟨p, rfl, hb3⟩))
          go_roundw
          case rel => exact ⟨_, _, _, N + 1, _, T, rfl, by go_num, HF.out, HOLD.out, (show LinesAt w.heap.size wr _ T from ⟨xs, HO.out, HE.out⟩).below (bel_words (Below.refl _ _) hb3), by rw [HALL.out, toldG_nl i _ _ _ HI.out, List.nil_append, tell_none HW.out, List.nil_append], by omega, by omega, bel_words hbel hb3⟩
          case measure => simp only [lenOfV]; omega
        · have HW := Lib.hid hws
          clear hws
          go_wp2_with (first | (go_at_call 95; refine (cut10_yes a' n' c' l' wr.heap.size i _ (HBA.out _) (World.cell?_alloc_new _ _ _ _) hn' HI.out).mono ?_; rintro e w2 ⟨rfl, q, rfl⟩) | (go_at_call 96; refine (words_some a' i c' (l'.take i) _ ((HQ.out _ _).take (Nat.le_of_lt HLT.out)) HW.out).mono ?_; rintro e w3 ⟨p, k, rfl, hk, hs, hb3⟩) | (at_builtin; refine wpList_append_own _ rfl _ _ 151 rfl w.heap.size 154 i0 (.agg #[.int .i64 0, .slice none 0 0]) 2 32 Tryz.underlying151 hi hz0 hz1 hz2 rfl (by decide) _ _ _ rfl ((own_below (own_drewN (HO.out.alloc _) q) hb3).alloc _) ⟨w3.heap.size, 0, none⟩ 1 1 [.int .i64 N, .slice p k k] rfl rfl (new_cells _ _ _ _) (by simp [Value.oneCell']) (by unfold maxLen; omega) (by omega) (by have := (bel_words hbel hb3).size; show w.heap.size ≤ (w3.heap.push _).size; simp; omega) ?_; intro v' w5 hown5 hg5 _))
          go_roundw
          case rel => exact ⟨_, _, _, N + 1, _, T ++ [(N, wordsOf (l'.take i))], rfl, by go_num, HF.out, HOLD.out, LinesAt.push ((own_below (own_drewN (HO.out.alloc _) q) hb3).alloc _) (fun i no ws h => by obtain ⟨x1, wv, x2, x3⟩ := HE.out i no ws h; exact ⟨x1, wv, x2, (x3.below (bel_words (Below.refl _ _) hb3)).below (Below.alloc (Below.refl _ _) (Nat.le_refl _) _)⟩) ((hs.out.base (by show w.heap.size ≤ (wr.heap.push _).size; simp; omega)).below (Below.alloc (Below.refl _ _) (Nat.le_refl _) _)) hown5 hg5, by rw [HALL.out, toldG_nl i _ _ _ HI.out, List.nil_append, tell_some HW.out, List.append_assoc], by simp; omega, by omega, ((bel_words hbel hb3).alloc (bel_words hbel hb3).size _).grown hg5 (by have := (bel_words hbel hb3).size; show w.heap.size ≤ (w3.heap.push _).size; simp; omega) (fun g hg => (HO.out.lt g hg).1)⟩
          case measure => simp only [lenOfV]; omega
    · have HALL := Lib.hid hall
      have HT := Lib.hid htold
      obtain rfl : l' = [] := List.eq_nil_of_length_eq_zero (by have := hba.len; omega)
      clear hall htold hba
      go_wp2
      go_ret
      exact ⟨_, rfl, by rw [HALL.out, told_end, List.append_nil]; exact HT.out, hbel⟩
end Go.Proofs.YtogdkmkganpaaaaGreatDoor

namespace Go.Proofs.YtogdkmkganpaaaaGreatDoor
open Go.RowKit Go.Lib Go.Tx Go.Proofs
theorem _root_.Go.Tx.OneI.start (l : List UInt8) (w : World) : OneI l w 0 (.bool false) (.string ⟨#[]⟩) (.slice none 0 0) w ⟨#[]⟩ :=
  ⟨by simp, rfl, rfl, World.ownsRow_nil _ _ _ _, rfl, Below.refl _ _⟩
end Go.Proofs.YtogdkmkganpaaaaGreatDoor

namespace Go.Tx
open Go.RowKit
theorem StrC.of {B : Nat} {w : World} {v : Value} {ws : List (List UInt8)} (h : Strs B w v ws) : StrC B w v ws := by
  rcases h with ⟨rfl, rfl⟩ | ⟨A, rfl, _, h⟩
  · exact World.ownsRow_nil _ _ _ _
  · exact h
theorem StrC.grown {E B : Nat} {v : Value} {ws : List (List UInt8)} {w w' : World} {row : Option Nat} (hE : E ≠ 9) (h : StrC B w v ws) (hg : w.grownBy w' row) (hr : ∀ g, row = some g → ∃ cur fr, w.heap[g]? = some (.cells cur E fr)) : StrC B w' v ws := by
  refine World.ownsRow.kept h hg ?_
  rcases h.2 with ⟨a, _⟩ | ⟨A, cap, cur, a, _, hh, _⟩
  · left; rw [a]; rfl
  · right
    rw [a]
    cases row with
    | none => simp [Value.ownBlock]
    | some g =>
      simp only [Value.ownBlock, ne_eq, Option.some.injEq]
      rintro rfl
      obtain ⟨cur', fr, hc⟩ := hr A rfl
      rw [hc] at hh
      cases hh
      exact hE rfl
def LinesC (E B : Nat) (w : World) (v : Value) (T : List (Nat × List (List UInt8))) : Prop :=
  ∃ xs, w.ownsRow B E 2 v T.length xs ∧ ∀ (i no : Nat) (ws : List (List UInt8)), T[i]? = some (no, ws) → xs[2 * i]? = some (.int .i64 (no : Int)) ∧ ∃ wv, xs[2 * i + 1]? = some wv ∧ StrC B w wv ws
theorem LinesC.of {B : Nat} {w : World} {v : Value} {T : List (Nat × List (List UInt8))} (h : LinesAt B w v T) : LinesC 154 B w v T := by
  obtain ⟨xs, h1, h2⟩ := h
  refine ⟨xs, h1, fun i no ws hi => ?_⟩
  obtain ⟨a, wv, b, c⟩ := h2 i no ws hi
  exact ⟨a, wv, b, StrC.of c⟩
theorem LinesC.nil (E B : Nat) (w : World) : LinesC E B w (.slice none 0 0) [] := ⟨[], World.ownsRow_nil w B E 2, by simp⟩
theorem LinesC.below {E B : Nat} {v : Value} {T : List (Nat × List (List UInt8))} {w w' : World} (h : LinesC E B w v T) (hb : Below w.heap.size w w') : LinesC E B w' v T := by
  obtain ⟨xs, h1, h2⟩ := h
  refine ⟨xs, own_below h1 hb, fun i no ws hi => ?_⟩
  obtain ⟨a, wv, b, c⟩ := h2 i no ws hi
  exact ⟨a, wv, b, own_below c hb⟩
theorem LinesC.shape {E B : Nat} {v : Value} {T : List (Nat × List (List UInt8))} {w : World} (h : LinesC E B w v T) : ∃ p c, v = .slice p T.length c := by
  obtain ⟨xs, h1, _⟩ := h
  rcases h1.2 with ⟨a, b⟩ | ⟨g, cap, cur, a, _⟩
  · exact ⟨none, 0, by rw [a, b]⟩
  · exact ⟨_, _, a⟩
theorem LinesC.push {E B : Nat} (hE : E ≠ 9) {v v' wv : Value} {T : List (Nat × List (List UInt8))} {w w' : World} {xs : List Value} {no : Nat} {ws : List (List UInt8)}
    (h1 : w.ownsRow B E 2 v T.length xs) (h2 : ∀ (i no : Nat) (ws : List (List UInt8)), T[i]? = some (no, ws) → xs[2 * i]? = some (.int .i64 (no : Int)) ∧ ∃ wv, xs[2 * i + 1]? = some wv ∧ StrC B w wv ws)
    (hs : StrC B w wv ws) (ho : w'.ownsRow B E 2 v' (T.length + 1) (xs ++ [.int .i64 (no : Int), wv])) (hg : w.grownBy w' v.ownBlock) : LinesC E B w' v' (T ++ [(no, ws)]) := by
  have hr : ∀ g, v.ownBlock = some g → ∃ cur fr, w.heap[g]? = some (.cells cur E fr) := by
    intro g hg
    rcases h1.2 with ⟨a, _⟩ | ⟨g', cap, cur, a, _, c, _⟩
    · rw [a] at hg; cases hg
    · rw [a] at hg
      cases hg
      exact ⟨cur, _, c⟩
  have hlen : xs.length = T.length * 2 := h1.1
  refine ⟨_, by simpa using ho, fun i no' ws' hi => ?_⟩
  by_cases hlt : i < T.length
  · rw [List.getElem?_append_left hlt] at hi
    obtain ⟨a, wv', b, c⟩ := h2 i no' ws' hi
    exact ⟨by rw [List.getElem?_append_left (by omega)]; exact a, wv', by rw [List.getElem?_append_left (by omega)]; exact b, c.grown hE hg hr⟩
  · have hle : i < (T ++ [(no, ws)]).length := (List.getElem?_eq_some_iff.1 hi).1
    have : i = T.length := by simp at hle; omega
    subst this
    rw [List.getElem?_append_right (Nat.le_refl _), Nat.sub_self] at hi
    cases hi
    refine ⟨?_, wv, ?_, hs.grown hE hg hr⟩
    · rw [List.getElem?_append_right (by omega), show 2 * T.length - xs.length = 0 from by omega]; rfl
    · rw [List.getElem?_append_right (by omega), show 2 * T.length + 1 - xs.length = 1 from by omega]; rfl
theorem LinesC.read {E B : Nat} {w : World} {v : Value} {T : List (Nat × List (List UInt8))} (h : LinesC E B w v T) :
    ∃ p cap, v = .slice p T.length cap ∧ T.length ≤ cap ∧ cap ≤ 9223372036854775807 ∧ ∀ (i no : Nat) (ws : List (List UInt8)), T[i]? = some (no, ws) → ∃ g, p = some ⟨g, 0, none⟩ ∧ w.cell? ⟨g, 2 * i, none⟩ = some (.int .i64 (no : Int)) ∧ ∃ q c, w.cell? ⟨g, 2 * i + 1, none⟩ = some (.slice q ws.length c) ∧ StrC B w (.slice q ws.length c) ws := by
  obtain ⟨xs, h1, h2⟩ := h
  rcases h1.2 with ⟨a, b⟩ | ⟨g, cap, cur, a, a2, a3, a4, a5, _⟩
  · refine ⟨none, 0, by rw [a, b], by omega, by omega, fun i no ws hi => ?_⟩
    have := (List.getElem?_eq_some_iff.1 hi).1
    omega
  · subst a
    refine ⟨_, cap, rfl, a4, a5, fun i no ws hi => ?_⟩
    obtain ⟨x, wv, y, z⟩ := h2 i no ws hi
    have hlt : i < T.length := (List.getElem?_eq_some_iff.1 hi).1
    obtain ⟨q, c, rfl⟩ := z.shape
    exact ⟨g, rfl, by rw [h1.cellAt _ (by omega)]; exact x, q, c, by rw [h1.cellAt _ (by omega)]; exact y, z⟩
end Go.Tx

namespace Go.Tx
open Go.RowKit
/-- What holds at the head of a round. -/
structure RI (w : World) (l : List UInt8) (n k N F : Nat) (out no fr : Value) (wr : World) (T : List (Nat × List (List UInt8))) : Prop where
  no : no = .int .i64 (N : Int)
  fr : fr = .int .i64 (F : Int)
  told : LinesC 168 w.heap.size wr out T
  go : k ≤ n → F ≤ k ∧ toldG 1 [] l = T ++ toldG (N + 1) ((l.take k).drop F) (l.drop k)
  done : n < k → toldG 1 [] l = T
  few : T.length ≤ N
  few2 : N ≤ k
  bel : Below w.heap.size w wr
theorem toldG_step {l : List UInt8} {k N F : Nat} {b : UInt8} (h : l[k]? = some b) (hF : F ≤ k) (hb : ¬ b = 10) : toldG N ((l.take k).drop F) (l.drop k) = toldG N ((l.take (k + 1)).drop F) (l.drop (k + 1)) := by
  have hk := (List.getElem?_eq_some_iff.1 h).1
  have e : l.drop k = b :: l.drop (k + 1) := by
    rw [List.drop_eq_getElem_cons hk]
    rw [List.getElem?_eq_getElem hk] at h
    cases h
    rfl
  rw [e, toldG, if_neg hb, take_succ' l k b h, List.drop_append_of_le_length (by rw [List.length_take]; omega)]
theorem toldG_cut {l : List UInt8} {k N F : Nat} {b : UInt8} (h : l[k]? = some b) (hb : b = 10) : toldG N ((l.take k).drop F) (l.drop k) = tell N ((l.take k).drop F) ++ toldG (N + 1) ((l.take (k + 1)).drop (k + 1)) (l.drop (k + 1)) := by
  have hk := (List.getElem?_eq_some_iff.1 h).1
  have e : l.drop k = b :: l.drop (k + 1) := by
    rw [List.drop_eq_getElem_cons hk]
    rw [List.getElem?_eq_getElem hk] at h
    cases h
    rfl
  have e2 : (l.take (k + 1)).drop (k + 1) = [] := List.drop_of_length_le (by rw [List.length_take]; omega)
  rw [e, toldG, if_pos hb, e2]
theorem toldG_last {l : List UInt8} {n N F : Nat} (h : l.length = n) : toldG N ((l.take n).drop F) (l.drop n) = tell N ((l.take n).drop F) := by
  have e : l.drop n = [] := List.drop_of_length_le (by omega)
  rw [e]
  rfl
theorem RI.start (w : World) (l : List UInt8) (n : Nat) : RI w l n 0 0 0 (.slice none 0 0) (.int .i64 0) (.int .i64 0) w [] :=
  ⟨rfl, rfl, LinesC.nil _ _ _, fun _ => ⟨Nat.le_refl _, by simp⟩, fun h => by omega, Nat.zero_le _, Nat.le_refl _, Below.refl _ _⟩
theorem RI.skip {w wr : World} {l : List UInt8} {n k N F : Nat} {out no fr : Value} {T : List (Nat × List (List UInt8))} {b : UInt8} (h : RI w l n k N F out no fr wr T) (hl : l.length = n) (hb : l[k]? = some b) (h10 : ¬ b = 10) : RI w l n (k + 1) N F out no fr wr T := by
  have hk := (List.getElem?_eq_some_iff.1 hb).1
  obtain ⟨h1, h2⟩ := h.go (by omega)
  exact ⟨h.no, h.fr, h.told, fun _ => ⟨by omega, by rw [h2, toldG_step hb h1 h10]⟩, fun h => by omega, h.few, by have := h.few2; omega, h.bel⟩
/-- A line ends; nothing is told of it. -/
theorem RI.none {w wr w' : World} {l : List UInt8} {n k N F : Nat} {out no fr : Value} {T : List (Nat × List (List UInt8))} (h : RI w l n k N F out no fr wr T) (hl : l.length = n) (hk : k ≤ n) (hb : k < n → l[k]? = some 10)
    (hw : wordsOf ((l.take k).drop F) = []) (hbel : Below wr.heap.size wr w') : RI w l n (k + 1) (N + 1) (k + 1) out (.int .i64 ((N + 1 : Nat) : Int)) (.int .i64 ((k + 1 : Nat) : Int)) w' T := by
  obtain ⟨h1, h2⟩ := h.go hk
  have ht : tell (N + 1) ((l.take k).drop F) = [] := by simp [tell, hw]
  refine ⟨rfl, rfl, h.told.below hbel, fun h3 => ⟨Nat.le_refl _, ?_⟩, fun h3 => ?_, by have := h.few; omega, by have := h.few2; omega, h.bel.trans (hbel.mono h.bel.size)⟩
  · rw [h2, toldG_cut (hb (by omega)) rfl, ht, List.nil_append]
  · have : k = n := by omega
    subst this
    rw [h2, toldG_last hl, ht, List.append_nil]
/-- A line ends; its words are told. -/
theorem RI.some {w wr _w4 w' : World} {l : List UInt8} {n k N F : Nat} {out out' no fr _wv : Value} {_xs : List Value} {T : List (Nat × List (List UInt8))} (h : RI w l n k N F out no fr wr T) (hl : l.length = n) (hk : k ≤ n) (hb : k < n → l[k]? = some 10)
    (hw : ¬ wordsOf ((l.take k).drop F) = []) (hbel : Below w.heap.size w w') (ht' : LinesC 168 w.heap.size w' out' (T ++ [(N + 1, wordsOf ((l.take k).drop F))])) : RI w l n (k + 1) (N + 1) (k + 1) out' (.int .i64 ((N + 1 : Nat) : Int)) (.int .i64 ((k + 1 : Nat) : Int)) w' (T ++ [(N + 1, wordsOf ((l.take k).drop F))]) := by
  obtain ⟨h1, h2⟩ := h.go hk
  have ht : tell (N + 1) ((l.take k).drop F) = [(N + 1, wordsOf ((l.take k).drop F))] := by simp [tell, hw]
  refine ⟨rfl, rfl, ht', fun h3 => ⟨Nat.le_refl _, ?_⟩, fun h3 => ?_, by have := h.few; simp; omega, by have := h.few2; omega, hbel⟩
  · rw [h2, toldG_cut (hb (by omega)) rfl, ht, List.append_assoc]
  · have : k = n := by omega
    subst this
    rw [h2, toldG_last hl, ht]
end Go.Tx
namespace Go.Proofs.YtogdkmkganpaaaaGreatDoor
open Go.RowKit Go.Lib Go.Tx Go.Proofs
end Go.Proofs.YtogdkmkganpaaaaGreatDoor

namespace Go.Proofs.YtogdkmkganpaaaaGreatDoor
open Go.RowKit Go.Lib Go.Tx
/-- A value that reads as texts. -/
def TextsIn (w : World) (v : Value) (zs : List (List UInt8)) : Prop :=
  (v = .slice none 0 0 ∧ zs = []) ∨ ∃ ad c, v = .slice (some ad) zs.length c ∧ ∀ (i : Nat) l, zs[i]? = some l → w.cell? (ad.add i) = some (strV l)
theorem StrC.texts {B : Nat} {w : World} {v : Value} {ws : List (List UInt8)} (h : StrC B w v ws) : TextsIn w v ws := by
  rcases h.2 with ⟨a, b⟩ | ⟨g, cap, cur, a, a2, a3, a4, a5, a6⟩
  · refine .inl ⟨a, ?_⟩
    have := h.1
    cases ws
    · rfl
    · simp at b
  · refine .inr ⟨⟨g, 0, none⟩, cap, a, fun i l hi => ?_⟩
    have := World.ownsRow.cells h (g := g) (by rw [a]; rfl) i (strV l) (by rw [List.getElem?_map, hi]; rfl)
    exact this
theorem TextsIn.below {w w' : World} {v : Value} {zs : List (List UInt8)} (h : TextsIn w v zs) (hb : Below w.heap.size w w') : TextsIn w' v zs := by
  rcases h with h | ⟨ad, c, h1, h2⟩
  · exact .inl h
  · refine .inr ⟨ad, c, h1, fun i l hi => ?_⟩
    have hc := h2 i l hi
    have hlt : (ad.add i).block < w.heap.size := by
      unfold World.cell? at hc
      split at hc
      · rename_i hh
        exact (Array.getElem?_eq_some_iff.1 hh).1
      · cases hc
    rw [hb.cell hlt]
    exact hc
theorem infoStr : (Tryz.prog.info? 9).map (fun i => (i.zero, i.size, i.bytes)) = some (some (.string ⟨#[]⟩), 1, 16) := by kernel_rfl
theorem wpList_append_texts {w : World} {ops : Array Oper} {rest : List Oper} {o : Oper} {a : Act} {Q : Exit → Act → World → Prop} (hgd : o.guard = none) (s x : Operand)
    (ho : o.op = .call { callee := .builtin .append, args := #[s, x], argTypes := #[70, 70] }) {B : Nat} {v y : Value} {ws zs : List (List UInt8)} (hs : a.eval s = v) (hx : a.eval x = y) (hown : StrC B w v ws) (hsrc : TextsIn w y zs)
    (hlen : ws.length + zs.length ≤ 1000000) (hB : B ≤ w.heap.size) (h : ∀ v' w', StrC B w' v' (ws ++ zs) → Below B w w' → wpList Tryz.prog ops Q rest (a.put o.dst v') w') : wpList Tryz.prog ops Q (o :: rest) a w := by
  obtain ⟨i9, hi, hz0, hz1, hz2⟩ := info_parts infoStr
  rcases hsrc with ⟨rfl, rfl⟩ | ⟨ad, c, rfl, hcell⟩
  · exact wpList_append_own_none hgd s x 70 ho B 9 i9 1 Tryz.underlying70 hi v ws.length (ws.map strV) hs hown hx (h v w (by rw [List.append_nil]; exact hown) (Below.refl B w))
  · refine wpList_append_own w hgd s x 70 ho B 9 i9 (.string ⟨#[]⟩) 1 16 Tryz.underlying70 hi hz0 hz1 hz2 rfl (by decide) v ws.length (ws.map strV) hs hown ad zs.length c (zs.map strV) hx (by simp) (fun j u hj => ?_) ?_ (by unfold maxLen; omega) (by omega) hB fun v' w' h1 h2 h3 => ?_
    · rw [List.getElem?_map] at hj
      obtain ⟨l, hl, rfl⟩ := Option.map_eq_some_iff.1 hj
      exact hcell j l hl
    · intro u hu
      obtain ⟨l, _, rfl⟩ := List.mem_map.1 hu
      rfl
    · refine h v' w' ?_ ?_
      · unfold StrC
        rw [List.length_append, List.map_append]
        exact h1
      · exact (Below.refl B w).grown h2 hB (fun g hg => (World.ownsRow.lt hown g hg).1)
end Go.Proofs.YtogdkmkganpaaaaGreatDoor

namespace Go.Proofs.YtogdkmkganpaaaaGreatDoor
open Go.RowKit Go.Lib Go.Tx
/-- Settings as a value. -/
def SetV (B : Nat) (w : World) (v : Value) (S : SetL) : Prop := ∃ v1 v2, v = .agg #[v1, v2, .int .i64 S.dots, .int .i64 S.tmo, .int .i64 S.att, .bool S.rot] ∧ StrC B w v1 S.servers ∧ StrC B w v2 S.search
theorem SetV.below {B : Nat} {w w' : World} {v : Value} {S : SetL} (h : SetV B w v S) (hb : Below w.heap.size w w') : SetV B w' v S := by
  obtain ⟨v1, v2, rfl, h1, h2⟩ := h
  exact ⟨v1, v2, rfl, own_below h1 hb, own_below h2 hb⟩
end Go.Proofs.YtogdkmkganpaaaaGreatDoor

namespace Go.Tx
open Go.Lib
theorem takeH {α : Type} {T : List α} {k : Nat} {t : α} (h : T[k]? = some t) : T.take (k + 1) = T.take k ++ [t] := by
  have hk := (List.getElem?_eq_some_iff.1 h).1
  rw [List.getElem?_eq_getElem hk] at h
  cases h
  exact List.take_succ_eq_append_getElem hk
/-! ### How long words are -/
theorem stepW_word {n : Nat} {u : List UInt8 × List (List UInt8)} {c : UInt8} (h1 : u.1.length ≤ n) (h2 : ∀ x ∈ u.2, x.length ≤ n) : (stepW blankN u c).1.length ≤ n + 1 ∧ ∀ x ∈ (stepW blankN u c).2, x.length ≤ n + 1 := by
  unfold stepW
  split
  · split
    · exact ⟨by simp, fun x hx => Nat.le_succ_of_le (h2 x hx)⟩
    · refine ⟨by simp, fun x hx => ?_⟩
      rcases List.mem_append.1 hx with hx | hx
      · exact Nat.le_succ_of_le (h2 x hx)
      · rw [List.mem_singleton.1 hx]; omega
  · exact ⟨by simp; omega, fun x hx => Nat.le_succ_of_le (h2 x hx)⟩
theorem fold_word : ∀ (l : List UInt8) (n : Nat) (u : List UInt8 × List (List UInt8)), u.1.length ≤ n → (∀ x ∈ u.2, x.length ≤ n) → (l.foldl (stepW blankN) u).1.length ≤ n + l.length ∧ ∀ x ∈ (l.foldl (stepW blankN) u).2, x.length ≤ n + l.length
  | [], n, u, h1, h2 => ⟨h1, h2⟩
  | c :: l, n, u, h1, h2 => by
    have h3 := stepW_word (c := c) h1 h2
    have h4 := fold_word l (n + 1) _ h3.1 h3.2
    rw [List.foldl_cons, List.length_cons]
    exact ⟨by omega, fun x hx => by have := h4.2 x hx; omega⟩
theorem hashCut_len (l : List UInt8) : (hashCut l).length ≤ l.length := by
  unfold hashCut
  exact (List.takeWhile_sublist _).length_le
theorem wordsOf_few (l : List UInt8) : (wordsOf l).length ≤ 513 ∧ ∀ x ∈ wordsOf l, x.length ≤ 512 := by
  unfold wordsOf
  cases hb : badSeg l with
  | true => simp
  | false =>
    simp only [Bool.false_eq_true, if_false]
    have hl : l.length ≤ 512 := by
      unfold badSeg at hb
      simp only [Bool.or_eq_false_iff, decide_eq_false_iff_not] at hb
      omega
    have hc := hashCut_len l
    have h1 := fold_len (hashCut l) ([], [])
    have h2 := fold_word (hashCut l) 0 ([], []) (by simp) (by simp)
    unfold wordsL closeW
    simp only [List.length_nil, Nat.zero_add] at h1 h2
    split
    · exact ⟨by omega, fun x hx => by have := h2.2 x hx; omega⟩
    · refine ⟨by simp; omega, fun x hx => ?_⟩
      rcases List.mem_append.1 hx with hx | hx
      · have := h2.2 x hx; omega
      · rw [List.mem_singleton.1 hx]; omega
/-- A line that is told. -/
structure FineL (ws : List (List UInt8)) : Prop where
  ne : ws ≠ []
  few : ws.length ≤ 513
  word : ∀ x ∈ ws, x.length ≤ 512
theorem tell_fine (no : Nat) (l : List UInt8) : ∀ t ∈ tell no l, FineL t.2 := by
  intro t ht
  unfold tell at ht
  split at ht
  · simp at ht
  · rename_i h
    rw [List.mem_singleton.1 ht]
    exact ⟨h, (wordsOf_few l).1, (wordsOf_few l).2⟩
theorem tell_few (no : Nat) (l : List UInt8) : (tell no l).length ≤ 1 := by
  unfold tell
  split <;> simp
theorem toldG_fine : ∀ (l : List UInt8) (no : Nat) (cur : List UInt8), (∀ t ∈ toldG no cur l, FineL t.2) ∧ (toldG no cur l).length ≤ l.length + 1
  | [], no, cur => ⟨tell_fine no cur, tell_few no cur⟩
  | c :: l, no, cur => by
    unfold toldG
    split
    · have h := toldG_fine l (no + 1) []
      have h2 := tell_few no cur
      refine ⟨fun t ht => ?_, by simp; omega⟩
      rcases List.mem_append.1 ht with ht | ht
      · exact tell_fine no cur t ht
      · exact h.1 t ht
    · have h := toldG_fine l no (cur ++ [c])
      exact ⟨h.1, by simp; omega⟩
end Go.Tx
namespace Go.Proofs.YtogdkmkganpaaaaGreatDoor
open Go.RowKit Go.Lib Go.Tx
/-- All blocks below B but b are as they were. -/
structure Keep (B b : Nat) (a w : World) : Prop where
  os : w.os = a.os
  tape : w.tape = a.tape
  output : w.output = a.output
  size : a.heap.size ≤ w.heap.size
  block : ∀ k, k < B → k ≠ b → w.heap[k]? = a.heap[k]?
theorem Keep.refl (B b : Nat) (w : World) : Keep B b w w := ⟨rfl, rfl, rfl, Nat.le_refl _, fun _ _ _ => rfl⟩
theorem Keep.below {B b : Nat} {a w w' : World} (h : Keep B b a w) (hB : B ≤ w.heap.size) (k : Below w.heap.size w w') : Keep B b a w' :=
  ⟨k.os.trans h.os, k.tape.trans h.tape, k.output.trans h.output, Nat.le_trans h.size k.size, fun j h1 h2 => (k.block j (by omega)).trans (h.block j h1 h2)⟩
theorem Keep.set {B b : Nat} {a w : World} (h : Keep B b a w) (j : Nat) (v : Value) : Keep B b a (w.setCell ⟨b, j, none⟩ v) :=
  ⟨h.os, h.tape, h.output, by have := h.size; simpa [World.setCell] using this, fun k h1 h2 => by
    rw [← h.block k h1 h2]
    simp [World.setCell, Array.getElem?_modify]
    intro e
    omega⟩
theorem Keep.grown {B b : Nat} {a w w' : World} {row : Option Nat} (h : Keep B b a w) (hB : B ≤ w.heap.size) (g : w.grownBy w' row) (hr : ∀ k, row = some k → B ≤ k) : Keep B b a w' :=
  ⟨g.os.trans h.os, g.tape.trans h.tape, g.output.trans h.output, Nat.le_trans h.size g.size, fun j h1 h2 => (g.block j (by omega) (fun e => by have := hr j e.symm; omega)).trans (h.block j h1 h2)⟩
theorem Keep.cell {B b : Nat} {a w : World} (h : Keep B b a w) {p : Addr} (hp : p.block < B) (hn : p.block ≠ b) : w.cell? p = a.cell? p := World.cell?_of_block (w := a) (h.block p.block hp hn)
theorem setE_ne {w : World} {b c : Nat} (h : c ≠ b) (j : Nat) (v : Value) : (w.setCell ⟨b, j, none⟩ v).heap[c]? = w.heap[c]? := by
  simp [World.setCell, Array.getElem?_modify]
  intro e
  omega
theorem setE_eq {w : World} {b j : Nat} {cs : Array Value} {y : Value} {e : TypeId} {fr : Nat × Nat} (h : w.heap[b]? = some (.cells cs e fr)) : (w.setCell ⟨b, j, none⟩ y).heap[b]? = some (.cells (cs.setIfInBounds j y) e fr) := by
  simp [World.setCell, Array.getElem?_modify, h]
theorem setE_size {w : World} {b j : Nat} {y : Value} : (w.setCell ⟨b, j, none⟩ y).heap.size = w.heap.size := by simp [World.setCell]
theorem strc_set {B b j : Nat} {w : World} {v u : Value} {ws : List (List UInt8)} (h : StrC B w v ws) (hb : b < B) : StrC B (w.setCell ⟨b, j, none⟩ u) v ws := by
  refine ⟨h.1, ?_⟩
  rcases h.2 with h0 | ⟨g, cap, cur, q1, q2, q3, q4⟩
  · exact .inl h0
  · refine .inr ⟨g, cap, cur, q1, q2, ?_, q4⟩
    rw [setE_ne (by omega)]
    exact q3
theorem strc_less {B B' : Nat} {w : World} {v : Value} {ws : List (List UInt8)} (h : StrC B w v ws) (hb : B' ≤ B) : StrC B' w v ws := by
  refine ⟨h.1, ?_⟩
  rcases h.2 with h0 | ⟨g, cap, cur, q1, q2, q3⟩
  · exact .inl h0
  · exact .inr ⟨g, cap, cur, q1, by omega, q3⟩
/-- Settings in the block b, their rows from B on. -/
structure SetAt (a : World) (B b : Nat) (v1 v2 : Value) (S : SetL) (w : World) : Prop where
  blk : w.heap[b]? = some (.cells #[v1, v2, .int .i64 S.dots, .int .i64 S.tmo, .int .i64 S.att, .bool S.rot] 109 (0, 0))
  srv : StrC B w v1 S.servers
  sea : StrC B w v2 S.search
  two : ∀ g, v1.ownBlock = some g → v2.ownBlock ≠ some g
  low : b < B
  top : B ≤ w.heap.size
  kp : Keep B b a w
theorem SetAt.below {a w w' : World} {B b : Nat} {v1 v2 : Value} {S : SetL} (h : SetAt a B b v1 v2 S w) (hb : Below w.heap.size w w') : SetAt a B b v1 v2 S w' :=
  ⟨(hb.block b (by have := h.low; have := h.top; omega)).trans h.blk, own_below h.srv hb, own_below h.sea hb, h.two, h.low, Nat.le_trans h.top hb.size, h.kp.below h.top hb⟩
theorem SetAt.cells {a w : World} {B b : Nat} {v1 v2 : Value} {S : SetL} (h : SetAt a B b v1 v2 S w) : (w.cell? ⟨b, 0, none⟩ = some v1 ∧ w.cell? ⟨b, 1, none⟩ = some v2 ∧ w.cell? ⟨b, 2, none⟩ = some (.int .i64 S.dots) ∧ w.cell? ⟨b, 3, none⟩ = some (.int .i64 S.tmo) ∧ w.cell? ⟨b, 4, none⟩ = some (.int .i64 S.att) ∧ w.cell? ⟨b, 5, none⟩ = some (.bool S.rot)) ∧
    (w.frozen? ⟨b, 0, none⟩ = false ∧ w.frozen? ⟨b, 1, none⟩ = false ∧ w.frozen? ⟨b, 2, none⟩ = false ∧ w.frozen? ⟨b, 3, none⟩ = false ∧ w.frozen? ⟨b, 4, none⟩ = false ∧ w.frozen? ⟨b, 5, none⟩ = false) := by
  have hb := h.blk
  refine ⟨⟨?_, ?_, ?_, ?_, ?_, ?_⟩, ⟨?_, ?_, ?_, ?_, ?_, ?_⟩⟩ <;> simp [World.cell?, World.frozen?, hb]
theorem SetAt.setN {a w : World} {B b : Nat} {v1 v2 : Value} {S : SetL} (h : SetAt a B b v1 v2 S w) : ∀ x, SetAt a B b v1 v2 ⟨S.servers, S.search, x, S.tmo, S.att, S.rot⟩ (w.setCell ⟨b, 2, none⟩ (.int .i64 x)) := fun x =>
  ⟨setE_eq h.blk, strc_set h.srv h.low, strc_set h.sea h.low, h.two, h.low, by rw [setE_size]; exact h.top, h.kp.set 2 _⟩
theorem SetAt.setT {a w : World} {B b : Nat} {v1 v2 : Value} {S : SetL} (h : SetAt a B b v1 v2 S w) : ∀ x, SetAt a B b v1 v2 ⟨S.servers, S.search, S.dots, x, S.att, S.rot⟩ (w.setCell ⟨b, 3, none⟩ (.int .i64 x)) := fun x =>
  ⟨setE_eq h.blk, strc_set h.srv h.low, strc_set h.sea h.low, h.two, h.low, by rw [setE_size]; exact h.top, h.kp.set 3 _⟩
theorem SetAt.setA {a w : World} {B b : Nat} {v1 v2 : Value} {S : SetL} (h : SetAt a B b v1 v2 S w) : ∀ x, SetAt a B b v1 v2 ⟨S.servers, S.search, S.dots, S.tmo, x, S.rot⟩ (w.setCell ⟨b, 4, none⟩ (.int .i64 x)) := fun x =>
  ⟨setE_eq h.blk, strc_set h.srv h.low, strc_set h.sea h.low, h.two, h.low, by rw [setE_size]; exact h.top, h.kp.set 4 _⟩
theorem SetAt.setR {a w : World} {B b : Nat} {v1 v2 : Value} {S : SetL} (h : SetAt a B b v1 v2 S w) : ∀ x, SetAt a B b v1 v2 ⟨S.servers, S.search, S.dots, S.tmo, S.att, x⟩ (w.setCell ⟨b, 5, none⟩ (.bool x)) := fun x =>
  ⟨setE_eq h.blk, strc_set h.srv h.low, strc_set h.sea h.low, h.two, h.low, by rw [setE_size]; exact h.top, h.kp.set 5 _⟩
theorem SetAt.al {a w : World} {B b : Nat} {v1 v2 : Value} {S : SetL} (h : SetAt a B b v1 v2 S w) (o : Obj) : SetAt a B b v1 v2 S (w.alloc o) := h.below ((Below.refl _ _).alloc (Nat.le_refl _) o)
theorem SetAt.grS {a w w' : World} {B b : Nat} {v1 v2 : Value} {S : SetL} (h : SetAt a B b v1 v2 S w) (hg : w.grownBy w' v1.ownBlock) : w'.cell? ⟨b, 0, none⟩ = some v1 ∧ w'.frozen? ⟨b, 0, none⟩ = false := by
  have hb := h.low
  have ht := h.top
  have hblk := (hg.block b (by omega) (fun e => by have := (World.ownsRow.lt h.srv b e.symm).1; omega)).trans h.blk
  simp [World.cell?, World.frozen?, hblk]
/-- A server more: behind the append. -/
theorem SetAt.pushS {a w w' : World} {B b g cap : Nat} {v1 v2 : Value} {S : SetL} {x : List UInt8} (h : SetAt a B b v1 v2 S w)
    (ho : w'.ownsRow B 9 1 (.slice (some ⟨g, 0, none⟩) (S.servers.length + 1) cap) (S.servers.length + 1) (S.servers.map strV ++ [.string ⟨x.toArray⟩])) (hg : w.grownBy w' v1.ownBlock) (hat : v1.ownBlock = some g ∨ g = w.heap.size) :
    SetAt a B b (.slice (some ⟨g, 0, none⟩) (S.servers.length + 1) cap) v2 ⟨S.servers ++ [x], S.search, S.dots, S.tmo, S.att, S.rot⟩ (w'.setCell ⟨b, 0, none⟩ (.slice (some ⟨g, 0, none⟩) (S.servers.length + 1) cap)) := by
  have hlow : ∀ k, v1.ownBlock = some k → B ≤ k := fun k hk => (World.ownsRow.lt h.srv k hk).1
  have hb := h.low
  have ht := h.top
  have hne : some b ≠ v1.ownBlock := fun e => by have := hlow b e.symm; omega
  have hblk := (hg.block b (by omega) hne).trans h.blk
  have hkv : v2.ownBlock = none ∨ v2.ownBlock ≠ v1.ownBlock := by
    cases hv : v2.ownBlock with
    | none => exact .inl rfl
    | some k => exact .inr (fun e => h.two k e.symm hv)
  refine ⟨setE_eq hblk, ?_, strc_set (World.ownsRow.kept h.sea hg hkv) hb, ?_, hb, by rw [setE_size]; exact Nat.le_trans ht hg.size, (h.kp.grown ht hg hlow).set 0 _⟩
  · refine strc_set ?_ hb
    unfold StrC
    rw [List.length_append, List.map_append]
    exact ho
  · intro k hk e
    have hk' : g = k := by simpa [Value.ownBlock] using hk
    subst hk'
    rcases hat with h1 | h1
    · exact h.two g h1 e
    · have := (World.ownsRow.lt h.sea g e).2
      omega
end Go.Proofs.YtogdkmkganpaaaaGreatDoor

namespace Go.Proofs.YtogdkmkganpaaaaGreatDoor
open Go.RowKit Go.Lib Go.Tx Go.Rb Go.Ev
/-- Where bytes lie. -/
theorem RB.cells {B : Nat} {w : World} {p : Option Addr} {n c : Nat} {l : List UInt8} (h : RB B w (.slice p n c) l) (h0 : 0 < l.length) : ∃ ad, p = some ad ∧ ad.block < w.heap.size ∧ ∀ j v, (vbytes l)[j]? = some v → w.cell? (ad.add j) = some v := by
  rcases h with ⟨h1, rfl⟩ | ⟨b, cap, h1, _, h3, hr⟩
  · simp at h0
  · cases h1
    refine ⟨⟨b, 0, none⟩, rfl, ?_, fun j v hj => ?_⟩
    · obtain ⟨arr, lo, hi, e, _⟩ := hr
      exact (Array.getElem?_eq_some_iff.1 e).1
    · have ha : (⟨b, 0, none⟩ : Addr).add j = ⟨b, j, none⟩ := by unfold Addr.add; split <;> simp_all
      rw [ha]
      unfold vbytes at hj
      rw [List.getElem?_map] at hj
      obtain ⟨x, hx, rfl⟩ := Option.map_eq_some_iff.1 hj
      exact hr.cell hx
end Go.Proofs.YtogdkmkganpaaaaGreatDoor

namespace Go.Proofs.YtogdkmkganpaaaaGreatDoor
open Go.RowKit Go.Lib Go.Tx
theorem lines_word {E B k no : Nat} {w : World} {v : Value} {T : List (Nat × List (List UInt8))} {ws : List (List UInt8)} (h : LinesC E B w v T) (hx : T[k]? = some (no, ws)) (hne : ws ≠ []) :
    ∃ g cap q c, v = .slice (some ⟨g, 0, none⟩) T.length cap ∧ (T.length ≤ cap ∧ cap ≤ 9223372036854775807) ∧ (B ≤ g ∧ g < w.heap.size) ∧ w.cell? ⟨g, 2 * k + 1, none⟩ = some (.slice (some ⟨q, 0, none⟩) ws.length c) ∧ (ws.length ≤ c ∧ c ≤ 9223372036854775807) ∧ (B ≤ q ∧ q < w.heap.size) ∧ ∀ (j : Nat) l, ws[j]? = some l → w.cell? ⟨q, j, none⟩ = some (.string ⟨l.toArray⟩) := by
  obtain ⟨xs, h1, h2⟩ := h
  have hlt : k < T.length := (List.getElem?_eq_some_iff.1 hx).1
  have hlb := World.ownsRow.lt h1
  rcases h1.2 with ⟨a, b⟩ | ⟨g, cap, cur, a, a2, a3, a4, a5, _⟩
  · omega
  · subst a
    obtain ⟨x, wv, y, z⟩ := h2 k no ws hx
    obtain ⟨q, c, rfl⟩ := z.shape
    obtain ⟨p', c', e, hc1, hc2, hr⟩ := z.read
    cases e
    obtain ⟨l0, hl0⟩ : ∃ l, ws[0]? = some l := by cases ws with | nil => exact absurd rfl hne | cons l r => exact ⟨l, rfl⟩
    obtain ⟨q', rfl, _⟩ := hr 0 l0 hl0
    have hq := World.ownsRow.lt z q' rfl
    refine ⟨g, cap, q', c, rfl, ⟨a4, a5⟩, hlb g rfl, ?_, ⟨hc1, hc2⟩, hq, fun j l hj => ?_⟩
    · rw [h1.cellAt _ (by omega)]; exact y
    · obtain ⟨g', e, hcell⟩ := hr j l hj
      cases e
      exact hcell.2
theorem results_rowE {P : Program} {fn : Func} {p : Tmp} {ty : TypeId} (h : fn.results = #[.cell p ty]) (tmps : Array Value) (w : World) (g : Nat) (t : TypeId) (cs : Array Value) (fr : Nat × Nat) (d : TypeDesc)
    (hp : tmps.getD p undef = .pointer (some ⟨g, 0, none⟩)) (hg : w.heap[g]? = some (.cells cs t fr))
    (hu : P.underlying ty = some d) (hd : (match d with | .struct _ | .array _ _ => true | _ => false) = true) (hi : (P.info? ty).map (·.size) = some cs.size) :
    (results fn tmps).run P w = .ok (.agg cs) w := by
  have hp' : tmps[p]?.getD undef = .pointer (some ⟨g, 0, none⟩) := by rw [← hp]; simp [Array.getD_eq_getD_getElem?]
  simp only [results, h]
  simp [hp', asAddr, run_loadVar_row w g t ty cs fr d hg hu hd hi]
theorem sz_set : (Tryz.prog.info? 109).map (·.size) = some 6 := by kernel_rfl
theorem belE_set {B : Nat} {W w : World} (h : Below B W w) {b : Nat} (hb : B ≤ b) (j : Nat) (v : Value) : Below B W (w.setCell ⟨b, j, none⟩ v) where
  os := h.os
  tape := h.tape
  output := h.output
  size := by have := h.size; simpa [World.setCell] using this
  block := fun k hk => by
    rw [← h.block k hk]
    simp [World.setCell, Array.getElem?_modify]
    intro e
    omega
theorem Keep.bel {B b B0 : Nat} {a w : World} (h : Keep B b a w) (h1 : B0 ≤ b) (h2 : B0 ≤ B) : Below B0 a w := ⟨h.os, h.tape, h.output, h.size, fun k hk => h.block k (by omega) (by omega)⟩
def RSetR (w : World) (S : SetL) (e : Ending) (w' : World) : Prop := ∃ v, e = .returned v ∧ SetV w.heap.size w' v S ∧ Below w.heap.size w w'
theorem info_sE : (Tryz.prog.info? 9).map (fun i => (i.zero, i.size, i.bytes)) = some (some (.string ⟨#[]⟩), 1, 16) := by kernel_rfl
theorem new_cE (w : World) (x : Value) (e : TypeId) : ∀ j u, [x][j]? = some u → (w.alloc (.cells #[x] e)).cell? ((⟨w.heap.size, 0, none⟩ : Addr).add j) = some u := by
  intro j u hj
  have ha : (⟨w.heap.size, 0, none⟩ : Addr).add j = ⟨w.heap.size, j, none⟩ := by unfold Addr.add; split <;> simp_all
  rw [ha, World.cell?_alloc_new]
  simpa using hj

end Go.Proofs.YtogdkmkganpaaaaGreatDoor

namespace Go.Proofs.YtogdkmkganpaaaaGreatDoor
open Go.RowKit Go.Lib Go.Tx
theorem num_len (s : ByteArray) (m : Int) (w : World) (hs : s.size ≤ maxLen) (h : 9 < s.size) :
    Calls Tryz.prog 130 #[.string s, .int .i64 m] w fun e w' => e = .returned (.tuple #[.int .i64 0, .bool false]) ∧ w' = w := by
  unfold maxLen at hs
  go_enter Tryz.func130, Tryz.ntmps130
  go_wp2
  all_goals (go_ret2; exact ⟨rfl, rfl⟩)
theorem num_nil (s : ByteArray) (m : Int) (w : World) (h : s.size = 0) :
    Calls Tryz.prog 130 #[.string s, .int .i64 m] w fun e w' => e = .returned (.tuple #[.int .i64 0, .bool false]) ∧ w' = w := by
  have h1 : s.toList = [] := by
    cases hh : s.toList with
    | nil => rfl
    | cons a l => rw [toList_data] at hh; have := congrArg List.length hh; simp at this; omega
  go_enter Tryz.func130, Tryz.ntmps130
  go_wp2
  all_goals (go_ret2; exact ⟨rfl, rfl⟩)
theorem conv_any (s : ByteArray) (w : World) : ∃ (cap : Nat) (C : Array Value), (convert 9 22 (.string s)).run Tryz.prog w = .ok (.slice (some ⟨w.heap.size, 0, none⟩) s.size cap) (w.drew.alloc (.cells C 5 (C.size, C.size + 1))) ∧
    C.size = cap ∧ s.size ≤ cap ∧ (∀ (k : Nat) (h : k < s.size), C[k]? = some (.int .u8 (s[k].toNat : Int))) ∧ (∀ k, s.size ≤ k → k < cap → C[k]? = some (.int .u8 0)) := by
  have hge := grownCap_ge w s.size 0 5
  refine ⟨grownCap w s.size 0 5, bytesRow s (grownCap w s.size 0 5), run_bytes_of_string w 9 22 5 s Tryz.underlying9 Tryz.underlying22 Tryz.underlying5, ?_, hge, fun k h => ?_, fun k h1 h2 => ?_⟩
  · have : s.data.size = s.size := rfl
    simp [bytesRow, this]; omega
  · exact bytesRow_at s _ k h
  · have : s.data.size = s.size := rfl
    simp only [bytesRow]
    rw [Array.getElem?_append, if_neg (by simp [this]; omega)]
    rw [Array.getElem?_replicate, if_pos (by simp [this]; omega)]
theorem cell_new {w : World} {C : Array Value} {e : TypeId} {fr : Nat × Nat} {k : Nat} {v : Value} (h : C[k]? = some v) : (w.alloc (.cells C e fr)).cell? ⟨w.heap.size, k, none⟩ = some v := by
  rw [World.cell?_alloc_mark]; exact h
theorem head_ok (s : ByteArray) (h1 : 1 ≤ s.size) (h0 : ((s[0].toNat : Int) == 48) = false ∨ (((s[0].toNat : Int) == 48) = true ∧ (!s.toList == [48]) = false)) : ¬ (s.data.toList.head? = some 48 ∧ 1 < s.data.toList.length) := by
  rintro ⟨h2, h3⟩
  rw [head_eq s h1] at h2
  rcases h0 with h0 | ⟨_, h0⟩
  · rw [u8_48] at h0
    simp at h0 h2
    exact h0 h2
  · rw [toList_data] at h0
    simp at h0
    rw [h0] at h3
    simp at h3
set_option maxRecDepth 100000 in
theorem num_zero (s : ByteArray) (m : Int) (w : World) (h1 : 1 < s.size) (h9 : s.size ≤ 9) (h0 : ((s[0].toNat : Int) == 48) = true) :
    Calls Tryz.prog 130 #[.string s, .int .i64 m] w fun e w' => e = .returned (.tuple #[.int .i64 0, .bool false]) ∧ w' = w := by
  have hl : s.toList.length = s.size := by rw [toList_data]; rfl
  have e1 : s.toList.isEmpty = false := by
    cases hh : s.toList with
    | nil => rw [hh] at hl; simp at hl; omega
    | cons a l => rfl
  have e2 : ¬ s.toList = [] := by
    intro hh; rw [hh] at hl; simp at hl; omega
  have e3 : (!s.toList == [48]) = true := by
    simp only [Bool.not_eq_true', beq_eq_false_iff_ne]
    intro hh; rw [hh] at hl; simp at hl; omega
  clear hl
  go_enter Tryz.func130, Tryz.ntmps130
  go_wp2
  all_goals (go_ret2; exact ⟨rfl, rfl⟩)
set_option maxHeartbeats 1000000 in
set_option maxRecDepth 100000 in
theorem num_loop (s : ByteArray) (m : Int) (w : World) (h1 : 1 ≤ s.size) (h9 : s.size ≤ 9) (h0 : ((s[0].toNat : Int) == 48) = false ∨ (((s[0].toNat : Int) == 48) = true ∧ (!s.toList == [48]) = false)) :
    Calls Tryz.prog 130 #[.string s, .int .i64 m] w fun e w' => e = .returned (.tuple #[.int .i64 (numRes s.data.toList m).1, .bool (numRes s.data.toList m).2]) ∧ Below w.heap.size w w' := by
  have hl : s.toList.length = s.size := by rw [toList_data]; rfl
  have e1 : s.toList.isEmpty = false := by
    cases hh : s.toList with
    | nil => rw [hh] at hl; simp at hl; omega
    | cons a l => rfl
  have e2 : ¬ s.toList = [] := by
    intro hh; rw [hh] at hl; simp at hl; omega
  clear hl
  obtain ⟨cap, C, hconv, hC1, hC2, hC3, _⟩ := conv_any s w
  have HC1 := Lib.hid hC1
  have HC3 := Lib.hid hC3
  clear hC1 hC3
  have HZ : Hid (¬ (s.data.toList.head? = some 48 ∧ 1 < s.data.toList.length)) := Lib.hid (head_ok s h1 h0)
  rcases h0 with h0 | ⟨h0, h0'⟩
  all_goals
    go_enter Tryz.func130, Tryz.ntmps130
    go_wp2
    go_loop [6, 28] (fun n i => ∃ k : Nat, k ≤ s.size ∧ i = .int .i64 k ∧ n = .int .i64 (val (s.data.toList.take k)) ∧ (s.data.toList.take k).all dig = true) (fun _ i => s.size - (intOf i).toNat)
    case atStart => exact ⟨0, Nat.zero_le _, rfl, rfl, rfl⟩
    case round =>
      obtain ⟨k, hk, rfl, rfl, hall⟩ := hrel
      have hbd := val_bd s k hall h9
      have HALL := Lib.hid hall
      clear hall
      by_cases hlt : k < s.size
      · have hcell := cell_new (w := w) (e := 5) (fr := (C.size, C.size + 1)) (HC3.out k hlt)
        by_cases hlo : (s[k].toNat : Int) < 48
        · go_wp2
          go_ret2
          exact ⟨ret_num (numRes_no _ _ (all_no s k hlt (dig_lo _ hlo))), ((Below.refl _ _).alloc (Nat.le_refl _) _).drew⟩
        · by_cases hhi : 57 < (s[k].toNat : Int)
          · have hlo : 48 ≤ (s[k].toNat : Int) := by omega
            go_wp2
            go_ret2
            exact ⟨ret_num (numRes_no _ _ (all_no s k hlt (dig_hi _ hhi))), ((Below.refl _ _).alloc (Nat.le_refl _) _).drew⟩
          · have hlo : 48 ≤ (s[k].toNat : Int) := by omega
            have hhi : (s[k].toNat : Int) ≤ 57 := by omega
            have HS := Lib.hid (val_step s k hlt (dig_of _ hlo hhi))
            have HA := Lib.hid (all_step s k hlt)
            have hk1 : k + 1 ≤ s.size := hlt
            have HK1 := Lib.hid hk1
            clear hk1
            go_wp2
            go_round
            case rel => exact ⟨k + 1, HK1.out, by go_num, by rw [HS.out], by rw [HA.out, HALL.out, dig_of _ hlo hhi]; rfl⟩
            case measure => simp [intOf]; omega
      · go_wp2
        all_goals
          go_ret2
          have hkk : k = s.size := by omega
          have hall : s.data.toList.all dig = true := by rw [← take_all s k (by omega)]; exact HALL.out
          refine ⟨ret_num ?_, ((Below.refl _ _).alloc (Nat.le_refl _) _).drew⟩
          have ht := take_all s k (by omega)
          rw [numRes_ok _ _ h1 h9 HZ.out hall]
          try rw [ht]
          rw [← ht]
          first | rw [if_pos (by assumption)] | rw [if_neg (by omega)]
end Go.Proofs.YtogdkmkganpaaaaGreatDoor

namespace Go.Proofs.YtogdkmkganpaaaaGreatDoor
open Go.RowKit Go.Lib Go.Tx
theorem num_any (s : ByteArray) (m : Int) (w : World) (hs : s.size ≤ maxLen) :
    Calls Tryz.prog 130 #[.string s, .int .i64 m] w fun e w' => e = .returned (.tuple #[.int .i64 (numRes s.data.toList m).1, .bool (numRes s.data.toList m).2]) ∧ Below w.heap.size w w' := by
  have hl := size_len s
  by_cases h0 : s.size = 0
  · refine (num_nil s m w h0).mono ?_
    rintro e w' ⟨rfl, rfl⟩
    exact ⟨ret_num (numRes_nil _ _ (List.eq_nil_of_length_eq_zero (by omega))), Below.refl _ _⟩
  by_cases h9 : 9 < s.size
  · refine (num_len s m w hs h9).mono ?_
    rintro e w' ⟨rfl, rfl⟩
    exact ⟨ret_num (numRes_len _ _ (by omega)), Below.refl _ _⟩
  cases hz : ((s[0].toNat : Int) == 48) with
  | false => exact num_loop s m w (by omega) (by omega) (.inl hz)
  | true =>
    by_cases h1 : 1 < s.size
    · refine (num_zero s m w h1 (by omega) hz).mono ?_
      rintro e w' ⟨rfl, rfl⟩
      refine ⟨ret_num (numRes_zero _ _ (by omega) ?_), Below.refl _ _⟩
      rw [head_eq s (by omega)]
      rw [u8_48] at hz
      rw [eq_of_beq hz]
    · refine num_loop s m w (by omega) (by omega) (.inr ⟨hz, ?_⟩)
      have h2 : s.data.toList = [s[0]] := by
        apply List.ext_getElem?
        intro j
        cases j with
        | zero => rw [List.getElem?_eq_getElem (by omega)]; rfl
        | succ j => rw [List.getElem?_eq_none (by omega), List.getElem?_eq_none (by simp)]
      rw [u8_48] at hz
      rw [toList_data, h2, eq_of_beq hz]
      rfl
end Go.Proofs.YtogdkmkganpaaaaGreatDoor


namespace Go.Proofs.YtogdkmkganpaaaaGreatDoor
open Go.RowKit Go.Lib Go.Tx
theorem number_any (s : ByteArray) (lo hi set : Int) (w : World) (hs : s.size ≤ maxLen) :
    Calls Tryz.prog 100 #[.string s, .int .i64 lo, .int .i64 hi, .int .i64 set] w fun e w' => e = .returned (.int .i64 (numV s.data.toList lo hi set)) ∧ Below w.heap.size w w' := by
  have HN := Lib.hid (num_any s hi w hs)
  unfold numV
  generalize numRes s.data.toList hi = R at *
  obtain ⟨x, u⟩ := R
  simp only at HN ⊢
  clear hs
  cases u with
  | false =>
    rw [if_neg (by simp)]
    go_enter Tryz.func100, Tryz.ntmps100
    go_wp2_with (go_at_call 130; refine HN.out.mono ?_; rintro e w2 ⟨rfl, hb⟩; have HB := Lib.hid hb; clear hb)
    go_ret
    exact ⟨rfl, HB.out⟩
  | true =>
    by_cases h3 : lo ≤ x
    · rw [if_pos ⟨rfl, h3⟩]
      have h3' : ¬ x < lo := by omega
      go_enter Tryz.func100, Tryz.ntmps100
      go_wp2_with (go_at_call 130; refine HN.out.mono ?_; rintro e w2 ⟨rfl, hb⟩; have HB := Lib.hid hb; clear hb)
      go_ret
      exact ⟨rfl, HB.out⟩
    · rw [if_neg (by rintro ⟨_, h⟩; exact h3 h)]
      have h3' : x < lo := by omega
      go_enter Tryz.func100, Tryz.ntmps100
      go_wp2_with (go_at_call 130; refine HN.out.mono ?_; rintro e w2 ⟨rfl, hb⟩; have HB := Lib.hid hb; clear hb)
      go_ret
      exact ⟨rfl, HB.out⟩

set_option maxHeartbeats 2000000 in
set_option maxRecDepth 100000 in
theorem setOption_any (a : World) (B b : Nat) (v1 v2 : Value) (S : SetL) (y : List UInt8) (w : World) (h : SetAt a B b v1 v2 S w) (hm : MaxAt w) (hy : y.length ≤ 100000) :
    Calls Tryz.prog 64 #[.pointer (some ⟨b, 0, none⟩), .string ⟨y.toArray⟩] w fun e w' => e = .returned (.tuple #[]) ∧ SetAt a B b v1 v2 (optS S y) w' := by
  rw [optS_optC]
  unfold optC
  obtain ⟨m, hm⟩ := hm
  have HS := Lib.hid h
  obtain ⟨⟨p0, p1, p2, p3, p4, p5⟩, ⟨f0, f1, f2, f3, f4, f5⟩⟩ := h.cells
  clear h
  by_cases hr : y = kRo
  · rw [if_pos hr]
    have e0 : (y == [114, 111, 116, 97, 116, 101]) = true := by rw [hr]; decide
    clear hr
    go_enter Tryz.func64, Tryz.ntmps64
    go_wp2
    refine bodyPost_ret (results_none rfl _ _ _) rfl ?_
    exact ⟨rfl, HS.out.setR _⟩
  · rw [if_neg hr]
    have e0 : (y == [114, 111, 116, 97, 116, 101]) = false := by simpa [kRo] using hr
    obtain ⟨hl1, hl2⟩ := cutC_len y
    obtain ⟨X, hX⟩ : ∃ X : ByteArray, (⟨(cutC y).1.toArray⟩ : ByteArray) = X := ⟨_, rfl⟩
    obtain ⟨Y, hY⟩ : ∃ Y : ByteArray, (⟨(cutC y).2.toArray⟩ : ByteArray) = Y := ⟨_, rfl⟩
    have hXd : X.data.toList = (cutC y).1 := by rw [← hX]
    have hYd : Y.data.toList = (cutC y).2 := by rw [← hY]
    have hYs : Y.size ≤ maxLen := by
      have : Y.data.toList.length = Y.size := rfl
      rw [hYd] at this
      unfold maxLen
      omega
    have HC : Hid (∀ W : World, W = w → Calls Tryz.prog 99 #[.string ⟨y.toArray⟩, .string ⟨#[58]⟩] W fun e w' => ∃ x3, e = .returned (.tuple #[.string X, .string Y, x3]) ∧ ∃ q, w' = W.drewN q) := Lib.hid (fun W hW => by
      subst hW
      refine (Tryz.strings_Cut ⟨y.toArray⟩ ⟨#[58]⟩ m W (by show y.length < _; omega) hm).mono fun e w' h => ⟨.bool (Lib.cut y [58]).2.2, ?_, h.2⟩
      rw [h.1, ← hX, ← hY]
      rfl)
    have HN : Hid (∀ (lo hi set : Int) (W : World), Calls Tryz.prog 100 #[.string Y, .int .i64 lo, .int .i64 hi, .int .i64 set] W fun e w' => e = .returned (.int .i64 (numV (cutC y).2 lo hi set)) ∧ Below W.heap.size W w') := Lib.hid (fun lo hi set W => by
      have := number_any Y lo hi set W hYs
      rw [hYd] at this
      exact this)
    generalize (cutC y).2 = vy at *
    generalize (cutC y).1 = ky at *
    have eX : ∀ l : List UInt8, (X.toList == l) = decide (ky = l) := fun l => by
      rw [Go.Lib.toList_data, hXd, Bool.eq_iff_iff]
      simp only [beq_iff_eq, decide_eq_true_eq]
    clear hX hY hXd hYd hYs hl1 hl2 hm hr
    by_cases h1 : ky = kNd5
    · have e1 : (X.toList == [110, 100, 111, 116, 115]) = true := by rw [eX]; exact decide_eq_true h1
      rw [if_pos h1]
      clear h1 eX
      go_enter Tryz.func64, Tryz.ntmps64
      go_wp2_with (first | (go_at_call 99; refine (HC.out _ rfl).mono ?_; rintro e w2 ⟨x3, rfl, q, rfl⟩; have HS2 : Hid (SetAt a B b v1 v2 S (w.drewN q)) := Lib.hid (HS.out.below (below_drewN' (Below.refl _ _) q)); obtain ⟨⟨n0, n1, n2, n3, n4, n5⟩, ⟨g0, g1, g2, g3, g4, g5⟩⟩ := HS2.out.cells) | (go_at_call 100; refine (HN.out _ _ _ _).mono ?_; rintro e w3 ⟨rfl, hb⟩; have HS3 := Lib.hid (HS2.out.below hb); obtain ⟨⟨m0, m1, m2, m3, m4, m5⟩, ⟨l0, l1, l2, l3, l4, l5⟩⟩ := HS3.out.cells; clear hb))
      go_end0
      exact ⟨rfl, HS3.out.setN _⟩
    · have e1 : (X.toList == [110, 100, 111, 116, 115]) = false := by rw [eX]; exact decide_eq_false h1
      rw [if_neg h1]
      by_cases h2 : ky = kTi7
      · have e2 : (X.toList == [116, 105, 109, 101, 111, 117, 116]) = true := by rw [eX]; exact decide_eq_true h2
        rw [if_pos h2]
        clear h1 h2 eX
        go_enter Tryz.func64, Tryz.ntmps64
        go_wp2_with (first | (go_at_call 99; refine (HC.out _ rfl).mono ?_; rintro e w2 ⟨x3, rfl, q, rfl⟩; have HS2 : Hid (SetAt a B b v1 v2 S (w.drewN q)) := Lib.hid (HS.out.below (below_drewN' (Below.refl _ _) q)); obtain ⟨⟨n0, n1, n2, n3, n4, n5⟩, ⟨g0, g1, g2, g3, g4, g5⟩⟩ := HS2.out.cells) | (go_at_call 100; refine (HN.out _ _ _ _).mono ?_; rintro e w3 ⟨rfl, hb⟩; have HS3 := Lib.hid (HS2.out.below hb); obtain ⟨⟨m0, m1, m2, m3, m4, m5⟩, ⟨l0, l1, l2, l3, l4, l5⟩⟩ := HS3.out.cells; clear hb))
        go_end0
        exact ⟨rfl, HS3.out.setT _⟩
      · have e2 : (X.toList == [116, 105, 109, 101, 111, 117, 116]) = false := by rw [eX]; exact decide_eq_false h2
        rw [if_neg h2]
        by_cases h3 : ky = kAt8
        · have e3 : (X.toList == [97, 116, 116, 101, 109, 112, 116, 115]) = true := by rw [eX]; exact decide_eq_true h3
          rw [if_pos h3]
          clear h1 h2 h3 eX
          go_enter Tryz.func64, Tryz.ntmps64
          go_wp2_with (first | (go_at_call 99; refine (HC.out _ rfl).mono ?_; rintro e w2 ⟨x3, rfl, q, rfl⟩; have HS2 : Hid (SetAt a B b v1 v2 S (w.drewN q)) := Lib.hid (HS.out.below (below_drewN' (Below.refl _ _) q)); obtain ⟨⟨n0, n1, n2, n3, n4, n5⟩, ⟨g0, g1, g2, g3, g4, g5⟩⟩ := HS2.out.cells) | (go_at_call 100; refine (HN.out _ _ _ _).mono ?_; rintro e w3 ⟨rfl, hb⟩; have HS3 := Lib.hid (HS2.out.below hb); obtain ⟨⟨m0, m1, m2, m3, m4, m5⟩, ⟨l0, l1, l2, l3, l4, l5⟩⟩ := HS3.out.cells; clear hb))
          go_end0
          exact ⟨rfl, HS3.out.setA _⟩
        · have e3 : (X.toList == [97, 116, 116, 101, 109, 112, 116, 115]) = false := by rw [eX]; exact decide_eq_false h3
          rw [if_neg h3]
          clear h1 h2 h3 eX
          go_enter Tryz.func64, Tryz.ntmps64
          go_wp2_with ((go_at_call 99; refine (HC.out _ rfl).mono ?_; rintro e w2 ⟨x3, rfl, q, rfl⟩; have HS2 : Hid (SetAt a B b v1 v2 S (w.drewN q)) := Lib.hid (HS.out.below (below_drewN' (Below.refl _ _) q)); obtain ⟨⟨n0, n1, n2, n3, n4, n5⟩, ⟨g0, g1, g2, g3, g4, g5⟩⟩ := HS2.out.cells))
          go_end0
          exact ⟨rfl, HS2.out⟩
end Go.Proofs.YtogdkmkganpaaaaGreatDoor

namespace Go.Tx
open Go.Lib
end Go.Tx
namespace Go.Tx
open Go.Lib
/-! ### A text cut at a byte, some times at most -/
theorem pre_len (x : List UInt8) (l : List (List UInt8)) : (pre x l).length = l.length := by cases l <;> rfl
theorem splitL_eq (c : UInt8) (l : List UInt8) : splitL c (c :: l) = [] :: splitL c l := by simp [splitL, splitG]
theorem splitL_pre {b c : UInt8} (h : b ≠ c) (l : List UInt8) : splitL c (b :: l) = pre [b] (splitL c l) := by
  rw [splitL, splitL, splitG, if_neg h]
  exact splitG_pre c [b] l []
theorem splitL_len (c : UInt8) (l : List UInt8) : 1 ≤ (splitL c l).length ∧ (splitL c l).length ≤ l.length + 1 := splitG_len c l []
theorem splitK_nil (c : UInt8) (k : Nat) : splitK [c] 0 k [] = [[]] := by cases k <;> rfl
theorem splitK_eq (c : UInt8) (k : Nat) (l : List UInt8) : splitK [c] 0 (k + 1) (c :: l) = [] :: splitK [c] 0 k l := by
  have hix : index (c :: l) [c] = 0 := by rw [index]; simp [List.isPrefixOf]
  rw [splitK, hix]
  simp
theorem splitK_few (c : UInt8) : ∀ (l : List UInt8) (k : Nat), (splitL c l).length ≤ k + 1 → splitK [c] 0 k l = splitL c l
  | [], k, _ => by rw [splitK_nil]; rfl
  | b :: l, k, h => by
    by_cases e : b = c
    · subst e
      rw [splitL_eq] at h ⊢
      have := (splitL_len b l).1
      simp only [List.length_cons] at h
      obtain ⟨j, rfl⟩ : ∃ j, k = j + 1 := ⟨k - 1, by omega⟩
      rw [splitK_eq, splitK_few b l j (by omega)]
    · rw [splitL_pre e] at h ⊢
      rw [pre_len] at h
      rw [splitK_pre e, splitK_few c l k h]
theorem splitK_many (c : UInt8) : ∀ (l : List UInt8) (k : Nat), k + 1 < (splitL c l).length → (splitK [c] 0 k l).length = k + 1 ∧ ∃ q x, splitK [c] 0 k l = q ++ [x] ∧ c ∈ x
  | [], k, h => by simp [splitL, splitG] at h
  | b :: l, k, h => by
    by_cases e : b = c
    · subst e
      rw [splitL_eq] at h
      simp only [List.length_cons] at h
      cases k with
      | zero => exact ⟨rfl, [], b :: l, rfl, by simp⟩
      | succ k =>
        obtain ⟨h1, q, x, h2, h3⟩ := splitK_many b l k (by omega)
        rw [splitK_eq]
        exact ⟨by rw [List.length_cons, h1], [] :: q, x, by rw [h2]; rfl, h3⟩
    · rw [splitL_pre e, pre_len] at h
      obtain ⟨h1, q, x, h2, h3⟩ := splitK_many c l k h
      rw [splitK_pre e]
      refine ⟨by rw [pre_len, h1], ?_⟩
      rw [h2]
      cases q with
      | nil => exact ⟨[], [b] ++ x, rfl, by simp [h3]⟩
      | cons y q => exact ⟨([b] ++ y) :: q, x, rfl, h3⟩
/-- strings.SplitN at one byte. -/
def cutN (c : UInt8) (n : Nat) (l : List UInt8) : List (List UInt8) := splitK [c] 0 (min n (l.length + 1) - 1) l
theorem cutN_few (c : UInt8) (n : Nat) (l : List UInt8) (h : (splitL c l).length ≤ n) : cutN c n l = splitL c l := by
  have := (splitL_len c l)
  exact splitK_few c l _ (by omega)
theorem cutN_many (c : UInt8) (n : Nat) (l : List UInt8) (hn : 1 ≤ n) (h : n < (splitL c l).length) : (cutN c n l).length = n ∧ ∃ q x, cutN c n l = q ++ [x] ∧ c ∈ x := by
  have := (splitL_len c l)
  obtain ⟨h1, h2⟩ := splitK_many c l (min n (l.length + 1) - 1) (by omega)
  exact ⟨by unfold cutN; rw [h1]; omega, h2⟩
theorem cutN_len (c : UInt8) (n : Nat) (l : List UInt8) (hn : 1 ≤ n) : 1 ≤ (cutN c n l).length ∧ (cutN c n l).length ≤ n := by
  by_cases h : (splitL c l).length ≤ n
  · rw [cutN_few c n l h]; exact ⟨(splitL_len c l).1, h⟩
  · rw [(cutN_many c n l hn (by omega)).1]; exact ⟨hn, Nat.le_refl _⟩
theorem splitK_mem (c : UInt8) : ∀ (k : Nat) (l x : List UInt8), x ∈ splitK [c] 0 k l → x.length ≤ l.length
  | 0, l, x, h => by simp [splitK] at h; subst h; exact Nat.le_refl _
  | k + 1, l, x, h => by
    unfold splitK at h
    split at h
    · simp at h; subst h; exact Nat.le_refl _
    · rcases List.mem_cons.1 h with h | h
      · subst h; rw [List.length_take]; omega
      · have := splitK_mem c k _ x h
        rw [List.length_drop] at this
        omega
theorem cutN_mem {c : UInt8} {n : Nat} {l x : List UInt8} (h : x ∈ cutN c n l) : x.length ≤ l.length := splitK_mem c _ l x h
/-- Five parts at most: four of them are all. -/
theorem cutN_four (l : List UInt8) (h : (cutN 46 5 l).length = 4) : cutN 46 5 l = splitL 46 l := by
  by_cases h2 : (splitL 46 l).length ≤ 5
  · exact cutN_few _ _ _ h2
  · have := (cutN_many 46 5 l (by omega) (by omega)).1; omega
theorem cutN_notfour (l : List UInt8) (h : (cutN 46 5 l).length ≠ 4) : fourP (splitL 46 l) = none := by
  unfold fourP
  rw [if_neg]
  rintro ⟨h2, _⟩
  rw [cutN_few 46 5 l (by omega)] at h
  exact h h2
/-! ### What stands in pieces -/
theorem splitG_cur (c : UInt8) : ∀ (l cur : List UInt8), ∃ x r, splitG c cur l = (cur ++ x) :: r
  | [], cur => ⟨[], [], by simp [splitG]⟩
  | d :: l, cur => by
    unfold splitG
    split
    · exact ⟨[], splitG c [] l, by simp⟩
    · obtain ⟨x, r, h⟩ := splitG_cur c l (cur ++ [d])
      exact ⟨d :: x, r, by rw [h]; simp⟩
/-- A byte that is not the one at which is cut stands in some piece. -/
theorem splitG_has {c d : UInt8} (hcd : d ≠ c) : ∀ (l cur : List UInt8), d ∈ l → ∃ x ∈ splitG c cur l, d ∈ x
  | e :: l, cur, h => by
    unfold splitG
    by_cases hd : d = e
    · subst hd
      rw [if_neg hcd]
      obtain ⟨x, r, h2⟩ := splitG_cur c l (cur ++ [d])
      exact ⟨_, by rw [h2]; exact List.mem_cons_self, by simp⟩
    · have hl : d ∈ l := by
        rcases List.mem_cons.1 h with h | h
        · exact absurd h hd
        · exact h
      split
      · obtain ⟨x, hx, h3⟩ := splitG_has hcd l [] hl
        exact ⟨x, List.mem_cons_of_mem _ hx, h3⟩
      · exact splitG_has hcd l _ hl
/-- Pieces hold nothing that the text doesn't. -/
theorem splitG_sub {c d : UInt8} : ∀ (l cur x : List UInt8), x ∈ splitG c cur l → d ∈ x → d ∈ cur ∨ d ∈ l
  | [], cur, x, h, hd => by
    simp [splitG] at h
    subst h
    exact .inl hd
  | e :: l, cur, x, h, hd => by
    unfold splitG at h
    split at h
    · rcases List.mem_cons.1 h with h | h
      · subst h; exact .inl hd
      · rcases splitG_sub l [] x h hd with h | h
        · cases h
        · exact .inr (List.mem_cons_of_mem _ h)
    · rcases splitG_sub l _ x h hd with h | h
      · rcases List.mem_append.1 h with h | h
        · exact .inl h
        · rw [List.mem_singleton] at h; subst h; exact .inr List.mem_cons_self
      · exact .inr (List.mem_cons_of_mem _ h)
theorem splitG_none {c : UInt8} : ∀ (l cur : List UInt8), ¬ c ∈ l → splitG c cur l = [cur ++ l]
  | [], cur, _ => by simp [splitG]
  | e :: l, cur, h => by
    simp only [List.mem_cons, not_or] at h
    unfold splitG
    rw [if_neg (fun x => h.1 x.symm), splitG_none l _ h.2]
    simp
theorem splitL_none {c : UInt8} (l : List UInt8) (h : ¬ c ∈ l) : splitL c l = [l] := by rw [splitL, splitG_none l [] h]; simp
/-! ### Digits and groups that are none -/
theorem okN_dig {l : List UInt8} (h : okN l = true) : l.all dig = true := by
  cases ha : l.all dig with
  | true => rfl
  | false =>
    have := numRes_no l 255 ha
    unfold okN at h
    rw [this] at h
    cases h
theorem okN_has {l : List UInt8} {d : UInt8} (hd : dig d = false) (h : d ∈ l) : okN l = false := by
  cases ho : okN l with
  | false => rfl
  | true =>
    have := okN_dig ho
    rw [List.all_eq_true] at this
    rw [this d h] at hd
    cases hd
theorem four_has {s : List UInt8} {d : UInt8} (hd : dig d = false) (h46 : d ≠ 46) (h : d ∈ s) : fourP (splitL 46 s) = none := by
  obtain ⟨x, hx, h2⟩ := splitG_has h46 s [] h
  unfold fourP
  rw [if_neg]
  rintro ⟨_, h3⟩
  rw [List.all_eq_true] at h3
  have := h3 x hx
  rw [okN_has hd h2] at this
  cases this
theorem four_nodot {s : List UInt8} (h : ¬ 46 ∈ s) : fourP (splitL 46 s) = none := by
  rw [splitL_none s h]
  unfold fourP
  rw [if_neg]
  rintro ⟨h2, _⟩
  simp at h2
theorem hexG_has {l : List UInt8} {d : UInt8} (hd : hexV d < 0) (h : d ∈ l) : hexG l = none := by
  obtain ⟨k, hk, e⟩ := List.getElem_of_mem h
  exact hexG_bad (k := k) (c := d) (by rw [List.getElem?_eq_getElem hk, e]) hd
theorem hexG_two {l x : List UInt8} (h : hexG l = some x) : x.length = 2 := by
  unfold hexG at h
  split at h
  · cases h
  · split at h
    · cases h; rfl
    · cases h
theorem fourP_len {p : List (List UInt8)} {x : List UInt8} (h : fourP p = some x) : x.length = 4 := by
  unfold fourP at h
  split at h
  · rename_i h4
    cases h
    rw [List.length_map]; exact h4.1
  · cases h
theorem partG_two {t : Bool} {l x : List UInt8} (h : partG t l = some x) : 2 ≤ x.length := by
  unfold partG at h
  split at h
  · cases e : fourP (splitL 46 l) with
    | some f => rw [e] at h; cases h; rw [fourP_len e]; decide
    | none => rw [e] at h; rw [hexG_two h]; exact Nat.le_refl _
  · rw [hexG_two h]; exact Nat.le_refl _
theorem accG_two {last : Bool} {P : List (List UInt8)} : ∀ {k : Nat} {a : List UInt8}, accG last P k = some a → 2 * k ≤ a.length
  | 0, a, h => by simp
  | k + 1, a, h => by
    unfold accG at h
    split at h
    · cases h
    · rename_i b hb
      split at h
      · cases h
      · rename_i x hx
        cases h
        have := accG_two hb
        have := partG_two hx
        simp
        omega
/-! ### Groups, the program's way -/
def hexAll : List (List UInt8) → Option (List UInt8)
  | [] => some []
  | l :: r => match hexG l, hexAll r with
    | some a, some b => some (a ++ b)
    | _, _ => none
theorem hexAll_snoc (l : List UInt8) : ∀ P : List (List UInt8), hexAll (P ++ [l]) = match hexAll P, hexG l with
    | some a, some b => some (a ++ b)
    | _, _ => none
  | [] => by simp only [hexAll, List.nil_append]; cases hexG l <;> simp
  | q :: P => by
    simp only [List.cons_append, hexAll, hexAll_snoc l P]
    cases hexG q <;> cases hexAll P <;> cases hexG l <;> simp
theorem hexAll_no {P : List (List UInt8)} {l : List UInt8} (h : l ∈ P) (hl : hexG l = none) : hexAll P = none := by
  induction P with
  | nil => cases h
  | cons q P ih =>
    rcases List.mem_cons.1 h with h | h
    · subst h; simp [hexAll, hl]
    · simp only [hexAll, ih h]; cases hexG q <;> rfl
theorem hexAll_len {P : List (List UInt8)} : ∀ {a : List UInt8}, hexAll P = some a → a.length = 2 * P.length := by
  induction P with
  | nil => intro a h; cases h; rfl
  | cons q P ih =>
    intro a h
    unfold hexAll at h
    split at h
    · rename_i x y hx hy
      cases h
      have := hexG_two hx
      have := ih hy
      simp
      omega
    · cases h
/-- What parseGroups answers. -/
def pgP (s : List UInt8) : Option (List UInt8) :=
  if s = [] then some [] else
  match fourP (splitL 46 ((cutN 58 9 s).getLastD [])) with
  | some f => (hexAll (cutN 58 9 s).dropLast).map (· ++ f)
  | none => hexAll (cutN 58 9 s)
theorem accG_hex {last : Bool} {P : List (List UInt8)} : ∀ k, k ≤ P.length → (last = true → k + 1 ≤ P.length) → accG last P k = hexAll (P.take k)
  | 0, _, _ => by simp [accG, hexAll]
  | k + 1, h, h2 => by
    have ih := accG_hex (last := last) (P := P) k (by omega) (fun e => by have := h2 e; omega)
    have hk : k < P.length := by omega
    have ht : P.take (k + 1) = P.take k ++ [P[k]] := List.take_succ_eq_append_getElem hk
    have hf : (last && decide (k + 1 = P.length)) = false := by
      cases last with
      | false => rfl
      | true => have := h2 rfl; simp; omega
    have hg : P.getD k [] = P[k] := by simp [List.getD_eq_getElem?_getD, List.getElem?_eq_getElem hk]
    have hpf : ∀ l, partG false l = hexG l := fun l => rfl
    rw [accG, ih, ht, hexAll_snoc, hf, hg, hpf]
    cases hexAll (P.take k) <;> simp
    cases hexG P[k] <;> simp
theorem accG_full (P : List (List UInt8)) (h : 1 ≤ P.length) : accG true P P.length = match fourP (splitL 46 (P.getLastD [])) with
    | some f => (hexAll P.dropLast).map (· ++ f)
    | none => hexAll P := by
  obtain ⟨k, hk⟩ : ∃ k, P.length = k + 1 := ⟨P.length - 1, by omega⟩
  have hlt : k < P.length := by omega
  have hg : P.getD k [] = P[k] := by simp [List.getD_eq_getElem?_getD, List.getElem?_eq_getElem hlt]
  have hl : P.getLastD [] = P[k] := by
    rw [List.getLastD_eq_getLast?, List.getLast?_eq_getElem?, hk]
    simp [List.getElem?_eq_getElem hlt]
  have hd : P.dropLast = P.take k := by rw [List.dropLast_eq_take, hk]; rfl
  have hall : P = P.take k ++ [P[k]] := by
    have := List.take_succ_eq_append_getElem hlt
    rw [← this, ← hk, List.take_length]
  have ha := accG_hex (last := true) (P := P) k (by omega) (fun _ => by omega)
  have hf : (true && decide (k + 1 = P.length)) = true := by simp; omega
  have e1 : accG true P P.length = match accG true P k with
      | none => none
      | some a => match partG true P[k] with
        | none => none
        | some x => some (a ++ x) := by
    rw [hk, accG, hf, hg]
    all_goals
      cases accG true P k with
      | none => rfl
      | some a => simp only []; cases partG true P[k] <;> rfl
  rw [e1, ha, hl, hd]
  cases h4 : fourP (splitL 46 P[k]) with
  | some f =>
    rw [partG_four h4]
    cases hexAll (P.take k) <;> rfl
  | none =>
    rw [partG_hex fun _ => h4]
    have := hexAll_snoc P[k] (P.take k)
    rw [← hall] at this
    rw [this]
    cases hexAll (P.take k) <;> simp
    cases hexG P[k] <;> simp
theorem pgP_few {s : List UInt8} (h : (splitL 58 s).length ≤ 9) : pgP s = groupsP true s := by
  unfold pgP groupsP
  split
  · rfl
  · rw [cutN_few 58 9 s h, accG_full _ (splitL_len 58 s).1]
theorem hexV_58 : hexV 58 < 0 := by decide
theorem hexV_46 : hexV 46 < 0 := by decide
theorem pgP_many {s : List UInt8} (h : 9 < (splitL 58 s).length) : pgP s = none := by
  unfold pgP
  have hne : s ≠ [] := by rintro rfl; simp [splitL, splitG] at h
  obtain ⟨h1, q, x, h2, h3⟩ := cutN_many 58 9 s (by omega) h
  have hl : (cutN 58 9 s).getLastD [] = x := by rw [h2]; simp
  rw [if_neg hne, hl, four_has (d := 58) (by decide) (by decide) h3, h2]
  exact hexAll_no (l := x) (by simp) (hexG_has hexV_58 h3)
theorem groupsP_many {last : Bool} {s b : List UInt8} (h : 9 < (splitL 58 s).length) (hb : groupsP last s = some b) : 16 < b.length := by
  unfold groupsP at hb
  have hne : s ≠ [] := by rintro rfl; simp [splitL, splitG] at h
  rw [if_neg hne] at hb
  have := accG_two hb
  omega
theorem groupsP_nodot {s : List UInt8} (h : ¬ 46 ∈ s) : groupsP true s = groupsP false s := by
  unfold groupsP
  split
  · rfl
  · have hl := (splitL_len 58 s).1
    rw [accG_full _ hl, accG_hex (last := false) _ (Nat.le_refl _) (fun h => by cases h), List.take_length]
    have : ¬ 46 ∈ (splitL 58 s).getLastD [] := by
      intro h3
      obtain ⟨x, r, hx⟩ : ∃ x r, splitL 58 s = r ++ [x] := ⟨_, _, (List.dropLast_concat_getLast (l := splitL 58 s) (by intro e; rw [e] at hl; simp at hl)).symm⟩
      rw [hx] at h3
      simp at h3
      rcases splitG_sub (c := 58) (d := 46) s [] x (by show x ∈ splitL 58 s; rw [hx]; simp) h3 with h4 | h4
      · cases h4
      · exact h h4
    rw [four_nodot this]
theorem groupsP_dot {s : List UInt8} (h : 46 ∈ s) : groupsP false s = none := by
  have hne : s ≠ [] := by rintro rfl; cases h
  unfold groupsP
  rw [if_neg hne, accG_hex (last := false) _ (Nat.le_refl _) (fun h => by cases h), List.take_length]
  obtain ⟨x, hx, h2⟩ := splitG_has (c := 58) (d := 46) (by decide) s [] h
  exact hexAll_no hx (hexG_has hexV_46 h2)
/-! ### An address, the program's way -/
def full16 (r : Option (List UInt8)) : Option (List UInt8) := match r with
  | some b => if b.length = 16 then some b else none
  | none => none
def bothP (a b : Option (List UInt8)) : Option (List UInt8) := match a, b with
  | some x, some y => if 14 < x.length + y.length then none else some (x ++ List.replicate (16 - x.length - y.length) 0 ++ y)
  | _, _ => none
def longP (s : List UInt8) : Option (List UInt8) :=
  if (Lib.cut s [58, 58]).2.2 = true then
    (if 46 ∈ (Lib.cut s [58, 58]).1 then none else bothP (pgP (Lib.cut s [58, 58]).1) (pgP (Lib.cut s [58, 58]).2.1))
  else full16 (pgP s)
def addrP (s : List UInt8) : Option (List UInt8) := if 58 ∈ s then longP s else fourP (splitL 46 s)
theorem full16_pg (s : List UInt8) : full16 (pgP s) = full16 (groupsP true s) := by
  by_cases h : (splitL 58 s).length ≤ 9
  · rw [pgP_few h]
  · rw [pgP_many (by omega)]
    cases hb : groupsP true s with
    | none => rfl
    | some b =>
      have := groupsP_many (by omega) hb
      unfold full16
      simp only
      rw [if_neg (by omega)]
theorem both_pg (a b : List UInt8) (ha : ¬ 46 ∈ a) : bothP (pgP a) (pgP b) = bothP (groupsP false a) (groupsP true b) := by
  rw [← groupsP_nodot ha]
  have big : ∀ x y : List UInt8, 16 < x.length ∨ 16 < y.length → bothP (some x) (some y) = none := fun x y h => by
    unfold bothP
    simp only
    rw [if_pos (by omega)]
  have n1 : ∀ r, bothP none r = none := fun r => by cases r <;> rfl
  have n2 : ∀ r, bothP r none = none := fun r => by cases r <;> rfl
  by_cases h1 : (splitL 58 a).length ≤ 9
  · rw [pgP_few h1]
    by_cases h2 : (splitL 58 b).length ≤ 9
    · rw [pgP_few h2]
    · rw [pgP_many (s := b) (by omega), n2]
      cases hb : groupsP true b with
      | none => rw [n2]
      | some y =>
        cases hx : groupsP true a with
        | none => rw [n1]
        | some x => rw [big x y (.inr (groupsP_many (by omega) hb))]
  · rw [pgP_many (s := a) (by omega), n1]
    cases hx : groupsP true a with
    | none => rw [n1]
    | some x =>
      cases hb : groupsP true b with
      | none => rw [n2]
      | some y => rw [big x y (.inl (groupsP_many (by omega) hx))]
theorem cc_occ (s : List UInt8) (k : Nat) : ccAt s k = Lib.occAt s [58, 58] k := by
  unfold ccAt Lib.occAt
  have e0 : s[k]? = (s.drop k)[0]? := by simp
  have e1 : s[k + 1]? = (s.drop k)[1]? := by simp
  rw [e0, e1]
  generalize s.drop k = t
  match t with
  | [] => rfl
  | [x] => simp [List.isPrefixOf]
  | x :: y :: t =>
    simp only [List.getElem?_cons_zero, List.getElem?_cons_succ, Option.some.injEq, List.isPrefixOf, Bool.and_true]
    have : ∀ z : UInt8, decide (z = 58) = (58 == z) := fun z => by
      by_cases h : z = 58
      · subst h; rfl
      · have h' : ¬ 58 = z := fun e => h e.symm
        simp [h, h']
    rw [this, this]
theorem addrP_parse (s : List UInt8) : addrP s = parseP s := by
  unfold addrP
  by_cases h58 : 58 ∈ s
  · rw [if_pos h58]
    have hf : fourP (splitL 46 s) = none := four_has (d := 58) (by decide) (by decide) h58
    unfold parseP
    rw [hf]
    simp only
    unfold longP
    rcases Lib.index_spec s [58, 58] with ⟨hi, hno⟩ | ⟨i, hi, hle, hocc, hno⟩
    · have hc : Lib.cut s [58, 58] = (s, [], false) := by unfold Lib.cut; rw [hi, if_neg (by decide)]
      have hfind : (List.range s.length).find? (ccAt s) = none := cc_none (k := s.length) (fun j hj => by rw [cc_occ]; exact hno j (by omega)) (by omega)
      rw [hc, hfind, if_neg (by simp)]
      rw [full16_pg]
      rfl
    · have hc : Lib.cut s [58, 58] = (s.take i, s.drop (i + 2), true) := by unfold Lib.cut; rw [hi, if_pos (by omega)]; simp
      have hfind : (List.range s.length).find? (ccAt s) = some i := cc_some (k := i) (fun j hj => by rw [cc_occ]; exact hno j hj) (by rw [cc_occ]; exact hocc)
      rw [hc, hfind, if_pos rfl]
      simp only
      unfold dblP
      by_cases hd : 46 ∈ s.take i
      · rw [if_pos hd, groupsP_dot hd]
      · rw [if_neg hd, both_pg _ _ hd]
        rfl
  · rw [if_neg h58]
    unfold parseP
    cases hf : fourP (splitL 46 s) with
    | some f => rfl
    | none =>
      have hfind : (List.range s.length).find? (ccAt s) = none := cc_none (k := s.length) (fun j hj => by
        unfold ccAt
        have : ¬ s[j]? = some 58 := fun e => h58 (List.mem_of_getElem? e)
        simp [this]) (by omega)
      rw [hfind]
      simp only
      cases hg : groupsP true s with
      | none => rfl
      | some b =>
        simp only
        rw [if_neg]
        intro h16
        unfold groupsP at hg
        split at hg
        · cases hg; simp at h16
        · rw [splitL_none s h58] at hg
          have := accG_len hg
          simp at this
          omega
end Go.Tx

namespace Go.Proofs.YtogdkmkganpaaaaGreatDoor
open Go.RowKit Go.Lib Go.Tx Go.Rb
def lowerN (c : UInt8) : UInt8 := c ||| 32
theorem bits_all : ∀ i : Fin 256, bits .or .u8 (i.1 : Int) 32 = ((lowerN (UInt8.ofNat i.1)).toNat : Int) := by decide +kernel
theorem lower_any (c : UInt8) (w : World) : Calls Tryz.prog 198 #[.int .u8 (c.toNat : Int)] w fun e w' => e = .returned (.int .u8 ((lowerN c).toNat : Int)) ∧ w' = w := by
  have hb : bits .or .u8 (c.toNat : Int) 32 = ((lowerN c).toNat : Int) := by
    have := bits_all ⟨c.toNat, c.toNat_lt⟩
    simpa using this
  go_enter Tryz.func198, Tryz.ntmps198
  go_wp2
  go_ret
  exact ⟨by rw [← hb]; rfl, rfl⟩
theorem low_all : ∀ i : Fin 256, (65 ≤ i.1 ∧ i.1 ≤ 90 → (lowerN (UInt8.ofNat i.1)).toNat = i.1 + 32) ∧ (97 ≤ i.1 ∧ i.1 ≤ 122 → (lowerN (UInt8.ofNat i.1)).toNat = i.1) ∧ (¬ (65 ≤ i.1 ∧ i.1 ≤ 90) → ¬ (97 ≤ i.1 ∧ i.1 ≤ 122) → (lowerN (UInt8.ofNat i.1)).toNat < 97 ∨ 122 < (lowerN (UInt8.ofNat i.1)).toNat) := by decide +kernel
theorem low_cls (c : UInt8) : (65 ≤ c.toNat ∧ c.toNat ≤ 90 → (lowerN c).toNat = c.toNat + 32) ∧ (97 ≤ c.toNat ∧ c.toNat ≤ 122 → (lowerN c).toNat = c.toNat) ∧ (¬ (65 ≤ c.toNat ∧ c.toNat ≤ 90) → ¬ (97 ≤ c.toNat ∧ c.toNat ≤ 122) → (lowerN c).toNat < 97 ∨ 122 < (lowerN c).toNat) := by
  have := low_all ⟨c.toNat, c.toNat_lt⟩
  simpa using this
theorem lower95 (w : World) : Calls Tryz.prog 198 #[.int .u8 95] w fun e w' => e = .returned (.int .u8 127) ∧ w' = w := by
  have := lower_any 95 w
  have e1 : ((95 : UInt8).toNat : Int) = 95 := by decide
  have e2 : ((lowerN 95).toNat : Int) = 127 := by decide
  rw [e1, e2] at this
  exact this
theorem lower96 (w : World) : Calls Tryz.prog 198 #[.int .u8 96] w fun e w' => e = .returned (.int .u8 96) ∧ w' = w := by
  have := lower_any 96 w
  have e1 : ((96 : UInt8).toNat : Int) = 96 := by decide
  have e2 : ((lowerN 96).toNat : Int) = 96 := by decide
  rw [e1, e2] at this
  exact this
/-- What a text of digits says, or that it says nothing. -/
def hex16 (l : List UInt8) : Bool := decide (l ≠ []) && hexOk l && decide (hexA l ≤ 65535)
def PuR (l : List UInt8) (w : World) (e : Ending) (w' : World) : Prop :=
  Below w.heap.size w w' ∧ (if hex16 l = true then e = .returned (.tuple #[.int .u64 (hexA l), .nilIface]) else ∃ x n : Int, (n = 1 ∨ n = 2) ∧ e = .returned (.tuple #[.int .u64 x, .iface 274 (.int .i64 n)]))
theorem hexA_from (l : List UInt8) : ∀ a, (∀ c ∈ l, 0 ≤ hexV c) → 0 ≤ a → a ≤ l.foldl (fun n c => 16 * n + hexV c) a := by
  induction l with
  | nil => intro a _ h; exact Int.le_refl _
  | cons c l ih =>
    intro a h h0
    have hc := h c (by simp)
    have := ih (16 * a + hexV c) (fun d hd => h d (by simp [hd])) (by omega)
    simp only [List.foldl_cons]
    omega
theorem hexA_big (l : List UInt8) (k : Nat) (hok : hexOk l = true) (h : 65535 < hexA (l.take k)) : 65535 < hexA l := by
  have e : hexA l = (l.drop k).foldl (fun n c => 16 * n + hexV c) (hexA (l.take k)) := by
    unfold hexA
    rw [← List.foldl_append, List.take_append_drop]
  unfold hexOk at hok
  rw [List.all_eq_true] at hok
  have := hexA_from (l.drop k) (hexA (l.take k)) (fun c hc => by simpa using hok c (List.mem_of_mem_drop hc)) (by omega)
  omega
theorem hex16_bad {l : List UInt8} {k : Nat} {c : UInt8} (h : l[k]? = some c) (hc : hexV c < 0) : hex16 l = false := by
  unfold hex16
  have : hexOk l = false := by
    unfold hexOk
    rw [List.all_eq_false]
    exact ⟨c, List.mem_of_getElem? h, by simp; omega⟩
  rw [this]; simp
theorem hex16_big {l : List UInt8} {k : Nat} (h : 65535 < hexA (l.take k)) : hex16 l = false := by
  unfold hex16
  cases hok : hexOk l with
  | false => simp
  | true =>
    have := hexA_big l k hok h
    have e : decide (hexA l ≤ 65535) = false := decide_eq_false (by omega)
    rw [e]; simp
theorem hexA_step (l : List UInt8) (k : Nat) (c : UInt8) (h : l[k]? = some c) : hexA (l.take (k + 1)) = 16 * hexA (l.take k) + hexV c := by
  rw [List.take_add_one, h]
  exact hexA_snoc _ _
set_option maxHeartbeats 4000000 in
set_option maxRecDepth 100000 in
theorem pu16_any (s : ByteArray) (w : World) (hs : s.size ≤ 1000000) : Calls Tryz.prog 179 #[.string s, .int .i64 16, .int .i64 16] w (PuR s.data.toList w) := by
  by_cases h0 : s = ⟨#[]⟩
  · subst h0
    go_enter Tryz.func179, Tryz.ntmps179
    go_wp2
    go_ret2
    exact ⟨Below.refl _ _, by rw [if_neg (by decide)]; exact ⟨0, 2, .inr rfl, rfl⟩⟩
  · have hne : s.data.toList ≠ [] := fun h => h0 (by cases s; simp at h; simp [h])
    have e2 : s.toList.isEmpty = false := by
      rw [Go.Lib.toList_data]
      cases hh : s.data.toList with
      | nil => exact absurd hh hne
      | cons x y => rfl
    obtain ⟨cap, o, hconv, hcap, hrow⟩ := RowB.made (P := Tryz.prog) s w Tryz.underlying9 Tryz.underlying22 Tryz.underlying5
    have hr2 : RowB 5 (w.alloc o).drew w.heap.size cap s.data.toList := hrow
    have HR := Lib.hid hr2
    have HNe := Lib.hid hne
    have HB : Hid (Below w.heap.size w (w.alloc o).drew) := Lib.hid (((Below.refl _ _).alloc (Nat.le_refl _) _).drew)
    clear hrow hr2 hne h0
    go_enter Tryz.func179, Tryz.ntmps179
    go_wp2
    go_loop [12, 13, 101] (fun us nv i => ∃ (k : Nat) (n : Int), k ≤ s.size ∧ i = .int .i64 k ∧ us = .bool false ∧ nv = .int .u64 n ∧ 0 ≤ n ∧ n ≤ 65535 ∧ Hid (n = hexA (s.data.toList.take k)) ∧ Hid (∀ j c, j < k → s.data.toList[j]? = some c → 0 ≤ hexV c)) (fun _ _ i => s.size - (intOf i).toNat)
    case atStart => exact ⟨0, 0, Nat.zero_le _, rfl, rfl, rfl, by omega, by omega, Lib.hid rfl, Lib.hid (by omega)⟩
    case round =>
      obtain ⟨k, n, hk, rfl, rfl, rfl, hn0, hn1, hn, hall⟩ := hrel
      by_cases hlt : k < s.size
      · have HK : Hid (s.data.toList[k]? = some s[k]) := Lib.hid (List.getElem?_eq_getElem hlt)
        have hcell := HR.out.cell HK.out
        have hu := s[k].toNat_lt
        generalize s[k] = c at HK hcell hu
        have hc : (48 ≤ c.toNat ∧ c.toNat ≤ 57) ∨ (97 ≤ c.toNat ∧ c.toNat ≤ 102) ∨ (65 ≤ c.toNat ∧ c.toNat ≤ 70) ∨ (103 ≤ c.toNat ∧ c.toNat ≤ 122) ∨ (71 ≤ c.toNat ∧ c.toNat ≤ 90) ∨ (c.toNat < 48) ∨ (57 < c.toNat ∧ c.toNat < 65) ∨ (90 < c.toNat ∧ c.toNat < 95) ∨ c.toNat = 96 ∨ c.toNat = 95 ∨ 122 < c.toNat := by omega
        rcases hc with ⟨b1, b2⟩ | ⟨b1, b2⟩ | ⟨b1, b2⟩ | ⟨b1, b2⟩ | ⟨b1, b2⟩ | b1 | ⟨b1, b2⟩ | ⟨b1, b2⟩ | b1 | b1 | b1
        · skip
          have a1 : (48 : Int) ≤ (c.toNat : Int) := by omega
          have a2 : (c.toNat : Int) ≤ 57 := by omega
          have hv : hexV c = (c.toNat : Int) - 48 := by unfold hexV; rw [if_pos ⟨by omega, by omega⟩]
          have HV := Lib.hid hv
          have hv2 := hexV_bd c
          have HS := Lib.hid (hexA_step s.data.toList k c HK.out)
          by_cases hbig : 65535 < n * 16 + hexV c
          · have hb1 : 65535 < n * 16 + ((c.toNat : Int) - 48) := by omega
            have HBig : Hid (hex16 s.data.toList = false) := Lib.hid (hex16_big (k := k + 1) (by rw [HS.out, ← hn.out]; omega))
            clear hv hv2 hbig
            go_wp2
            go_ret2
            exact ⟨HB.out, by rw [if_neg (by rw [HBig.out]; decide)]; exact ⟨_, 1, .inl rfl, rfl⟩⟩
          · have hb1 : ¬ 65535 < n * 16 + ((c.toNat : Int) - 48) := by omega
            clear hv hv2 hbig
            go_wp2
            go_round
            case rel => exact ⟨k + 1, n * 16 + ((c.toNat : Int) - 48), hlt, by go_num, rfl, by first | rfl | (congr 1; omega), by omega, by omega, Lib.hid (by rw [HS.out, ← hn.out, HV.out]; omega), Lib.hid (by
              intro j d hj hd
              by_cases e : j = k
              · subst e
                have := HK.out
                rw [this] at hd
                cases hd
                rw [HV.out]; omega
              · exact hall.out j d (by omega) hd)⟩
            case measure => simp [intOf]; omega
        · skip
          have a1 : (97 : Int) ≤ (c.toNat : Int) := by omega
          have a2 : (c.toNat : Int) ≤ 102 := by omega
          have HLow : Hid (((lowerN c).toNat : Int) = (c.toNat : Int)) := Lib.hid (by have := (low_cls c).2.1 ⟨by omega, by omega⟩; omega)
          have hv : hexV c = (c.toNat : Int) - 87 := by unfold hexV; rw [if_neg (by omega), if_pos ⟨by omega, by omega⟩]
          have HV := Lib.hid hv
          have hv2 := hexV_bd c
          have HS := Lib.hid (hexA_step s.data.toList k c HK.out)
          by_cases hbig : 65535 < n * 16 + hexV c
          · have hb1 : 65535 < n * 16 + ((c.toNat : Int) - 87) := by omega
            have HBig : Hid (hex16 s.data.toList = false) := Lib.hid (hex16_big (k := k + 1) (by rw [HS.out, ← hn.out]; omega))
            clear hv hv2 hbig
            go_wp2_with (go_at_call 198; refine (lower_any c _).mono ?_; rw [HLow.out]; rintro e w3 ⟨rfl, rfl⟩)
            go_ret2
            exact ⟨HB.out, by rw [if_neg (by rw [HBig.out]; decide)]; exact ⟨_, 1, .inl rfl, rfl⟩⟩
          · have hb1 : ¬ 65535 < n * 16 + ((c.toNat : Int) - 87) := by omega
            clear hv hv2 hbig
            go_wp2_with (go_at_call 198; refine (lower_any c _).mono ?_; rw [HLow.out]; rintro e w3 ⟨rfl, rfl⟩)
            go_round
            case rel => exact ⟨k + 1, n * 16 + ((c.toNat : Int) - 87), hlt, by go_num, rfl, by first | rfl | (congr 1; omega), by omega, by omega, Lib.hid (by rw [HS.out, ← hn.out, HV.out]; omega), Lib.hid (by
              intro j d hj hd
              by_cases e : j = k
              · subst e
                have := HK.out
                rw [this] at hd
                cases hd
                rw [HV.out]; omega
              · exact hall.out j d (by omega) hd)⟩
            case measure => simp [intOf]; omega
        · skip
          have a1 : (65 : Int) ≤ (c.toNat : Int) := by omega
          have a2 : (c.toNat : Int) ≤ 70 := by omega
          have HLow : Hid (((lowerN c).toNat : Int) = (c.toNat : Int) + 32) := Lib.hid (by have := (low_cls c).1 ⟨by omega, by omega⟩; omega)
          have hv : hexV c = (c.toNat : Int) - 55 := by unfold hexV; rw [if_neg (by omega), if_neg (by omega), if_pos ⟨by omega, by omega⟩]
          have HV := Lib.hid hv
          have hv2 := hexV_bd c
          have HS := Lib.hid (hexA_step s.data.toList k c HK.out)
          by_cases hbig : 65535 < n * 16 + hexV c
          · have hb1 : 65535 < n * 16 + ((c.toNat : Int) - 55) := by omega
            have HBig : Hid (hex16 s.data.toList = false) := Lib.hid (hex16_big (k := k + 1) (by rw [HS.out, ← hn.out]; omega))
            clear hv hv2 hbig
            go_wp2_with (go_at_call 198; refine (lower_any c _).mono ?_; rw [HLow.out]; rintro e w3 ⟨rfl, rfl⟩)
            go_ret2
            exact ⟨HB.out, by rw [if_neg (by rw [HBig.out]; decide)]; exact ⟨_, 1, .inl rfl, rfl⟩⟩
          · have hb1 : ¬ 65535 < n * 16 + ((c.toNat : Int) - 55) := by omega
            clear hv hv2 hbig
            go_wp2_with (go_at_call 198; refine (lower_any c _).mono ?_; rw [HLow.out]; rintro e w3 ⟨rfl, rfl⟩)
            go_round
            case rel => exact ⟨k + 1, n * 16 + ((c.toNat : Int) - 55), hlt, by go_num, rfl, by first | rfl | (congr 1; omega), by omega, by omega, Lib.hid (by rw [HS.out, ← hn.out, HV.out]; omega), Lib.hid (by
              intro j d hj hd
              by_cases e : j = k
              · subst e
                have := HK.out
                rw [this] at hd
                cases hd
                rw [HV.out]; omega
              · exact hall.out j d (by omega) hd)⟩
            case measure => simp [intOf]; omega
        · skip
          have a1 : (103 : Int) ≤ (c.toNat : Int) := by omega
          have a2 : (c.toNat : Int) ≤ 122 := by omega
          have HLow : Hid (((lowerN c).toNat : Int) = (c.toNat : Int)) := Lib.hid (by have := (low_cls c).2.1 ⟨by omega, by omega⟩; omega)
          have hv : hexV c < 0 := by unfold hexV; repeat' split
                                     all_goals omega
          have HBad : Hid (hex16 s.data.toList = false) := Lib.hid (hex16_bad HK.out hv)
          clear hv
          go_wp2_with (go_at_call 198; refine (lower_any c _).mono ?_; rw [HLow.out]; rintro e w3 ⟨rfl, rfl⟩)
          all_goals (go_ret2; exact ⟨HB.out, by rw [if_neg (by rw [HBad.out]; decide)]; exact ⟨_, 2, .inr rfl, rfl⟩⟩)
        · skip
          have a1 : (71 : Int) ≤ (c.toNat : Int) := by omega
          have a2 : (c.toNat : Int) ≤ 90 := by omega
          have HLow : Hid (((lowerN c).toNat : Int) = (c.toNat : Int) + 32) := Lib.hid (by have := (low_cls c).1 ⟨by omega, by omega⟩; omega)
          have hv : hexV c < 0 := by unfold hexV; repeat' split
                                     all_goals omega
          have HBad : Hid (hex16 s.data.toList = false) := Lib.hid (hex16_bad HK.out hv)
          clear hv
          go_wp2_with (go_at_call 198; refine (lower_any c _).mono ?_; rw [HLow.out]; rintro e w3 ⟨rfl, rfl⟩)
          all_goals (go_ret2; exact ⟨HB.out, by rw [if_neg (by rw [HBad.out]; decide)]; exact ⟨_, 2, .inr rfl, rfl⟩⟩)
        · skip
          have a1 : (c.toNat : Int) < 48 := by omega
          have hL := (low_cls c).2.2 (by omega) (by omega)
          obtain ⟨y, hy⟩ : ∃ y : Nat, (lowerN c).toNat = y := ⟨_, rfl⟩
          have HLow : Hid (((lowerN c).toNat : Int) = (y : Int)) := Lib.hid (by omega)
          have hy2 := (lowerN c).toNat_lt
          rw [hy] at hL hy2
          clear hy
          have hv : hexV c < 0 := by unfold hexV; repeat' split
                                     all_goals omega
          have HBad : Hid (hex16 s.data.toList = false) := Lib.hid (hex16_bad HK.out hv)
          clear hv
          rcases hL with hL | hL
          · have hy3 : (y : Int) < 97 := by omega
            go_wp2_with (go_at_call 198; refine (lower_any c _).mono ?_; rw [HLow.out]; rintro e w3 ⟨rfl, rfl⟩)
            all_goals (go_ret2; exact ⟨HB.out, by rw [if_neg (by rw [HBad.out]; decide)]; exact ⟨_, 2, .inr rfl, rfl⟩⟩)

          · have hy3 : (122 : Int) < (y : Int) := by omega
            have hy4 : (97 : Int) ≤ (y : Int) := by omega
            go_wp2_with (go_at_call 198; refine (lower_any c _).mono ?_; rw [HLow.out]; rintro e w3 ⟨rfl, rfl⟩)
            all_goals (go_ret2; exact ⟨HB.out, by rw [if_neg (by rw [HBad.out]; decide)]; exact ⟨_, 2, .inr rfl, rfl⟩⟩)

        · skip
          have a1 : (57 : Int) < (c.toNat : Int) := by omega
          have a2 : (c.toNat : Int) < 65 := by omega
          have hL := (low_cls c).2.2 (by omega) (by omega)
          obtain ⟨y, hy⟩ : ∃ y : Nat, (lowerN c).toNat = y := ⟨_, rfl⟩
          have HLow : Hid (((lowerN c).toNat : Int) = (y : Int)) := Lib.hid (by omega)
          have hy2 := (lowerN c).toNat_lt
          rw [hy] at hL hy2
          clear hy
          have hv : hexV c < 0 := by unfold hexV; repeat' split
                                     all_goals omega
          have HBad : Hid (hex16 s.data.toList = false) := Lib.hid (hex16_bad HK.out hv)
          clear hv
          rcases hL with hL | hL
          · have hy3 : (y : Int) < 97 := by omega
            go_wp2_with (go_at_call 198; refine (lower_any c _).mono ?_; rw [HLow.out]; rintro e w3 ⟨rfl, rfl⟩)
            all_goals (go_ret2; exact ⟨HB.out, by rw [if_neg (by rw [HBad.out]; decide)]; exact ⟨_, 2, .inr rfl, rfl⟩⟩)

          · have hy3 : (122 : Int) < (y : Int) := by omega
            have hy4 : (97 : Int) ≤ (y : Int) := by omega
            go_wp2_with (go_at_call 198; refine (lower_any c _).mono ?_; rw [HLow.out]; rintro e w3 ⟨rfl, rfl⟩)
            all_goals (go_ret2; exact ⟨HB.out, by rw [if_neg (by rw [HBad.out]; decide)]; exact ⟨_, 2, .inr rfl, rfl⟩⟩)

        · skip
          have a1 : (90 : Int) < (c.toNat : Int) := by omega
          have a2 : (c.toNat : Int) < 95 := by omega
          have hL := (low_cls c).2.2 (by omega) (by omega)
          obtain ⟨y, hy⟩ : ∃ y : Nat, (lowerN c).toNat = y := ⟨_, rfl⟩
          have HLow : Hid (((lowerN c).toNat : Int) = (y : Int)) := Lib.hid (by omega)
          have hy2 := (lowerN c).toNat_lt
          rw [hy] at hL hy2
          clear hy
          have hv : hexV c < 0 := by unfold hexV; repeat' split
                                     all_goals omega
          have HBad : Hid (hex16 s.data.toList = false) := Lib.hid (hex16_bad HK.out hv)
          clear hv
          rcases hL with hL | hL
          · have hy3 : (y : Int) < 97 := by omega
            go_wp2_with (go_at_call 198; refine (lower_any c _).mono ?_; rw [HLow.out]; rintro e w3 ⟨rfl, rfl⟩)
            all_goals (go_ret2; exact ⟨HB.out, by rw [if_neg (by rw [HBad.out]; decide)]; exact ⟨_, 2, .inr rfl, rfl⟩⟩)

          · have hy3 : (122 : Int) < (y : Int) := by omega
            have hy4 : (97 : Int) ≤ (y : Int) := by omega
            go_wp2_with (go_at_call 198; refine (lower_any c _).mono ?_; rw [HLow.out]; rintro e w3 ⟨rfl, rfl⟩)
            all_goals (go_ret2; exact ⟨HB.out, by rw [if_neg (by rw [HBad.out]; decide)]; exact ⟨_, 2, .inr rfl, rfl⟩⟩)

        · obtain rfl : c = 96 := UInt8.toNat_inj.1 b1
          have HBad : Hid (hex16 s.data.toList = false) := Lib.hid (hex16_bad HK.out (by decide))
          have e5 : ((96 : UInt8).toNat : Int) = 96 := by decide
          rw [e5] at hcell
          clear e5
          go_wp2_with (go_at_call 198; refine (lower96 _).mono ?_; rintro e w3 ⟨rfl, rfl⟩)
          all_goals (go_ret2; exact ⟨HB.out, by rw [if_neg (by rw [HBad.out]; decide)]; exact ⟨_, 2, .inr rfl, rfl⟩⟩)
        · obtain rfl : c = 95 := UInt8.toNat_inj.1 b1
          have HBad : Hid (hex16 s.data.toList = false) := Lib.hid (hex16_bad HK.out (by decide))
          have e5 : ((95 : UInt8).toNat : Int) = 95 := by decide
          rw [e5] at hcell
          clear e5
          go_wp2_with (go_at_call 198; refine (lower95 _).mono ?_; rintro e w3 ⟨rfl, rfl⟩)
          all_goals (go_ret2; exact ⟨HB.out, by rw [if_neg (by rw [HBad.out]; decide)]; exact ⟨_, 2, .inr rfl, rfl⟩⟩)
        · skip
          have a1 : (122 : Int) < (c.toNat : Int) := by omega
          have hL := (low_cls c).2.2 (by omega) (by omega)
          obtain ⟨y, hy⟩ : ∃ y : Nat, (lowerN c).toNat = y := ⟨_, rfl⟩
          have HLow : Hid (((lowerN c).toNat : Int) = (y : Int)) := Lib.hid (by omega)
          have hy2 := (lowerN c).toNat_lt
          rw [hy] at hL hy2
          clear hy
          have hv : hexV c < 0 := by unfold hexV; repeat' split
                                     all_goals omega
          have HBad : Hid (hex16 s.data.toList = false) := Lib.hid (hex16_bad HK.out hv)
          clear hv
          rcases hL with hL | hL
          · have hy3 : (y : Int) < 97 := by omega
            go_wp2_with (go_at_call 198; refine (lower_any c _).mono ?_; rw [HLow.out]; rintro e w3 ⟨rfl, rfl⟩)
            all_goals (go_ret2; exact ⟨HB.out, by rw [if_neg (by rw [HBad.out]; decide)]; exact ⟨_, 2, .inr rfl, rfl⟩⟩)

          · have hy3 : (122 : Int) < (y : Int) := by omega
            have hy4 : (97 : Int) ≤ (y : Int) := by omega
            go_wp2_with (go_at_call 198; refine (lower_any c _).mono ?_; rw [HLow.out]; rintro e w3 ⟨rfl, rfl⟩)
            all_goals (go_ret2; exact ⟨HB.out, by rw [if_neg (by rw [HBad.out]; decide)]; exact ⟨_, 2, .inr rfl, rfl⟩⟩)

      · obtain rfl : k = s.size := by omega
        have HOk : Hid (hex16 s.data.toList = true) := Lib.hid (by
          have ht : s.data.toList.take s.size = s.data.toList := List.take_of_length_le (Nat.le_refl _)
          have h1 := hn.out
          rw [ht] at h1
          have h2 : hexOk s.data.toList = true := by
            unfold hexOk
            rw [List.all_eq_true]
            intro c hc
            obtain ⟨j, hj, rfl⟩ := List.getElem_of_mem hc
            exact decide_eq_true (hall.out j _ (by simpa using hj) (List.getElem?_eq_getElem hj))
          unfold hex16
          rw [h2, ← h1, decide_eq_true HNe.out, decide_eq_true (by omega)]
          rfl)
        have HN : Hid (n = hexA s.data.toList) := Lib.hid (by
          have ht : s.data.toList.take s.size = s.data.toList := List.take_of_length_le (Nat.le_refl _)
          have h1 := hn.out
          rw [ht] at h1
          exact h1)
        go_wp2
        go_ret2
        exact ⟨HB.out, by rw [if_pos HOk.out, ← HN.out]; rfl⟩
end Go.Proofs.YtogdkmkganpaaaaGreatDoor

namespace Go.Tx
open Go.Lib
/-! ### A decimal number of eight bits -/
theorem valF_ge : ∀ (l : List UInt8) (n : Nat), n * 10 ^ l.length ≤ valF n l
  | [], n => by simp [valF]
  | c :: l, n => by
    have h := valF_ge l (10 * n + (c.toNat - 48))
    have e : valF n (c :: l) = valF (10 * n + (c.toNat - 48)) l := rfl
    rw [e, List.length_cons, Nat.pow_succ, Nat.mul_comm (10 ^ l.length) 10, ← Nat.mul_assoc]
    exact Nat.le_trans (Nat.mul_le_mul_right _ (by omega)) h
theorem valF_le (l : List UInt8) (n : Nat) : n ≤ valF n l :=
  Nat.le_trans (Nat.le_mul_of_pos_right n (Nat.pow_pos (by omega))) (valF_ge l n)
theorem pum_cases : ∀ (l : List UInt8) (acc : Nat), acc ≤ 255 →
    (parseUintM 255 acc l = .ok (valF acc l) ∧ l.all dig = true ∧ valF acc l ≤ 255) ∨ ((∀ u, parseUintM 255 acc l ≠ .ok u) ∧ (l.all dig = false ∨ 255 < valF acc l))
  | [], acc, h => .inl ⟨rfl, rfl, h⟩
  | c :: l, acc, h => by
    unfold parseUintM
    by_cases hc : 48 ≤ c.toNat ∧ c.toNat ≤ 57
    · have hd : dig c = true := dig_of c (by omega) (by omega)
      rw [if_pos hc, if_neg (by omega)]
      have e : valF acc (c :: l) = valF (acc * 10 + (c.toNat - 48)) l := by rw [Nat.mul_comm]; rfl
      by_cases hm : 255 < acc * 10 + (c.toNat - 48)
      · rw [if_pos hm]
        refine .inr ⟨fun u h => by (cases h), .inr ?_⟩
        have := valF_le l (acc * 10 + (c.toNat - 48))
        rw [e]; omega
      · rw [if_neg hm, e]
        rcases pum_cases l (acc * 10 + (c.toNat - 48)) (by omega) with ⟨h1, h2, h3⟩ | ⟨h1, h2⟩
        · exact .inl ⟨h1, by rw [List.all_cons, hd, h2]; rfl, h3⟩
        · refine .inr ⟨h1, ?_⟩
          rcases h2 with h2 | h2
          · exact .inl (by rw [List.all_cons, h2, Bool.and_false])
          · exact .inr h2
    · rw [if_neg hc]
      refine .inr ⟨fun u h => by (cases h), .inl ?_⟩
      have : dig c = false := by
        by_cases h1 : (c.toNat : Int) < 48
        · exact dig_lo c h1
        · exact dig_hi c (by omega)
      rw [List.all_cons, this]; rfl
/-- strconv.ParseUint at base 10, 8 bits: the number, or none. -/
def short8 (l : List UInt8) : Option Nat := match parseUintB 8 l with
  | .ok u => some u
  | _ => none
theorem short8_some {l : List UInt8} {u : Nat} (h : short8 l = some u) : l ≠ [] ∧ l.all dig = true ∧ u = val l ∧ u ≤ 255 := by
  unfold short8 parseUintB at h
  by_cases hn : l = []
  · rw [if_pos hn] at h; cases h
  · rw [if_neg hn] at h
    rcases pum_cases l 0 (by omega) with ⟨h1, h2, h3⟩ | ⟨h1, h2⟩
    · rw [show (2 ^ 8 - 1 : Nat) = 255 from rfl, h1] at h
      cases h
      exact ⟨hn, h2, rfl, h3⟩
    · rw [show (2 ^ 8 - 1 : Nat) = 255 from rfl] at h
      cases hp : parseUintM 255 0 l
      case ok u => exact absurd hp (h1 u)
      all_goals (rw [hp] at h; cases h)
theorem short8_none {l : List UInt8} (h : short8 l = none) : okN l = false := by
  cases ho : okN l with
  | false => rfl
  | true =>
    have hd := okN_dig ho
    unfold okN numRes at ho
    split at ho
    · cases ho
    · split at ho
      · cases ho
      · rename_i hb hm
        have hn : l ≠ [] := by rintro rfl; exact hb rfl
        unfold short8 parseUintB at h
        rw [if_neg hn, show (2 ^ 8 - 1 : Nat) = 255 from rfl] at h
        rcases pum_cases l 0 (by omega) with ⟨h1, h2, h3⟩ | ⟨h1, h2⟩
        · rw [h1] at h; cases h
        · rcases h2 with h2 | h2
          · rw [hd] at h2; cases h2
          · have : (val l : Int) = ((valF 0 l : Nat) : Int) := rfl
            omega
theorem short8_ok {l : List UInt8} {u : Nat} (h : short8 l = some u) (hz : ¬ (l.head? = some 48 ∧ 1 < l.length)) : okN l = true ∧ ((byN l).toNat : Int) = u ∧ u ≤ 255 := by
  obtain ⟨hn, hd, hu, hb⟩ := short8_some h
  have h9 : l.length ≤ 9 := by
    cases l with
    | nil => exact absurd rfl hn
    | cons c r =>
      by_cases hr : r = []
      · subst hr; simp
      · have hrl : 1 ≤ r.length := List.length_pos_iff.2 hr
        have hc : dig c = true := by rw [List.all_cons, Bool.and_eq_true] at hd; exact hd.1
        have hc48 : c ≠ 48 := fun e => hz ⟨by rw [e]; rfl, by simp; omega⟩
        have hc2 : 49 ≤ c.toNat := by
          simp only [dig, Bool.and_eq_true, decide_eq_true_eq] at hc
          have : c.toNat ≠ 48 := fun e => hc48 (UInt8.toNat_inj.1 e)
          omega
        have hv := valF_ge r (10 * 0 + (c.toNat - 48))
        have e : val (c :: r) = valF (10 * 0 + (c.toNat - 48)) r := rfl
        rw [← e, ← hu] at hv
        by_cases h3 : r.length ≤ 8
        · simp; omega
        · have h10 : 10 ^ 3 ≤ 10 ^ r.length := Nat.pow_le_pow_right (by omega) (by omega)
          have : 1 * 10 ^ r.length ≤ (10 * 0 + (c.toNat - 48)) * 10 ^ r.length := Nat.mul_le_mul_right _ (by omega)
          omega
  have hl : 1 ≤ l.length := List.length_pos_iff.2 hn
  have hres := numRes_ok l 255 hl h9 hz hd
  rw [if_neg (by omega)] at hres
  have ho : okN l = true := by unfold okN; rw [hres]
  refine ⟨ho, ?_, hb⟩
  rw [byN_int l ho, hres, hu]
theorem okN_zero {l : List UInt8} (h1 : l.head? = some 48) (h2 : 1 < l.length) : okN l = false := by
  unfold okN; rw [numRes_zero l 255 h2 h1]
/-! ### Groups once more: one more piece -/
open Go.Proofs.YtogdkmkganpaaaaGreatDoor
theorem hexG_16 {l : List UInt8} (h : hex16 l = true) (h4 : l.length ≤ 4) : hexG l = some [UInt8.ofNat ((hexA l).toNat / 256), UInt8.ofNat ((hexA l).toNat % 256)] := by
  unfold hex16 at h
  simp only [Bool.and_eq_true, decide_eq_true_eq] at h
  have : 1 ≤ l.length := List.length_pos_iff.2 h.1.1
  exact hexG_ok (by omega) h.1.2
theorem hexG_no16 {l : List UInt8} (h : hex16 l = false) : hexG l = none := by
  unfold hexG
  split
  · rfl
  · rename_i h2
    split
    · rename_i h3
      have hb := hexA_bd4 l (by omega) h3
      have hn : l ≠ [] := by rintro rfl; simp at h2
      unfold hex16 at h
      rw [h3, decide_eq_true hn, decide_eq_true hb.2] at h
      cases h
    · rfl
theorem hexG_long {l : List UInt8} (h : 4 < l.length) : hexG l = none := hexG_len (.inr h)
theorem hexAll_step {P : List (List UInt8)} {k : Nat} {l a x : List UInt8} (hl : P[k]? = some l) (h : hexAll (P.take k) = some a) (hx : hexG l = some x) : hexAll (P.take (k + 1)) = some (a ++ x) := by
  have hk := (List.getElem?_eq_some_iff.1 hl).1
  have e : P[k] = l := by rw [List.getElem?_eq_getElem hk] at hl; exact Option.some.inj hl
  rw [List.take_succ_eq_append_getElem hk, e, hexAll_snoc, h, hx]
end Go.Tx

namespace Go.Proofs.YtogdkmkganpaaaaGreatDoor
open Go.RowKit Go.Lib Go.Tx Go.Rb
/-- The library's two errors are what errors are. -/
def ErrAt (g : Nat) (w : World) : Prop := ∃ ev, w.cell? ⟨g, 0, none⟩ = some ev ∧ (ev = .nilIface ∨ ∃ te pe, ev = .iface te pe)
theorem ErrAt.below {g : Nat} {w w' : World} (h : ErrAt g w) (hb : Below w.heap.size w w') : ErrAt g w' := by
  obtain ⟨ev, h1, h2⟩ := h
  refine ⟨ev, ?_, h2⟩
  have hlt : g < w.heap.size := by
    unfold World.cell? at h1
    split at h1
    · rename_i hh
      exact (Array.getElem?_eq_some_iff.1 hh).1
    · cases h1
  rw [hb.cell (p := ⟨g, 0, none⟩) hlt]
  exact h1
def PubR (r : Option Int) (w : World) (e : Ending) (w' : World) : Prop :=
  Below w.heap.size w w' ∧ match r with
    | some n => e = .returned (.tuple #[.int .u64 n, .nilIface])
    | none => ∃ (x : Int) (g : Nat), e = .returned (.tuple #[.int .u64 x, .iface 276 (.pointer (some ⟨g, 0, none⟩))])
theorem pub16_any (s : ByteArray) (w : World) (hs : s.size ≤ 1000000) (h1 : ErrAt 1 w) (h2 : ErrAt 2 w) :
    Calls Tryz.prog 153 #[.string s, .int .i64 16, .int .i64 16] w (PubR (if hex16 s.data.toList = true then some (hexA s.data.toList) else none) w) := by
  have HP := Lib.hid (pu16_any s w hs)
  have HT1 : Hid (∀ w2 : World, Below w.heap.size w w2 → Calls Tryz.prog 180 #[.string ⟨#[80, 97, 114, 115, 101, 85, 105, 110, 116]⟩, .string s, .int .i64 16, .int .i64 16, .iface 274 (.int .i64 2)] w2 fun e w' => ∃ N, e = .returned (.iface 276 (.pointer (some ⟨N, 0, none⟩))) ∧ Below w2.heap.size w2 w') := Lib.hid (fun w2 hb => by
    obtain ⟨ev, e1, e2⟩ := h1.below hb
    exact (Tryz.strconv_toError_syntax _ s 16 16 ev w2 (by omega) e1 e2).mono fun e w' ⟨N, a, _, _, b⟩ => ⟨N, a, b⟩)
  have HT2 : Hid (∀ w2 : World, Below w.heap.size w w2 → Calls Tryz.prog 180 #[.string ⟨#[80, 97, 114, 115, 101, 85, 105, 110, 116]⟩, .string s, .int .i64 16, .int .i64 16, .iface 274 (.int .i64 1)] w2 fun e w' => ∃ N, e = .returned (.iface 276 (.pointer (some ⟨N, 0, none⟩))) ∧ Below w2.heap.size w2 w') := Lib.hid (fun w2 hb => by
    obtain ⟨ev, e1, e2⟩ := h2.below hb
    exact (Tryz.strconv_toError_range _ s 16 16 ev w2 (by omega) e1 e2).mono fun e w' ⟨N, a, _, _, b⟩ => ⟨N, a, b⟩)
  have HT : Hid (∀ w2 : World, Below w.heap.size w w2 → ∀ n : Int, (n = 1 ∨ n = 2) → Calls Tryz.prog 180 #[.string ⟨#[80, 97, 114, 115, 101, 85, 105, 110, 116]⟩, .string s, .int .i64 16, .int .i64 16, .iface 274 (.int .i64 n)] w2 fun e w' => ∃ N, e = .returned (.iface 276 (.pointer (some ⟨N, 0, none⟩))) ∧ Below w2.heap.size w2 w') := Lib.hid (fun w2 hb n hn => by
    rcases hn with rfl | rfl
    · exact HT2.out w2 hb
    · exact HT1.out w2 hb)
  clear HT1 HT2
  cases hx : hex16 s.data.toList with
  | true =>
    have HX := Lib.hid hx
    clear hx
    go_enter Tryz.func153, Tryz.ntmps153
    go_wp2_with (go_at_call 179; refine HP.out.mono ?_; rintro e w2 ⟨hb, h⟩; rw [if_pos HX.out] at h; subst h)
    go_ret2
    exact ⟨hb, rfl⟩
  | false =>
    have HX := Lib.hid hx
    clear hx
    go_enter Tryz.func153, Tryz.ntmps153
    go_wp2_with (first | (go_at_call 179; refine HP.out.mono ?_; rintro e w2 ⟨hb, h⟩; rw [if_neg (by rw [HX.out]; decide)] at h; obtain ⟨x, n, hn, rfl⟩ := h; have HNn := Lib.hid hn; clear hn) | (go_at_call 180; refine (HT.out _ hb _ HNn.out).mono ?_; rintro e w3 ⟨g, rfl, hb3⟩))
    all_goals (go_ret2; exact ⟨hb.trans (hb3.mono hb.size), _, g, rfl⟩)
end Go.Proofs.YtogdkmkganpaaaaGreatDoor

namespace Go.Proofs.YtogdkmkganpaaaaGreatDoor
open Go.RowKit Go.Lib Go.Tx Go.Rb
/-- An array that is being filled: its first k cells hold what f says. -/
structure Arr (w : World) (b n k : Nat) (f : Nat → Value) : Prop where
  lt : b < w.heap.size
  free : ∀ j, j < n → w.frozen? ⟨b, j, none⟩ = false
  held : ∀ j, j < n → ∃ v, w.cell? ⟨b, j, none⟩ = some v
  told : ∀ j, j < k → w.cell? ⟨b, j, none⟩ = some (f j)
theorem Arr.below {w w' : World} {b n k : Nat} {f : Nat → Value} (h : Arr w b n k f) (hb : Below w.heap.size w w') : Arr w' b n k f :=
  ⟨Nat.lt_of_lt_of_le h.lt hb.size, fun j hj => by rw [World.frozen?_of_block (w := w) (hb.block b h.lt)]; exact h.free j hj, fun j hj => by rw [hb.cell (p := ⟨b, j, none⟩) h.lt]; exact h.held j hj,
    fun j hj => by rw [hb.cell (p := ⟨b, j, none⟩) h.lt]; exact h.told j hj⟩
theorem Arr.new (w : World) (arr : Array Value) (e : TypeId) (n : Nat) (h : arr.size = n) (f : Nat → Value) : Arr (w.alloc (.cells arr e)) w.heap.size n 0 f :=
  ⟨by show w.heap.size < (w.heap.push _).size; simp, fun j hj => World.frozen?_alloc_at arr e _ j rfl, fun j hj => by rw [World.cell?_alloc_new]; exact ⟨arr[j], by simp [h, hj]⟩, fun j hj => by omega⟩
theorem Arr.step {w : World} {b n k : Nat} {f : Nat → Value} {v : Value} (h : Arr w b n k f) (hk : k < n) (hv : f k = v) : Arr (w.setCell ⟨b, k, none⟩ v) b n (k + 1) f := by
  subst hv
  have hne : ∀ j, j ≠ k → (⟨b, k, none⟩ : Addr) ≠ ⟨b, j, none⟩ := fun j hj e => by cases e; exact hj rfl
  obtain ⟨u, hu⟩ := h.held k hk
  refine ⟨by simpa using h.lt, fun j hj => by simpa using h.free j hj, fun j hj => ?_, fun j hj => ?_⟩
  · by_cases e : j = k
    · subst e; exact ⟨_, World.cell?_setCell_same w _ _ hu⟩
    · rw [World.cell?_setCell_other w _ _ _ (hne j e)]; exact h.held j hj
  · by_cases e : j = k
    · subst e
      exact World.cell?_setCell_same w _ _ hu
    · rw [World.cell?_setCell_other w _ _ _ (hne j e)]; exact h.told j (by omega)
/-- What the library's variables hold. -/
structure GloAt (w : World) : Prop where
  len : ∃ m, w.cell? ⟨0, 0, none⟩ = some (.int .i64 m)
  syn : ErrAt 1 w
  rng : ErrAt 2 w
theorem GloAt.below {w w' : World} (h : GloAt w) (hb : Below w.heap.size w w') : GloAt w' := by
  refine ⟨?_, h.syn.below hb, h.rng.below hb⟩
  obtain ⟨m, hm⟩ := h.len
  have hlt : 0 < w.heap.size := by
    unfold World.cell? at hm
    split at hm
    · rename_i hh
      exact (Array.getElem?_eq_some_iff.1 hh).1
    · cases hm
  exact ⟨m, by rw [hb.cell (p := ⟨0, 0, none⟩) hlt]; exact hm⟩
def SplitN (w : World) (P : List (List UInt8)) (e : Ending) (w' : World) : Prop :=
  ∃ cap, e = .returned (.slice (some ⟨w.heap.size, 0, none⟩) P.length cap) ∧ P.length ≤ cap ∧ cap ≤ 9223372036854775807 ∧ w.heap.size < w'.heap.size ∧
    (∀ (i : Nat) l, P[i]? = some l → w'.cell? ⟨w.heap.size, i, none⟩ = some (.string ⟨l.toArray⟩)) ∧ Below w.heap.size w w'
theorem splitN_any (s : ByteArray) (c : UInt8) (n : Nat) (w : World) (hs : s.size ≤ 1000000) (h1 : 1 ≤ n) (hn : n ≤ 1000) (hg : GloAt w) :
    Calls Tryz.prog 151 #[.string s, .string ⟨#[c]⟩, .int .i64 n] w (SplitN w (cutN c n s.data.toList)) := by
  obtain ⟨m, hm⟩ := hg.len
  refine (Tryz.strings_SplitN s ⟨#[c]⟩ n m w (by omega) hm (Nat.le_refl 1) h1 (by omega)).mono ?_
  rintro e w' ⟨rfl, rfl⟩
  have hd := splitB_data ⟨#[c]⟩ 0 (min n (s.size + 1) - 1) s
  have he : (splitB ⟨#[c]⟩ 0 (min n (s.size + 1) - 1) s).map (·.data.toList) = cutN c n s.data.toList := hd
  have hlen : (cutN c n s.data.toList).length = (splitB ⟨#[c]⟩ 0 (min n (s.size + 1) - 1) s).length := by rw [← he, List.length_map]
  have hcap := splitB_length_le ⟨#[c]⟩ 0 (min n (s.size + 1) - 1) s
  refine ⟨min n (s.size + 1), by rw [hlen], by omega, by omega, by show w.heap.size < (w.heap.push _).size; simp, fun i l hi => ?_, (Below.refl _ _).alloc (Nat.le_refl _) _⟩
  rw [World.cell?_alloc_new]
  rw [← he, List.getElem?_map] at hi
  obtain ⟨x, hx, rfl⟩ := Option.map_eq_some_iff.1 hi
  have hlt := (List.getElem?_eq_some_iff.1 hx).1
  unfold cellsOf
  rw [List.getElem?_toArray, List.getElem?_append_left (by simpa using hlt), List.getElem?_map, hx]
  rfl
theorem pub8_any (s : ByteArray) (w : World) (hs : s.size ≤ 1000000) (hg : GloAt w) :
    Calls Tryz.prog 153 #[.string s, .int .i64 10, .int .i64 8] w (PubR ((short8 s.data.toList).map fun u => (u : Int)) w) := by
  unfold short8
  cases h : parseUintB 8 s.data.toList
  case ok u =>
    refine (Tryz.strconv_ParseUint_10_at8_ok s (by omega) u h w).mono ?_
    rintro e w' ⟨rfl, h2⟩
    refine ⟨?_, rfl⟩
    rcases h2 with rfl | rfl
    · exact Below.refl _ _
    · exact Lib.bytesWorld_below _ _ _
  case range =>
    obtain ⟨ev, e1, e2⟩ := hg.rng
    refine (Tryz.strconv_ParseUint_10_at8_range s (by omega) h ev w e1 e2).mono ?_
    rintro e w' ⟨N, rfl, _, _, hb⟩
    exact ⟨hb, _, N, rfl⟩
  all_goals
    obtain ⟨ev, e1, e2⟩ := hg.syn
    refine (Any.strconv_ParseUint_10_at8_syntax Tryz.laysPu14 s (by omega) h ev w e1 e2).mono ?_
    rintro e w' ⟨N, rfl, _, _, hb⟩
    exact ⟨hb, _, N, rfl⟩
theorem pub8_some (s : ByteArray) (u : Nat) (w : World) (hs : s.size ≤ 1000000) (hg : GloAt w) (h : short8 s.data.toList = some u) :
    Calls Tryz.prog 153 #[.string s, .int .i64 10, .int .i64 8] w fun e w' => e = .returned (.tuple #[.int .u64 (u : Int), .nilIface]) ∧ Below w.heap.size w w' := by
  refine (pub8_any s w hs hg).mono ?_
  rintro e w' ⟨hb, h2⟩
  rw [h] at h2
  exact ⟨h2, hb⟩
theorem pub8_none (s : ByteArray) (w : World) (hs : s.size ≤ 1000000) (hg : GloAt w) (h : short8 s.data.toList = none) :
    Calls Tryz.prog 153 #[.string s, .int .i64 10, .int .i64 8] w fun e w' => (∃ (x : Int) (g : Nat), e = .returned (.tuple #[.int .u64 x, .iface 276 (.pointer (some ⟨g, 0, none⟩))])) ∧ Below w.heap.size w w' := by
  refine (pub8_any s w hs hg).mono ?_
  rintro e w' ⟨hb, h2⟩
  rw [h] at h2
  exact ⟨h2, hb⟩
theorem prefix48 (q : ByteArray) (b : Bool) (w : World) (h : [48].isPrefixOf q.data.toList = b) : Calls Tryz.prog 152 #[.string q, .string ⟨#[48]⟩] w fun e w' => e = .returned (.bool b) ∧ w = w' := by
  refine (Tryz.strings_HasPrefix q ⟨#[48]⟩ w).mono ?_
  rintro e w' ⟨rfl, rfl⟩
  exact ⟨by rw [← h]; rfl, rfl⟩
theorem fourP_all {P : List (List UInt8)} (h4 : P.length = 4) (h : (P.take 4).all okN = true) : fourP P = some (P.map byN) := by
  rw [List.take_of_length_le (by omega)] at h
  unfold fourP
  rw [if_pos ⟨h4, h⟩]
/-- What the cells of the array say. -/
def byV (P : List (List UInt8)) (j : Nat) : Value := .int .u8 ((byN (P.getD j [])).toNat : Int)
set_option maxHeartbeats 2000000 in
set_option maxRecDepth 100000 in
theorem pshort_any (s : ByteArray) (w : World) (hs : s.size ≤ 100000) (hg : GloAt w) :
    Calls Tryz.prog 125 #[.string s] w (FourR w (fourP (splitL 46 s.data.toList))) := by
  have hS := splitN_any s 46 5 w (by omega) (by omega) (by omega) hg
  obtain ⟨P, hP⟩ : ∃ P, cutN 46 5 s.data.toList = P := ⟨_, rfl⟩
  by_cases h4 : P.length = 4
  · have hPs : splitL 46 s.data.toList = P := by rw [← cutN_four _ (by rw [hP]; exact h4)]; exact hP
    have hpl : ∀ l ∈ P, l.length ≤ 100000 := fun l hl => by
      rw [← hPs] at hl
      have := splitG_mem 46 s.data.toList [] l hl
      have e : s.data.toList.length = s.size := rfl
      simp only [List.length_nil] at this
      omega
    rw [hPs]
    rw [hP] at hS
    have HS := Lib.hid hS
    have H4 := Lib.hid h4
    have HPL := Lib.hid hpl
    have HG := Lib.hid hg
    clear hS hpl hP hPs hg
    go_enter Tryz.func125, Tryz.ntmps125
    go_wp2_with (go_at_call 151; refine HS.out.mono ?_; rintro e w2 ⟨cap, rfl, hc1, hc2, hlt2, hrd, hb⟩; rw [H4.out] at hc1 ⊢; have HRD := Lib.hid hrd; clear hrd)
    have HB := Lib.hid hb
    have hws := hb.size
    go_loopw [17] (fun i wr => ∃ k : Nat, k ≤ 4 ∧ i = .int .i64 k ∧ Hid (Arr wr w2.heap.size 4 k (byV P)) ∧ Hid ((P.take k).all okN = true) ∧ Below w2.heap.size w2 wr) (fun i _ => 4 - (RowKit.intOf i).toNat)
    case atStart => exact ⟨0, Nat.zero_le _, rfl, Lib.hid (Arr.new _ _ _ _ rfl _), Lib.hid rfl, (Below.refl _ _).alloc (Nat.le_refl _) _⟩
    case round =>
      obtain ⟨k, hk, rfl, hA, hall, hbw⟩ := hrel
      have hws2 := hbw.size
      have hG2 : Hid (GloAt wr) := Lib.hid ((HG.out.below HB.out).below hbw)
      by_cases hlt : k < 4
      · obtain ⟨l, hl⟩ : ∃ l, P[k]? = some l := ⟨_, List.getElem?_eq_getElem (by rw [H4.out]; exact hlt)⟩
        have hcell : wr.cell? ⟨w.heap.size, k, none⟩ = some (.string ⟨l.toArray⟩) := (hbw.cell (p := ⟨w.heap.size, k, none⟩) hlt2).trans (HRD.out k l hl)
        obtain ⟨q, hq⟩ : ∃ q : ByteArray, (⟨l.toArray⟩ : ByteArray) = q := ⟨_, rfl⟩
        have hql : q.data.toList = l := by rw [← hq]
        have hqs : q.size ≤ 1000000 := by
          have := HPL.out l (List.mem_of_getElem? hl)
          have e : q.data.toList.length = q.size := rfl
          rw [hql] at e
          omega
        rw [hq] at hcell
        have HL := Lib.hid hl
        have HQL := Lib.hid hql
        clear hl hq hql
        by_cases hz : l.head? = some 48 ∧ 1 < l.length
        · have HP : Hid ([48].isPrefixOf q.data.toList = true) := Lib.hid (by
            rw [HQL.out]
            cases l with
            | nil => cases hz.1
            | cons c r => have := hz.1; simp at this; subst this; rfl)
          have hne : (q.toList == [48]) = false := by
            rw [toList_data, HQL.out, beq_eq_false_iff_ne]
            rintro rfl
            exact absurd hz.2 (by decide)
          have HN := Lib.hid (fourP_no HL.out (okN_zero hz.1 hz.2))
          clear hz
          go_wp2_with (go_at_call 152; refine (prefix48 q true _ HP.out).mono ?_; rintro e w' ⟨rfl, rfl⟩)
          go_ret2
          exact ⟨by rw [HN.out]; rfl, HB.out.trans (hbw.mono HB.out.size)⟩
        · have hnz : ¬ (q.data.toList.head? = some 48 ∧ 1 < q.data.toList.length) := by rw [HQL.out]; exact hz
          have HZ := Lib.hid hz
          clear hz
          have hpre : ∃ b c : Bool, Hid ([48].isPrefixOf q.data.toList = b) ∧ Hid ((q.toList == [48]) = c) ∧ (b = false ∨ (b = true ∧ c = true)) := by
            rw [toList_data]
            cases hq : q.data.toList with
            | nil => exact ⟨false, _, Lib.hid rfl, Lib.hid rfl, .inl rfl⟩
            | cons c r =>
              by_cases e : c = 48
              · subst e
                have hr : r = [] := by
                  cases r with
                  | nil => rfl
                  | cons d r => exact absurd ⟨by rw [hq]; rfl, by rw [hq]; simp⟩ hnz
                subst hr
                exact ⟨true, true, Lib.hid rfl, Lib.hid rfl, .inr ⟨rfl, rfl⟩⟩
              · have e2 : (48 == c) = false := by rw [beq_eq_false_iff_ne]; exact fun x => e x.symm
                exact ⟨false, _, Lib.hid (by simp [List.isPrefixOf, e2]), Lib.hid rfl, .inl rfl⟩
          clear hnz
          obtain ⟨b, c, HPB, HPC, hbc⟩ := hpre
          cases hu : short8 q.data.toList with
          | none =>
            have HU := Lib.hid hu
            have HN := Lib.hid (fourP_no HL.out (by rw [← HQL.out]; exact short8_none hu))
            clear hu
            rcases hbc with rfl | ⟨rfl, rfl⟩
            · go_wp2_with (first | (go_at_call 152; refine (prefix48 q _ _ HPB.out).mono ?_; rintro e w' ⟨rfl, rfl⟩) | (go_at_call 153; refine (pub8_none q _ hqs hG2.out HU.out).mono ?_; rintro e w4 ⟨⟨x, g, rfl⟩, hb4⟩))
              go_ret2
              exact ⟨by rw [HN.out]; rfl, HB.out.trans ((hbw.trans (hb4.mono hbw.size)).mono HB.out.size)⟩
            · have hne := HPC.out
              go_wp2_with (first | (go_at_call 152; refine (prefix48 q _ _ HPB.out).mono ?_; rintro e w' ⟨rfl, rfl⟩) | (go_at_call 153; refine (pub8_none q _ hqs hG2.out HU.out).mono ?_; rintro e w4 ⟨⟨x, g, rfl⟩, hb4⟩))
              go_ret2
              exact ⟨by rw [HN.out]; rfl, HB.out.trans ((hbw.trans (hb4.mono hbw.size)).mono HB.out.size)⟩
          | some u =>
            have HU := Lib.hid hu
            obtain ⟨ho, hby, hub⟩ := short8_ok hu (by rw [HQL.out]; exact HZ.out)
            rw [HQL.out] at ho hby
            have HO := Lib.hid ho
            have HBV : Hid (byV P k = .int .u8 (u : Int)) := Lib.hid (by
              unfold byV
              rw [List.getD_eq_getElem?_getD, HL.out, Option.getD_some, hby])
            clear hu ho hby
            rcases hbc with rfl | ⟨rfl, rfl⟩
            · go_wp2_with (first | (go_at_call 152; refine (prefix48 q _ _ HPB.out).mono ?_; rintro e w' ⟨rfl, rfl⟩) | (go_at_call 153; refine (pub8_some q u _ hqs hG2.out HU.out).mono ?_; rintro e w4 ⟨rfl, hb4⟩; have hA4 := hA.out.below hb4; obtain ⟨u', hcell4⟩ := hA4.held k hlt; have hfree := hA4.free k hlt; have HA4 := Lib.hid hA4; clear hA4))
              go_roundw
              case rel => exact ⟨k + 1, hlt, by go_num, Lib.hid (HA4.out.step hlt HBV.out), Lib.hid (all_push HL.out hall.out HO.out), (hbw.trans (hb4.mono hbw.size)).setCell (Nat.le_refl _) _⟩
              case measure => simp [RowKit.intOf]; omega
            · have hne := HPC.out
              go_wp2_with (first | (go_at_call 152; refine (prefix48 q _ _ HPB.out).mono ?_; rintro e w' ⟨rfl, rfl⟩) | (go_at_call 153; refine (pub8_some q u _ hqs hG2.out HU.out).mono ?_; rintro e w4 ⟨rfl, hb4⟩; have hA4 := hA.out.below hb4; obtain ⟨u', hcell4⟩ := hA4.held k hlt; have hfree := hA4.free k hlt; have HA4 := Lib.hid hA4; clear hA4))
              go_roundw
              case rel => exact ⟨k + 1, hlt, by go_num, Lib.hid (HA4.out.step hlt HBV.out), Lib.hid (all_push HL.out hall.out HO.out), (hbw.trans (hb4.mono hbw.size)).setCell (Nat.le_refl _) _⟩
              case measure => simp [RowKit.intOf]; omega
      · obtain rfl : k = 4 := by omega
        have HF := Lib.hid (fourP_all H4.out hall.out)
        have hstr : (convert 22 9 (.slice (some ⟨w2.heap.size, 0, none⟩) 4 4)).run Tryz.prog wr = .ok (.string ⟨(P.map byN).toArray⟩) wr := by
          have hl4 : (P.map byN).length = 4 := by rw [List.length_map]; exact H4.out
          have := run_convert_bytes_back (P := Tryz.prog) wr 22 9 5 ⟨w2.heap.size, 0, none⟩ 4 (P.map byN) Tryz.underlying22 Tryz.underlying5 Tryz.underlying9 (fun j hj => by
            have ha : (⟨w2.heap.size, 0, none⟩ : Addr).add j = ⟨w2.heap.size, j, none⟩ := by unfold Addr.add; split <;> simp_all
            rw [ha, hA.out.told j (by omega)]
            have hj' : j < P.length := by rw [List.length_map] at hj; exact hj
            unfold byV
            rw [List.getD_eq_getElem?_getD, List.getElem?_eq_getElem hj', Option.getD_some, List.getElem_map])
          rw [hl4] at this
          exact this
        go_wp2
        go_ret2
        exact ⟨by rw [HF.out]; rfl, HB.out.trans (hbw.mono HB.out.size)⟩
  · have HF : Hid (fourP (splitL 46 s.data.toList) = none) := Lib.hid (cutN_notfour _ (by rw [hP]; exact h4))
    have hlen := cutN_len 46 5 s.data.toList (by omega)
    rw [hP] at hS hlen
    have HS := Lib.hid hS
    have h4' : ((P.length : Int) != 4) = true := by simp; omega
    clear hS hP
    go_enter Tryz.func125, Tryz.ntmps125
    go_wp2_with (go_at_call 151; refine HS.out.mono ?_; rintro e w2 ⟨cap, rfl, hc1, hc2, hlt2, hrd, hb⟩; clear hrd)
    go_ret2
    exact ⟨by rw [HF.out]; rfl, hb⟩
end Go.Proofs.YtogdkmkganpaaaaGreatDoor

namespace Go.Proofs.YtogdkmkganpaaaaGreatDoor
open Go.RowKit Go.Lib Go.Tx Go.Rb Go.Ev
theorem pub16_some (s : ByteArray) (m : Nat) (w : World) (hs : s.size ≤ 1000000) (hg : GloAt w) (h : hex16 s.data.toList = true) (hm : hexA s.data.toList = m) :
    Calls Tryz.prog 153 #[.string s, .int .i64 16, .int .i64 16] w fun e w' => e = .returned (.tuple #[.int .u64 (m : Int), .nilIface]) ∧ Below w.heap.size w w' := by
  refine (pub16_any s w hs hg.syn hg.rng).mono ?_
  rintro e w' ⟨hb, h2⟩
  rw [if_pos h, hm] at h2
  exact ⟨h2, hb⟩
theorem pub16_none (s : ByteArray) (w : World) (hs : s.size ≤ 1000000) (hg : GloAt w) (h : hex16 s.data.toList = false) :
    Calls Tryz.prog 153 #[.string s, .int .i64 16, .int .i64 16] w fun e w' => (∃ (x : Int) (g : Nat), e = .returned (.tuple #[.int .u64 x, .iface 276 (.pointer (some ⟨g, 0, none⟩))])) ∧ Below w.heap.size w w' := by
  refine (pub16_any s w hs hg.syn hg.rng).mono ?_
  rintro e w' ⟨hb, h2⟩
  rw [if_neg (by rw [h]; decide)] at h2
  exact ⟨h2, hb⟩
theorem pgroups_nil (s : ByteArray) (w : World) (h : s.data.toList = []) :
    Calls Tryz.prog 149 #[.string s] w (FourR w (pgP s.data.toList)) := by
  have HG : Hid (pgP s.data.toList = some []) := Lib.hid (by unfold pgP; rw [if_pos h])
  have e1 : s = ⟨#[]⟩ := by apply ByteArray.ext; apply Array.ext'; exact h
  subst e1
  clear h
  go_enter Tryz.func149, Tryz.ntmps149
  go_wp2
  go_ret2
  exact ⟨by rw [HG.out]; rfl, Below.refl _ _⟩
theorem four_or (r : Option (List UInt8)) : (∃ f, r = some f) ∨ r = none := by cases r with
  | none => exact .inr rfl
  | some f => exact .inl ⟨f, rfl⟩
theorem hex16_bd {l : List UInt8} (h : hex16 l = true) : ∃ m : Nat, hexA l = m ∧ m ≤ 65535 := by
  unfold hex16 at h
  simp only [Bool.and_eq_true, decide_eq_true_eq] at h
  have h0 : 0 ≤ hexA l := hexA_from l 0 (fun c hc => by
    have := h.1.2
    unfold hexOk at this
    rw [List.all_eq_true] at this
    simpa using this c hc) (by omega)
  exact ⟨(hexA l).toNat, by omega, by omega⟩
theorem join_str (a f : List UInt8) : (⟨a.toArray⟩ : ByteArray) ++ ⟨f.toArray⟩ = ⟨(a ++ f).toArray⟩ := by
  apply ByteArray.ext
  apply Array.ext'
  simp
set_option maxHeartbeats 4000000 in
set_option maxRecDepth 100000 in
theorem pgroups_yes (s : ByteArray) (w : World) (hs : s.size ≤ 100000) (hg : GloAt w) (h0 : s.data.toList ≠ []) (P : List (List UInt8)) (N : Nat) (hP : cutN 58 9 s.data.toList = P) (hN : P.length = N + 1) (lst : List UInt8) (hlst : P[N]? = some lst) (f : List UInt8) (hf : fourP (splitL 46 lst) = some f) (hpl : ∀ l ∈ P, l.length ≤ 100000) :
    Calls Tryz.prog 149 #[.string s] w (FourR w (pgP s.data.toList)) := by
  obtain ⟨i5, hi, hz0, hz1, hz2⟩ := info_parts info5
  have hS := splitN_any s 58 9 w (by omega) (by omega) (by omega) hg
  have hlen := cutN_len 58 9 s.data.toList (by omega)
  rw [hP] at hS hlen
  rw [hN] at hlen
  have hl2 : P.getLastD [] = lst := by
    rw [List.getLastD_eq_getLast?, List.getLast?_eq_getElem?, hN, Nat.add_sub_cancel, hlst]; rfl
  have hpg : pgP s.data.toList = (hexAll (P.take N)).map (· ++ f) := by
    unfold pgP
    rw [if_neg h0, hP, hl2, hf, List.dropLast_eq_take, hN]; rfl
  have HE : Hid (∀ a, hexAll (P.take N) = some a → pgP s.data.toList = some (a ++ f)) := Lib.hid (fun a h => by rw [hpg, h]; rfl)
  have HK : Hid (∀ l ∈ P.take N, hexG l = none → pgP s.data.toList = none) := Lib.hid (fun l hl h => by rw [hpg, hexAll_no hl h]; rfl)
  have hf4 := fourP_len hf
  have HS := Lib.hid hS
  have HN := Lib.hid hN
  have HL := Lib.hid hlst
  have HPL := Lib.hid hpl
  have HG := Lib.hid hg
  have hll := hpl lst (List.mem_of_getElem? hlst)
  obtain ⟨ql, hq⟩ : ∃ q : ByteArray, (⟨lst.toArray⟩ : ByteArray) = q := ⟨_, rfl⟩
  have hqs : ql.size ≤ 100000 := by
    rw [← hq]
    show lst.toArray.size ≤ _
    simpa using hll
  have hqf : fourP (splitL 46 ql.data.toList) = some f := by rw [← hq]; exact hf
  have HQF := Lib.hid hqf
  have HQ := Lib.hid hq
  have e1 : ¬ s.toList = [] := by rw [toList_data]; exact h0
  have e2 : s.toList.isEmpty = false := by cases hh : s.toList with | nil => exact absurd hh e1 | cons x y => rfl
  clear hS hN hlst hpl hg hf hP hpg hl2 hq hqf h0 hll
  go_enter Tryz.func149, Tryz.ntmps149
  go_wp2_with (first | (go_at_call 151; refine HS.out.mono ?_; rintro e w2 ⟨cap, rfl, hc1, hc2, hlt2, hrd, hb⟩; rw [HN.out] at hc1 ⊢; have hlc := hrd N lst HL.out; rw [HQ.out] at hlc; have HRD := Lib.hid hrd; have HB := Lib.hid hb; have hbs := hb.size; clear hrd hb) | (go_at_call 125; refine (pshort_any ql _ hqs (HG.out.below HB.out)).mono ?_; rw [HQF.out]; rintro e w3 ⟨rfl, hb3⟩; simp only [Option.getD_some, Option.isSome_some]; have HB3 := Lib.hid hb3; have hbs3 := hb3.size; clear hb3))
  go_loopw [8, 36] (fun av i wr => ∃ (k : Nat) (a : List UInt8), k ≤ N ∧ i = .int .i64 k ∧ Hid (RB w3.heap.size wr av a) ∧ Hid (hexAll (P.take k) = some a) ∧ Hid (a.length = 2 * k) ∧ Below w3.heap.size w3 wr) (fun _ i _ => N - (RowKit.intOf i).toNat)
  case atStart => exact ⟨0, [], Nat.zero_le _, rfl, Lib.hid (RB.nil _ _), Lib.hid rfl, Lib.hid rfl, Below.refl _ _⟩
  case round =>
    obtain ⟨k, a, hk, rfl, hO, hall, hal, hbw⟩ := hrel
    have hws := hbw.size
    have hal2 : a.length ≤ 1000 := by have := hal.out; omega
    obtain ⟨pa, ca, rfl, hca1, hca2⟩ := hO.out.shape
    have hG2 : Hid (GloAt wr) := Lib.hid (((HG.out.below HB.out).below HB3.out).below hbw)
    by_cases hlt : k < N
    · obtain ⟨l, hl⟩ : ∃ l, P[k]? = some l := ⟨_, List.getElem?_eq_getElem (by rw [HN.out]; omega)⟩
      have hcell : wr.cell? ⟨w.heap.size, k, none⟩ = some (.string ⟨l.toArray⟩) := (hbw.cell (p := ⟨w.heap.size, k, none⟩) (by show w.heap.size < _; omega)).trans ((HB3.out.cell (p := ⟨w.heap.size, k, none⟩) hlt2).trans (HRD.out k l hl))
      obtain ⟨q, hq⟩ : ∃ q : ByteArray, (⟨l.toArray⟩ : ByteArray) = q := ⟨_, rfl⟩
      have hql : q.data.toList = l := by rw [← hq]
      have hqs : q.size ≤ 1000000 := by
        have := HPL.out l (List.mem_of_getElem? hl)
        have e : q.data.toList.length = q.size := rfl
        rw [hql] at e
        omega
      rw [hq] at hcell
      have HL := Lib.hid hl
      have HQL := Lib.hid hql
      have HKl : Hid (hexG l = none → pgP s.data.toList = none) := Lib.hid (HK.out l (by
        have := List.getElem?_take_of_lt (l := P) (i := k) (j := N) hlt
        rw [hl] at this
        exact List.mem_of_getElem? this))
      have hqz : q.data.toList.length = q.size := rfl
      rw [hql] at hqz
      have HQZ := Lib.hid hqz
      clear hl hq hql hqz
      cases hx : hex16 q.data.toList with
      | false =>
        have HX := Lib.hid hx
        have HY := Lib.hid (HKl.out (hexG_no16 (by rw [← HQL.out]; exact hx)))
        clear hx
        go_wp2_with (go_at_call 153; refine (pub16_none q _ hqs hG2.out HX.out).mono ?_; rintro e w4 ⟨⟨x, g, rfl⟩, hb4⟩)
        go_ret2
        exact ⟨by rw [HY.out]; rfl, HB.out.trans ((HB3.out.trans ((hbw.trans (hb4.mono hbw.size)).mono HB3.out.size)).mono HB.out.size)⟩
      | true =>
        obtain ⟨m, hm, hm2⟩ := hex16_bd hx
        have HX := Lib.hid hx
        have HM := Lib.hid hm
        by_cases h4 : 4 < q.size
        · have HY := Lib.hid (HKl.out (hexG_long (by rw [HQZ.out]; exact h4)))
          clear hx hm
          go_wp2_with (go_at_call 153; refine (pub16_some q m _ hqs hG2.out HX.out HM.out).mono ?_; rintro e w4 ⟨rfl, hb4⟩)
          go_ret2
          exact ⟨by rw [HY.out]; rfl, HB.out.trans ((HB3.out.trans ((hbw.trans (hb4.mono hbw.size)).mono HB3.out.size)).mono HB.out.size)⟩
        · have h4' : q.size ≤ 4 := by omega
          have HY : Hid (hexG l = some [UInt8.ofNat (m / 256), UInt8.ofNat (m % 256)]) := Lib.hid (by
            have := hexG_16 hx (by rw [HQL.out, HQZ.out]; exact h4')
            rw [hm, HQL.out] at this
            exact this)
          clear hx hm h4
          go_wp2_with (first | (go_at_call 153; refine (pub16_some q m _ hqs hG2.out HX.out HM.out).mono ?_; rintro e w4 ⟨rfl, hb4⟩; have HO4 := Lib.hid (hO.out.below hb4); have hbs4 := hb4.size) | (at_builtin; refine wpList_append_rb rfl _ _ 22 22 rfl Tryz.underlying22 Tryz.underlying22 (by intro k h; cases h) hi hz0 hz1 hz2 (B := w3.heap.size) (l := a) (m := [UInt8.ofNat (m / 256), UInt8.ofNat (m % 256)]) rfl rfl (HO4.out.alloc _) (lit2 _ () (by simp; omega) (by simp)) (Nat.le_trans (Nat.le_trans hws hbs4) (Nat.le_of_lt (by simp))) (by simp; omega) ?_; intro s' w5 hO5 hb5))
          go_roundw
          case rel => exact ⟨k + 1, a ++ [UInt8.ofNat (m / 256), UInt8.ofNat (m % 256)], hlt, by go_num, Lib.hid hO5, Lib.hid (hexAll_step HL.out hall.out HY.out), Lib.hid (by have := hal.out; simp; omega), ((hbw.trans (hb4.mono hws)).alloc (Nat.le_trans hws hbs4) _).trans hb5⟩
          case measure => simp [RowKit.intOf]; omega
    · obtain rfl : k = N := by omega
      have HF := Lib.hid (HE.out a hall.out)
      have hstr := hO.out.str (P := Tryz.prog) (src := 22) (dst := 9) Tryz.underlying22 Tryz.underlying5 Tryz.underlying9
      have hX : (⟨a.toArray⟩ : ByteArray).size ≤ 1000 := by show a.toArray.size ≤ _; simp; omega
      have hX2 : (⟨f.toArray⟩ : ByteArray).size ≤ 1000 := by show f.toArray.size ≤ _; simp; omega
      go_wp2
      go_ret2
      exact ⟨by rw [HF.out]; simp only [Option.getD_some, Option.isSome_some, ← join_str]; rfl, HB.out.trans ((HB3.out.trans (hbw.mono HB3.out.size)).mono HB.out.size)⟩
set_option maxHeartbeats 4000000 in
set_option maxRecDepth 100000 in
theorem pgroups_no (s : ByteArray) (w : World) (hs : s.size ≤ 100000) (hg : GloAt w) (h0 : s.data.toList ≠ []) (P : List (List UInt8)) (N : Nat) (hP : cutN 58 9 s.data.toList = P) (hN : P.length = N + 1) (lst : List UInt8) (hlst : P[N]? = some lst) (hf : fourP (splitL 46 lst) = none) (hpl : ∀ l ∈ P, l.length ≤ 100000) :
    Calls Tryz.prog 149 #[.string s] w (FourR w (pgP s.data.toList)) := by
  obtain ⟨i5, hi, hz0, hz1, hz2⟩ := info_parts info5
  have hS := splitN_any s 58 9 w (by omega) (by omega) (by omega) hg
  have hlen := cutN_len 58 9 s.data.toList (by omega)
  rw [hP] at hS hlen
  rw [hN] at hlen
  have hl2 : P.getLastD [] = lst := by
    rw [List.getLastD_eq_getLast?, List.getLast?_eq_getElem?, hN, Nat.add_sub_cancel, hlst]; rfl
  have hpg : pgP s.data.toList = hexAll P := by
    unfold pgP
    rw [if_neg h0, hP, hl2, hf]
  have htk : P.take (N + 1) = P := List.take_of_length_le (by omega)
  have HE : Hid (∀ a, hexAll (P.take (N + 1)) = some a → pgP s.data.toList = some (a ++ [])) := Lib.hid (fun a h => by rw [htk] at h; rw [hpg, h, List.append_nil])
  have HK : Hid (∀ l ∈ P.take (N + 1), hexG l = none → pgP s.data.toList = none) := Lib.hid (fun l hl h => by rw [htk] at hl; rw [hpg, hexAll_no hl h])
  clear htk
  have HS := Lib.hid hS
  have HN := Lib.hid hN
  have HL := Lib.hid hlst
  have HPL := Lib.hid hpl
  have HG := Lib.hid hg
  have hll := hpl lst (List.mem_of_getElem? hlst)
  obtain ⟨ql, hq⟩ : ∃ q : ByteArray, (⟨lst.toArray⟩ : ByteArray) = q := ⟨_, rfl⟩
  have hqs : ql.size ≤ 100000 := by
    rw [← hq]
    show lst.toArray.size ≤ _
    simpa using hll
  have hqf : fourP (splitL 46 ql.data.toList) = none := by rw [← hq]; exact hf
  have HQF := Lib.hid hqf
  have HQ := Lib.hid hq
  have e1 : ¬ s.toList = [] := by rw [toList_data]; exact h0
  have e2 : s.toList.isEmpty = false := by cases hh : s.toList with | nil => exact absurd hh e1 | cons x y => rfl
  clear hS hN hlst hpl hg hf hP hpg hl2 hq hqf h0 hll
  go_enter Tryz.func149, Tryz.ntmps149
  go_wp2_with (first | (go_at_call 151; refine HS.out.mono ?_; rintro e w2 ⟨cap, rfl, hc1, hc2, hlt2, hrd, hb⟩; rw [HN.out] at hc1 ⊢; have hlc := hrd N lst HL.out; rw [HQ.out] at hlc; have HRD := Lib.hid hrd; have HB := Lib.hid hb; have hbs := hb.size; clear hrd hb) | (go_at_call 125; refine (pshort_any ql _ hqs (HG.out.below HB.out)).mono ?_; rw [HQF.out]; rintro e w3 ⟨rfl, hb3⟩; simp only [Option.getD_none, Option.isSome_none]; have HB3 := Lib.hid hb3; have hbs3 := hb3.size; clear hb3))
  go_loopw [8, 36] (fun av i wr => ∃ (k : Nat) (a : List UInt8), k ≤ (N + 1) ∧ i = .int .i64 k ∧ Hid (RB w3.heap.size wr av a) ∧ Hid (hexAll (P.take k) = some a) ∧ Hid (a.length = 2 * k) ∧ Below w3.heap.size w3 wr) (fun _ i _ => (N + 1) - (RowKit.intOf i).toNat)
  case atStart => exact ⟨0, [], Nat.zero_le _, rfl, Lib.hid (RB.nil _ _), Lib.hid rfl, Lib.hid rfl, Below.refl _ _⟩
  case round =>
    obtain ⟨k, a, hk, rfl, hO, hall, hal, hbw⟩ := hrel
    have hws := hbw.size
    have hal2 : a.length ≤ 1000 := by have := hal.out; omega
    obtain ⟨pa, ca, rfl, hca1, hca2⟩ := hO.out.shape
    have hG2 : Hid (GloAt wr) := Lib.hid (((HG.out.below HB.out).below HB3.out).below hbw)
    by_cases hlt : k < (N + 1)
    · obtain ⟨l, hl⟩ : ∃ l, P[k]? = some l := ⟨_, List.getElem?_eq_getElem (by rw [HN.out]; omega)⟩
      have hcell : wr.cell? ⟨w.heap.size, k, none⟩ = some (.string ⟨l.toArray⟩) := (hbw.cell (p := ⟨w.heap.size, k, none⟩) (by show w.heap.size < _; omega)).trans ((HB3.out.cell (p := ⟨w.heap.size, k, none⟩) hlt2).trans (HRD.out k l hl))
      obtain ⟨q, hq⟩ : ∃ q : ByteArray, (⟨l.toArray⟩ : ByteArray) = q := ⟨_, rfl⟩
      have hql : q.data.toList = l := by rw [← hq]
      have hqs : q.size ≤ 1000000 := by
        have := HPL.out l (List.mem_of_getElem? hl)
        have e : q.data.toList.length = q.size := rfl
        rw [hql] at e
        omega
      rw [hq] at hcell
      have HL := Lib.hid hl
      have HQL := Lib.hid hql
      have HKl : Hid (hexG l = none → pgP s.data.toList = none) := Lib.hid (HK.out l (by
        have := List.getElem?_take_of_lt (l := P) (i := k) (j := (N + 1)) hlt
        rw [hl] at this
        exact List.mem_of_getElem? this))
      have hqz : q.data.toList.length = q.size := rfl
      rw [hql] at hqz
      have HQZ := Lib.hid hqz
      clear hl hq hql hqz
      cases hx : hex16 q.data.toList with
      | false =>
        have HX := Lib.hid hx
        have HY := Lib.hid (HKl.out (hexG_no16 (by rw [← HQL.out]; exact hx)))
        clear hx
        go_wp2_with (go_at_call 153; refine (pub16_none q _ hqs hG2.out HX.out).mono ?_; rintro e w4 ⟨⟨x, g, rfl⟩, hb4⟩)
        go_ret2
        exact ⟨by rw [HY.out]; rfl, HB.out.trans ((HB3.out.trans ((hbw.trans (hb4.mono hbw.size)).mono HB3.out.size)).mono HB.out.size)⟩
      | true =>
        obtain ⟨m, hm, hm2⟩ := hex16_bd hx
        have HX := Lib.hid hx
        have HM := Lib.hid hm
        by_cases h4 : 4 < q.size
        · have HY := Lib.hid (HKl.out (hexG_long (by rw [HQZ.out]; exact h4)))
          clear hx hm
          go_wp2_with (go_at_call 153; refine (pub16_some q m _ hqs hG2.out HX.out HM.out).mono ?_; rintro e w4 ⟨rfl, hb4⟩)
          go_ret2
          exact ⟨by rw [HY.out]; rfl, HB.out.trans ((HB3.out.trans ((hbw.trans (hb4.mono hbw.size)).mono HB3.out.size)).mono HB.out.size)⟩
        · have h4' : q.size ≤ 4 := by omega
          have HY : Hid (hexG l = some [UInt8.ofNat (m / 256), UInt8.ofNat (m % 256)]) := Lib.hid (by
            have := hexG_16 hx (by rw [HQL.out, HQZ.out]; exact h4')
            rw [hm, HQL.out] at this
            exact this)
          clear hx hm h4
          go_wp2_with (first | (go_at_call 153; refine (pub16_some q m _ hqs hG2.out HX.out HM.out).mono ?_; rintro e w4 ⟨rfl, hb4⟩; have HO4 := Lib.hid (hO.out.below hb4); have hbs4 := hb4.size) | (at_builtin; refine wpList_append_rb rfl _ _ 22 22 rfl Tryz.underlying22 Tryz.underlying22 (by intro k h; cases h) hi hz0 hz1 hz2 (B := w3.heap.size) (l := a) (m := [UInt8.ofNat (m / 256), UInt8.ofNat (m % 256)]) rfl rfl (HO4.out.alloc _) (lit2 _ () (by simp; omega) (by simp)) (Nat.le_trans (Nat.le_trans hws hbs4) (Nat.le_of_lt (by simp))) (by simp; omega) ?_; intro s' w5 hO5 hb5))
          go_roundw
          case rel => exact ⟨k + 1, a ++ [UInt8.ofNat (m / 256), UInt8.ofNat (m % 256)], hlt, by go_num, Lib.hid hO5, Lib.hid (hexAll_step HL.out hall.out HY.out), Lib.hid (by have := hal.out; simp; omega), ((hbw.trans (hb4.mono hws)).alloc (Nat.le_trans hws hbs4) _).trans hb5⟩
          case measure => simp [RowKit.intOf]; omega
    · obtain rfl : k = (N + 1) := by omega
      have HF := Lib.hid (HE.out a hall.out)
      have hstr := hO.out.str (P := Tryz.prog) (src := 22) (dst := 9) Tryz.underlying22 Tryz.underlying5 Tryz.underlying9
      have hX : (⟨a.toArray⟩ : ByteArray).size ≤ 1000 := by show a.toArray.size ≤ _; simp; omega
      go_wp2
      go_ret2
      exact ⟨by rw [HF.out]; simp only [Option.getD_some, Option.isSome_some, ← join_str]; rfl, HB.out.trans ((HB3.out.trans (hbw.mono HB3.out.size)).mono HB.out.size)⟩
theorem pgroups_any (s : ByteArray) (w : World) (hs : s.size ≤ 100000) (hg : GloAt w) :
    Calls Tryz.prog 149 #[.string s] w (FourR w (pgP s.data.toList)) := by
  by_cases h0 : s.data.toList = []
  · exact pgroups_nil s w h0
  have hlen := cutN_len 58 9 s.data.toList (by omega)
  obtain ⟨P, hP⟩ : ∃ P, cutN 58 9 s.data.toList = P := ⟨_, rfl⟩
  rw [hP] at hlen
  obtain ⟨N, hN⟩ : ∃ N, P.length = N + 1 := ⟨P.length - 1, by omega⟩
  obtain ⟨lst, hlst⟩ : ∃ l, P[N]? = some l := ⟨_, List.getElem?_eq_getElem (by omega)⟩
  have hpl : ∀ l ∈ P, l.length ≤ 100000 := fun l hl => by
    rw [← hP] at hl
    have := cutN_mem hl
    have e : s.data.toList.length = s.size := rfl
    omega
  rcases four_or (fourP (splitL 46 lst)) with ⟨f, hf⟩ | hf
  · exact pgroups_yes s w hs hg h0 P N hP hN lst hlst f hf hpl
  · exact pgroups_no s w hs hg h0 P N hP hN lst hlst hf hpl
end Go.Proofs.YtogdkmkganpaaaaGreatDoor

namespace Go.Proofs.YtogdkmkganpaaaaGreatDoor
open Go.RowKit Go.Lib Go.Tx Go.Rb Go.Ev
theorem below_drewN (w : World) : ∀ n, Below w.heap.size w (w.drewN n)
  | 0 => Below.refl _ _
  | n + 1 => (below_drewN w n).drew
theorem idx_mem (l : List UInt8) (c : UInt8) : decide (0 ≤ Lib.indexByte l c) = decide (c ∈ l) := by
  have h := Lib.indexByte_ge l c
  by_cases h1 : Lib.indexByte l c = -1
  · have := Lib.indexByte_none h1
    have hn : ¬ c ∈ l := fun hm => by
      obtain ⟨k, hk, e⟩ := List.getElem_of_mem hm
      exact this k (by rw [List.getElem?_eq_getElem hk, e])
    rw [h1]; simp [hn]
  · obtain ⟨o, ho⟩ : ∃ o : Nat, Lib.indexByte l c = o := ⟨(Lib.indexByte l c).toNat, by omega⟩
    have := (Lib.indexByte_some ho).1
    have hm := List.mem_of_getElem? this
    rw [ho]; simp [hm]
theorem contains_is (s : ByteArray) (c : UInt8) (b : Bool) (w : World) (h : decide (c ∈ s.data.toList) = b) : Calls Tryz.prog 123 #[.string s, .string ⟨#[c]⟩] w fun e w' => e = .returned (.bool b) ∧ w = w' := by
  refine (Tryz.strings_Contains_one s c w).mono ?_
  rintro e w' ⟨rfl, rfl⟩
  exact ⟨by rw [idx_mem, h], rfl⟩
theorem cut_is (s : ByteArray) (w : World) (hs : s.size ≤ 100000) (hg : GloAt w) (A B : List UInt8) (b : Bool) (h : Lib.cut s.data.toList [58, 58] = (A, B, b)) :
    Calls Tryz.prog 99 #[.string s, .string ⟨#[58, 58]⟩] w fun e w' => e = .returned (.tuple #[.string ⟨A.toArray⟩, .string ⟨B.toArray⟩, .bool b]) ∧ Below w.heap.size w w' := by
  obtain ⟨m, hm⟩ := hg.len
  refine (Tryz.strings_Cut s ⟨#[58, 58]⟩ m w (by omega) hm).mono ?_
  rintro e w' ⟨rfl, n, rfl⟩
  have h' : Lib.cut s.data.toList (ByteArray.data ⟨#[58, 58]⟩).toList = (A, B, b) := h
  rw [h']
  exact ⟨rfl, below_drewN w n⟩
theorem cut_len (l sep : List UInt8) : (Lib.cut l sep).1.length ≤ l.length ∧ (Lib.cut l sep).2.1.length ≤ l.length := by
  unfold Lib.cut
  split
  · simp; omega
  · simp
theorem pgP_len {s a : List UInt8} (h : pgP s = some a) : a.length ≤ 22 := by
  unfold pgP at h
  have hl := cutN_len 58 9 s (by omega)
  split at h
  · cases h; simp
  · split at h
    · rename_i f hf
      have := fourP_len hf
      cases hx : hexAll (cutN 58 9 s).dropLast with
      | none => rw [hx] at h; cases h
      | some x =>
        rw [hx] at h
        cases h
        have h2 := hexAll_len hx
        rw [List.length_dropLast] at h2
        simp
        omega
    · have := hexAll_len h
      omega
theorem pg_call (l : List UInt8) (w : World) (hl : l.length ≤ 100000) (hg : GloAt w) (r : Option (List UInt8)) (hr : pgP l = r) : Calls Tryz.prog 149 #[.string ⟨l.toArray⟩] w (FourR w r) := by
  have := pgroups_any ⟨l.toArray⟩ w (by show l.toArray.size ≤ _; simpa using hl) hg
  rw [← hr]
  exact this
theorem strings_zero (z : Nat) (w : World) (hz : z ≤ 16) : Calls Tryz.prog 150 #[.string ⟨#[0]⟩, .int .i64 z] w fun e w' => e = .returned (.string ⟨(List.replicate z (0 : UInt8)).toArray⟩) ∧ Below w.heap.size w w' := by
  refine (Tryz.strings_Repeat ⟨#[0]⟩ z w (by omega) (by show 1 * z ≤ _; omega)).mono ?_
  rintro e w' ⟨rfl, hb⟩
  refine ⟨?_, hb⟩
  have h1 : repeatL (ByteArray.data ⟨#[0]⟩).toList z = List.replicate z (0 : UInt8) := by
    have h2 := repeatL_replicate (0 : UInt8) 1 z
    rw [Nat.mul_one] at h2
    exact h2
  rw [h1]
/-- No ::. -/
theorem plong_plain (s : ByteArray) (w : World) (hs : s.size ≤ 100000) (hg : GloAt w) (A B : List UInt8) (hc : Lib.cut s.data.toList [58, 58] = (A, B, false)) :
    Calls Tryz.prog 124 #[.string s] w (FourR w (longP s.data.toList)) := by
  obtain ⟨r, hr⟩ : ∃ r, pgP s.data.toList = r := ⟨_, rfl⟩
  have HX : Hid (longP s.data.toList = full16 r) := Lib.hid (by unfold longP; rw [hc, hr]; rfl)
  have HC := Lib.hid (cut_is s w hs hg A B false hc)
  have HG := Lib.hid hg
  have HP : Hid (∀ W, GloAt W → Calls Tryz.prog 149 #[.string s] W (FourR W r)) := Lib.hid (fun W h => by have := pgroups_any s W hs h; rw [hr] at this; exact this)
  clear hc hr hg
  cases r with
  | none =>
    go_enter Tryz.func124, Tryz.ntmps124
    go_wp2_with (first | (go_at_call 99; refine HC.out.mono ?_; rintro e w2 ⟨rfl, hb2⟩; have HB2 := Lib.hid hb2; clear hb2) | (go_at_call 149; refine (HP.out _ (HG.out.below HB2.out)).mono ?_; rintro e w3 ⟨rfl, hb3⟩; simp only [Option.getD_none, Option.isSome_none]))
    go_ret2
    exact ⟨by rw [HX.out]; rfl, HB2.out.trans (hb3.mono HB2.out.size)⟩
  | some b =>
    by_cases h16 : b.length = 16
    · have e16 : ((b.length : Int) != 16) = false := by simp; omega
      have H16 := Lib.hid h16
      clear h16
      go_enter Tryz.func124, Tryz.ntmps124
      go_wp2_with (first | (go_at_call 99; refine HC.out.mono ?_; rintro e w2 ⟨rfl, hb2⟩; have HB2 := Lib.hid hb2; clear hb2) | (go_at_call 149; refine (HP.out _ (HG.out.below HB2.out)).mono ?_; rintro e w3 ⟨rfl, hb3⟩; simp only [Option.getD_some, Option.isSome_some]))
      go_ret2
      exact ⟨by rw [HX.out]; simp only [full16, if_pos H16.out]; rfl, HB2.out.trans (hb3.mono HB2.out.size)⟩
    · have e16 : ((b.length : Int) != 16) = true := by simp; omega
      have H16 := Lib.hid h16
      clear h16
      go_enter Tryz.func124, Tryz.ntmps124
      go_wp2_with (first | (go_at_call 99; refine HC.out.mono ?_; rintro e w2 ⟨rfl, hb2⟩; have HB2 := Lib.hid hb2; clear hb2) | (go_at_call 149; refine (HP.out _ (HG.out.below HB2.out)).mono ?_; rintro e w3 ⟨rfl, hb3⟩; simp only [Option.getD_some, Option.isSome_some]))
      go_ret2
      exact ⟨by rw [HX.out]; simp only [full16, if_neg H16.out]; rfl, HB2.out.trans (hb3.mono HB2.out.size)⟩
set_option maxHeartbeats 2000000 in
theorem plong_cut (s : ByteArray) (w : World) (hs : s.size ≤ 100000) (hg : GloAt w) (A B : List UInt8) (hc : Lib.cut s.data.toList [58, 58] = (A, B, true)) :
    Calls Tryz.prog 124 #[.string s] w (FourR w (longP s.data.toList)) := by
  have HC := Lib.hid (cut_is s w hs hg A B true hc)
  have hln := cut_len s.data.toList [58, 58]
  rw [hc] at hln
  have hsz : s.data.toList.length = s.size := rfl
  simp only [hsz] at hln
  have HA : Hid (A.length ≤ 100000) := Lib.hid (by omega)
  have HB : Hid (B.length ≤ 100000) := Lib.hid (by omega)
  have HG := Lib.hid hg
  obtain ⟨qa, hqa⟩ : ∃ q : ByteArray, (⟨A.toArray⟩ : ByteArray) = q := ⟨_, rfl⟩
  obtain ⟨qb, hqb⟩ : ∃ q : ByteArray, (⟨B.toArray⟩ : ByteArray) = q := ⟨_, rfl⟩
  rw [hqa, hqb] at HC
  by_cases hd : 46 ∈ A
  · have HX : Hid (longP s.data.toList = none) := Lib.hid (by unfold longP; rw [hc, if_pos rfl, if_pos hd])
    have HD : Hid (decide (46 ∈ (⟨A.toArray⟩ : ByteArray).data.toList) = true) := Lib.hid (by simpa using hd)
    rw [hqa] at HD
    clear hc hg hd hln hsz
    go_enter Tryz.func124, Tryz.ntmps124
    go_wp2_with (first | (go_at_call 99; refine HC.out.mono ?_; rintro e w2 ⟨rfl, hb2⟩; have HB2 := Lib.hid hb2; clear hb2) | (go_at_call 123; refine (contains_is _ _ _ _ HD.out).mono ?_; rintro e w3 ⟨rfl, rfl⟩))
    go_ret2
    exact ⟨by rw [HX.out]; rfl, HB2.out⟩
  · have HD : Hid (decide (46 ∈ (⟨A.toArray⟩ : ByteArray).data.toList) = false) := Lib.hid (by simpa using hd)
    obtain ⟨r1, h1⟩ : ∃ r, pgP A = r := ⟨_, rfl⟩
    obtain ⟨r2, h2⟩ : ∃ r, pgP B = r := ⟨_, rfl⟩
    have HX : Hid (longP s.data.toList = bothP r1 r2) := Lib.hid (by unfold longP; rw [hc, if_pos rfl, if_neg hd, h1, h2])
    obtain ⟨x1, hx1⟩ : ∃ q : ByteArray, (⟨(r1.getD []).toArray⟩ : ByteArray) = q := ⟨_, rfl⟩
    obtain ⟨x2, hx2⟩ : ∃ q : ByteArray, (⟨(r2.getD []).toArray⟩ : ByteArray) = q := ⟨_, rfl⟩
    obtain ⟨b1, hb1⟩ : ∃ b, r1.isSome = b := ⟨_, rfl⟩
    obtain ⟨b2, hb2⟩ : ∃ b, r2.isSome = b := ⟨_, rfl⟩
    have HP : Hid (∀ W q, GloAt W → ∀ x b, ((q = qa ∧ x = x1 ∧ b = b1) ∨ (q = qb ∧ x = x2 ∧ b = b2)) → Calls Tryz.prog 149 #[.string q] W fun e w' => e = .returned (.tuple #[.string x, .bool b]) ∧ Below W.heap.size W w') := Lib.hid (fun W q h x b hh => by
      rcases hh with ⟨rfl, rfl, rfl⟩ | ⟨rfl, rfl, rfl⟩
      · rw [← hx1, ← hb1, ← hqa]; exact pg_call A W HA.out h r1 h1
      · rw [← hx2, ← hb2, ← hqb]; exact pg_call B W HB.out h r2 h2)
    have hs1 : x1.size ≤ 22 := by
      rw [← hx1]
      cases r1 with
      | none => exact Nat.zero_le _
      | some a => have := pgP_len h1; show a.toArray.size ≤ _; simpa using this
    have hs2 : x2.size ≤ 22 := by
      rw [← hx2]
      cases r2 with
      | none => exact Nat.zero_le _
      | some a => have := pgP_len h2; show a.toArray.size ≤ _; simpa using this
    rw [hqa] at HD
    cases b1 with
    | false =>
      have HF : Hid (bothP r1 r2 = none) := Lib.hid (by cases r1 with
        | none => cases r2 <;> rfl
        | some a => cases hb1)
      clear hc hg hd hln hsz h1 h2 hqa hqb hx1 hx2 hb1 hb2
      go_enter Tryz.func124, Tryz.ntmps124
      go_wp2_with (first | (go_at_call 99; refine HC.out.mono ?_; rintro e w2 ⟨rfl, hb2⟩; have HB2 := Lib.hid hb2; clear hb2) | (go_at_call 123; refine (contains_is _ _ _ _ HD.out).mono ?_; rintro e w3 ⟨rfl, rfl⟩) | (go_at_call 149; refine (HP.out _ _ (HG.out.below HB2.out) _ _ (by first | exact .inl ⟨rfl, rfl, rfl⟩ | exact .inr ⟨rfl, rfl, rfl⟩)).mono ?_; rintro e w3 ⟨rfl, hb3⟩; have HB2 := Lib.hid (HB2.out.trans (hb3.mono HB2.out.size)); clear hb3))
      go_ret2
      exact ⟨by rw [HX.out, HF.out]; rfl, HB2.out⟩
    | true =>
      cases b2 with
      | false =>
        have HF : Hid (bothP r1 r2 = none) := Lib.hid (by cases r2 with
          | none => cases r1 <;> rfl
          | some a => cases hb2)
        clear hc hg hd hln hsz h1 h2 hqa hqb hx1 hx2 hb1 hb2
        go_enter Tryz.func124, Tryz.ntmps124
        go_wp2_with (first | (go_at_call 99; refine HC.out.mono ?_; rintro e w2 ⟨rfl, hb2⟩; have HB2 := Lib.hid hb2; clear hb2) | (go_at_call 123; refine (contains_is _ _ _ _ HD.out).mono ?_; rintro e w3 ⟨rfl, rfl⟩) | (go_at_call 149; refine (HP.out _ _ (HG.out.below HB2.out) _ _ (by first | exact .inl ⟨rfl, rfl, rfl⟩ | exact .inr ⟨rfl, rfl, rfl⟩)).mono ?_; rintro e w3 ⟨rfl, hb3⟩; have HB2 := Lib.hid (HB2.out.trans (hb3.mono HB2.out.size)); clear hb3))
        go_ret2
        exact ⟨by rw [HX.out, HF.out]; rfl, HB2.out⟩
      | true =>
        obtain ⟨a, rfl⟩ : ∃ a, r1 = some a := Option.isSome_iff_exists.1 hb1
        obtain ⟨b, rfl⟩ : ∃ a, r2 = some a := Option.isSome_iff_exists.1 hb2
        have hl1 : x1.size = a.length := by rw [← hx1]; show a.toArray.size = _; simp
        have hl2 : x2.size = b.length := by rw [← hx2]; show b.toArray.size = _; simp
        by_cases h14 : 14 < x1.size + x2.size
        · have HF : Hid (bothP (some a) (some b) = none) := Lib.hid (by unfold bothP; simp only; rw [if_pos (by omega)])
          clear hc hg hd hln hsz h1 h2 hqa hqb hx1 hx2 hb1 hb2 hl1 hl2
          go_enter Tryz.func124, Tryz.ntmps124
          go_wp2_with (first | (go_at_call 99; refine HC.out.mono ?_; rintro e w2 ⟨rfl, hb2⟩; have HB2 := Lib.hid hb2; clear hb2) | (go_at_call 123; refine (contains_is _ _ _ _ HD.out).mono ?_; rintro e w3 ⟨rfl, rfl⟩) | (go_at_call 149; refine (HP.out _ _ (HG.out.below HB2.out) _ _ (by first | exact .inl ⟨rfl, rfl, rfl⟩ | exact .inr ⟨rfl, rfl, rfl⟩)).mono ?_; rintro e w3 ⟨rfl, hb3⟩; have HB2 := Lib.hid (HB2.out.trans (hb3.mono HB2.out.size)); clear hb3))
          go_ret2
          exact ⟨by rw [HX.out, HF.out]; rfl, HB2.out⟩
        · obtain ⟨z, hz⟩ : ∃ z, 16 - x1.size - x2.size = z := ⟨_, rfl⟩
          have HF : Hid (bothP (some a) (some b) = some (a ++ List.replicate z 0 ++ b)) := Lib.hid (by unfold bothP; simp only; rw [if_neg (by omega), ← hl1, ← hl2, hz])
          have HX1 := Lib.hid hx1
          have HX2 := Lib.hid hx2
          have hzi : (16 : Int) - x1.size - x2.size = z := by omega
          have hz2 : 2 ≤ z := by omega
          have hz16 : z ≤ 16 := by omega
          obtain ⟨x3, hx3⟩ : ∃ q : ByteArray, (⟨(List.replicate z (0 : UInt8)).toArray⟩ : ByteArray) = q := ⟨_, rfl⟩
          have HX3 := Lib.hid hx3
          have hs3 : x3.size ≤ 22 := by rw [← hx3]; show (List.replicate z (0 : UInt8)).toArray.size ≤ _; simp; omega
          have HZ : Hid (∀ W, Calls Tryz.prog 150 #[.string ⟨#[0]⟩, .int .i64 z] W fun e w' => e = .returned (.string x3) ∧ Below W.heap.size W w') := Lib.hid (fun W => by rw [← hx3]; exact strings_zero z W hz16)
          clear hc hg hd hln hsz h1 h2 hqa hqb hx1 hx2 hb1 hb2 hl1 hl2 hz h14 hx3
          go_enter Tryz.func124, Tryz.ntmps124
          go_wp2_with (first | (go_at_call 99; refine HC.out.mono ?_; rintro e w2 ⟨rfl, hb2⟩; have HB2 := Lib.hid hb2; clear hb2) | (go_at_call 123; refine (contains_is _ _ _ _ HD.out).mono ?_; rintro e w3 ⟨rfl, rfl⟩) | (go_at_call 149; refine (HP.out _ _ (HG.out.below HB2.out) _ _ (by first | exact .inl ⟨rfl, rfl, rfl⟩ | exact .inr ⟨rfl, rfl, rfl⟩)).mono ?_; rintro e w3 ⟨rfl, hb3⟩; have HB2 := Lib.hid (HB2.out.trans (hb3.mono HB2.out.size)); clear hb3) | (go_at_call 150; refine (HZ.out _).mono ?_; rintro e w5 ⟨rfl, hb5⟩))
          go_ret2
          exact ⟨by rw [HX.out, HF.out, ← HX1.out, ← HX2.out, ← HX3.out]; simp only [Option.getD_some, Option.isSome_some, ← join_str]; rfl, HB2.out.trans (hb5.mono HB2.out.size)⟩
theorem paddr_any (s : ByteArray) (w : World) (hs : s.size ≤ 100000) (hg : GloAt w) :
    Calls Tryz.prog 97 #[.string s] w (FourR w (parseP s.data.toList)) := by
  rw [← addrP_parse]
  by_cases h : 58 ∈ s.data.toList
  · have HX : Hid (addrP s.data.toList = longP s.data.toList) := Lib.hid (by unfold addrP; rw [if_pos h])
    have HD : Hid (decide (58 ∈ s.data.toList) = true) := Lib.hid (by simpa using h)
    have HL : Hid (Calls Tryz.prog 124 #[.string s] w (FourR w (longP s.data.toList))) := Lib.hid (by
      obtain ⟨A, B, b, hc⟩ : ∃ A B b, Lib.cut s.data.toList [58, 58] = (A, B, b) := ⟨_, _, _, rfl⟩
      cases b with
      | false => exact plong_plain s w hs hg A B hc
      | true => exact plong_cut s w hs hg A B hc)
    rw [HX.out]
    generalize longP s.data.toList = R at *
    clear h hg
    go_enter Tryz.func97, Tryz.ntmps97
    go_wp2_with (first | (go_at_call 123; refine (contains_is _ _ _ _ HD.out).mono ?_; rintro e w3 ⟨rfl, rfl⟩) | (go_at_call 124; refine HL.out.mono ?_; rintro e w3 ⟨rfl, hb3⟩))
    go_ret2
    exact ⟨rfl, hb3⟩
  · have HX : Hid (addrP s.data.toList = fourP (splitL 46 s.data.toList)) := Lib.hid (by unfold addrP; rw [if_neg h])
    have HD : Hid (decide (58 ∈ s.data.toList) = false) := Lib.hid (by simpa using h)
    have HL := Lib.hid (pshort_any s w hs hg)
    rw [HX.out]
    generalize fourP (splitL 46 s.data.toList) = R at *
    clear h hg
    go_enter Tryz.func97, Tryz.ntmps97
    go_wp2_with (first | (go_at_call 123; refine (contains_is _ _ _ _ HD.out).mono ?_; rintro e w3 ⟨rfl, rfl⟩) | (go_at_call 125; refine HL.out.mono ?_; rintro e w3 ⟨rfl, hb3⟩))
    go_ret2
    exact ⟨rfl, hb3⟩
end Go.Proofs.YtogdkmkganpaaaaGreatDoor

namespace Go.Proofs.YtogdkmkganpaaaaGreatDoor
open Go.RowKit Go.Lib Go.Tx
theorem one_textsE (w : World) (x : ByteArray) : TextsIn (w.alloc (.cells #[.string x] 9)) (.slice (some ⟨w.heap.size, 0, none⟩) 1 1) [x.data.toList] := by
  refine .inr ⟨_, 1, rfl, fun i l hi => ?_⟩
  have ha : (⟨w.heap.size, 0, none⟩ : Addr).add i = ⟨w.heap.size, i, none⟩ := by unfold Addr.add; split <;> simp_all
  rw [ha, World.cell?_alloc_new]
  match i, hi with
  | 0, hi => cases hi; rfl
theorem SetAt.keepS {a w : World} {B b : Nat} {v1 v2 : Value} {S : SetL} (h : SetAt a B b v1 v2 S w) : SetAt a B b v1 v2 S (w.setCell ⟨b, 0, none⟩ v1) :=
  ⟨setE_eq h.blk, strc_set h.srv h.low, strc_set h.sea h.low, h.two, h.low, by rw [setE_size]; exact h.top, h.kp.set 0 _⟩
/-- Names of the caller's own new row in the place of those ahead. -/
theorem SetAt.putN {a w : World} {B b m : Nat} {v1 v2 v : Value} {S : SetL} {ws : List (List UInt8)} (h : SetAt a B b v1 v2 S w) (hv : StrC m w v ws) (hm : ∀ g, v1.ownBlock = some g → g < m) (hB : B ≤ m) :
    SetAt a B b v1 v ⟨S.servers, ws, S.dots, S.tmo, S.att, S.rot⟩ (w.setCell ⟨b, 1, none⟩ v) :=
  ⟨setE_eq h.blk, strc_set h.srv h.low, strc_set (strc_less hv hB) h.low, fun g h1 h2 => by
    have h3 := hm g h1
    have h4 := (World.ownsRow.lt hv g h2).1
    omega, h.low, by rw [setE_size]; exact h.top, h.kp.set 1 _⟩
/-- What withServer answers: to be put into the settings. -/
def ServR (a : World) (B b : Nat) (v2 : Value) (S : SetL) (e : Ending) (w' : World) : Prop :=
  ∃ p n c, e = .returned (.slice p n c) ∧ SetAt a B b (.slice p n c) v2 S (w'.setCell ⟨b, 0, none⟩ (.slice p n c)) ∧ w'.frozen? ⟨b, 0, none⟩ = false ∧ ∃ x, w'.cell? ⟨b, 0, none⟩ = some x

set_option maxHeartbeats 2000000 in
set_option maxRecDepth 100000 in
theorem withServer_any (a : World) (B b q i c : Nat) (v1 v2 : Value) (S : SetL) (r : List (List UInt8)) (w : World) (h : SetAt a B b v1 v2 S w) (hg : GloAt w) (hfew : S.servers.length ≤ 3) (hr : r.length ≤ c ∧ c ≤ 9223372036854775807) (hw : ∀ x ∈ r, x.length ≤ 512)
    (hat : ∀ (j : Nat) l, r[j]? = some l → w.cell? ⟨q, i + j, none⟩ = some (.string ⟨l.toArray⟩)) :
    Calls Tryz.prog 62 #[v1, .slice (some ⟨q, i, none⟩) r.length c] w (ServR a B b v2 (srvS S r)) := by
  obtain ⟨i8, si, sz0, sz1, sz2⟩ := info_parts info_sE
  obtain ⟨s1, d1, rfl⟩ := h.srv.shape
  obtain ⟨_, _, e, hd1, hd2, _⟩ := h.srv.read
  cases e
  have HS := Lib.hid h
  obtain ⟨⟨p0, p1, p2, p3, p4, p5⟩, ⟨f0, f1, f2, f3, f4, f5⟩⟩ := h.cells
  obtain ⟨hr1, hr2⟩ := hr
  have HSame : Hid (ServR a B b v2 S (.returned (.slice s1 S.servers.length d1)) w) := Lib.hid ⟨_, _, _, rfl, h.keepS, f0, _, p0⟩
  clear h p1 p2 p3 p4 p5 f1 f2 f3 f4 f5
  by_cases hl : S.servers.length < 3
  · have hl2 : ((S.servers.length : Int) == 3) = false := by simp; omega
    cases r with
    | nil =>
      have e : srvS S [] = S := rfl
      rw [e]
      simp only [List.length_nil]
      go_enter Tryz.func62, Tryz.ntmps62
      go_wp2
      go_ret
      exact HSame.out
    | cons y r =>
      have hy1 := hat 0 y rfl
      have hy2 := hw y (by simp)
      rw [Nat.add_zero] at hy1
      have hln : (y :: r).length = r.length + 1 := rfl
      rw [hln] at hr1 ⊢
      have HP := Lib.hid (paddr_any ⟨y.toArray⟩ w (by show y.length ≤ 100000; omega) hg)
      have hne : (((r.length + 1 : Nat) : Int) == 0) = false := by simp; omega
      clear hw hat hln
      unfold FourR at HP
      cases hp : parseP y with
      | none =>
        rw [hp] at HP
        have e : srvS S (y :: r) = S := by
          unfold srvS
          simp only
          rw [if_pos hl, hp]
        rw [e]
        clear hp hl e
        go_enter Tryz.func62, Tryz.ntmps62
        go_wp2_with (go_at_call 97; refine HP.out.mono ?_; rintro e w3 ⟨rfl, hb⟩; have HS3 := Lib.hid (HS.out.below hb); obtain ⟨⟨n0, n1, n2, n3, n4, n5⟩, ⟨g0, g1, g2, g3, g4, g5⟩⟩ := HS3.out.cells; clear hb)
        go_ret
        exact ⟨_, _, _, rfl, HS3.out.keepS, g0, _, n0⟩
      | some z =>
        rw [hp] at HP
        have e : srvS S (y :: r) = ⟨S.servers ++ [z], S.search, S.dots, S.tmo, S.att, S.rot⟩ := by
          unfold srvS
          simp only
          rw [if_pos hl, hp]
        rw [e]
        clear hp e
        go_enter Tryz.func62, Tryz.ntmps62
        go_wp2_with (first | (go_at_call 97; refine HP.out.mono ?_; rintro e w3 ⟨rfl, hb⟩; have HS3 := Lib.hid (HS.out.below hb); clear hb) | (at_builtin; refine wpList_append_lies _ (by rfl) _ _ _ (by rfl) B 9 i8 (.string ⟨#[]⟩) 1 16 Tryz.underlying70 si sz0 sz1 sz2 rfl (by decide) (.slice s1 S.servers.length d1) S.servers.length (S.servers.map strV) (by rfl) ((HS3.out.al _).srv) ⟨w3.heap.size, 0, none⟩ 1 1 [.string ⟨z.toArray⟩] (by rfl) rfl (new_cE _ _ _) (by simp [Value.oneCell']) (by decide) (by unfold maxLen; omega) (by omega) ((HS3.out.al _).top) _ rfl ?_; intro g4 cap4 w4 ho hg hat hlt4; obtain ⟨m0, m1⟩ := (HS3.out.al _).grS hg; have HO := Lib.hid ho; have HG := Lib.hid hg; have HA := Lib.hid hat; clear ho hg hat))
        go_ret
        exact ⟨_, _, _, rfl, (HS3.out.al _).pushS HO.out HG.out HA.out, m1, _, m0⟩
  · have hl2 : ((S.servers.length : Int) == 3) = true := by simp; omega
    have e : srvS S r = S := by
      unfold srvS
      cases r with
      | nil => rfl
      | cons y r => simp only; rw [if_neg hl]
    rw [e]
    clear hl e hat hw
    go_enter Tryz.func62, Tryz.ntmps62
    go_wp2
    go_ret
    exact HSame.out

set_option maxHeartbeats 2000000 in
set_option maxRecDepth 100000 in
theorem searched_any (q i c : Nat) (r : List (List UInt8)) (w : World) (hm : MaxAt w) (hr : r.length ≤ c ∧ c ≤ 9223372036854775807) (hq : q < w.heap.size) (hw : ∀ x ∈ r, x.length ≤ 512)
    (hat : ∀ (j : Nat) l, r[j]? = some l → w.cell? ⟨q, i + j, none⟩ = some (.string ⟨l.toArray⟩)) :
    Calls Tryz.prog 63 #[.slice (some ⟨q, i, none⟩) r.length c] w fun e w' => ∃ v, e = .returned v ∧ StrC w.heap.size w' v (searchP r) ∧ Below w.heap.size w w' := by
  obtain ⟨hr1, hr2⟩ := hr
  have HM := Lib.hid hm
  have HWz := Lib.hid hw
  have HWd : Hid (∀ V, Below w.heap.size w V → ∀ (j : Nat) l, r[j]? = some l → V.cell? ⟨q, i + j, none⟩ = some (.string ⟨l.toArray⟩)) := Lib.hid (fun V hV j l hj => (hV.cell (p := ⟨q, i + j, none⟩) hq).trans (hat j l hj))
  clear hm hw hat hq
  go_enter Tryz.func63, Tryz.ntmps63
  go_wp2
  go_loopw [3, 11] (fun fv iv wr => ∃ j : Nat, j ≤ r.length ∧ iv = .int .i64 j ∧ StrC w.heap.size wr fv (searchP (r.take j)) ∧ Below w.heap.size w wr) (fun _ iv _ => r.length - (intOf iv).toNat)
  case atStart => exact ⟨0, Nat.zero_le _, rfl, World.ownsRow_nil _ _ _ _, Below.refl _ _⟩
  case round =>
    obtain ⟨j, hj, rfl, hst, hb⟩ := hrel
    have HB := Lib.hid hb
    have HSt := Lib.hid hst
    clear hb
    by_cases hjl : j < r.length
    · obtain ⟨y, hy⟩ : ∃ y, r[j]? = some y := ⟨_, List.getElem?_eq_getElem hjl⟩
      have hyc := HWd.out wr HB.out j y hy
      have hyl := HWz.out y (List.mem_of_getElem? hy)
      have HC : Hid (∀ V, MaxAt V → Calls Tryz.prog 98 #[.string ⟨y.toArray⟩] V fun e w' => e = .returned (cleanV y) ∧ Below V.heap.size V w') := Lib.hid (fun V hV => clean_any ⟨y.toArray⟩ V (by show y.length ≤ maxLen; unfold maxLen; omega) hV)
      have HSn : Hid (searchP (r.take (j + 1)) = if (searchP (r.take j)).length < 6 then searchP (r.take j) ++ (nmC y).toList else searchP (r.take j)) := Lib.hid (by rw [takeH hy, search_snoc])
      have hsf := search_few (r.take j)
      obtain ⟨s3, d3, rfl⟩ := hst.shape
      clear hst hy
      generalize searchP (r.take j) = L at *
      by_cases hnm : nameB (bare y) = true
      · have hnc : nmC y = some ((bare y).map low) := by unfold nmC; rw [if_pos hnm]
        have hcv : cleanV y = .tuple #[.string ⟨((bare y).map low).toArray⟩, .bool (isRoot y), .bool true] := by unfold cleanV; rw [if_pos hnm]
        rw [hcv] at HC
        rw [hnc] at HSn
        generalize (bare y).map low = z at *
        generalize isRoot y = rt at *
        clear hnc hcv hnm
        by_cases h6 : L.length < 6
        · have h6' : (L.length : Int) < 6 := by omega
          have HS4 : Hid (searchP (r.take (j + 1)) = L ++ [z]) := Lib.hid (by rw [HSn.out, if_pos h6]; rfl)
          clear HSn h6
          go_wp2_with (first | (go_at_call 98; refine (HC.out _ (HM.out.below HB.out)).mono ?_; rintro e w3 ⟨rfl, hb⟩; have H3 := Lib.hid (own_below HSt.out hb); have HB3 := Lib.hid (HB.out.trans (hb.mono HB.out.size)); clear hb) | (at_builtin; refine wpList_append_texts rfl _ _ rfl (B := w.heap.size) rfl rfl (World.ownsRow.alloc H3.out _) (one_textsE _ _) (by simp; omega) (by have := HB3.out.size; show w.heap.size ≤ (Array.push _ _).size; simp; omega) ?_; intro v' w5 hown5 hb5; have H5 := Lib.hid hown5; have HB5 := Lib.hid ((HB3.out.alloc HB3.out.size _).trans hb5); clear hown5 hb5))
          go_roundw
          case rel => exact ⟨j + 1, hjl, by go_num, by rw [HS4.out]; exact H5.out, HB5.out⟩
          case measure => simp [intOf]; omega
        · have h6' : ¬ (L.length : Int) < 6 := by omega
          have HS4 : Hid (searchP (r.take (j + 1)) = L) := Lib.hid (by rw [HSn.out, if_neg h6])
          clear HSn h6
          go_wp2_with (go_at_call 98; refine (HC.out _ (HM.out.below HB.out)).mono ?_; rintro e w3 ⟨rfl, hb⟩; have H3 := Lib.hid (own_below HSt.out hb); have HB3 := Lib.hid (HB.out.trans (hb.mono HB.out.size)); clear hb)
          go_roundw
          case rel => exact ⟨j + 1, hjl, by go_num, by rw [HS4.out]; exact H3.out, HB3.out⟩
          case measure => simp [intOf]; omega
      · have hnc : nmC y = none := by unfold nmC; rw [if_neg hnm]
        have hcv : cleanV y = .tuple #[.string ⟨#[]⟩, .bool false, .bool false] := by unfold cleanV; rw [if_neg hnm]
        rw [hcv] at HC
        have HS4 : Hid (searchP (r.take (j + 1)) = L) := Lib.hid (by rw [HSn.out, hnc]; split <;> simp)
        clear HSn hnc hcv hnm
        go_wp2_with (go_at_call 98; refine (HC.out _ (HM.out.below HB.out)).mono ?_; rintro e w3 ⟨rfl, hb⟩; have H3 := Lib.hid (own_below HSt.out hb); have HB3 := Lib.hid (HB.out.trans (hb.mono HB.out.size)); clear hb)
        go_roundw
        case rel => exact ⟨j + 1, hjl, by go_num, by rw [HS4.out]; exact H3.out, HB3.out⟩
        case measure => simp [intOf]; omega
    · obtain rfl : j = r.length := by omega
      have HS4 : Hid (searchP (r.take r.length) = searchP r) := Lib.hid (by rw [List.take_length])
      rw [HS4.out] at HSt
      obtain ⟨s3, d3, rfl⟩ := hst.shape
      clear hst
      go_wp2
      go_ret
      exact ⟨_, rfl, HSt.out, HB.out⟩
end Go.Proofs.YtogdkmkganpaaaaGreatDoor

namespace Go.Proofs.YtogdkmkganpaaaaGreatDoor
open Go.RowKit Go.Lib Go.Tx Go.Proofs
theorem lines_zero (a : Option Addr) (w : World) : Calls Tryz.prog 61 #[.slice a 0 0] w fun e w' => e = .returned (.slice none 0 0) ∧ w = w' := by
  go_enter Tryz.func61, Tryz.ntmps61
  go_wp2
  go_loop [0, 3] (fun b t => b = .slice a 0 0 ∧ t = .slice none 0 0) (fun _ _ => 0)
  case atStart => exact ⟨rfl, rfl⟩
  case round =>
    obtain ⟨rfl, rfl⟩ := hrel
    go_wp2
    go_ret
    exact ⟨rfl, rfl⟩
end Go.Proofs.YtogdkmkganpaaaaGreatDoor

namespace Go.Proofs.YtogdkmkganpaaaaGreatDoor
open Go.RowKit Go.Lib Go.Tx
theorem mark_any {w : World} {b : Nat} {arr : Array Value} (h : w.heap[b]? = some (.cells arr 5 (0, 0))) (n c : Nat) :
    ∃ w' fr', (convert 22 22 (.slice (some ⟨b, 0, none⟩) n c)).run Tryz.prog w = .ok (.slice (some ⟨b, 0, none⟩) n c) w' ∧ w'.heap[b]? = some (.cells arr 5 fr') ∧ (∀ k, k ≠ b → w'.heap[k]? = w.heap[k]?) ∧ w'.heap.size = w.heap.size ∧ w'.os = w.os ∧ w'.tape = w.tape ∧ w'.output = w.output := by
  obtain ⟨w', fr', e1, e2, e3, e4, e5, e6, e7, e8⟩ := Go.Ev.freeze_at h ⟨fun i hi h => by simp only at h; omega, by simp⟩
  have hsh : w.shape? b = some (5, arr.size) := by unfold World.shape?; rw [h]
  refine ⟨w', fr', ?_, e3, e4, e5, e6, e7, e8⟩
  simp [convert, Go.Ev.run_und Tryz.underlying22, Go.Ev.run_und Tryz.underlying5, markStringish, hsh, e1]
theorem ba_lit {w : World} {b : Nat} {arr : Array Value} {fr : Nat × Nat} {l : List UInt8} (h : w.heap[b]? = some (.cells arr 5 fr)) (ha : arr = (l.map fun c => Value.int .u8 (c.toNat : Int)).toArray) (hl : l.length ≤ 9223372036854775807) : BA w (some ⟨b, 0, none⟩) l.length l.length l :=
  ⟨rfl, Nat.le_refl _, hl, (fun h => by cases h), fun x hx j c hj => by
    cases hx
    have e : (⟨b, 0, none⟩ : Addr).add j = ⟨b, j, none⟩ := by unfold Addr.add; split <;> simp_all
    rw [e]
    subst ha
    simp [World.cell?, h, hj]⟩
/-- Bytes written as a literal, marked: what a caller reads. -/
theorem lit_any (w : World) (arr : Array Value) (l : List UInt8) (ha : arr = (l.map fun c => Value.int .u8 (c.toNat : Int)).toArray) (hl : l.length ≤ 9223372036854775807) :
    ∃ w', (convert 22 22 (.slice (some ⟨w.heap.size, 0, none⟩) l.length l.length)).run Tryz.prog (w.alloc (.cells arr 5)) = .ok (.slice (some ⟨w.heap.size, 0, none⟩) l.length l.length) w' ∧ BA w' (some ⟨w.heap.size, 0, none⟩) l.length l.length l ∧ w.heap.size < w'.heap.size ∧ Below w.heap.size w w' := by
  obtain ⟨w', fr', h1, h2, h3, h4, h5, h6, h7⟩ := mark_any (heap_alloc_new w (.cells arr 5)) l.length l.length
  have hs : (w.alloc (.cells arr 5)).heap.size = w.heap.size + 1 := by show (w.heap.push _).size = _; simp
  refine ⟨w', h1, ba_lit h2 ha hl, by omega, h5, h6, h7, by omega, fun k hk => ?_⟩
  rw [h3 k (by omega)]
  show (w.heap.push _)[k]? = _
  rw [Array.getElem?_push, if_neg (by omega)]
/-- Bytes that may be read, or none without room. -/
def InB (W : World) (a : Option Addr) (n c : Nat) (l : List UInt8) : Prop := (BA W a n c l ∧ (∀ x, a = some x → x.block < W.heap.size) ∧ n ≤ 100000) ∨ (n = 0 ∧ c = 0 ∧ l = [])
theorem InB.below {W W' : World} {a : Option Addr} {n c : Nat} {l : List UInt8} (h : InB W a n c l) (hb : Below W.heap.size W W') : InB W' a n c l := by
  rcases h with ⟨h1, h2, h3⟩ | h
  · exact .inl ⟨h1.below hb h2, fun x hx => Nat.lt_of_lt_of_le (h2 x hx) hb.size, h3⟩
  · exact .inr h
theorem toldE_nil : toldG 1 [] [] = [] := by decide
/-- The program's Parse says what the document's Setup says. -/
def PsetOK (w : World) : Prop := ∀ (a : Option Addr) (n c : Nat) (l : List UInt8) (W : World), Below w.heap.size w W → InB W a n c l → Calls Tryz.prog 35 #[.slice a n c] W (RSetR W (setupP (toldG 1 [] l)))
theorem PsetOK.below {w w' : World} (h : PsetOK w) (hb : Below w.heap.size w w') : PsetOK w' := fun a n c l W hW => h a n c l W (hb.trans (hW.mono hb.size))

end Go.Proofs.YtogdkmkganpaaaaGreatDoor

namespace Go.Tx
open Go.RowKit Go.Rb
theorem LinesAt.read {B : Nat} {w : World} {v : Value} {T : List (Nat × List (List UInt8))} (h : LinesAt B w v T) (h0 : 0 < T.length) :
    ∃ g cap, v = .slice (some ⟨g, 0, none⟩) T.length cap ∧ T.length ≤ cap ∧ cap ≤ 9223372036854775807 ∧ B ≤ g ∧ ∀ (i no : Nat) (ws : List (List UInt8)), T[i]? = some (no, ws) → w.cell? ⟨g, 2 * i, none⟩ = some (.int .i64 (no : Int)) ∧ ∃ p, w.cell? ⟨g, 2 * i + 1, none⟩ = some (.slice p ws.length ws.length) ∧ Strs B w (.slice p ws.length ws.length) ws := by
  obtain ⟨xs, h1, h2⟩ := h
  rcases h1.2 with ⟨a, b⟩ | ⟨g, cap, cur, a, a2, a3, a4, a5, _⟩
  · omega
  · subst a
    refine ⟨g, cap, rfl, a4, a5, a2, fun i no ws hi => ?_⟩
    obtain ⟨x, wv, y, z⟩ := h2 i no ws hi
    have hlt : i < T.length := (List.getElem?_eq_some_iff.1 hi).1
    obtain ⟨p, rfl⟩ := z.shape
    exact ⟨by rw [h1.cellAt _ (by omega)]; exact x, p, by rw [h1.cellAt _ (by omega)]; exact y, z⟩
end Go.Tx

