/- Contracts of the disk's extend and sync. -/
import Derived.Test.YtfpgobbkeocokaaDg
namespace Go.Proofs.Ytfpgobbkeocokaa
open Go.RowKit Go.Mp Go.Rb Go.Lib
/-- A disk says: syn raw writes are synced, F is what its files hold, UL what they held ahead of each write behind. -/
def DKS (w : World) (b B K : Nat) (c : Value × Value × Value × Value × Value) (syn : Nat) (F : ByteArray → List UInt8) (UL : List (ByteArray × List UInt8)) : Prop :=
  ∃ mp D V p cap, DI w b B K c mp D syn V p cap F UL
section
variable {b B K : Nat} {c : Value × Value × Value × Value × Value} {syn : Nat} {F : ByteArray → List UInt8} {UL : List (ByteArray × List UInt8)}
theorem write_di {w : World} {mp : Option Nat} {D : DataW Value} {V : List (ByteArray × Value)} {p : Option Addr} {cap : Nat} (h : DI w b B K c mp D syn V p cap F UL) (hK : K ≤ 1000000) (hU : V.length ≤ 100000) (s : ByteArray) (hs : s.size ≤ maxLen) (a1 : Option Addr) (n1 c1 : Nat) :
    Calls Try.prog 47 #[.pointer (some ⟨b, 5, none⟩), .string s, .slice a1 n1 c1] w (WriteR w b B K c mp D syn V p s (.slice a1 n1 c1)) := by
  have hmpb := h.mpb
  have hsep := h.sep
  cases mp with
  | none => exact write_none b B K c D syn V p cap s a1 n1 c1 w h.wd h.base h.map hK h.undo hU hs (fun q e => (hsep q e).1) (by have := h.wd.lt; have := h.base; omega)
  | some m => exact write_some b B K m c D syn V p cap s a1 n1 c1 w h.wd h.base h.map hK h.undo hU hs (fun q e => ⟨(hsep q e).1, fun e2 => (hsep q e).2 (by rw [e2])⟩) (fun e => hmpb (by rw [e]))
set_option maxHeartbeats 2000000 in
set_option maxRecDepth 100000 in
theorem extend_any {w : World} (h : DKS w b B K c syn F UL) (hK : K ≤ 1000000) (hU : UL.length ≤ 100000) (s : ByteArray) (hs : s.size ≤ maxLen) (p3 : Option Addr) (n3 c3 : Nat) (m : List UInt8) (hsrc : Src Try.prog w (.slice p3 n3 c3) m) (hm : (F s).length + m.length ≤ 1000000) :
    Calls Try.prog 36 #[.pointer (some ⟨b, 5, none⟩), .string s, .slice p3 n3 c3] w fun e w' => e = .returned (.tuple #[]) ∧ DKS w' b B (K + 1) c syn (updF F s (F s ++ m)) (UL ++ [(s, F s)]) ∧ Below B w w' := by
  obtain ⟨mp, D, V, p, cap, hd⟩ := h
  have hVl := hd.len
  obtain ⟨a0, n0, c0, hv0⟩ := hd.map.shape s hs
  have k5 := hd.wd.c5
  have hlk := hd.map.lookup s hs
  rw [hv0] at hlk
  have hbB : B ≤ w.heap.size := by have := hd.wd.lt; have := hd.base; omega
  have hrb := hd.body s hs
  rw [hv0] at hrb
  have HRb := Lib.hid hrb
  have HSrc := Lib.hid hsrc
  have HD := Lib.hid hd
  have HV0 := Lib.hid hv0
  obtain ⟨i8, hi, hz0, hz1, hz2⟩ := info_parts' (show (Try.prog.info? 5).map (fun i => (i.zero, i.size, i.bytes)) = some (some (.int .u8 0), 1, 1) by kernel_rfl)
  have HWr : Hid (∀ w2 p1 c1, RB B w2 (.slice p1 ((F s).length + m.length) c1) (F s ++ m) → ((∃ a n c', (.slice a0 n0 c0 : Value) = .slice (some a) n c' ∧ KG a.block (F s).length w w2 ∧ blk (.slice p1 ((F s).length + m.length) c1) = a.block) ∨ (Below w.heap.size w w2 ∧ (p1 = none ∨ blk (.slice p1 ((F s).length + m.length) c1) = w.heap.size))) →
      Calls Try.prog 47 #[.pointer (some ⟨b, 5, none⟩), .string s, .slice p1 ((F s).length + m.length) c1] w2 fun e w' => e = .returned (.tuple #[]) ∧ DKS w' b B (K + 1) c syn (updF F s (F s ++ m)) (UL ++ [(s, F s)]) ∧ Below B w w') := Lib.hid (by
    intro w2 p1 c1 hr2 hk2
    have hlt : ∀ t a n ca, t.size ≤ maxLen → valOf D t = .slice (some a) n ca → a.block < w.heap.size := fun t a n ca ht e => by
      have := hd.body t ht
      rw [e] at this
      obtain ⟨_, _, _, _, _, cur, fr, hc⟩ := RB.obj this
      exact (Array.getElem?_eq_some_iff.1 hc).1
    have hlo : ∀ (j : Nat) x a n ca, V[j]? = some x → x.2 = .slice (some a) n ca → a.block < w.heap.size := fun j x a n ca hj e => by
      obtain ⟨l, hl⟩ : ∃ l, UL[j]? = some l := ⟨_, List.getElem?_eq_getElem (by rw [hd.len]; exact (List.getElem?_eq_some_iff.1 hj).1)⟩
      have := (hd.old j x l hj hl).2
      rw [e] at this
      obtain ⟨_, _, _, _, _, cur, fr, hc⟩ := RB.obj this
      exact (Array.getElem?_eq_some_iff.1 hc).1
    have fin : ∀ (hd2 : DI w2 b B K c mp D syn V p cap F UL) (hb2 : Below B w w2)
        (hap : ∀ t a n c' a', t.size ≤ maxLen → t ≠ s → valOf D t = .slice (some a) n c' → p1 = some a' → a.block ≠ a'.block)
        (hel : ∀ (j : Nat) x a a' n' c', V[j]? = some x → p1 = some a → x.2 = .slice (some a') n' c' → a.block = a'.block → n' ≤ (F s).length + m.length)
        (hes : ∀ a a' n' c', p1 = some a → valOf D s = .slice (some a') n' c' → a.block = a'.block → n' ≤ (F s).length + m.length),
        Calls Try.prog 47 #[.pointer (some ⟨b, 5, none⟩), .string s, .slice p1 ((F s).length + m.length) c1] w2 fun e w' => e = .returned (.tuple #[]) ∧ DKS w' b B (K + 1) c syn (updF F s (F s ++ m)) (UL ++ [(s, F s)]) ∧ Below B w w' := fun hd2 hb2 hap hel hes => by
      refine (write_di hd2 hK (by omega) s hs p1 _ c1).mono ?_
      intro e w3 hw
      obtain ⟨he, ⟨mp', D', V', p', cap', hd3, _⟩, h1, h2, h3, h4, h5⟩ := hd2.write hs hr2 hw hap hel hes
      exact ⟨he, ⟨mp', D', V', p', cap', hd3⟩, h1.trans hb2.os, h2.trans hb2.tape, h3.trans hb2.output, Nat.le_trans hb2.size h4, fun k hk => (h5 (Nat.le_trans hbB hb2.size) k hk).trans (hb2.block k hk)⟩
    rcases hk2 with ⟨a, n, c', e, hkg, hblk⟩ | ⟨hbl, hx⟩
    · have hv : valOf D s = .slice (some a) n c' := hv0.trans e
      have hbs := hd.body s hs
      rw [hv] at hbs
      obtain ⟨_, hnl, hBa, _⟩ := RB.obj hbs
      have hp1 : ∀ q, p1 = some q → q.block = a.block := fun q e => by subst e; exact hblk
      refine fin (hd.kg hs hv (hnl ▸ hkg)) (hkg.below hBa hbB) (fun t a2 n2 c2 a' ht hts e2 e3 => ?_) (fun j x a2 a' n' c2 hj e2 e3 e4 => ?_) (fun a2 a' n' c2 e2 e3 e4 => ?_)
      · rw [hp1 a' e3]
        exact hd.apart t s _ _ _ _ _ _ ht hs hts e2 hv
      · have := hd.elder s j x _ _ _ _ _ _ hs hj hv e3 (by rw [← hp1 a2 e2]; exact e4)
        omega
      · rw [hv] at e3
        cases e3
        omega
    · have hp1 : ∀ q, p1 = some q → q.block = w.heap.size := fun q e => by
        subst e
        rcases hx with hx | hx
        · cases hx
        · exact hx
      refine fin (hd.below hbl) (hbl.mono hbB) (fun t a2 n2 c2 a' ht hts e2 e3 => ?_) (fun j x a2 a' n' c2 hj e2 e3 e4 => ?_) (fun a2 a' n' c2 e2 e3 e4 => ?_)
      · have := hlt t _ _ _ ht e2
        have := hp1 a' e3
        omega
      · have := hlo j x _ _ _ hj e3
        have := hp1 a2 e2
        omega
      · have := hlt s _ _ _ hs e3
        have := hp1 a2 e2
        omega)
  clear hd hrb hsrc hv0
  go_enter Try.func36, Try.ntmps36
  go_wp2_with (first | (at_builtin; refine wpList_append_kg rfl _ _ 33 33 rfl Try.underlying33 Try.underlying33 (fun k e => by cases e) hi hz0 hz1 hz2 rfl rfl HRb.out HSrc.out hbB hm ?_; intro p1 c1 w2 hr2 hk2; have HR2 := Lib.hid hr2; have HK2 := Lib.hid hk2; clear hr2 hk2) | (go_at_call 47; refine (HWr.out w2 p1 c1 HR2.out HK2.out).mono ?_; rintro e w3 ⟨rfl, hks, hb3⟩; have HKs := Lib.hid hks; have HB3 := Lib.hid hb3; clear hks hb3))
  go_end0
  exact ⟨rfl, HKs.out, HB3.out⟩
set_option maxRecDepth 100000 in
theorem sync_any {w : World} (h : DKS w b B K c syn F UL) (hsyn : syn ≤ 100000) (hU : UL.length ≤ 100000) :
    Calls Try.prog 38 #[.pointer (some ⟨b, 5, none⟩)] w fun e w' => e = .returned (.tuple #[]) ∧ DKS w' b B K c (syn + UL.length) F [] ∧ Below B w w' := by
  obtain ⟨mp, D, V, p, cap, hd⟩ := h
  have hVl := hd.len
  have hbl := hd.wd.lt
  have HWs := Lib.hid (writes_any b c mp syn p V.length cap w hd.wd (by omega) (by omega))
  have HD := Lib.hid hd
  clear hd
  go_enter Try.func38, Try.ntmps38
  go_wp2_with (go_at_call 46; refine HWs.out.mono ?_; rintro e w2 ⟨rfl, q, hw2⟩; have hb2 : Below w.heap.size w w2 := hw2 ▸ bel_drewN (Below.refl _ w) q; have HB2 := Lib.hid hb2; have HD2 := Lib.hid (HD.out.below hb2); have k6 := HD2.out.wd.c6; have k7 := HD2.out.wd.c7; have f6 := HD2.out.wd.free 6; have f7 := HD2.out.wd.free 7; clear hw2 hb2)
  go_end0
  have hbB : B ≤ w.heap.size := by have := HD.out.base; omega
  have hd2 := HD2.out
  have hsum : ((syn : Int) + (V.length : Int)) = ((syn + UL.length : Nat) : Int) := by omega
  rw [hsum]
  have hx : ∀ k, k ≠ b → ((w2.setCell ⟨b, 6, none⟩ (.int .i64 ((syn + UL.length : Nat) : Int))).setCell ⟨b, 7, none⟩ (.slice none 0 0)).heap[k]? = w2.heap[k]? := fun k hk => (heap_setCell_ne _ _ _ _ _ hk).trans (heap_setCell_ne _ _ _ _ _ hk)
  have keep : ∀ v l, RB B w2 v l → RB B ((w2.setCell ⟨b, 6, none⟩ (.int .i64 ((syn + UL.length : Nat) : Int))).setCell ⟨b, 7, none⟩ (.slice none 0 0)) v l := fun v l hr => RB.same hr (fun a n c' e => by
    subst e
    obtain ⟨_, _, _, _, _, cur, fr, hcur⟩ := RB.obj hr
    exact hx _ (hd2.other hcur).1)
  refine ⟨rfl, ⟨mp, D, [], none, 0, ?_⟩, HB2.out.os, HB2.out.tape, HB2.out.output, ?_, fun k hk => (hx k (by have := hd2.base; omega)).trans (HB2.out.block k (by omega))⟩
  · exact {
      wd := (hd2.wd.set6 _).set7 _
      base := hd2.base
      map := hd2.map.same (fun m e => hx m (fun e2 => hd2.mpb (by rw [e, e2])))
      undo := World.ownsRow_nil _ _ _ _
      body := fun t ht => keep _ _ (hd2.body t ht)
      len := rfl
      old := fun j e l h1 _ => by simp at h1
      apart := hd2.apart
      elder := fun t j x a n c' a' n' c'' _ h1 => by simp at h1
      named := fun j x h1 => by simp at h1 }
  · rw [size_setCell', size_setCell']
    exact HB2.out.size
end
end Go.Proofs.Ytfpgobbkeocokaa
