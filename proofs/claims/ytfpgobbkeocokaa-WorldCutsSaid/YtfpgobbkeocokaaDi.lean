/- Contracts: bytes.Clone of a file's bytes; the world's Load, Append, Sync, Raw. -/
import Derived.Test.YtfpgobbkeocokaaDh
namespace Go.Proofs.Ytfpgobbkeocokaa
open Go.RowKit Go.Mp Go.Rb Go.Lib
theorem rowB_made (w : World) (e : TypeId) : RowB e (w.alloc (.cells #[] e)) w.heap.size 0 [] :=
  ⟨#[], 0, 0, heap_alloc_new w _, .inr rfl, rfl, Nat.le_refl _, fun j c h => by simp at h⟩
set_option maxRecDepth 100000 in
theorem clone_rb {B : Nat} {w : World} {a : Option Addr} {n c : Nat} {l : List UInt8} (h : RB B w (.slice a n c) l) (hl : l.length ≤ 1000000) :
    Calls Try.prog 32 #[.slice a n c] w fun e w' => ∃ p c', e = .returned (.slice p l.length c') ∧ RB w.heap.size w' (.slice p l.length c') l ∧ Below w.heap.size w w' := by
  cases a with
  | none =>
    have hl0 : n = 0 ∧ c = 0 ∧ l = [] := by
      rcases h with ⟨e, rfl⟩ | ⟨g, cp, e, _⟩
      · cases e; exact ⟨rfl, rfl, rfl⟩
      · cases e
    obtain ⟨rfl, rfl, rfl⟩ := hl0
    exact (clone_nil w).mono (fun e w' ⟨he, hw⟩ => ⟨none, 0, he, .inl ⟨rfl, rfl⟩, hw ▸ Below.refl _ _⟩)
  | some x =>
    obtain ⟨hx, hn, hB, hc, hrow, cur, fr, hcur⟩ := RB.obj h
    subst hn
    obtain ⟨g, rfl⟩ : ∃ g, x = ⟨g, 0, none⟩ := ⟨x.block, hx⟩
    clear hx
    have k33 := eql33 (some ⟨g, 0, none⟩) l.length c
    obtain ⟨i8, hi, hz0, hz1, hz2⟩ := info_parts' (show (Try.prog.info? 5).map (fun i => (i.zero, i.size, i.bytes)) = some (some (.int .u8 0), 1, 1) by kernel_rfl)
    have hb0 : Below w.heap.size w (w.alloc (.cells #[] 5)) := (Below.refl _ w).alloc (Nat.le_refl _) _
    have hsrc : Src Try.prog (w.alloc (.cells #[] 5)) (.slice (some ⟨g, 0, none⟩) l.length c) l := by
      exact Src.row (hrow.below hb0 (Array.getElem?_eq_some_iff.1 hcur).1)
    have hs0 : (w.alloc (.cells #[] 5)).heap.size = w.heap.size + 1 := by show (w.heap.push _).size = _; simp
    have HS := Lib.hid hsrc
    have HR : Hid (RB w.heap.size (w.alloc (.cells #[] 5)) (.slice (some ⟨w.heap.size, 0, none⟩) 0 0) []) := Lib.hid (.inr ⟨w.heap.size, 0, rfl, Nat.le_refl _, by omega, rowB_made w _⟩)
    have HB := Lib.hid hb0
    have HS0 := Lib.hid hs0
    have HN : Hid (([] : List UInt8).length + l.length = l.length) := Lib.hid (by simp)
    clear h hsrc hb0 hrow hcur hs0
    go_enter Try.func32, Try.ntmps32
    go_wp2_with (at_builtin; refine wpList_append_kg (l := []) (m := l) (v := .slice (some ⟨g, 0, none⟩) l.length c) (B := w.heap.size) rfl _ _ 33 33 rfl Try.underlying33 Try.underlying33 (by intro k hk; cases hk) hi hz0 hz1 hz2 rfl (by first | rfl | (simp only [Act.eval, Act.put]; rfl)) HR.out HS.out (by rw [HS0.out]; omega) (by simp; omega) ?_; intro p1 c1 w2 hr2 hk2; rw [HN.out] at hr2 hk2 ⊢; have HR2 := Lib.hid hr2; have HK2 := Lib.hid hk2; clear hr2 hk2)
    go_ret
    refine ⟨p1, c1, rfl, HR2.out, ?_⟩
    rcases HK2.out with ⟨a, n', c', e, hkg, _⟩ | ⟨hbl, _⟩
    · cases e
      exact HB.out.trans (hkg.below (Nat.le_refl _) (by rw [HS0.out]; omega))
    · exact HB.out.trans (hbl.mono (by rw [HS0.out]; omega))
section
variable {b B K : Nat} {c : Value × Value × Value × Value × Value} {syn : Nat} {F : ByteArray → List UInt8} {UL : List (ByteArray × List UInt8)}
set_option maxRecDepth 100000 in
theorem load_any {w : World} (h : DKS w b B K c syn F UL) (s : ByteArray) (hs : s.size ≤ maxLen) (hl : (F s).length ≤ 1000000) :
    Calls Try.prog 28 #[.pointer (some ⟨b, 0, none⟩), .string s] w fun e w' => ∃ p c', e = .returned (.slice p (F s).length c') ∧ RB w.heap.size w' (.slice p (F s).length c') (F s) ∧ Below w.heap.size w w' := by
  obtain ⟨mp, D, V, p, cap, hd⟩ := h
  obtain ⟨a0, n0, c0, hv0⟩ := hd.map.shape s hs
  have k5 := hd.wd.c5
  have hlk := hd.map.lookup s hs
  rw [hv0] at hlk
  have hrb := hd.body s hs
  rw [hv0] at hrb
  have HCl := Lib.hid (clone_rb hrb hl)
  clear hd hrb hv0
  go_enter Try.func28, Try.ntmps28
  go_wp2_with (go_at_call 32; refine HCl.out.mono ?_; rintro e w2 ⟨p2, c2, rfl, hr, hb⟩; have HR := Lib.hid hr; have HB := Lib.hid hb; clear hr hb)
  go_ret
  exact ⟨p2, c2, rfl, HR.out, HB.out⟩
set_option maxRecDepth 100000 in
theorem append_any {w : World} (h : DKS w b B K c syn F UL) (hK : K ≤ 1000000) (hU : UL.length ≤ 100000) (s : ByteArray) (hs : s.size ≤ maxLen) (p3 : Option Addr) (n3 c3 : Nat) (m : List UInt8) (hsrc : Src Try.prog w (.slice p3 n3 c3) m) (hm : (F s).length + m.length ≤ 1000000) :
    Calls Try.prog 21 #[.pointer (some ⟨b, 0, none⟩), .string s, .slice p3 n3 c3] w fun e w' => e = .returned (.tuple #[]) ∧ DKS w' b B (K + 1) c syn (updF F s (F s ++ m)) (UL ++ [(s, F s)]) ∧ Below B w w' := by
  have HE := Lib.hid (extend_any h hK hU s hs p3 n3 c3 m hsrc hm)
  clear h hsrc hm
  go_enter Try.func21, Try.ntmps21
  go_wp2_with (go_at_call 36; refine HE.out.mono ?_; rintro e w2 ⟨rfl, hks, hb⟩; have HKs := Lib.hid hks; have HB := Lib.hid hb; clear hks hb)
  go_end0
  exact ⟨rfl, HKs.out, HB.out⟩
set_option maxRecDepth 100000 in
theorem wsync_any {w : World} (h : DKS w b B K c syn F UL) (hsyn : syn ≤ 100000) (hU : UL.length ≤ 100000) :
    Calls Try.prog 23 #[.pointer (some ⟨b, 0, none⟩)] w fun e w' => e = .returned (.tuple #[]) ∧ DKS w' b B K c (syn + UL.length) F [] ∧ Below B w w' := by
  have HE := Lib.hid (sync_any h hsyn hU)
  clear h
  go_enter Try.func23, Try.ntmps23
  go_wp2_with (go_at_call 38; refine HE.out.mono ?_; rintro e w2 ⟨rfl, hks, hb⟩; have HKs := Lib.hid hks; have HB := Lib.hid hb; clear hks hb)
  go_end0
  exact ⟨rfl, HKs.out, HB.out⟩
set_option maxRecDepth 100000 in
theorem raw_any {w : World} (h : DKS w b B K c syn F UL) (hsyn : syn ≤ 100000) (hU : UL.length ≤ 100000) :
    Calls Try.prog 27 #[.pointer (some ⟨b, 0, none⟩)] w fun e w' => e = .returned (.int .i64 ((syn : Int) + (UL.length : Int))) ∧ ∃ q, w' = w.drewN q := by
  obtain ⟨mp, D, V, p, cap, hd⟩ := h
  have hVl := hd.len
  have HE := Lib.hid (writes_any b c mp syn p V.length cap w hd.wd (by omega) (by omega))
  rw [← hVl] at HE
  clear hd
  go_enter Try.func27, Try.ntmps27
  go_wp2_with (go_at_call 46; refine HE.out.mono ?_; rintro e w2 ⟨rfl, q, rfl⟩)
  go_ret
  exact ⟨by rw [hVl]; rfl, q, rfl⟩
end
end Go.Proofs.Ytfpgobbkeocokaa
