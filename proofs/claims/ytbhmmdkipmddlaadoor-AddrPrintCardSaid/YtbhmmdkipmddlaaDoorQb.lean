/- The document's Print whatever the text; what the row's condition says of the library's variables; the closed runs of Common and In. -/
import Derived.Test.YtbhmmdkipmddlaaDoorQa
import Derived.Test.YtbhmmdkipmddlaaDoorGb
import Derived.Test.YtbhmmdkipmddlaaDoorSl
namespace Go.Tx
theorem print4_join : ∀ (l : List UInt8), l.length = 4 → print4 l 4 = Lib.join (l.map fun c => Lib.decDigits c.toNat) [46]
  | [a, b, c, d], _ => by
    simp only [print4, List.map_cons, List.map_nil, Lib.join_cons, List.getD_cons_zero, List.getD_cons_succ, dec_all]
    simp [Lib.joinTail]
end Go.Tx
namespace Go.Proofs.YtbhmmdkipmddlaaDoor
open Go.RowKit Go.Lib Go.Tx Go.Rb Go.Ev Go.Fr Go.ChangeShapes
theorem rprint_any (s : ByteArray) (w : World) (hs : s.size ≤ 100000) : Calls Tryd.prog 10 #[.string s] w (TextR w (printP s.data.toList)) := by
  have hl : s.data.toList.length = s.size := rfl
  by_cases h4 : s.size = 4
  · have e : printP s.data.toList = print4 s.data.toList 4 := by unfold printP; rw [if_pos (by omega), print4_join _ (by omega)]
    rw [e]
    exact print_four s w h4
  by_cases h16 : s.size = 16
  · have e : printP s.data.toList = print16 s.data.toList := by unfold printP; rw [if_neg (by omega), if_pos (by omega)]
    rw [e]
    exact rprint_16 s w h16
  · have e : printP s.data.toList = [] := by unfold printP; rw [if_neg (by omega), if_neg (by omega)]
    rw [e]
    exact print_none s w hs h4 h16
theorem maxAt (W : World) (hsh : W.ShapedOpen Tryd.prog) : ∃ m, W.cell? ⟨0, 0, none⟩ = some (.int .i64 m) :=
  cell_of_shapedOpen_int (P := Tryd.prog) (g := 0) (t := 3) (zero := #[.int .i64 0]) hsh (of_decide_eq_true (by kernel_rfl)) (by kernel_rfl) rfl (by kernel_rfl) (by kernel_rfl) Tryd.underlying3
theorem err_of {W : World} {g tp b o : Nat} {G : Nat → Option (List AV)} (hG : GloOK (Bas.of W) G) (h : G g = some [.iface tp (.glob b o)]) : ErrAt g W := by
  obtain ⟨_, arr, elem, fr, h1, vs, hv, hc⟩ := hG g _ h
  obtain ⟨v, hv1, hv2⟩ := hv.get 0 _ rfl
  have h3 := hc 0 v hv1
  refine ⟨v, ?_, ?_⟩
  · unfold World.cell?
    have h1' : W.heap[g]? = some (.cells arr elem fr) := h1
    rw [h1']
    simpa using h3
  · simp only [VR] at hv2
    obtain ⟨v', e, _⟩ := hv2
    exact .inr ⟨_, _, e⟩
theorem glo_at (W : World) (hL : laidMetH Tryd.prog laidL W) (hsh : W.ShapedOpen Tryd.prog) : GloAt W ∧ PrAt W := by
  obtain ⟨b1, o1, b2, o2, hE⟩ := eok W hL hsh
  refine ⟨⟨maxAt W hsh, err_of hE.glo (b := b2) (o := o2) rfl, err_of hE.glo (b := b1) (o := o1) rfl⟩, ⟨?_, ?_⟩⟩
  · obtain ⟨hs, arr, elem, fr, h1, vs, hv, hc⟩ := hE.glo 7 _ rfl
    obtain ⟨v, hv1, hv2⟩ := hv.get 15 (.int .u8 4) rfl
    have h3 := hc 15 v hv1
    simp only [VR] at hv2
    subst hv2
    refine ⟨?_, hs⟩
    unfold World.cell?
    have h1' : W.heap[7]? = some (.cells arr elem fr) := h1
    rw [h1']
    simpa using h3
  · rw [MakeChecks.laidMetH_plain _ _ _ (by kernel_rfl)] at hL
    exact Lib.tabIs_of_head (zs := Lib.pow10Tab) (g := 3) (t := 100) (by kernel_rfl) (by kernel_rfl) Tryd.underlying100 Tryd.underlying40 (by kernel_rfl) (by kernel_rfl) hL.tail.tail
noncomputable def tC : Tab := [([.str [10, 0, 0, 255], .str [10, 0, 0, 255]], .int .i64 32)]
noncomputable def tI : Tab := [([.str [10, 0, 0, 255], .str [10, 0, 0, 0], .int .i64 8], .bool true)]
set_option maxRecDepth 1000000 in
theorem kC (b1 o1 b2 o2 : Nat) : okTab (E0 b1 o1 b2 o2) 200 11 tC = true := by kernel_rfl
set_option maxRecDepth 1000000 in
theorem kI (b1 o1 b2 o2 : Nat) : okTab (E0 b1 o1 b2 o2) 200 12 tI = true := by kernel_rfl
end Go.Proofs.YtbhmmdkipmddlaaDoor
