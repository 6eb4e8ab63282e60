/- What the reckoner knows of this program: functions by the library's contracts, package variables by the rows' condition. -/
import Derived.Test.YtieiiffieccceaaDoorRows
import Derived.Test.YtieiiffieccceaaDoorShelf
import Derived.Test.YtieiiffieccceaaDoorFr
namespace Go.Proofs.YtieiiffieccceaaDoor
open Go.RowKit Go.Ev Go.Fr Go.Lib Go.ChangeShapes
theorem fol : Tryd.prog.follows .mixedOrders = true := by kernel_rfl
theorem own : ownKnob Tryd.prog.godebug = none := by kernel_rfl
abbrev laidL : List (String × DataW Unit) := Rows.addrFormsRow.laid
noncomputable def exts : List (Nat × ExtK) := [(39, .fn idxF), (27, .fn repF), (35, .fn joinF), (81, .fn cloneF)]
def pow10Z : List Int := [1, 10, 100, 1000, 10000, 100000, 1000000, 10000000, 100000000, 1000000000, 10000000000, 100000000000, 1000000000000, 10000000000000, 100000000000000, 1000000000000000, 10000000000000000, 100000000000000000, 1000000000000000000, 10000000000000000000]
def bruijnZ : List Int := [0, 1, 56, 2, 57, 49, 28, 3, 61, 58, 42, 50, 38, 29, 17, 4, 62, 47, 59, 36, 45, 43, 51, 22, 53, 39, 33, 30, 24, 18, 12, 5, 63, 55, 48, 27, 60, 41, 37, 16, 46, 35, 44, 21, 52, 32, 23, 11, 54, 26, 40, 15, 34, 20, 31, 10, 25, 14, 19, 9, 13, 8, 7, 6]
def glos (b1 o1 b2 o2 : Nat) : List (Nat × List AV) :=
  [(1, [.iface 104 (.glob b1 o1)]), (2, [.iface 104 (.glob b2 o2)]), (3, pow10Z.map fun z => .int .u64 z), (7, bruijnZ.map fun z => .int .u8 z)]
/-- The reckoner's surroundings. -/
noncomputable def E0 (b1 o1 b2 o2 : Nat) : Env := { P := Tryd.prog, ext := extL exts, G := gL (glos b1 o1 b2 o2) }
theorem star : "*" ++ "errors.errorString" = "*errors.errorString" := by decide
theorem row104 (u : TypeId) (h : Tryd.prog.typeName? 3 u = some "*errors.errorString") : u = 104 :=
  typeName_ptr_named (nm := "errors.errorString") (by rw [star]; kernel_rfl) (by kernel_rfl) (by decide) u (by rw [star]; exact h)
theorem fns (B : Bas) (W : World) (hB : B = Bas.of W) (hsh : W.ShapedOpen Tryd.prog) : FnsOK Tryd.prog B (extL exts) := by
  obtain ⟨m, hm⟩ := cell_of_shapedOpen_int (P := Tryd.prog) (g := 0) (t := 3) (zero := #[.int .i64 0]) hsh (of_decide_eq_true (by kernel_rfl)) (by kernel_rfl) rfl (by kernel_rfl) (by kernel_rfl) Tryd.underlying3
  subst hB
  have hg : ∃ arr e fr m, (Bas.of W).held 0 = some (.cells arr e fr) ∧ arr[0]? = some (.int .i64 m) := by
    unfold World.cell? at hm
    split at hm
    · rename_i arr e fr hh
      exact ⟨arr, e, fr, m, hh, by simpa using hm⟩
    · cases hm
  have hs : 0 < (Bas.of W).size := by
    obtain ⟨arr, e, fr, m, hh, _⟩ := hg
    exact (Array.getElem?_eq_some_iff.1 hh).1
  refine FnsOK.cons (FnOK.index hg hs fun s sub m w h1 h2 => Tryd.stringslite_Index s sub m w h1 h2) ?_
  refine FnsOK.cons (FnOK.repeat Lib.repeatL (fun _ => rfl) (fun _ _ => rfl) fun s n w h1 h2 => Tryd.strings_Repeat s n w h1 h2) ?_
  refine FnsOK.cons (FnOK.join fun bk o c xs sep w h1 h2 h3 h4 h5 => Tryd.strings_Join bk o c xs sep w h1 h2 h3 h4 h5) ?_
  exact FnsOK.cons (FnOK.clone fun s w h => Tryd.stringslite_Clone s w h) FnsOK.nil
theorem eok (W : World) (hL : laidMetH Tryd.prog laidL W) (hsh : W.ShapedOpen Tryd.prog) : ∃ b1 o1 b2 o2, EOK (E0 b1 o1 b2 o2) (Bas.of W) := by
  rw [MakeChecks.laidMetH_plain _ _ _ (by kernel_rfl)] at hL
  have c9 : Tryd.prog.cellsOf 9 = 1 := by kernel_rfl
  have c106 : Tryd.prog.cellsOf 106 = 1 := by kernel_rfl
  obtain ⟨b2, o2, h2⟩ := has_sent (g := 2) hL.tail.tail.tail.tail (by kernel_rfl) (by kernel_rfl) Tryd.underlying42 row104 Tryd.underlying104 Tryd.underlying106 rfl rfl Tryd.underlying9 c106 c9
  obtain ⟨b1, o1, h1⟩ := has_sent (g := 1) hL.tail.tail.tail.tail.tail (by kernel_rfl) (by kernel_rfl) Tryd.underlying42 row104 Tryd.underlying104 Tryd.underlying106 rfl rfl Tryd.underlying9 c106 c9
  have h3 : Has W 3 (pow10Z.map fun z => .int .u64 z) := has_tab (Lib.laidMet.reads hL (n := "internal/strconv.uint64pow10") (d := tabData .u64 pow10Z) (.tail _ (.tail _ (.head _)))) (by kernel_rfl) (by kernel_rfl) Tryd.underlying100 Tryd.underlying40 (by kernel_rfl) (by kernel_rfl)
  have h7 : Has W 7 (bruijnZ.map fun z => .int .u8 z) := has_tab (Lib.laidMet.reads hL (n := "math/bits.deBruijn64tab") (d := tabData .u8 bruijnZ) (.tail _ (.head _))) (by kernel_rfl) (by kernel_rfl) Tryd.underlying113 Tryd.underlying5 (by kernel_rfl) (by kernel_rfl)
  exact ⟨b1, o1, b2, o2, extOK_fn (extOK_fn (extOK_fn (extOK_fn extOK_nil))), fns _ W rfl hsh, glo_cons h1 (glo_cons h2 (glo_cons h3 (glo_cons h7 glo_nil)))⟩
end Go.Proofs.YtieiiffieccceaaDoor
