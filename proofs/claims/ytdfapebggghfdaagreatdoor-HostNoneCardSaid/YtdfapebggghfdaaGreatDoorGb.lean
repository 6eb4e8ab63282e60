/- What the reckoner knows of this program: functions by contracts, package variables by the rows' condition. -/
import Derived.Test.YtdfapebggghfdaaGreatDoorRows
import Derived.Test.YtdfapebggghfdaaGreatDoorShelf
import Derived.Test.YtdfapebggghfdaaGreatDoorEvC
import Derived.Test.YtdfapebggghfdaaGreatDoorFr
namespace Go.Proofs.YtdfapebggghfdaaGreatDoor
open Go.RowKit Go.Ev Go.Fr Go.Lib Go.ChangeShapes
theorem fol : Tryz.prog.follows .mixedOrders = true := by kernel_rfl
theorem own : ownKnob Tryz.prog.godebug = none := by kernel_rfl
abbrev laidL : List (String × DataW Unit) := Rows.hostTableRow.laid
noncomputable def exts : List (Nat × ExtK) := []
def tab6 : List Int := [0, 1, 28, 2, 29, 14, 24, 3, 30, 22, 20, 15, 25, 17, 4, 8, 31, 27, 13, 23, 21, 19, 16, 7, 26, 12, 18, 6, 11, 5, 10, 9]
def tab7 : List Int := [0, 1, 56, 2, 57, 49, 28, 3, 61, 58, 42, 50, 38, 29, 17, 4, 62, 47, 59, 36, 45, 43, 51, 22, 53, 39, 33, 30, 24, 18, 12, 5, 63, 55, 48, 27, 60, 41, 37, 16, 46, 35, 44, 21, 52, 32, 23, 11, 54, 26, 40, 15, 34, 20, 31, 10, 25, 14, 19, 9, 13, 8, 7, 6]
def tab5 : List Int := [1, 10, 100, 1000, 10000, 100000, 1000000, 10000000, 100000000, 1000000000, 10000000000, 100000000000, 1000000000000, 10000000000000, 100000000000000, 1000000000000000, 10000000000000000, 100000000000000000, 1000000000000000000, 10000000000000000000]
def glos (b1 o1 b2 o2 : Nat) : List (Nat × List AV) :=
  [(2, [.iface 139 (.glob b1 o1)]), (1, [.iface 139 (.glob b2 o2)]), (6, tab6.map fun z => .int .u8 z), (7, tab7.map fun z => .int .u8 z), (5, tab5.map fun z => .int .u64 z)]
/-- The reckoner's surroundings. -/
noncomputable def E0 (b1 o1 b2 o2 : Nat) : Env := { P := Tryz.prog, ext := extL exts, G := gL (glos b1 o1 b2 o2) }
theorem star : "*" ++ "errors.errorString" = "*errors.errorString" := by decide
theorem rowSent (u : TypeId) (h : Tryz.prog.typeName? 3 u = some "*errors.errorString") : u = 139 :=
  typeName_ptr_named (nm := "errors.errorString") (by rw [star]; kernel_rfl) (by kernel_rfl) (by decide) u (by rw [star]; exact h)
theorem fns (B : Bas) (W : World) (hB : B = Bas.of W) (hsh : W.ShapedOpen Tryz.prog) : FnsOK Tryz.prog B (extL exts) := by
  exact FnsOK.nil
theorem eok (W : World) (hL : laidMetH Tryz.prog laidL W) (hsh : W.ShapedOpen Tryz.prog) : ∃ b1 o1, ∃ b2 o2, EOK (E0 b1 o1 b2 o2) (Bas.of W) := by
  rw [MakeChecks.laidMetH_plain _ _ _ (by kernel_rfl)] at hL
  -- sentinels: types of variables looked up by hand if this fails
  have c_s : Tryz.prog.cellsOf 9 = 1 := by kernel_rfl
  have c_e : Tryz.prog.cellsOf 141 = 1 := by kernel_rfl
  obtain ⟨b1, o1, h2⟩ := has_sent (g := 2) hL.tail.tail.tail.tail (by kernel_rfl) (by kernel_rfl) Tryz.underlying82 rowSent Tryz.underlying139 Tryz.underlying141 rfl rfl Tryz.underlying9 c_e c_s
  obtain ⟨b2, o2, h1⟩ := has_sent (g := 1) hL.tail.tail.tail.tail.tail (by kernel_rfl) (by kernel_rfl) Tryz.underlying82 rowSent Tryz.underlying139 Tryz.underlying141 rfl rfl Tryz.underlying9 c_e c_s
  have h6 : Has W 6 (tab6.map fun z => .int .u8 z) := has_tab (Lib.laidMet.reads hL (n := "math/bits.deBruijn32tab") (d := tabData .u8 tab6) (.head _)) (by kernel_rfl) (by kernel_rfl) Tryz.underlying157 Tryz.underlying5 (by kernel_rfl) (by kernel_rfl)
  have h7 : Has W 7 (tab7.map fun z => .int .u8 z) := has_tab (Lib.laidMet.reads hL (n := "math/bits.deBruijn64tab") (d := tabData .u8 tab7) (.tail _ (.head _))) (by kernel_rfl) (by kernel_rfl) Tryz.underlying158 Tryz.underlying5 (by kernel_rfl) (by kernel_rfl)
  have h5 : Has W 5 (tab5.map fun z => .int .u64 z) := has_tab (Lib.laidMet.reads hL (n := "internal/strconv.uint64pow10") (d := tabData .u64 tab5) (.tail _ (.tail _ (.head _)))) (by kernel_rfl) (by kernel_rfl) Tryz.underlying153 Tryz.underlying80 (by kernel_rfl) (by kernel_rfl)
  exact ⟨b1, o1, b2, o2, extOK_nil, fns _ W rfl hsh, (glo_cons h2 (glo_cons h1 (glo_cons h6 (glo_cons h7 (glo_cons h5 glo_nil)))))⟩
end Go.Proofs.YtdfapebggghfdaaGreatDoor
