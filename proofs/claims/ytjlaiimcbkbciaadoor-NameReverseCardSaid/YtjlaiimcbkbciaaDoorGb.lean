/- What the reckoner knows of this program: functions by contracts, package variables by the rows' condition. -/
import Derived.Test.YtjlaiimcbkbciaaDoorRows
import Derived.Test.YtjlaiimcbkbciaaDoorShelf
import Derived.Test.YtjlaiimcbkbciaaDoorEvC
import Derived.Test.YtjlaiimcbkbciaaDoorFr
import Derived.Test.YtjlaiimcbkbciaaDoorTf
namespace Go.Proofs.YtjlaiimcbkbciaaDoor
open Go.RowKit Go.Ev Go.Fr Go.Lib Go.ChangeShapes
theorem fol : Tryd.prog.follows .mixedOrders = true := by kernel_rfl
theorem own : ownKnob Tryd.prog.godebug = none := by kernel_rfl
abbrev laidL : List (String × DataW Unit) := Rows.nameLimitsRow.laid
theorem lowN_low (x : Nat) (hx : x < 256) : lowN x < 256 ∧ Go.Tx.low (UInt8.ofNat x) = UInt8.ofNat (lowN x) := by
  have h : ∀ i : Fin 256, lowN i.1 < 256 ∧ Go.Tx.low (UInt8.ofNat i.1) = UInt8.ofNat (lowN i.1) := by decide +kernel
  exact h ⟨x, hx⟩
noncomputable def exts : List (Nat × ExtK) := [(58, .fn idxF), (32, .fn countF), (38, .fn joinF), (26, .fn (mapF lowN))]
def tab4 : List Int := [0, 1, 28, 2, 29, 14, 24, 3, 30, 22, 20, 15, 25, 17, 4, 8, 31, 27, 13, 23, 21, 19, 16, 7, 26, 12, 18, 6, 11, 5, 10, 9]
def tab5 : List Int := [0, 1, 56, 2, 57, 49, 28, 3, 61, 58, 42, 50, 38, 29, 17, 4, 62, 47, 59, 36, 45, 43, 51, 22, 53, 39, 33, 30, 24, 18, 12, 5, 63, 55, 48, 27, 60, 41, 37, 16, 46, 35, 44, 21, 52, 32, 23, 11, 54, 26, 40, 15, 34, 20, 31, 10, 25, 14, 19, 9, 13, 8, 7, 6]
def tab1 : List Int := [1, 10, 100, 1000, 10000, 100000, 1000000, 10000000, 100000000, 1000000000, 10000000000, 100000000000, 1000000000000, 10000000000000, 100000000000000, 1000000000000000, 10000000000000000, 100000000000000000, 1000000000000000000, 10000000000000000000]
def glos : List (Nat × List AV) :=
  [(4, tab4.map fun z => .int .u8 z), (5, tab5.map fun z => .int .u8 z), (1, tab1.map fun z => .int .u64 z)]
noncomputable def E0 : Env := { P := Tryd.prog, ext := extL exts, G := gL glos }
theorem fns (B : Bas) (W : World) (hB : B = Bas.of W) (hsh : W.ShapedOpen Tryd.prog) : FnsOK Tryd.prog B (extL exts) := by
  obtain ⟨m, hm⟩ := cell_of_shapedOpen_int (P := Tryd.prog) (g := 0) (t := 3) (zero := #[.int .i64 0]) hsh (of_decide_eq_true (by kernel_rfl)) (by kernel_rfl) rfl (by kernel_rfl) (by kernel_rfl) Tryd.underlying3
  subst hB
  have hg : ∃ arr e fr m, (Bas.of W).held 0 = some (.cells arr e fr) ∧ arr[0]? = some (.int .i64 m) := by
    unfold World.cell? at hm
    split at hm
    · rename_i arr e fr hh
      exact ⟨arr, e, fr, m, hh, by simpa using hm⟩
    · cases hm
  have hs : 0 < (Bas.of W).size := by
    obtain ⟨arr, e, fr, m, hh, _⟩ := hg
    exact (Array.getElem?_eq_some_iff.1 hh).1
  refine FnsOK.cons (FnOK.index hg hs fun s sub m w h1 h2 => Tryd.stringslite_Index s sub m w h1 h2) ?_
  refine FnsOK.cons (FnOK.count fun s c w => Tryd.strings_Count_one s c w) ?_
  refine FnsOK.cons (FnOK.join fun bk o c xs sep w h1 h2 h3 h4 h5 => Tryd.strings_Join bk o c xs sep w h1 h2 h3 h4 h5) ?_
  refine FnsOK.cons (FnOK.map lowN Go.Tx.low lowN_low fun s w h => fold_any s w (by unfold maxLen; omega)) ?_
  exact FnsOK.nil
theorem eok (W : World) (hL : laidMetH Tryd.prog laidL W) (hsh : W.ShapedOpen Tryd.prog) : EOK E0 (Bas.of W) := by
  rw [MakeChecks.laidMetH_plain _ _ _ (by kernel_rfl)] at hL
  have h4 : Has W 4 (tab4.map fun z => .int .u8 z) := has_tab (Lib.laidMet.reads hL (n := "math/bits.deBruijn32tab") (d := tabData .u8 tab4) (.head _)) (by kernel_rfl) (by kernel_rfl) Tryd.underlying100 Tryd.underlying5 (by kernel_rfl) (by kernel_rfl)
  have h5 : Has W 5 (tab5.map fun z => .int .u8 z) := has_tab (Lib.laidMet.reads hL (n := "math/bits.deBruijn64tab") (d := tabData .u8 tab5) (.tail _ (.head _))) (by kernel_rfl) (by kernel_rfl) Tryd.underlying101 Tryd.underlying5 (by kernel_rfl) (by kernel_rfl)
  have h1 : Has W 1 (tab1.map fun z => .int .u64 z) := has_tab (Lib.laidMet.reads hL (n := "internal/strconv.uint64pow10") (d := tabData .u64 tab1) (.tail _ (.tail _ (.head _)))) (by kernel_rfl) (by kernel_rfl) Tryd.underlying91 Tryd.underlying54 (by kernel_rfl) (by kernel_rfl)
  exact ⟨(extOK_fn (extOK_fn (extOK_fn (extOK_fn extOK_nil)))), fns _ W rfl hsh, (glo_cons h4 (glo_cons h5 (glo_cons h1 glo_nil)))⟩
end Go.Proofs.YtjlaiimcbkbciaaDoor
