/- The closed law of written forms of addresses: its run is reckoned through; the texts' readings and prints are reckoned apart. The package variables of Go's library that it reads hold what the program's text lays in them (the card's tie). No other condition. -/
import Derived.Test.YtieiiffieccceaaDoorCards
import Derived.Test.YtieiiffieccceaaDoorTie
import Derived.Test.YtieiiffieccceaaDoorTb7
import Derived.Test.YtieiiffieccceaaDoorTbp
namespace Go.Proofs.YtieiiffieccceaaDoor.addrForms
open Go.ChangeShapes Go.WideShapes Go.ChangeAt Go.RowKit Go.Ev Go.Fr
noncomputable def exts1 : List (Nat × ExtK) := (9, .fn (tabF pAll)) :: (11, .fn (tabF q)) :: (7, .fn (tabF t7)) :: exts
noncomputable def E1 (b1 o1 b2 o2 : Nat) : Env := { P := Tryd.prog, ext := extL exts1, G := gL (glos b1 o1 b2 o2) }
theorem eok1 {b1 o1 b2 o2 : Nat} {B : Bas} (h : EOK (E0 b1 o1 b2 o2) B) : EOK (E1 b1 o1 b2 o2) B :=
  ⟨extOK_fn (extOK_fn (extOK_fn h.ext)), FnsOK.cons (FnOK.tab h fol (kpAll b1 o1 b2 o2)) (FnsOK.cons (FnOK.tab h fol (kq b1 o1 b2 o2)) (FnsOK.cons (FnOK.tab h fol (k7 b1 o1 b2 o2)) h.fn)), h.glo⟩
set_option maxRecDepth 1000000 in
theorem run (b1 o1 b2 o2 : Nat) : yes (aFn (E1 b1 o1 b2 o2) 200 6 [] H00) = true := by kernel_rfl

theorem walk (W : World) (hL : laidMetH Tryd.prog laidL W) (hsh : W.ShapedOpen Tryd.prog) :
    Calls Tryd.prog 6 #[] W fun e w' => e = .returned (.bool true) ∧ Below W.heap.size W w' := by
  obtain ⟨b1, o1, b2, o2, h⟩ := eok W hL hsh
  exact closed W (eok1 h) fol (run b1 o1 b2 o2)

set_option maxRecDepth 100000 in
theorem lifted (os : Os) (started : os.Started) (H : Type) (enc : TypeId × Value → H) :
    ReturnsInHanded {} Tryd.checked os 6 .any (fun w args => (Rows.addrFormsSpec.pre enc Tryd.prog Tryd.f6 Rows.addrFormsRow.domain false w args ∧ laidMetH Tryd.prog Rows.addrFormsRow.laid w) ∧ sizedMet enc Tryd.prog Tryd.f6 (OpenSpec.ofChange Rows.addrFormsSpec) false w args)
      (Rows.addrFormsSpec.post enc Tryd.prog Tryd.f6 false true false false) := by
  refine wrap (C := Tryd.checked) (X := fun w _ => laidMetH Tryd.prog Rows.addrFormsRow.laid w) (fun _ _ _ hh h => h.of_heap hh) own started (by kernel_rfl) Tryd.func6
    (ChangeSpec.witness_shaped (enc := enc) (C := Tryd.checked) (os := os) (X := fun w _ => laidMetH Tryd.prog Rows.addrFormsRow.laid w) false (World.laidAll Tryd.prog os Rows.addrFormsRow.laid) #[] 8 (World.laidAll_os _ _ _)
      (World.shaped_of_ZipB (by kernel_rfl) (by kernel_rfl)) (by kernel_rfl) (by kernel_rfl) (by kernel_rfl)
      (by rw [MakeChecks.laidMetH_plain _ _ _ (by kernel_rfl)]; exact laidMet_laidAll _ (by kernel_rfl) (by kernel_rfl))) ?_
  intro W base args ds gs before hval0 hW _ _ hL hsh
  have hval : ∀ (j : Nat) t v, Tryd.f6.params[j]? = some t → args[j]? = some v → Value.okWide Tryd.prog W .any base t v := hval0
  have hW' := hW
  obtain ⟨p, q, hA0, hV, rfl, hfz, hnd⟩ := hW
  have hA : DataW.TrodAll enc Tryd.prog W 0 (fun _ => true) true Tryd.f6.params.toList args.toList ds p := hA0
  rw [Tryd.params6] at hA hval
  obtain ⟨rfl, rfl, rfl⟩ := trodAll_none hA
  obtain ⟨rfl, rfl⟩ := trodVars_none hV
  clear hA0 hval0
  simp only [List.append_nil] at hW'
  refine (walk W hL hsh).mono fun e W' ⟨he, bel⟩ => ?_
  subst he
  exact ⟨_, rfl, _, _, _, [], [], [], hW', trodAll_mk1 (shut_bool Tryd.underlying4 _), trodAll_mk0, rfl, bel.frame _, fun h => by cases h⟩

theorem over : Rows.addrFormsRow.holds Tryd.pinned (OpenSpec.ofChange Rows.addrFormsSpec) :=
  OpenClaim.holds_of_wide 6 Tryd.f6 rfl rfl rfl rfl rfl rfl rfl ⟨rfl, rfl, rfl, rfl, rfl⟩ rfl rfl rfl rfl rfl (by kernel_rfl) Tryd.func6 (by kernel_rfl)
    (of_decide_eq_true (by kernel_rfl)) (by unfold Func.isWrapper; first | (rw [if_pos (by decide +kernel)]; kernel_rfl) | (rw [if_neg (by decide +kernel)]; exact ⟨rfl, rfl⟩))
    (fun os started H enc _ => lifted os started H enc)

theorem proved : Rows.AddrFormsCardSaid :=
  Claim7.holds_tied_plain_at .later [] Rows.addrFormsCard.laidKinds true Rows.addrFormsCard.stood.harness Rows.addrFormsCard.stood.looks over (fun _ h => by cases h) (by kernel_rfl) (fun _ h => by cases h) addrForms_row_tie rfl ⟨rfl, rfl⟩ (by kernel_rfl) rfl
    (fun f fn hf hfn => by
      obtain rfl : f = 6 := Option.some.inj ((show Tryd.prog.funcNamed "concierge/conciergelaw3.AddrForms" = some 6 by kernel_rfl).symm.trans hf) |>.symm
      obtain rfl : fn = Tryd.f6 := (Option.some.inj (Tryd.func6.symm.trans hfn)).symm
      exact ⟨by kernel_rfl, fun j t ht => by
        rw [Tryd.params6] at ht
        simp at ht⟩)
    (by kernel_rfl)
end Go.Proofs.YtieiiffieccceaaDoor.addrForms
