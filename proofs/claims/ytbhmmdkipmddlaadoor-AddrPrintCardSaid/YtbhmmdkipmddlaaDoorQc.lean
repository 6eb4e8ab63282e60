/- The laws' head: two addresses are read and printed. -/
import Derived.Test.YtbhmmdkipmddlaaDoorQb
namespace Go.Proofs.YtbhmmdkipmddlaaDoor
open Go.RowKit Go.Lib Go.Tx Go.Rb Go.Ev Go.Fr Go.ChangeShapes
def A1 : List UInt8 := [10, 0, 0, 255]
def A2 : List UInt8 := [32, 1, 13, 184, 0, 0, 0, 0, 0, 0, 0, 0, 0, 0, 0, 1]
def S1 : List UInt8 := [49, 48, 46, 48, 46, 48, 46, 50, 53, 53]
def S2 : List UInt8 := [50, 48, 48, 49, 58, 68, 66, 56, 58, 58, 49]
def S3 : List UInt8 := [50, 48, 48, 49, 58, 100, 98, 56, 58, 58, 49]
theorem p1 : parseP S1 = some A1 := by decide +kernel
theorem p2 : parseP S2 = some A2 := by decide +kernel
theorem q1 : printP A1 = S1 := by decide +kernel
theorem q2 : printP A2 = S3 := by decide +kernel
/-- A function known by a table that answers a number or a bool, at a later world. -/
theorem tab_plain {W w : World} {f : Nat} {t : Tab} {l : List AV} {x : AV} {v : Value} {vs : List Value} {b1 o1 b2 o2 : Nat} (h : EOK (E0 b1 o1 b2 o2) (Bas.of W)) (ok : okTab (E0 b1 o1 b2 o2) 200 f t = true) (hget : tabF t l H00 = some (x, H00)) (hx : ∀ ρ u, VR ρ x u → u = v) (hv : VRL (fun _ => none) l vs) (hb : Below W.heap.size W w) :
    Calls Tryd.prog f vs.toArray w fun e w' => e = .returned v ∧ Below w.heap.size w w' :=
  (FnOK.tab h fol ok l H00 x H00 hget (fun _ => none) w vs ((HR.none00 Tryd.prog W).below hb).1 (fun _ _ _ => rfl) hv).mono fun e w' ⟨u, ρ', h1, h2, h3, h4⟩ => by
    obtain rfl := hx _ _ h2
    refine ⟨h1, h4.os, h4.tape, h4.output, h4.size, fun k hk => h4.frame k hk ?_⟩
    rintro ⟨n, o, cp, e, _⟩
    rw [show H00.objs.get n = none from Tr.get_leaf n] at e
    cases e
set_option maxHeartbeats 2000000 in
set_option maxRecDepth 100000 in
theorem begun_any (W : World) (hL : laidMetH Tryd.prog laidL W) (hsh : W.ShapedOpen Tryd.prog) : Calls Tryd.prog 5 #[] W fun e w' => e = .returned (.bool true) ∧ Below W.heap.size W w' := by
  obtain ⟨hg, hp⟩ := glo_at W hL hsh
  obtain ⟨b1, o1, b2, o2, hE⟩ := eok W hL hsh
  have HC : Hid (∀ w, Below W.heap.size W w → Calls Tryd.prog 11 #[.string ⟨#[10, 0, 0, 255]⟩, .string ⟨#[10, 0, 0, 255]⟩] w fun e w' => e = .returned (.int .i64 32) ∧ Below w.heap.size w w') := Lib.hid (fun w hb =>
    tab_plain (l := [.str [10, 0, 0, 255], .str [10, 0, 0, 255]]) (x := .int .i64 32) hE (kC b1 o1 b2 o2) rfl (fun ρ u h => h) (VRL.cons ⟨rfl, by decide⟩ (VRL.cons ⟨rfl, by decide⟩ VRL.nil)) hb)
  have HI : Hid (∀ w, Below W.heap.size W w → Calls Tryd.prog 12 #[.string ⟨#[10, 0, 0, 255]⟩, .string ⟨#[10, 0, 0, 0]⟩, .int .i64 8] w fun e w' => e = .returned (.bool true) ∧ Below w.heap.size w w') := Lib.hid (fun w hb =>
    tab_plain (l := [.str [10, 0, 0, 255], .str [10, 0, 0, 0], .int .i64 8]) (x := .bool true) hE (kI b1 o1 b2 o2) rfl (fun ρ u h => h) (VRL.cons ⟨rfl, by decide⟩ (VRL.cons ⟨rfl, by decide⟩ (VRL.cons rfl VRL.nil))) hb)
  have HG := Lib.hid hg
  have HP := Lib.hid hp
  obtain ⟨a1, ha1⟩ : ∃ x : ByteArray, (⟨A1.toArray⟩ : ByteArray) = x := ⟨_, rfl⟩
  obtain ⟨a2, ha2⟩ : ∃ x : ByteArray, (⟨A2.toArray⟩ : ByteArray) = x := ⟨_, rfl⟩
  have HPB : Hid (∀ w, Below W.heap.size W w → ∀ v x, ((v = ⟨#[49, 48, 46, 48, 46, 48, 46, 50, 53, 53]⟩ ∧ x = a1) ∨ (v = ⟨#[50, 48, 48, 49, 58, 68, 66, 56, 58, 58, 49]⟩ ∧ x = a2)) → Calls Tryd.prog 7 #[.string v] w fun e w' => e = .returned (.tuple #[.string x, .bool true]) ∧ Below w.heap.size w w') := Lib.hid (fun w hb v x h => by
    rcases h with ⟨rfl, rfl⟩ | ⟨rfl, rfl⟩
    · have := paddr_any ⟨S1.toArray⟩ w (by decide) (HG.out.below hb)
      rw [show (⟨S1.toArray⟩ : ByteArray).data.toList = S1 from rfl, p1] at this
      rw [← ha1]
      exact this
    · have := paddr_any ⟨S2.toArray⟩ w (by decide) (HG.out.below hb)
      rw [show (⟨S2.toArray⟩ : ByteArray).data.toList = S2 from rfl, p2] at this
      rw [← ha2]
      exact this)
  have HPR : Hid (∀ w, Below W.heap.size W w → ∀ v x, ((v = a1 ∧ x = ⟨#[49, 48, 46, 48, 46, 48, 46, 50, 53, 53]⟩) ∨ (v = a2 ∧ x = ⟨#[50, 48, 48, 49, 58, 100, 98, 56, 58, 58, 49]⟩)) → Calls Tryd.prog 9 #[.string v] w fun e w' => e = .returned (.string x) ∧ Below w.heap.size w w') := Lib.hid (fun w hb v x h => by
    rcases h with ⟨rfl, rfl⟩ | ⟨rfl, rfl⟩
    · have := pprint_any ⟨A1.toArray⟩ w (by decide) (HP.out.below hb)
      rw [show (⟨A1.toArray⟩ : ByteArray).data.toList = A1 from rfl, q1, ha1] at this
      exact this
    · have := pprint_any ⟨A2.toArray⟩ w (by decide) (HP.out.below hb)
      rw [show (⟨A2.toArray⟩ : ByteArray).data.toList = A2 from rfl, q2, ha2] at this
      exact this)
  have hl1 : (a1.toList == [10, 0, 0, 255]) = true := by rw [← ha1, toList_data]; rfl
  have hs2 : (a2.size : Int) = 16 := by rw [← ha2]; rfl
  have HC2 : Hid (∀ w, Below W.heap.size W w → Calls Tryd.prog 11 #[.string a1, .string a1] w fun e w' => e = .returned (.int .i64 32) ∧ Below w.heap.size w w') := by rw [← ha1]; exact HC
  have HI2 : Hid (∀ w, Below W.heap.size W w → Calls Tryd.prog 12 #[.string a1, .string ⟨#[10, 0, 0, 0]⟩, .int .i64 8] w fun e w' => e = .returned (.bool true) ∧ Below w.heap.size w w') := by rw [← ha1]; exact HI
  clear ha1 ha2 HC HI HG HP hg hp hE hL hsh
  have HB := Lib.hid (Below.refl W.heap.size W)
  go_enter Tryd.func5, Tryd.ntmps5
  go_wp2_with (first | (go_at_call 7; refine (HPB.out _ HB.out _ _ (by first | exact .inl ⟨rfl, rfl⟩ | exact .inr ⟨rfl, rfl⟩)).mono ?_; rintro e w2 ⟨rfl, hb2⟩; have HB := Lib.hid (keepB HB.out hb2); clear hb2) | (go_at_call 9; refine (HPR.out _ HB.out _ _ (by first | exact .inl ⟨rfl, rfl⟩ | exact .inr ⟨rfl, rfl⟩)).mono ?_; rintro e w2 ⟨rfl, hb2⟩; have HB := Lib.hid (keepB HB.out hb2); clear hb2) | (go_at_call 11; refine (HC2.out _ HB.out).mono ?_; rintro e w2 ⟨rfl, hb2⟩; have HB := Lib.hid (keepB HB.out hb2); clear hb2) | (go_at_call 12; refine (HI2.out _ HB.out).mono ?_; rintro e w2 ⟨rfl, hb2⟩; have HB := Lib.hid (keepB HB.out hb2); clear hb2))
  go_ret
  exact ⟨rfl, HB.out⟩
end Go.Proofs.YtbhmmdkipmddlaaDoor
