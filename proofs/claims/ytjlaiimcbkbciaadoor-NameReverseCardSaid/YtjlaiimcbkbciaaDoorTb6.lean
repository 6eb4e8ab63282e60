/- Numbers of a byte in decimal, and below 16 in hexadecimal, reckoned. -/
import Derived.Test.YtjlaiimcbkbciaaDoorTb4
namespace Go.Proofs.YtjlaiimcbkbciaaDoor
open Go.RowKit Go.Ev Go.Fr
def decD (i : Nat) : List Nat := match Nat.blt i 10 with
  | true => [48 + i]
  | false => match Nat.blt i 100 with
    | true => [48 + i / 10, 48 + i % 10]
    | false => [48 + i / 100, 48 + i / 10 % 10, 48 + i % 10]
def hexD (i : Nat) : List Nat := match Nat.blt i 10 with
  | true => [48 + i]
  | false => [87 + i]
def tabOf (k : IntKind) (f : Nat → List Nat) (a : Nat) : Nat → Tab
  | 0 => []
  | n + 1 => ([.int k (Int.ofNat a)], .str (f a)) :: tabOf k f (a + 1) n
theorem tabOf_get (k : IntKind) (hk : eqK k k = true) (f : Nat → List Nat) (H : AHeap) : ∀ (n a x : Nat), a ≤ x → x < a + n → tabF (tabOf k f a n) [.int k (Int.ofNat x)] H = some (.str (f x), H)
  | 0, a, x, h1, h2 => by omega
  | n + 1, a, x, h1, h2 => by
    unfold tabOf tabF
    by_cases h : a = x
    · subst h
      have : eqAVL [AV.int k (Int.ofNat a)] [AV.int k (Int.ofNat a)] = true := by simp [eqAVL, eqAV, hk, eqI_eq]
      simp only [this]
    · have : eqAVL [AV.int k (Int.ofNat a)] [AV.int k (Int.ofNat x)] = false := by
        have e : ((a : Int) == (x : Int)) = false := beq_eq_false_iff_ne.2 (by omega)
        simp [eqAVL, eqAV, hk, eqI_eq, e]
      simp only [this]
      exact tabOf_get k hk f H n (a + 1) x (by omega) (by omega)
set_option maxRecDepth 1000000 in
theorem kd0 : okTab E0 200 48 (tabOf .i64 decD 0 128) = true := by kernel_rfl
set_option maxRecDepth 1000000 in
theorem kd1 : okTab E0 200 48 (tabOf .i64 decD 128 128) = true := by kernel_rfl
set_option maxRecDepth 1000000 in
theorem kh : okTab E0 200 37 (tabOf .u8 hexD 0 16) = true := by kernel_rfl
/-- A function known by a table, at a later world. -/
theorem tab_later {W w : World} {f : Nat} {t : Tab} {l : List AV} {s : List Nat} {vs : List Value} (h : EOK E0 (Bas.of W)) (ok : okTab E0 200 f t = true) (hget : tabF t l H00 = some (.str s, H00)) (hv : VRL (fun _ => none) l vs) (hb : Below W.heap.size W w) :
    Calls Tryd.prog f vs.toArray w fun e w' => e = .returned (.string (bs s)) ∧ Below w.heap.size w w' :=
  (FnOK.tab h fol ok l H00 (.str s) H00 hget (fun _ => none) w vs ((HR.none00 Tryd.prog W).below hb).1 (fun _ _ _ => rfl) hv).mono fun e w' ⟨v, ρ', h1, h2, h3, h4⟩ => by
    obtain ⟨rfl, _⟩ := h2
    refine ⟨h1, h4.os, h4.tape, h4.output, h4.size, fun k hk => h4.frame k hk ?_⟩
    rintro ⟨n, o, cp, e, _⟩
    rw [show H00.objs.get n = none from Tr.get_leaf n] at e
    cases e
theorem itoa_later {W w : World} (h : EOK E0 (Bas.of W)) (hb : Below W.heap.size W w) (n : Nat) (hn : n < 256) : Calls Tryd.prog 48 #[.int .i64 (n : Int)] w fun e w' => e = .returned (.string (bs (decD n))) ∧ Below w.heap.size w w' := by
  by_cases h1 : n < 128
  · exact tab_later h kd0 (tabOf_get .i64 rfl decD H00 128 0 n (by omega) (by omega)) (VRL.int1 VRL.nil) hb
  · exact tab_later h kd1 (tabOf_get .i64 rfl decD H00 128 128 n (by omega) (by omega)) (VRL.int1 VRL.nil) hb
theorem hex_later {W w : World} (h : EOK E0 (Bas.of W)) (hb : Below W.heap.size W w) (n : Nat) (hn : n < 16) : Calls Tryd.prog 37 #[.int .u8 (n : Int)] w fun e w' => e = .returned (.string (bs (hexD n))) ∧ Below w.heap.size w w' :=
  tab_later h kh (tabOf_get .u8 rfl hexD H00 16 0 n (by omega) (by omega)) (VRL.int1 VRL.nil) hb
end Go.Proofs.YtjlaiimcbkbciaaDoor
