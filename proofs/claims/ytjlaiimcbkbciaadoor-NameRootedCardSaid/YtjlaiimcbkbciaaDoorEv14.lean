/- append, copy, texts to bytes and back: sound. -/
import Derived.Test.YtjlaiimcbkbciaaDoorEv13
import Derived.Laws.BytesString
noncomputable section
namespace Go.Ev
open Go
section
variable {P : Program} {B : Bas} {ρ : Ren} {H : AHeap} {w : World}
theorem aAppend_sound (h : HR P B ρ H w) {ts : Array TypeId} {s x r : AV} {H' : AHeap} (ha : aAppend P H ts s x = some (r, H')) (hf : Free ρ H.next H'.next) {ty : TypeId} {sv xv : Value} (hs : VR ρ s sv) (hx : VR ρ x xv) :
    ∃ v w' ρ', (Builtin.append_ ts ty #[sv, xv]).run P w = .ok v w' ∧ VR ρ' r v ∧ HR P B ρ' H' w' ∧ Post ρ H w ρ' H' w' := by
  unfold aAppend at ha
  split at ha
  · rename_i t u h0 h1
    split at ha
    · rename_i e d ht hu
      split at ha
      · rename_i i za hi hz
        obtain ⟨i', z, hi', hz0, hzr⟩ := zeroOf_sound hz ρ
        rw [hi] at hi'
        obtain rfl := Option.some.inj hi'
        split at ha
        · cases ha
        rename_i hb
        obtain ⟨hb, b3⟩ := bAnd hb
        obtain ⟨b1, b2⟩ := bAnd hb
        have hd := notInt_ne b1
        have b2 := Nat.eq_of_beq_eq_true b2
        have b3 := blt_t b3
        have hzs : z.cells.size = i.size := by
          have := hzr.cells.length
          simp only [Array.length_toList] at this
          omega
        split at ha
        · cases ha
        rename_i n l hsrc
        obtain ⟨vs, v1, v2, v3, v4⟩ := aSrc_sound h hsrc hx
        split at ha
        · simp only [VR] at hs
          subst hs
          split at ha
          · rename_i hn
            have hn := Nat.eq_of_beq_eq_true hn
            subst hn
            cases ha
            have := append_fits (ty := ty) (base := none) (sLen := 0) (sCap := 0) h0 h1 ht hu hd hi v3 (v4 w rfl) (Nat.le_refl _)
            exact ⟨_, w, ρ, this, rfl, h, Post.refl _ _ _⟩
          · rename_i hn
            have hn := beq_f hn
            obtain ⟨ρ', q1, q2, q3, q4, q5⟩ := aGrow_sound (lo := []) (us := []) (s1 := 0) (sCap := 0) h ha hf hi hzs VRL.nil v1 (by simp) v2 (by simp)
            have := append_grows (ty := ty) (base := none) (sLen := 0) (sCap := 0) (us := []) h0 h1 ht hu hd hi hz0 v3 (v4 w.drew rfl) (by simp [Builtin.firstCells]) (by omega) (by simpa using q4) (by simpa using q5)
            simp only [Nat.zero_add] at this
            exact ⟨_, _, ρ', this, q1, q2, q3⟩
        · rename_i g off len sh
          have hs' := hs
          simp only [VR] at hs
          obtain ⟨b, cp, hr, hcap, rfl⟩ := hs
          split at ha
          · rename_i hn
            have hn := Nat.eq_of_beq_eq_true hn
            subst hn
            cases ha
            have := append_fits (ty := ty) (base := some ⟨b, off, none⟩) (sLen := len) (sCap := cp - sh) h0 h1 ht hu hd hi v3 (v4 w rfl) (by omega)
            have hvs : vs = [] := List.eq_nil_of_length_eq_zero (by simpa using v2)
            subst hvs
            simp only [storeCells, Sem.run_pure, Result.andThen_ok, Nat.add_zero] at this
            exact ⟨_, w, ρ, this, hs', h, Post.refl _ _ _⟩
          · split at ha
            · rename_i e' k c tr hgo
              split at ha
              · rename_i hfit
                obtain ⟨hfit, f3⟩ := bAnd hfit
                obtain ⟨f1, f2⟩ := bAnd hfit
                have f2 := Nat.le_of_ble_eq_true f2
                have f3 := Nat.eq_of_beq_eq_true f3
                subst f3
                split at ha
                · cases ha
                rename_i H1 hst
                cases ha
                obtain ⟨b', cp', arr, fr, q1, q2, q3, q4, q5, q6, q7⟩ := h.obj g _ hgo
                rw [hr] at q1
                obtain ⟨rfl, rfl⟩ := Prod.mk.inj (Option.some.inj q1)
                have hroom : len + n ≤ cp - sh ∧ sh + (len + n) ≤ cp := by
                  obtain ⟨ti, q61, q62⟩ := q6 (by simp)
                  rw [hi] at q61
                  obtain rfl := Option.some.inj q61
                  have hm : (sh + len + n) * i.size ≤ cp * i.size := by omega
                  have := Nat.le_of_mul_le_mul_right hm b3
                  omega
                obtain ⟨w', e1, e2, e3⟩ := aStoreCells_sound h hst hr v1 (P := P)
                have := append_fits (ty := ty) (base := some ⟨b, off, none⟩) (sLen := len) (sCap := cp - sh) h0 h1 ht hu hd hi v3 (v4 w rfl) hroom.1
                simp only [add_off, e1, Result.andThen_ok] at this
                exact ⟨_, w', ρ, this, ⟨b, cp, hr, hroom.2, rfl⟩, e2, e3⟩
              · split at ha
                · cases ha
                rename_i hz00
                obtain ⟨f1, f2⟩ := bAnd hz00
                have f1 := Nat.eq_of_beq_eq_true f1
                have f2 := Nat.eq_of_beq_eq_true f2
                subst f1 f2
                simp only [Nat.sub_zero]
                exact aAmb_sound h ha hf h0 h1 ht hu hd hi hz0 hzs b3 hr rfl rfl (by omega) v1 v2 v3 v4
            · cases ha
        · rename_i g off len cap
          have hs' := hs
          simp only [VR] at hs
          obtain ⟨b, cp, hr, rfl⟩ := hs
          split at ha
          · rename_i hn
            obtain ⟨hn, hlc⟩ := bAnd hn
            have hn := Nat.eq_of_beq_eq_true hn
            have hlc := Nat.le_of_ble_eq_true hlc
            subst hn
            cases ha
            have := append_fits (ty := ty) (base := some ⟨b, off, none⟩) (sLen := len) (sCap := cap) h0 h1 ht hu hd hi v3 (v4 w rfl) (by omega)
            have hvs : vs = [] := List.eq_nil_of_length_eq_zero (by simpa using v2)
            subst hvs
            simp only [storeCells, Sem.run_pure, Result.andThen_ok, Nat.add_zero] at this
            exact ⟨_, w, ρ, this, hs', h, Post.refl _ _ _⟩
          · split at ha
            · rename_i hfit
              have hfit := Nat.le_of_ble_eq_true hfit
              split at ha
              · cases ha
              rename_i H1 hst
              cases ha
              obtain ⟨w', e1, e2, e3⟩ := aStoreCells_sound h hst hr v1 (P := P)
              have := append_fits (ty := ty) (base := some ⟨b, off, none⟩) (sLen := len) (sCap := cap) h0 h1 ht hu hd hi v3 (v4 w rfl) hfit
              simp only [add_off, e1, Result.andThen_ok] at this
              exact ⟨_, w', ρ, this, ⟨b, cp, hr, rfl⟩, e2, e3⟩
            · rename_i hfit
              have hfit : cap < len + n := by
                rcases Nat.lt_or_ge cap (len + n) with h' | h'
                · exact h'
                · have : Nat.ble (len + n) cap = true := Nat.ble_eq_true_of_le h'
                  rw [this] at hfit; cases hfit
              split at ha
              · cases ha
              rename_i n' olds hso
              obtain ⟨us, o1, o2, o3, o4⟩ := aSrc_sound h hso hs'
              have hn' : n' = len := by
                have := o3 w
                simp [Builtin.lenOf] at this
                exact this.symm
              subst hn'
              obtain ⟨ρ', q1, q2, q3, q4, q5⟩ := aGrow_sound (sCap := cap) h ha hf hi hzs o1 v1 o2 v2 rfl
              have := append_grows (ty := ty) h0 h1 ht hu hd hi hz0 v3 (v4 w.drew rfl) (o4 w.drew rfl) hfit q4 q5
              exact ⟨_, _, ρ', this, q1, q2, q3⟩
        · rename_i g
          have hs' := hs
          simp only [VR] at hs
          obtain ⟨b, cp, hr, off, cap, rfl⟩ := hs
          split at ha
          · rename_i hn
            have hn := Nat.eq_of_beq_eq_true hn
            subst hn
            cases ha
            have := append_fits (ty := ty) (base := some ⟨b, off, none⟩) (sLen := 0) (sCap := cap) h0 h1 ht hu hd hi v3 (v4 w rfl) (by omega)
            have hvs : vs = [] := List.eq_nil_of_length_eq_zero (by simpa using v2)
            subst hvs
            simp only [storeCells, Sem.run_pure, Result.andThen_ok, Nat.add_zero] at this
            exact ⟨_, w, ρ, this, hs', h, Post.refl _ _ _⟩
          · cases ha
        · cases ha
      · cases ha
    · cases ha
  · cases ha
end
end Go.Ev
