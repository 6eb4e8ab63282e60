/- Contract of Go's own reading of a hexadecimal number of at most sixteen bits. -/
import Derived.Test.YtdfapebggghfdaaGreatDoorGm
import Derived.Test.YtdfapebggghfdaaGreatDoorTr
import Derived.WalkKit
import Derived.LoopTactic
import Derived.OwnWalk
namespace Go.Proofs.YtdfapebggghfdaaGreatDoor
open Go.RowKit Go.Lib Go.Tx Go.Rb
def lowerN (c : UInt8) : UInt8 := c ||| 32
theorem bits_all : ∀ i : Fin 256, bits .or .u8 (i.1 : Int) 32 = ((lowerN (UInt8.ofNat i.1)).toNat : Int) := by decide +kernel
theorem lower_any (c : UInt8) (w : World) : Calls Tryz.prog 96 #[.int .u8 (c.toNat : Int)] w fun e w' => e = .returned (.int .u8 ((lowerN c).toNat : Int)) ∧ w' = w := by
  have hb : bits .or .u8 (c.toNat : Int) 32 = ((lowerN c).toNat : Int) := by
    have := bits_all ⟨c.toNat, c.toNat_lt⟩
    simpa using this
  go_enter Tryz.func96, Tryz.ntmps96
  go_wp2
  go_ret
  exact ⟨by rw [← hb]; rfl, rfl⟩
theorem low_all : ∀ i : Fin 256, (65 ≤ i.1 ∧ i.1 ≤ 90 → (lowerN (UInt8.ofNat i.1)).toNat = i.1 + 32) ∧ (97 ≤ i.1 ∧ i.1 ≤ 122 → (lowerN (UInt8.ofNat i.1)).toNat = i.1) ∧ (¬ (65 ≤ i.1 ∧ i.1 ≤ 90) → ¬ (97 ≤ i.1 ∧ i.1 ≤ 122) → (lowerN (UInt8.ofNat i.1)).toNat < 97 ∨ 122 < (lowerN (UInt8.ofNat i.1)).toNat) := by decide +kernel
theorem low_cls (c : UInt8) : (65 ≤ c.toNat ∧ c.toNat ≤ 90 → (lowerN c).toNat = c.toNat + 32) ∧ (97 ≤ c.toNat ∧ c.toNat ≤ 122 → (lowerN c).toNat = c.toNat) ∧ (¬ (65 ≤ c.toNat ∧ c.toNat ≤ 90) → ¬ (97 ≤ c.toNat ∧ c.toNat ≤ 122) → (lowerN c).toNat < 97 ∨ 122 < (lowerN c).toNat) := by
  have := low_all ⟨c.toNat, c.toNat_lt⟩
  simpa using this
theorem lower95 (w : World) : Calls Tryz.prog 96 #[.int .u8 95] w fun e w' => e = .returned (.int .u8 127) ∧ w' = w := by
  have := lower_any 95 w
  have e1 : ((95 : UInt8).toNat : Int) = 95 := by decide
  have e2 : ((lowerN 95).toNat : Int) = 127 := by decide
  rw [e1, e2] at this
  exact this
theorem lower96 (w : World) : Calls Tryz.prog 96 #[.int .u8 96] w fun e w' => e = .returned (.int .u8 96) ∧ w' = w := by
  have := lower_any 96 w
  have e1 : ((96 : UInt8).toNat : Int) = 96 := by decide
  have e2 : ((lowerN 96).toNat : Int) = 96 := by decide
  rw [e1, e2] at this
  exact this
/-- What a text of digits says, or that it says nothing. -/
def hex16 (l : List UInt8) : Bool := decide (l ≠ []) && hexOk l && decide (hexA l ≤ 65535)
def PuR (l : List UInt8) (w : World) (e : Ending) (w' : World) : Prop :=
  Below w.heap.size w w' ∧ (if hex16 l = true then e = .returned (.tuple #[.int .u64 (hexA l), .nilIface]) else ∃ x n : Int, (n = 1 ∨ n = 2) ∧ e = .returned (.tuple #[.int .u64 x, .iface 121 (.int .i64 n)]))
theorem hexA_from (l : List UInt8) : ∀ a, (∀ c ∈ l, 0 ≤ hexV c) → 0 ≤ a → a ≤ l.foldl (fun n c => 16 * n + hexV c) a := by
  induction l with
  | nil => intro a _ h; exact Int.le_refl _
  | cons c l ih =>
    intro a h h0
    have hc := h c (by simp)
    have := ih (16 * a + hexV c) (fun d hd => h d (by simp [hd])) (by omega)
    simp only [List.foldl_cons]
    omega
theorem hexA_big (l : List UInt8) (k : Nat) (hok : hexOk l = true) (h : 65535 < hexA (l.take k)) : 65535 < hexA l := by
  have e : hexA l = (l.drop k).foldl (fun n c => 16 * n + hexV c) (hexA (l.take k)) := by
    unfold hexA
    rw [← List.foldl_append, List.take_append_drop]
  unfold hexOk at hok
  rw [List.all_eq_true] at hok
  have := hexA_from (l.drop k) (hexA (l.take k)) (fun c hc => by simpa using hok c (List.mem_of_mem_drop hc)) (by omega)
  omega
theorem hex16_bad {l : List UInt8} {k : Nat} {c : UInt8} (h : l[k]? = some c) (hc : hexV c < 0) : hex16 l = false := by
  unfold hex16
  have : hexOk l = false := by
    unfold hexOk
    rw [List.all_eq_false]
    exact ⟨c, List.mem_of_getElem? h, by simp; omega⟩
  rw [this]; simp
theorem hex16_big {l : List UInt8} {k : Nat} (h : 65535 < hexA (l.take k)) : hex16 l = false := by
  unfold hex16
  cases hok : hexOk l with
  | false => simp
  | true =>
    have := hexA_big l k hok h
    have e : decide (hexA l ≤ 65535) = false := decide_eq_false (by omega)
    rw [e]; simp
theorem hexA_step (l : List UInt8) (k : Nat) (c : UInt8) (h : l[k]? = some c) : hexA (l.take (k + 1)) = 16 * hexA (l.take k) + hexV c := by
  rw [List.take_add_one, h]
  exact hexA_snoc _ _
set_option maxHeartbeats 4000000 in
set_option maxRecDepth 100000 in
theorem pu16_any (s : ByteArray) (w : World) (hs : s.size ≤ 1000000) : Calls Tryz.prog 79 #[.string s, .int .i64 16, .int .i64 16] w (PuR s.data.toList w) := by
  by_cases h0 : s = ⟨#[]⟩
  · subst h0
    go_enter Tryz.func79, Tryz.ntmps79
    go_wp2
    go_ret2
    exact ⟨Below.refl _ _, by rw [if_neg (by decide)]; exact ⟨0, 2, .inr rfl, rfl⟩⟩
  · have hne : s.data.toList ≠ [] := fun h => h0 (by cases s; simp at h; simp [h])
    have e2 : s.toList.isEmpty = false := by
      rw [Go.Lib.toList_data]
      cases hh : s.data.toList with
      | nil => exact absurd hh hne
      | cons x y => rfl
    obtain ⟨cap, o, hconv, hcap, hrow⟩ := RowB.made (P := Tryz.prog) s w Tryz.underlying9 Tryz.underlying22 Tryz.underlying5
    have hr2 : RowB 5 (w.alloc o).drew w.heap.size cap s.data.toList := hrow
    have HR := Lib.hid hr2
    have HNe := Lib.hid hne
    have HB : Hid (Below w.heap.size w (w.alloc o).drew) := Lib.hid (((Below.refl _ _).alloc (Nat.le_refl _) _).drew)
    clear hrow hr2 hne h0
    go_enter Tryz.func79, Tryz.ntmps79
    go_wp2
    go_loop [12, 13, 101] (fun us nv i => ∃ (k : Nat) (n : Int), k ≤ s.size ∧ i = .int .i64 k ∧ us = .bool false ∧ nv = .int .u64 n ∧ 0 ≤ n ∧ n ≤ 65535 ∧ Hid (n = hexA (s.data.toList.take k)) ∧ Hid (∀ j c, j < k → s.data.toList[j]? = some c → 0 ≤ hexV c)) (fun _ _ i => s.size - (intOf i).toNat)
    case atStart => exact ⟨0, 0, Nat.zero_le _, rfl, rfl, rfl, by omega, by omega, Lib.hid rfl, Lib.hid (by omega)⟩
    case round =>
      obtain ⟨k, n, hk, rfl, rfl, rfl, hn0, hn1, hn, hall⟩ := hrel
      by_cases hlt : k < s.size
      · have HK : Hid (s.data.toList[k]? = some s[k]) := Lib.hid (List.getElem?_eq_getElem hlt)
        have hcell := HR.out.cell HK.out
        have hu := s[k].toNat_lt
        generalize s[k] = c at HK hcell hu
        have hc : (48 ≤ c.toNat ∧ c.toNat ≤ 57) ∨ (97 ≤ c.toNat ∧ c.toNat ≤ 102) ∨ (65 ≤ c.toNat ∧ c.toNat ≤ 70) ∨ (103 ≤ c.toNat ∧ c.toNat ≤ 122) ∨ (71 ≤ c.toNat ∧ c.toNat ≤ 90) ∨ (c.toNat < 48) ∨ (57 < c.toNat ∧ c.toNat < 65) ∨ (90 < c.toNat ∧ c.toNat < 95) ∨ c.toNat = 96 ∨ c.toNat = 95 ∨ 122 < c.toNat := by omega
        rcases hc with ⟨b1, b2⟩ | ⟨b1, b2⟩ | ⟨b1, b2⟩ | ⟨b1, b2⟩ | ⟨b1, b2⟩ | b1 | ⟨b1, b2⟩ | ⟨b1, b2⟩ | b1 | b1 | b1
        · skip
          have a1 : (48 : Int) ≤ (c.toNat : Int) := by omega
          have a2 : (c.toNat : Int) ≤ 57 := by omega
          have hv : hexV c = (c.toNat : Int) - 48 := by unfold hexV; rw [if_pos ⟨by omega, by omega⟩]
          have HV := Lib.hid hv
          have hv2 := hexV_bd c
          have HS := Lib.hid (hexA_step s.data.toList k c HK.out)
          by_cases hbig : 65535 < n * 16 + hexV c
          · have hb1 : 65535 < n * 16 + ((c.toNat : Int) - 48) := by omega
            have HBig : Hid (hex16 s.data.toList = false) := Lib.hid (hex16_big (k := k + 1) (by rw [HS.out, ← hn.out]; omega))
            clear hv hv2 hbig
            go_wp2
            go_ret2
            exact ⟨HB.out, by rw [if_neg (by rw [HBig.out]; decide)]; exact ⟨_, 1, .inl rfl, rfl⟩⟩
          · have hb1 : ¬ 65535 < n * 16 + ((c.toNat : Int) - 48) := by omega
            clear hv hv2 hbig
            go_wp2
            go_round
            case rel => exact ⟨k + 1, n * 16 + ((c.toNat : Int) - 48), hlt, by go_num, rfl, by first | rfl | (congr 1; omega), by omega, by omega, Lib.hid (by rw [HS.out, ← hn.out, HV.out]; omega), Lib.hid (by
              intro j d hj hd
              by_cases e : j = k
              · subst e
                have := HK.out
                rw [this] at hd
                cases hd
                rw [HV.out]; omega
              · exact hall.out j d (by omega) hd)⟩
            case measure => simp [intOf]; omega
        · skip
          have a1 : (97 : Int) ≤ (c.toNat : Int) := by omega
          have a2 : (c.toNat : Int) ≤ 102 := by omega
          have HLow : Hid (((lowerN c).toNat : Int) = (c.toNat : Int)) := Lib.hid (by have := (low_cls c).2.1 ⟨by omega, by omega⟩; omega)
          have hv : hexV c = (c.toNat : Int) - 87 := by unfold hexV; rw [if_neg (by omega), if_pos ⟨by omega, by omega⟩]
          have HV := Lib.hid hv
          have hv2 := hexV_bd c
          have HS := Lib.hid (hexA_step s.data.toList k c HK.out)
          by_cases hbig : 65535 < n * 16 + hexV c
          · have hb1 : 65535 < n * 16 + ((c.toNat : Int) - 87) := by omega
            have HBig : Hid (hex16 s.data.toList = false) := Lib.hid (hex16_big (k := k + 1) (by rw [HS.out, ← hn.out]; omega))
            clear hv hv2 hbig
            go_wp2_with (go_at_call 96; refine (lower_any c _).mono ?_; rw [HLow.out]; rintro e w3 ⟨rfl, rfl⟩)
            go_ret2
            exact ⟨HB.out, by rw [if_neg (by rw [HBig.out]; decide)]; exact ⟨_, 1, .inl rfl, rfl⟩⟩
          · have hb1 : ¬ 65535 < n * 16 + ((c.toNat : Int) - 87) := by omega
            clear hv hv2 hbig
            go_wp2_with (go_at_call 96; refine (lower_any c _).mono ?_; rw [HLow.out]; rintro e w3 ⟨rfl, rfl⟩)
            go_round
            case rel => exact ⟨k + 1, n * 16 + ((c.toNat : Int) - 87), hlt, by go_num, rfl, by first | rfl | (congr 1; omega), by omega, by omega, Lib.hid (by rw [HS.out, ← hn.out, HV.out]; omega), Lib.hid (by
              intro j d hj hd
              by_cases e : j = k
              · subst e
                have := HK.out
                rw [this] at hd
                cases hd
                rw [HV.out]; omega
              · exact hall.out j d (by omega) hd)⟩
            case measure => simp [intOf]; omega
        · skip
          have a1 : (65 : Int) ≤ (c.toNat : Int) := by omega
          have a2 : (c.toNat : Int) ≤ 70 := by omega
          have HLow : Hid (((lowerN c).toNat : Int) = (c.toNat : Int) + 32) := Lib.hid (by have := (low_cls c).1 ⟨by omega, by omega⟩; omega)
          have hv : hexV c = (c.toNat : Int) - 55 := by unfold hexV; rw [if_neg (by omega), if_neg (by omega), if_pos ⟨by omega, by omega⟩]
          have HV := Lib.hid hv
          have hv2 := hexV_bd c
          have HS := Lib.hid (hexA_step s.data.toList k c HK.out)
          by_cases hbig : 65535 < n * 16 + hexV c
          · have hb1 : 65535 < n * 16 + ((c.toNat : Int) - 55) := by omega
            have HBig : Hid (hex16 s.data.toList = false) := Lib.hid (hex16_big (k := k + 1) (by rw [HS.out, ← hn.out]; omega))
            clear hv hv2 hbig
            go_wp2_with (go_at_call 96; refine (lower_any c _).mono ?_; rw [HLow.out]; rintro e w3 ⟨rfl, rfl⟩)
            go_ret2
            exact ⟨HB.out, by rw [if_neg (by rw [HBig.out]; decide)]; exact ⟨_, 1, .inl rfl, rfl⟩⟩
          · have hb1 : ¬ 65535 < n * 16 + ((c.toNat : Int) - 55) := by omega
            clear hv hv2 hbig
            go_wp2_with (go_at_call 96; refine (lower_any c _).mono ?_; rw [HLow.out]; rintro e w3 ⟨rfl, rfl⟩)
            go_round
            case rel => exact ⟨k + 1, n * 16 + ((c.toNat : Int) - 55), hlt, by go_num, rfl, by first | rfl | (congr 1; omega), by omega, by omega, Lib.hid (by rw [HS.out, ← hn.out, HV.out]; omega), Lib.hid (by
              intro j d hj hd
              by_cases e : j = k
              · subst e
                have := HK.out
                rw [this] at hd
                cases hd
                rw [HV.out]; omega
              · exact hall.out j d (by omega) hd)⟩
            case measure => simp [intOf]; omega
        · skip
          have a1 : (103 : Int) ≤ (c.toNat : Int) := by omega
          have a2 : (c.toNat : Int) ≤ 122 := by omega
          have HLow : Hid (((lowerN c).toNat : Int) = (c.toNat : Int)) := Lib.hid (by have := (low_cls c).2.1 ⟨by omega, by omega⟩; omega)
          have hv : hexV c < 0 := by unfold hexV; repeat' split
                                     all_goals omega
          have HBad : Hid (hex16 s.data.toList = false) := Lib.hid (hex16_bad HK.out hv)
          clear hv
          go_wp2_with (go_at_call 96; refine (lower_any c _).mono ?_; rw [HLow.out]; rintro e w3 ⟨rfl, rfl⟩)
          all_goals (go_ret2; exact ⟨HB.out, by rw [if_neg (by rw [HBad.out]; decide)]; exact ⟨_, 2, .inr rfl, rfl⟩⟩)
        · skip
          have a1 : (71 : Int) ≤ (c.toNat : Int) := by omega
          have a2 : (c.toNat : Int) ≤ 90 := by omega
          have HLow : Hid (((lowerN c).toNat : Int) = (c.toNat : Int) + 32) := Lib.hid (by have := (low_cls c).1 ⟨by omega, by omega⟩; omega)
          have hv : hexV c < 0 := by unfold hexV; repeat' split
                                     all_goals omega
          have HBad : Hid (hex16 s.data.toList = false) := Lib.hid (hex16_bad HK.out hv)
          clear hv
          go_wp2_with (go_at_call 96; refine (lower_any c _).mono ?_; rw [HLow.out]; rintro e w3 ⟨rfl, rfl⟩)
          all_goals (go_ret2; exact ⟨HB.out, by rw [if_neg (by rw [HBad.out]; decide)]; exact ⟨_, 2, .inr rfl, rfl⟩⟩)
        · skip
          have a1 : (c.toNat : Int) < 48 := by omega
          have hL := (low_cls c).2.2 (by omega) (by omega)
          obtain ⟨y, hy⟩ : ∃ y : Nat, (lowerN c).toNat = y := ⟨_, rfl⟩
          have HLow : Hid (((lowerN c).toNat : Int) = (y : Int)) := Lib.hid (by omega)
          have hy2 := (lowerN c).toNat_lt
          rw [hy] at hL hy2
          clear hy
          have hv : hexV c < 0 := by unfold hexV; repeat' split
                                     all_goals omega
          have HBad : Hid (hex16 s.data.toList = false) := Lib.hid (hex16_bad HK.out hv)
          clear hv
          rcases hL with hL | hL
          · have hy3 : (y : Int) < 97 := by omega
            go_wp2_with (go_at_call 96; refine (lower_any c _).mono ?_; rw [HLow.out]; rintro e w3 ⟨rfl, rfl⟩)
            all_goals (go_ret2; exact ⟨HB.out, by rw [if_neg (by rw [HBad.out]; decide)]; exact ⟨_, 2, .inr rfl, rfl⟩⟩)

          · have hy3 : (122 : Int) < (y : Int) := by omega
            have hy4 : (97 : Int) ≤ (y : Int) := by omega
            go_wp2_with (go_at_call 96; refine (lower_any c _).mono ?_; rw [HLow.out]; rintro e w3 ⟨rfl, rfl⟩)
            all_goals (go_ret2; exact ⟨HB.out, by rw [if_neg (by rw [HBad.out]; decide)]; exact ⟨_, 2, .inr rfl, rfl⟩⟩)

        · skip
          have a1 : (57 : Int) < (c.toNat : Int) := by omega
          have a2 : (c.toNat : Int) < 65 := by omega
          have hL := (low_cls c).2.2 (by omega) (by omega)
          obtain ⟨y, hy⟩ : ∃ y : Nat, (lowerN c).toNat = y := ⟨_, rfl⟩
          have HLow : Hid (((lowerN c).toNat : Int) = (y : Int)) := Lib.hid (by omega)
          have hy2 := (lowerN c).toNat_lt
          rw [hy] at hL hy2
          clear hy
          have hv : hexV c < 0 := by unfold hexV; repeat' split
                                     all_goals omega
          have HBad : Hid (hex16 s.data.toList = false) := Lib.hid (hex16_bad HK.out hv)
          clear hv
          rcases hL with hL | hL
          · have hy3 : (y : Int) < 97 := by omega
            go_wp2_with (go_at_call 96; refine (lower_any c _).mono ?_; rw [HLow.out]; rintro e w3 ⟨rfl, rfl⟩)
            all_goals (go_ret2; exact ⟨HB.out, by rw [if_neg (by rw [HBad.out]; decide)]; exact ⟨_, 2, .inr rfl, rfl⟩⟩)

          · have hy3 : (122 : Int) < (y : Int) := by omega
            have hy4 : (97 : Int) ≤ (y : Int) := by omega
            go_wp2_with (go_at_call 96; refine (lower_any c _).mono ?_; rw [HLow.out]; rintro e w3 ⟨rfl, rfl⟩)
            all_goals (go_ret2; exact ⟨HB.out, by rw [if_neg (by rw [HBad.out]; decide)]; exact ⟨_, 2, .inr rfl, rfl⟩⟩)

        · skip
          have a1 : (90 : Int) < (c.toNat : Int) := by omega
          have a2 : (c.toNat : Int) < 95 := by omega
          have hL := (low_cls c).2.2 (by omega) (by omega)
          obtain ⟨y, hy⟩ : ∃ y : Nat, (lowerN c).toNat = y := ⟨_, rfl⟩
          have HLow : Hid (((lowerN c).toNat : Int) = (y : Int)) := Lib.hid (by omega)
          have hy2 := (lowerN c).toNat_lt
          rw [hy] at hL hy2
          clear hy
          have hv : hexV c < 0 := by unfold hexV; repeat' split
                                     all_goals omega
          have HBad : Hid (hex16 s.data.toList = false) := Lib.hid (hex16_bad HK.out hv)
          clear hv
          rcases hL with hL | hL
          · have hy3 : (y : Int) < 97 := by omega
            go_wp2_with (go_at_call 96; refine (lower_any c _).mono ?_; rw [HLow.out]; rintro e w3 ⟨rfl, rfl⟩)
            all_goals (go_ret2; exact ⟨HB.out, by rw [if_neg (by rw [HBad.out]; decide)]; exact ⟨_, 2, .inr rfl, rfl⟩⟩)

          · have hy3 : (122 : Int) < (y : Int) := by omega
            have hy4 : (97 : Int) ≤ (y : Int) := by omega
            go_wp2_with (go_at_call 96; refine (lower_any c _).mono ?_; rw [HLow.out]; rintro e w3 ⟨rfl, rfl⟩)
            all_goals (go_ret2; exact ⟨HB.out, by rw [if_neg (by rw [HBad.out]; decide)]; exact ⟨_, 2, .inr rfl, rfl⟩⟩)

        · obtain rfl : c = 96 := UInt8.toNat_inj.1 b1
          have HBad : Hid (hex16 s.data.toList = false) := Lib.hid (hex16_bad HK.out (by decide))
          have e5 : ((96 : UInt8).toNat : Int) = 96 := by decide
          rw [e5] at hcell
          clear e5
          go_wp2_with (go_at_call 96; refine (lower96 _).mono ?_; rintro e w3 ⟨rfl, rfl⟩)
          all_goals (go_ret2; exact ⟨HB.out, by rw [if_neg (by rw [HBad.out]; decide)]; exact ⟨_, 2, .inr rfl, rfl⟩⟩)
        · obtain rfl : c = 95 := UInt8.toNat_inj.1 b1
          have HBad : Hid (hex16 s.data.toList = false) := Lib.hid (hex16_bad HK.out (by decide))
          have e5 : ((95 : UInt8).toNat : Int) = 95 := by decide
          rw [e5] at hcell
          clear e5
          go_wp2_with (go_at_call 96; refine (lower95 _).mono ?_; rintro e w3 ⟨rfl, rfl⟩)
          all_goals (go_ret2; exact ⟨HB.out, by rw [if_neg (by rw [HBad.out]; decide)]; exact ⟨_, 2, .inr rfl, rfl⟩⟩)
        · skip
          have a1 : (122 : Int) < (c.toNat : Int) := by omega
          have hL := (low_cls c).2.2 (by omega) (by omega)
          obtain ⟨y, hy⟩ : ∃ y : Nat, (lowerN c).toNat = y := ⟨_, rfl⟩
          have HLow : Hid (((lowerN c).toNat : Int) = (y : Int)) := Lib.hid (by omega)
          have hy2 := (lowerN c).toNat_lt
          rw [hy] at hL hy2
          clear hy
          have hv : hexV c < 0 := by unfold hexV; repeat' split
                                     all_goals omega
          have HBad : Hid (hex16 s.data.toList = false) := Lib.hid (hex16_bad HK.out hv)
          clear hv
          rcases hL with hL | hL
          · have hy3 : (y : Int) < 97 := by omega
            go_wp2_with (go_at_call 96; refine (lower_any c _).mono ?_; rw [HLow.out]; rintro e w3 ⟨rfl, rfl⟩)
            all_goals (go_ret2; exact ⟨HB.out, by rw [if_neg (by rw [HBad.out]; decide)]; exact ⟨_, 2, .inr rfl, rfl⟩⟩)

          · have hy3 : (122 : Int) < (y : Int) := by omega
            have hy4 : (97 : Int) ≤ (y : Int) := by omega
            go_wp2_with (go_at_call 96; refine (lower_any c _).mono ?_; rw [HLow.out]; rintro e w3 ⟨rfl, rfl⟩)
            all_goals (go_ret2; exact ⟨HB.out, by rw [if_neg (by rw [HBad.out]; decide)]; exact ⟨_, 2, .inr rfl, rfl⟩⟩)

      · obtain rfl : k = s.size := by omega
        have HOk : Hid (hex16 s.data.toList = true) := Lib.hid (by
          have ht : s.data.toList.take s.size = s.data.toList := List.take_of_length_le (Nat.le_refl _)
          have h1 := hn.out
          rw [ht] at h1
          have h2 : hexOk s.data.toList = true := by
            unfold hexOk
            rw [List.all_eq_true]
            intro c hc
            obtain ⟨j, hj, rfl⟩ := List.getElem_of_mem hc
            exact decide_eq_true (hall.out j _ (by simpa using hj) (List.getElem?_eq_getElem hj))
          unfold hex16
          rw [h2, ← h1, decide_eq_true HNe.out, decide_eq_true (by omega)]
          rfl)
        have HN : Hid (n = hexA s.data.toList) := Lib.hid (by
          have ht : s.data.toList.take s.size = s.data.toList := List.take_of_length_le (Nat.le_refl _)
          have h1 := hn.out
          rw [ht] at h1
          exact h1)
        go_wp2
        go_ret2
        exact ⟨HB.out, by rw [if_pos HOk.out, ← HN.out]; rfl⟩
end Go.Proofs.YtdfapebggghfdaaGreatDoor
