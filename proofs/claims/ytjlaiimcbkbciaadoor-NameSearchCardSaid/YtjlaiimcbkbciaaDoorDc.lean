/- Contracts of the document's side of names: Dots, among. -/
import Derived.Test.YtjlaiimcbkbciaaDoorCf
namespace Go.Proofs.YtjlaiimcbkbciaaDoor
open Go.RowKit Go.Lib Go.Tx
theorem rdots_any (s : ByteArray) (w : World) (hs : s.size ≤ 1000000) : Calls Tryd.prog 19 #[.string s] w fun e w' => e = .returned (.int .i64 (countByte s.data.toList 46)) ∧ Below w.heap.size w w' := by
  have HSp := Lib.hid (split_any s 46 w hs)
  have HL : Hid (((splitL 46 s.data.toList).length : Int) - 1 = (countByte s.data.toList 46 : Int)) := Lib.hid (by
    have h1 := split_count s 46
    have h2 : countB s ⟨#[46]⟩ = count s.data.toList [46] := rfl
    rw [h2, count_one] at h1
    unfold countByte
    omega)
  have HP := Lib.hid (splitG_len 46 s.data.toList [])
  have hl : s.data.toList.length = s.size := rfl
  have hle : (splitL 46 s.data.toList).length ≤ 1000001 := by have := HP.out.2; unfold splitL; omega
  have HP1 : Hid (1 ≤ (splitL 46 s.data.toList).length) := Lib.hid HP.out.1
  clear HP hl hs
  generalize splitL 46 s.data.toList = T at *
  go_enter Tryd.func19, Tryd.ntmps19
  go_wp2_with (go_at_call 28; refine HSp.out.mono ?_; rintro e w2 ⟨v, rfl, hstr, hb2⟩; obtain ⟨g, c, rfl, hta⟩ := strC_at hstr HP1.out; have hcap := hta.fits; have hmax := hta.max; clear hta hstr)
  go_ret
  exact ⟨by rw [← HL.out]; rfl, hb2⟩
set_option maxHeartbeats 1000000 in
set_option maxRecDepth 100000 in
theorem among_any {B : Nat} {v : Value} {T : List (List UInt8)} (x : ByteArray) (w : World) (h : StrC B w v T) (hl : T.length ≤ 1000000) :
    Calls Tryd.prog 20 #[v, .string x] w fun e w' => e = .returned (.bool (decide (x.data.toList ∈ T))) ∧ w' = w := by
  obtain ⟨p, c, rfl, hc, hm, hr⟩ := h.read
  have HR := Lib.hid hr
  obtain ⟨n, hn⟩ : ∃ n, T.length = n := ⟨_, rfl⟩
  have HN := Lib.hid hn
  rw [hn] at hc hl ⊢
  clear hr h hn
  go_enter Tryd.func20, Tryd.ntmps20
  go_wp2
  go_loop [5] (fun i => ∃ k : Nat, k ≤ n ∧ i = .int .i64 k ∧ Hid (∀ j l, j < k → T[j]? = some l → l ≠ x.data.toList)) (fun i => n - (intOf i).toNat)
  case atStart => exact ⟨0, Nat.zero_le _, rfl, Lib.hid (by omega)⟩
  case round =>
    obtain ⟨k, hk, rfl, hall⟩ := hrel
    by_cases hlt : k < n
    · have hkl : k < T.length := by rw [HN.out]; exact hlt
      obtain ⟨g, rfl, hg, hcell⟩ := HR.out k T[k] (List.getElem?_eq_getElem hkl)
      have HK := Lib.hid (List.getElem?_eq_getElem hkl)
      generalize T[k] = t at hcell HK
      clear hkl
      by_cases hx : (⟨t.toArray⟩ : ByteArray) = x
      · subst hx
        have hin := Lib.hid (decide_eq_true (List.mem_of_getElem? HK.out))
        go_wp2
        go_ret
        exact ⟨by rw [show decide ((ByteArray.data ⟨t.toArray⟩).toList ∈ T) = true from hin.out]; rfl, rfl⟩
      · have hx2 : t ≠ x.data.toList := fun e => hx (by rw [e])
        have HX := Lib.hid hx2
        have e0 : (t == x.toList) = false := beq_eq_false_iff_ne.2 (by rw [Go.Lib.toList_data]; exact hx2)
        clear hx2
        go_wp2
        go_round
        case rel => exact ⟨k + 1, hlt, by go_num, Lib.hid (by
          intro j d hj hd
          by_cases e : j = k
          · subst e
            have := HK.out
            rw [this] at hd
            cases hd
            exact HX.out
          · exact hall.out j d (by omega) hd)⟩
        case measure => simp [intOf]; omega
    · have hno : decide (x.data.toList ∈ T) = false := decide_eq_false (fun hin => by
        obtain ⟨j, hj, e⟩ := List.getElem_of_mem hin
        have := HN.out
        exact hall.out j _ (by omega) (List.getElem?_eq_getElem hj) e)
      have HNo := Lib.hid hno
      clear hno
      go_wp2
      go_ret
      exact ⟨by rw [HNo.out]; rfl, rfl⟩
end Go.Proofs.YtjlaiimcbkbciaaDoor
