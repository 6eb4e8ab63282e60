/- Contracts: a name in reverse, the program's and the document's. -/
import Derived.Test.YtjlaiimcbkbciaaDoorNr
import Derived.BigQuiet
namespace Go.Proofs.YtjlaiimcbkbciaaDoor
open Go.RowKit Go.Ev Go.Fr Go.Lib Go.Tx
theorem print4_any {W : World} (s : ByteArray) (w : World) (hs : s.size = 4) (h : EOK E0 (Bas.of W)) (hb : Below W.heap.size W w) :
    Calls Tryd.prog 21 #[.string s] w fun e w' => e = .returned (.string ⟨(Lib.join (s.data.toList.map dec) [46]).toArray⟩) ∧ Below w.heap.size w w' := by
  have HP := Lib.hid (printShort_any s w hs h hb)
  have hs' : (s.size : Int) = 4 := by omega
  have e : (s.data.toList.map fun c => (bs (decD c.toNat)).data.toList) = s.data.toList.map dec := rfl
  rw [e] at HP
  clear h hb hs e
  go_enter Tryd.func21, Tryd.ntmps21
  go_wp2_with (go_at_call 34; refine HP.out.mono ?_; rintro e w2 ⟨rfl, hb2⟩)
  go_ret
  exact ⟨rfl, hb2⟩
theorem nrev_any {W : World} (s : ByteArray) (w : World) (hs : s.size ≤ 1000000) (h : EOK E0 (Bas.of W)) (hb : Below W.heap.size W w) :
    Calls Tryd.prog 12 #[.string s] w fun e w' => e = .returned (.string ⟨(refR s.data.toList).toArray⟩) ∧ Below w.heap.size w w' := by
  have hl : s.data.toList.length = s.size := rfl
  have HL := Lib.hid (fun w => lastFirst_any s w hs)
  have hsz := hb.size
  by_cases h4 : s.size = 4
  · have hs' : (s.size : Int) = 4 := by omega
    have HP := Lib.hid (fun (w2 : World) (hb2 : Below W.heap.size W w2) => print4_any (W := W) ⟨s.data.toList.reverse.toArray⟩ w2 (by show s.data.toList.reverse.toArray.size = 4; simpa using h4) h hb2)
    have HR : Hid ((⟨(Lib.join ((ByteArray.data ⟨s.data.toList.reverse.toArray⟩).toList.map dec) [46]).toArray⟩ ++ ⟨#[46, 105, 110, 45, 97, 100, 100, 114, 46, 97, 114, 112, 97]⟩ : ByteArray) = ⟨(refR s.data.toList).toArray⟩) := Lib.hid (by
      unfold refR
      rw [if_pos (by omega), ← code4 _ (by omega)]
      apply ByteArray.ext
      apply Array.ext'
      simp [inaddr])
    have hX : (⟨(Lib.join ((ByteArray.data ⟨s.data.toList.reverse.toArray⟩).toList.map dec) [46]).toArray⟩ : ByteArray).size ≤ 1000 := by
      have := join_few [46] (by decide) (s.data.toList.reverse.map dec) (fun x hx => by obtain ⟨c, _, rfl⟩ := List.mem_map.1 hx; exact dec_len c)
      rw [List.length_map, List.length_reverse] at this
      show (Lib.join (s.data.toList.reverse.map dec) [46]).toArray.size ≤ 1000
      rw [List.size_toArray]; omega
    clear h hl
    generalize (⟨(Lib.join ((ByteArray.data ⟨s.data.toList.reverse.toArray⟩).toList.map dec) [46]).toArray⟩ : ByteArray) = X at *
    generalize (⟨s.data.toList.reverse.toArray⟩ : ByteArray) = Y at *
    generalize (⟨(refR s.data.toList).toArray⟩ : ByteArray) = Z at *
    have HB := Lib.hid hb
    clear hb h4
    go_enter Tryd.func12, Tryd.ntmps12
    go_wp2_with (first | (go_at_call 22; refine (HL.out _).mono ?_; rintro e w2 ⟨rfl, hb2⟩) | (go_at_call 21; refine (HP.out _ (HB.out.trans (hb2.mono hsz))).mono ?_; rintro e w3 ⟨rfl, hb3⟩))
    go_ret
    exact ⟨by rw [← HR.out]; rfl, hb2.trans (hb3.mono hb2.size)⟩
  · by_cases h16 : s.size = 16
    · have hs' : (s.size : Int) = 16 := by omega
      have hys : (ByteArray.mk s.data.toList.reverse.toArray).size = 16 := by show s.data.toList.reverse.toArray.size = 16; simpa using h16
      have HP := Lib.hid (fun (w2 : World) (hb2 : Below W.heap.size W w2) => lowFirst_any (W := W) ⟨s.data.toList.reverse.toArray⟩ w2 (by omega) (by omega) h hb2)
      have HR : Hid ((⟨(Lib.join ((ByteArray.data ⟨s.data.toList.reverse.toArray⟩).toList.flatMap hexs) [46]).toArray⟩ ++ ⟨#[46, 105, 112, 54, 46, 97, 114, 112, 97]⟩ : ByteArray) = ⟨(refR s.data.toList).toArray⟩) := Lib.hid (by
        unfold refR
        rw [if_neg (by omega), if_pos (by omega), ← code16 _ (by omega)]
        apply ByteArray.ext
        apply Array.ext'
        simp [ip6])
      have hX : (⟨(Lib.join ((ByteArray.data ⟨s.data.toList.reverse.toArray⟩).toList.flatMap hexs) [46]).toArray⟩ : ByteArray).size ≤ 1000 := by
        obtain ⟨e1, e2⟩ := hexs_all s.data.toList.reverse
        have := join_few [46] (by decide) _ e2
        rw [e1, List.length_reverse] at this
        show (Lib.join (s.data.toList.reverse.flatMap hexs) [46]).toArray.size ≤ 1000
        rw [List.size_toArray]; omega
      clear h hl hys
      generalize (⟨(Lib.join ((ByteArray.data ⟨s.data.toList.reverse.toArray⟩).toList.flatMap hexs) [46]).toArray⟩ : ByteArray) = X at *
      generalize (⟨s.data.toList.reverse.toArray⟩ : ByteArray) = Y at *
      generalize (⟨(refR s.data.toList).toArray⟩ : ByteArray) = Z at *
      have HB := Lib.hid hb
      clear hb h4 h16
      go_enter Tryd.func12, Tryd.ntmps12
      go_wp2_with (first | (go_at_call 22; refine (HL.out _).mono ?_; rintro e w2 ⟨rfl, hb2⟩) | (go_at_call 23; refine (HP.out _ (HB.out.trans (hb2.mono hsz))).mono ?_; rintro e w3 ⟨rfl, hb3⟩))
      go_ret
      exact ⟨by rw [← HR.out]; rfl, hb2.trans (hb3.mono hb2.size)⟩
    · have h4' : ((s.size : Int) == 4) = false := beq_eq_false_iff_ne.2 (by omega)
      have h16' : ((s.size : Int) == 16) = false := beq_eq_false_iff_ne.2 (by omega)
      have HR : Hid ((⟨(refR s.data.toList).toArray⟩ : ByteArray) = ⟨#[]⟩) := Lib.hid (by unfold refR; rw [if_neg (by omega), if_neg (by omega)])
      clear h hl hb
      go_enter Tryd.func12, Tryd.ntmps12
      go_wp2
      go_ret
      exact ⟨by rw [HR.out]; rfl, Below.refl _ _⟩
/-! ### The document's -/
theorem drop_back (l : List UInt8) (k : Nat) (c : UInt8) (h : l[k]? = some c) : (l.drop k).reverse = (l.drop (k + 1)).reverse ++ [c] := by
  have hk := (List.getElem?_eq_some_iff.1 h).1
  rw [List.drop_eq_getElem_cons hk]
  rw [List.getElem?_eq_getElem hk] at h
  cases h
  simp
def bk4 (a : List UInt8) (k : Nat) : List UInt8 := ((a.drop k).reverse.map dec).flatMap dot
def bk16 (a : List UInt8) (k : Nat) : List UInt8 := ((a.drop k).reverse.flatMap hexs).flatMap dot
theorem bk4_step (a : List UInt8) (k : Nat) (c : UInt8) (h : a[k]? = some c) : bk4 a k = bk4 a (k + 1) ++ (dec c ++ [46]) := by
  unfold bk4
  rw [drop_back a k c h, List.map_append, List.flatMap_append]
  simp [dot]
theorem bk16_step (a : List UInt8) (k : Nat) (c : UInt8) (h : a[k]? = some c) : bk16 a k = bk16 a (k + 1) ++ ((bs (hexD (c.toNat % 16))).data.toList ++ [46] ++ (bs (hexD (c.toNat / 16))).data.toList ++ [46]) := by
  unfold bk16
  rw [drop_back a k c h, List.flatMap_append, List.flatMap_append]
  simp [dot, hexs]
theorem below_drewN1 {B : Nat} {a w : World} (h : Below B a w) : ∀ q, Below B a (w.drewN q)
  | 0 => h
  | q + 1 => (below_drewN1 h q).drew
theorem dig_all : ∀ i : Fin 16, ((⟨#[48, 49, 50, 51, 52, 53, 54, 55, 56, 57, 97, 98, 99, 100, 101, 102]⟩ : ByteArray).extract i.1 (i.1 + 1)).data.toList = (bs (hexD i.1)).data.toList := by decide +kernel
theorem decG_short (c : UInt8) : (decG c.toNat []).length ≤ 3 := by rw [(dec_facts c).2.1]; exact dec_len c
set_option maxHeartbeats 2000000 in
set_option maxRecDepth 100000 in
theorem rrev_any (s : ByteArray) (w : World) (hs : s.size ≤ 1000000) : Calls Tryd.prog 14 #[.string s] w fun e w' => e = .returned (.string ⟨(refR s.data.toList).toArray⟩) ∧ Below w.heap.size w w' := by
  have hl : s.data.toList.length = s.size := rfl
  by_cases h4 : s.size = 4
  · have hs' : (s.size : Int) = 4 := by omega
    have HR : Hid (∀ t : ByteArray, t.data.toList = bk4 s.data.toList 0 → (t ++ ⟨#[105, 110, 45, 97, 100, 100, 114, 46, 97, 114, 112, 97]⟩ : ByteArray) = ⟨(refR s.data.toList).toArray⟩) := Lib.hid (fun t ht => by
      unfold refR
      rw [if_pos (by omega)]
      apply ByteArray.ext
      apply Array.ext'
      have e : (t ++ ⟨#[105, 110, 45, 97, 100, 100, 114, 46, 97, 114, 112, 97]⟩ : ByteArray).data.toList = t.data.toList ++ inaddr := by simp [inaddr]
      rw [e, ht]
      simp [bk4, rev4])
    have HS := Lib.hid (fun k c h => bk4_step s.data.toList k c h)
    have H4 : Hid (bk4 s.data.toList 4 = []) := Lib.hid (by unfold bk4; rw [List.drop_of_length_le (by omega)]; rfl)
    clear hl
    generalize (⟨(refR s.data.toList).toArray⟩ : ByteArray) = Z at *
    go_enter Tryd.func14, Tryd.ntmps14
    go_wp2
    go_loopw [3, 4] (fun sv i wr => ∃ (k : Nat) (t : ByteArray), k ≤ 4 ∧ i = .int .i64 ((k : Int) - 1) ∧ sv = .string t ∧ Hid (t.data.toList = bk4 s.data.toList k) ∧ t.size ≤ 10 * (4 - k) ∧ Below w.heap.size w wr) (fun _ i _ => ((intOf i) + 1).toNat)
    case atStart => exact ⟨4, ⟨#[]⟩, Nat.le_refl _, rfl, rfl, Lib.hid (by rw [H4.out]), Nat.le_refl _, Below.refl _ _⟩
    case round =>
      obtain ⟨k, t, hk, rfl, rfl, ht, hsz, hb⟩ := hrel
      by_cases h0 : 0 < k
      · obtain ⟨j, rfl⟩ : ∃ j, k = j + 1 := ⟨k - 1, by omega⟩
        have hjs : j < s.size := by omega
        have hj1 : ((j + 1 : Nat) : Int) - 1 = (j : Int) := by omega
        rw [hj1]
        have HK : Hid (s.data.toList[j]? = some s[j]) := Lib.hid (List.getElem?_eq_getElem hjs)
        have hu := s[j].toNat_lt
        have hdl := decG_short s[j]
        obtain ⟨D, hD⟩ : ∃ D, decG s[j].toNat [] = D := ⟨_, rfl⟩
        have HD := Lib.hid hD
        have HDD := Lib.hid (dec_facts s[j]).2.1
        have HDec := Lib.hid (fun w => dec_any s[j].toNat w (by omega))
        rw [hD] at hdl HDec
        clear hD
        go_wp2_with (go_at_call 27; refine (HDec.out _).mono ?_; rintro e w3 ⟨rfl, hb3⟩)
        go_roundw
        case rel => exact ⟨j, t ++ (⟨D.toArray⟩ ++ ⟨#[46]⟩), by omega, by go_num, rfl, Lib.hid (by rw [HS.out j _ HK.out, ← HDD.out, HD.out, ← ht.out]; simp), by rw [ByteArray.size_append, ByteArray.size_append]; show t.size + (D.toArray.size + 1) ≤ _; simp; omega, hb.trans (hb3.mono hb.size)⟩
        case measure => simp [intOf] <;> omega
      · obtain rfl : k = 0 := by omega
        have hneg : ((0 : Nat) : Int) - 1 < 0 := by omega
        go_wp2
        go_ret
        exact ⟨by rw [← HR.out t ht.out]; rfl, hb⟩
  · by_cases h16 : s.size = 16
    · have hs' : (s.size : Int) = 16 := by omega
      have HR : Hid (∀ t : ByteArray, t.data.toList = bk16 s.data.toList 0 → (t ++ ⟨#[105, 112, 54, 46, 97, 114, 112, 97]⟩ : ByteArray) = ⟨(refR s.data.toList).toArray⟩) := Lib.hid (fun t ht => by
        unfold refR
        rw [if_neg (by omega), if_pos (by omega)]
        apply ByteArray.ext
        apply Array.ext'
        have e : (t ++ ⟨#[105, 112, 54, 46, 97, 114, 112, 97]⟩ : ByteArray).data.toList = t.data.toList ++ ip6 := by simp [ip6]
        rw [e, ht]
        simp [bk16, rev16])
      have HS := Lib.hid (fun k c h => bk16_step s.data.toList k c h)
      have H4 : Hid (bk16 s.data.toList 16 = []) := Lib.hid (by unfold bk16; rw [List.drop_of_length_le (by omega)]; rfl)
      clear hl h4
      generalize (⟨(refR s.data.toList).toArray⟩ : ByteArray) = Z at *
      go_enter Tryd.func14, Tryd.ntmps14
      go_wp2
      go_loopw [3, 5] (fun sv i wr => ∃ (k : Nat) (t : ByteArray), k ≤ 16 ∧ i = .int .i64 ((k : Int) - 1) ∧ sv = .string t ∧ Hid (t.data.toList = bk16 s.data.toList k) ∧ t.size ≤ 4 * (16 - k) ∧ Below w.heap.size w wr) (fun _ i _ => ((intOf i) + 1).toNat)
      case atStart => exact ⟨16, ⟨#[]⟩, Nat.le_refl _, rfl, rfl, Lib.hid (by rw [H4.out]), Nat.le_refl _, Below.refl _ _⟩
      case round =>
        obtain ⟨k, t, hk, rfl, rfl, ht, hsz, hb⟩ := hrel
        by_cases h0 : 0 < k
        · obtain ⟨j, rfl⟩ : ∃ j, k = j + 1 := ⟨k - 1, by omega⟩
          have hjs : j < s.size := by omega
          have hj1 : ((j + 1 : Nat) : Int) - 1 = (j : Int) := by omega
          rw [hj1]
          have HK : Hid (s.data.toList[j]? = some s[j]) := Lib.hid (List.getElem?_eq_getElem hjs)
          have hu := s[j].toNat_lt
          have hjl : (j : Int) < 16 := by omega
          go_wp2
          go_quiet (fail)
          go_wp2
          obtain ⟨x, hx⟩ : ∃ x : Nat, s[j].toNat % 16 = x := ⟨_, rfl⟩
          obtain ⟨y, hy⟩ : ∃ y : Nat, s[j].toNat / 16 = y := ⟨_, rfl⟩
          have e1 : (s[j].toNat : Int) % 16 = (x : Int) := by omega
          have e2 : (s[j].toNat : Int) / 16 = (y : Int) := by omega
          have hx16 : x < 16 := by omega
          have hy16 : y < 16 := by omega
          have HX := Lib.hid hx
          have HY := Lib.hid hy
          have hxi : (x : Int) < 16 := by omega
          have hyi : (y : Int) < 16 := by omega
          have hts : (t.size : Int) ≤ 64 := by omega
          have hsl : ∀ (n : Nat) (w : World), n < 16 → (Instr.slice 9 (.string ⟨#[48, 49, 50, 51, 52, 53, 54, 55, 56, 57, 97, 98, 99, 100, 101, 102]⟩) (some (.int .i64 (n : Int))) (some (.int .i64 ((n : Int) + 1))) none).run Tryd.prog w = .ok (.string ((⟨#[48, 49, 50, 51, 52, 53, 54, 55, 56, 57, 97, 98, 99, 100, 101, 102]⟩ : ByteArray).extract n (n + 1))) w := fun n w hn => by
            have hz : (ByteArray.mk #[48, 49, 50, 51, 52, 53, 54, 55, 56, 57, 97, 98, 99, 100, 101, 102]).size = 16 := rfl
            exact run_slice_string w 9 _ .i64 .i64 (n : Int) ((n : Int) + 1) Tryd.underlying9 (by omega) (by omega) (by rw [hz]; omega)
          have hslx := fun w => hsl x w hx16
          have hsly := fun w => hsl y w hy16
          clear hsl
          rw [e1, e2]
          clear hx hy e1 e2 hu
          go_region
          go_wp2
          have hd16 := fun n (hn : n < 16) => dig_all ⟨n, hn⟩
          have hdx := hd16 x hx16
          have hdy := hd16 y hy16
          have hsx : ((⟨#[48, 49, 50, 51, 52, 53, 54, 55, 56, 57, 97, 98, 99, 100, 101, 102]⟩ : ByteArray).extract x (x + 1)).size ≤ 1 := by rw [ByteArray.size_extract]; omega
          have hsy : ((⟨#[48, 49, 50, 51, 52, 53, 54, 55, 56, 57, 97, 98, 99, 100, 101, 102]⟩ : ByteArray).extract y (y + 1)).size ≤ 1 := by rw [ByteArray.size_extract]; omega
          generalize (⟨#[48, 49, 50, 51, 52, 53, 54, 55, 56, 57, 97, 98, 99, 100, 101, 102]⟩ : ByteArray).extract x (x + 1) = X at *
          generalize (⟨#[48, 49, 50, 51, 52, 53, 54, 55, 56, 57, 97, 98, 99, 100, 101, 102]⟩ : ByteArray).extract y (y + 1) = Y at *
          refine ⟨⟨j, _, by omega, rfl, rfl, Lib.hid ?_, ?_, below_drewN1 hb _⟩, by simp [intOf] <;> omega⟩
          · rw [HS.out j _ HK.out, HX.out, HY.out, ← hdx, ← hdy, ← ht.out]; simp
          · rw [ByteArray.size_append, ByteArray.size_append, ByteArray.size_append, ByteArray.size_append]
            have : (ByteArray.mk #[46]).size = 1 := rfl
            omega
        · obtain rfl : k = 0 := by omega
          have hneg : ((0 : Nat) : Int) - 1 < 0 := by omega
          go_wp2
          go_ret
          exact ⟨by rw [← HR.out t ht.out]; rfl, hb⟩
    · have h4' : ((s.size : Int) == 4) = false := beq_eq_false_iff_ne.2 (by omega)
      have h16' : ((s.size : Int) == 16) = false := beq_eq_false_iff_ne.2 (by omega)
      have HR : Hid ((⟨(refR s.data.toList).toArray⟩ : ByteArray) = ⟨#[]⟩) := Lib.hid (by unfold refR; rw [if_neg (by omega), if_neg (by omega)])
      clear hl
      go_enter Tryd.func14, Tryd.ntmps14
      go_wp2
      go_ret
      exact ⟨by rw [HR.out]; rfl, Below.refl _ _⟩
end Go.Proofs.YtjlaiimcbkbciaaDoor
