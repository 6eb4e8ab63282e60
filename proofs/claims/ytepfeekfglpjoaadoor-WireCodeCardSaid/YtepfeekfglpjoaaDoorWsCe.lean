/- Contracts and plain facts that the law leans on. -/
import Derived.Test.YtepfeekfglpjoaaDoorYsM
import Derived.Test.YtepfeekfglpjoaaDoorWsCc
import Derived.WideShapes
import Derived.ChangeArms
import Derived.Deep.Slices
import Derived.Carry
namespace Go.Proofs.YtepfeekfglpjoaaDoor
open Go.RowKit Go.Lib Go.Wi Go.Tx
theorem encOK_may (i c : Int) (r q x : Bool) (n : List UInt8) (k : Int) (rs : List WRec) : encOK i c r q x n k rs = (mayB i c n k rs && decide ((msgB i c r q x n k rs).length ≤ 4096)) := by
  unfold encOK msgOK mayB
  by_cases hm : rs.length ≤ 32
  · rw [decide_eq_true hm, Bool.true_and, head_may i c r q x rs.length n k hm]
  · have h0 : headMay i c rs.length n k = false := by
      unfold headMay
      have : decide ((rs.length : Int) ≤ 32) = false := decide_eq_false (by omega)
      simp [this]
    rw [decide_eq_false hm, h0]
    rfl
def REnc (w : World) (i c : Int) (r q x : Bool) (n : List UInt8) (k : Int) (rs : List WRec) (e : Ending) (w' : World) : Prop :=
  Below w.heap.size w w' ∧ ((encOK i c r q x n k rs = true ∧ ∃ v, e = .returned v ∧ OwnB w.heap.size w' v (msgB i c r q x n k rs)) ∨ (encOK i c r q x n k rs = false ∧ e = .returned (.slice none 0 0)))
theorem rencode_any (i c k : Int) (r q x : Bool) (n : ByteArray) (rv : Value) (rs : List WRec) (w : World) (hrs : RowsAt w rv rs) (hn : n.size ≤ 1000000) (hnd : ∀ r ∈ rs, r.name.size ≤ 1000000 ∧ r.data.size ≤ 1000000) :
    Calls Tryd.prog 10 #[.agg #[.int .i64 i, .bool r, .bool q, .bool x, .int .i64 c, .string n, .int .i64 k, rv]] w (REnc w i c r q x n.data.toList k rs) := by
  cases hmay : mayB i c n.data.toList k rs with
  | false =>
    refine (rencode_none i c k r q x n rv rs w hrs hn hnd hmay).mono ?_
    rintro e w' ⟨rfl, hb⟩
    exact ⟨hb, .inr ⟨by rw [encOK_may, hmay]; rfl, rfl⟩⟩
  | true =>
    have hh : headMay i c rs.length n.data.toList k = true := by
      unfold mayB at hmay
      rw [Bool.and_eq_true] at hmay
      exact hmay.1
    have hh2 := hh
    unfold headMay at hh2
    simp only [Bool.and_eq_true, decide_eq_true_eq] at hh2
    refine (rencode_some i c k r q x n rv rs w hrs hn hnd hmay (by omega) (by omega) (by omega) (by omega) (by omega) (by omega) (by omega) (by simp_all)).mono ?_
    rintro e w' ⟨hb, hx⟩
    refine ⟨hb, ?_⟩
    by_cases hl : (msgB i c r q x n.data.toList k rs).length ≤ 4096
    · rw [if_pos hl] at hx
      exact .inl ⟨by rw [encOK_may, hmay, decide_eq_true hl]; rfl, hx⟩
    · rw [if_neg hl] at hx
      exact .inr ⟨by rw [encOK_may, hmay, decide_eq_false hl]; rfl, hx⟩
end Go.Proofs.YtepfeekfglpjoaaDoor

namespace Go.Proofs.YtepfeekfglpjoaaDoor
open Go.RowKit Go.Lib Go.Wi Go.Tx
theorem tk_mid {l p m r : List UInt8} {i s : Nat} (h : l = p ++ m ++ r) (hi : i = p.length) (hs : s = m.length) : tk l i s = m := by
  subst h hi hs
  unfold tk
  rw [List.append_assoc, List.drop_left, List.take_left]
theorem at_mid {l p m r : List UInt8} {i : Nat} {z : UInt8} (h : l = p ++ (z :: m) ++ r) (hi : i = p.length) : l[i]? = some z := by
  subst h hi
  simp
theorem word_num {k : Int} (h0 : 0 ≤ k) (h1 : k ≤ 65535) : numV (wordB k) = k.toNat := by
  have a := UInt8.toNat_ofNat_of_lt' (n := (k / 256 % 256).toNat) (by show (k / 256 % 256).toNat < 256; omega)
  have b := UInt8.toNat_ofNat_of_lt' (n := (k % 256).toNat) (by show (k % 256).toNat < 256; omega)
  unfold wordB numV
  simp only [List.foldl_cons, List.foldl_nil]
  rw [a, b]
  omega
theorem life_num {k : Int} (h0 : 0 ≤ k) (h1 : k ≤ 2147483647) : numV (lifeB k) = k.toNat := by
  have a := UInt8.toNat_ofNat_of_lt' (n := (k / 16777216 % 256).toNat) (by show (k / 16777216 % 256).toNat < 256; omega)
  have b := UInt8.toNat_ofNat_of_lt' (n := (k / 65536 % 256).toNat) (by show (k / 65536 % 256).toNat < 256; omega)
  have c := UInt8.toNat_ofNat_of_lt' (n := (k / 256 % 256).toNat) (by show (k / 256 % 256).toNat < 256; omega)
  have d := UInt8.toNat_ofNat_of_lt' (n := (k % 256).toNat) (by show (k % 256).toNat < 256; omega)
  unfold lifeB numV
  simp only [List.foldl_cons, List.foldl_nil]
  rw [a, b, c, d]
  omega
theorem piece_ok : ∀ (l cur : List UInt8), 46 ∉ cur → ∀ x ∈ splitG 46 cur l, 46 ∉ x
  | [], cur, h, x, hx => by
    have : x = cur := by simpa [splitG] using hx
    rw [this]; exact h
  | c :: l, cur, h, x, hx => by
    unfold splitG at hx
    split at hx
    · rcases List.mem_cons.1 hx with rfl | hx
      · exact h
      · exact piece_ok l [] (by simp) x hx
    · rename_i hc
      exact piece_ok l _ (by
        intro hm
        rcases List.mem_append.1 hm with hm | hm
        · exact h hm
        · exact hc (List.mem_singleton.1 hm).symm) x hx
theorem join_split : ∀ (l cur : List UInt8), wjoin (splitG 46 cur l) = cur ++ l ++ [46]
  | [], cur => by simp [splitG, wjoin]
  | c :: l, cur => by
    unfold splitG
    split
    · rename_i hc
      subst hc
      have ih := join_split l []
      unfold wjoin at ih ⊢
      rw [List.flatMap_cons, ih]
      simp
    · have ih := join_split l (cur ++ [c])
      rw [ih]
      simp
theorem wjoin_app (T R : List (List UInt8)) : wjoin (T ++ R) = wjoin T ++ wjoin R := by unfold wjoin; rw [List.flatMap_append]
theorem back_go (p r n : List UInt8) (hn : nameB n = true) (hl : n.map low = n) : ∀ (R T : List (List UInt8)) (f lo : Nat), T ++ R = splitL 46 n → R.length < f →
    nameF (p ++ ((T ++ R).flatMap pieceB ++ [0]) ++ r) f lo (p.length + (T.flatMap pieceB).length) (wjoin T) 0 = some (n, p.length + ((T ++ R).flatMap pieceB ++ [0]).length)
  | [], T, 0, lo, _, hf => by omega
  | [], T, f + 1, lo, hT, _ => by
    rw [List.append_nil] at hT ⊢
    have hz : (p ++ (T.flatMap pieceB ++ [0]) ++ r)[p.length + (T.flatMap pieceB).length]? = some 0 := at_mid (p := p ++ T.flatMap pieceB) (m := []) (r := r) (by simp) (by simp)
    have hb : bare (wjoin T) = n := by
      have := join_split n []
      rw [hT]
      show bare (wjoin (splitG 46 [] n)) = n
      rw [this, List.nil_append, bare_snoc]
    rw [nameF_fin hz rfl (by rw [hb]; exact hn), hb, hl]
    simp
    omega
  | x :: R, T, 0, lo, _, hf => by omega
  | x :: R, T, f + 1, lo, hT, hf => by
    have hall := hn
    unfold nameB at hall
    rw [Bool.and_eq_true, decide_eq_true_eq] at hall
    have hmem : x ∈ splitL 46 n := by rw [← hT]; simp
    have hlab := label_ne (List.all_eq_true.1 hall.2 x hmem)
    have hlen := hlab.2
    have hxl : 0 < x.length := List.length_pos_iff.2 hlab.1
    have h46 : 46 ∉ x := piece_ok n [] (by simp) x hmem
    have hzn : (UInt8.ofNat x.length).toNat = x.length := UInt8.toNat_ofNat_of_lt' (by show x.length < 256; omega)
    have hsp : (T ++ x :: R).flatMap pieceB = T.flatMap pieceB ++ (UInt8.ofNat x.length :: x) ++ R.flatMap pieceB := by
      rw [List.flatMap_append, List.flatMap_cons]
      unfold pieceB
      simp
    have hz : (p ++ ((T ++ x :: R).flatMap pieceB ++ [0]) ++ r)[p.length + (T.flatMap pieceB).length]? = some (UInt8.ofNat x.length) :=
      at_mid (p := p ++ T.flatMap pieceB) (m := x) (r := R.flatMap pieceB ++ [0] ++ r) (by rw [hsp]; simp) (by simp)
    have htk : tk (p ++ ((T ++ x :: R).flatMap pieceB ++ [0]) ++ r) (p.length + (T.flatMap pieceB).length + 1) (UInt8.ofNat x.length).toNat = x :=
      tk_mid (p := p ++ T.flatMap pieceB ++ [UInt8.ofNat x.length]) (r := R.flatMap pieceB ++ [0] ++ r) (by rw [hsp]; simp) (by simp; omega) hzn
    have hj : (wjoin T ++ x ++ [46]).length ≤ 254 := by
      have h1 : wjoin (T ++ x :: R) = n ++ [46] := by
        rw [hT]
        have := join_split n []
        simpa [splitL] using this
      have h2 : wjoin (T ++ x :: R) = (wjoin T ++ x ++ [46]) ++ wjoin R := by
        rw [show T ++ x :: R = (T ++ [x]) ++ R by simp, wjoin_app, wjoin_snoc]
      have h3 := congrArg List.length (h2.symm.trans h1)
      rw [List.length_append, @List.length_append _ n, List.length_singleton] at h3
      have := hall.1
      omega
    have hbig : p.length + (T.flatMap pieceB).length + 1 + (UInt8.ofNat x.length).toNat ≤ (p ++ ((T ++ x :: R).flatMap pieceB ++ [0]) ++ r).length := by
      rw [hsp, hzn]
      simp
      omega
    rw [nameF_lab hz (by omega) (by omega) (by rw [htk]; exact ⟨hbig, h46, hj⟩), htk, ← wjoin_snoc]
    have ih := back_go p r n hn hl R (T ++ [x]) f lo (by rw [← hT]; simp) (by simp at hf; omega)
    rw [show T ++ [x] ++ R = T ++ x :: R by simp] at ih
    have hpos : p.length + ((T ++ [x]).flatMap pieceB).length = p.length + (T.flatMap pieceB).length + 1 + (UInt8.ofNat x.length).toNat := by
      rw [List.flatMap_append, hzn]
      unfold pieceB
      simp
      omega
    rw [hpos] at ih
    exact ih
theorem flat_min : ∀ R : List (List UInt8), R.length ≤ (R.flatMap pieceB).length
  | [] => by simp
  | x :: R => by
    have := flat_min R
    rw [List.flatMap_cons, List.length_append, List.length_cons]
    have : (pieceB x).length = x.length + 1 := rfl
    omega
theorem name_back (p r n : List UInt8) (hn : nameB n = true) (hl : n.map low = n) : nameW (p ++ encP n ++ r) p.length = some (n, p.length + (encP n).length) := by
  have h := back_go p r n hn hl (splitL 46 n) [] (((p ++ encP n ++ r).length + 1) * ((p ++ encP n ++ r).length + 2) + 1) (p ++ encP n ++ r).length rfl (by
    have h1 := flat_min (splitL 46 n)
    have h2 : (splitL 46 n).length < (p ++ encP n ++ r).length + 2 := by
      unfold encP
      simp only [List.length_append]
      omega
    have h3 := Nat.le_mul_of_pos_left ((p ++ encP n ++ r).length + 2) (show 0 < (p ++ encP n ++ r).length + 1 by omega)
    omega)
  exact h
theorem okS_form {n : List UInt8} (h : okS n = true) : nameB n = true ∧ n.map low = n ∧ codS n = encP n := by
  unfold okS at h
  rw [Bool.and_eq_true, decide_eq_true_eq] at h
  obtain ⟨h1, h2⟩ := h
  have h3 : cleS n = (bare n).map low := by unfold cleS; rw [if_pos h1]
  rw [h3] at h2
  have h4 : nameB n = true := by rw [← h2, name_low]; exact h1
  have h5 := name_bare h4
  refine ⟨h4, by rw [h5] at h2; exact h2, ?_⟩
  unfold codS
  rw [h3, h2]
  unfold encS
  rw [h5, if_pos h4]
  rw [h5] at h2
  rw [h2]
theorem subj_back (p r n : List UInt8) (k : Int) (h : subOK n k = true) : subjW (p ++ subB n k ++ r) p.length = some (n, k.toNat, p.length + (subB n k).length) := by
  unfold subOK wordOK at h
  simp only [Bool.and_eq_true, decide_eq_true_eq] at h
  obtain ⟨hn, hk1, hk2⟩ := h
  obtain ⟨h1, h2, h3⟩ := okS_form hn
  have hb : subB n k = encP n ++ wordB k ++ wordB 1 := by unfold subB; rw [h3]
  have hnm := name_back p (wordB k ++ wordB 1 ++ r) n h1 h2
  rw [show p ++ encP n ++ (wordB k ++ wordB 1 ++ r) = p ++ subB n k ++ r by rw [hb]; simp] at hnm
  unfold subjW
  rw [hnm]
  simp only
  have t1 : tk (p ++ subB n k ++ r) (p.length + (encP n).length) 2 = wordB k := tk_mid (p := p ++ encP n) (r := wordB 1 ++ r) (by rw [hb]; simp) (by simp) rfl
  have t2 : tk (p ++ subB n k ++ r) (p.length + (encP n).length + 2) 2 = wordB 1 := tk_mid (p := p ++ encP n ++ wordB k) (r := r) (by rw [hb]; simp) (by rw [List.length_append, List.length_append]; rfl) rfl
  have hlen : (subB n k).length = (encP n).length + 4 := by rw [hb]; simp [wordB]
  rw [t1, t2, word_num (by omega) hk2, if_pos ⟨by simp [hlen]; omega, by omega, by rw [word_num (by omega) (by omega)]; rfl⟩]
  rw [hlen]
  rfl
theorem data_back (p r d : List UInt8) (k : Int) (h : datOK k d = true) : dataW (p ++ (wordB (datS k d).length ++ datS k d) ++ r) k p.length = some (d, p.length + (wordB (datS k d).length ++ datS k d).length) := by
  have hsz : (datS k d).length ≤ 65000 := datS_len k d
  have t1 : tk (p ++ (wordB (datS k d).length ++ datS k d) ++ r) p.length 2 = wordB (datS k d).length := tk_mid (p := p) (r := datS k d ++ r) (by simp) rfl rfl
  have hw : numV (wordB ((datS k d).length : Int)) = (datS k d).length := by rw [word_num (by omega) (by omega)]; simp
  have hl2 : (wordB ((datS k d).length : Int)).length = 2 := rfl
  unfold dataW
  rw [t1, hw, if_pos (by simp [hl2])]
  by_cases h12 : k = 12
  · rw [if_pos h12]
    subst h12
    have hok : okS d = true := by unfold datOK at h; rwa [if_pos rfl] at h
    obtain ⟨h1, h2, h3⟩ := okS_form hok
    have hd : datS 12 d = encP d := by unfold datS; rw [if_pos rfl, h3]
    rw [hd] at hl2 ⊢
    have hnm := name_back (p ++ wordB ((encP d).length : Int)) r d h1 h2
    rw [List.length_append, hl2, show p ++ wordB ((encP d).length : Int) ++ encP d ++ r = p ++ (wordB ((encP d).length : Int) ++ encP d) ++ r by simp] at hnm
    rw [hnm]
    simp only [if_true]
    rw [List.length_append, hl2]
    congr 2 <;> omega
  · rw [if_neg h12]
    have hok : fitsB k d = true := by unfold datOK at h; rwa [if_neg h12] at h
    have hd : datS k d = d := by unfold datS; rw [if_neg h12, if_pos hok]
    rw [hd] at hl2 ⊢
    have t2 : tk (p ++ (wordB (d.length : Int) ++ d) ++ r) (p.length + 2) d.length = d := tk_mid (p := p ++ wordB (d.length : Int)) (r := r) (by simp) (by simp [hl2]) rfl
    rw [t2, if_pos ⟨by simp [hl2]; omega, hok⟩, List.length_append, hl2]
    congr 2
    omega
/-- A record as it is read. -/
def toRec (r : WRec) : Rec := ⟨r.name.data.toList, r.kind.toNat, r.ttl.toNat, r.data.data.toList⟩
theorem rec_back (p r : List UInt8) (x : WRec) (h : x.ok = true) : recW (p ++ x.bytes ++ r) p.length = some (toRec x, p.length + x.bytes.length) := by
  obtain ⟨nm, k, t, d⟩ := x
  unfold WRec.ok recOK at h
  simp only [Bool.and_eq_true] at h
  obtain ⟨⟨hs, ht⟩, hd⟩ := h
  have hs2 := hs
  unfold subOK wordOK at hs2
  simp only [Bool.and_eq_true, decide_eq_true_eq] at hs2
  unfold lifeOK at ht
  simp only [Bool.and_eq_true, decide_eq_true_eq] at ht
  have hb : WRec.bytes ⟨nm, k, t, d⟩ = subB nm.data.toList k ++ (lifeB t ++ (wordB (datS k d.data.toList).length ++ datS k d.data.toList)) := by
    unfold WRec.bytes recB
    simp
  have e1 := subj_back p ((lifeB t ++ (wordB (datS k d.data.toList).length ++ datS k d.data.toList)) ++ r) nm.data.toList k hs
  rw [show p ++ subB nm.data.toList k ++ ((lifeB t ++ (wordB (datS k d.data.toList).length ++ datS k d.data.toList)) ++ r) = p ++ WRec.bytes ⟨nm, k, t, d⟩ ++ r by rw [hb]; simp] at e1
  have e2 := data_back (p ++ subB nm.data.toList k ++ lifeB t) r d.data.toList k hd
  rw [show p ++ subB nm.data.toList k ++ lifeB t ++ (wordB (datS k d.data.toList).length ++ datS k d.data.toList) ++ r = p ++ WRec.bytes ⟨nm, k, t, d⟩ ++ r by rw [hb]; simp] at e2
  have t1 : tk (p ++ WRec.bytes ⟨nm, k, t, d⟩ ++ r) (p.length + (subB nm.data.toList k).length) 4 = lifeB t := tk_mid (p := p ++ subB nm.data.toList k) (r := (wordB (datS k d.data.toList).length ++ datS k d.data.toList) ++ r) (by rw [hb]; simp) (by simp) rfl
  have hl4 : (lifeB t).length = 4 := rfl
  rw [List.length_append, List.length_append, hl4] at e2
  have hkk : ((k.toNat : Nat) : Int) = k := by omega
  unfold recW
  rw [e1]
  simp only
  rw [t1, life_num ht.1 ht.2, hkk, e2, if_pos ⟨by rw [hb]; simp [hl4]; omega, by omega⟩]
  simp only
  have hlen : p.length + (subB nm.data.toList k).length + 4 + (wordB ((datS k d.data.toList).length : Int) ++ datS k d.data.toList).length = p.length + (WRec.bytes ⟨nm, k, t, d⟩).length := by
    rw [hb]
    simp only [List.length_append, hl4]
    omega
  exact congrArg (fun z => some (toRec ⟨nm, k, t, d⟩, z)) hlen
theorem recs_back_n (p : List UInt8) : ∀ (m : Nat) (rs : List WRec) (r : List UInt8), rs.length = m → (∀ x ∈ rs, x.ok = true) → recsW (p ++ rs.flatMap WRec.bytes ++ r) (some p.length) m = some (rs.map toRec, p.length + (rs.flatMap WRec.bytes).length)
  | 0, rs, r, hm, h => by
    obtain rfl : rs = [] := List.length_eq_zero_iff.1 hm
    rfl
  | m + 1, rs, r, hm, h => by
    rcases List.eq_nil_or_concat rs with rfl | ⟨T, x, rfl⟩
    · cases hm
    · rw [List.concat_eq_append] at hm h ⊢
      have hT : T.length = m := by rw [List.length_append] at hm; exact Nat.succ.inj hm
      have h1 := recs_back_n p m T (x.bytes ++ r) hT (fun y hy => h y (by simp [hy]))
      have h2 := rec_back (p ++ T.flatMap WRec.bytes) r x (h x (by simp))
      have e : p ++ (T ++ [x]).flatMap WRec.bytes ++ r = p ++ T.flatMap WRec.bytes ++ (x.bytes ++ r) := by rw [List.flatMap_append]; simp
      have e2 : p ++ T.flatMap WRec.bytes ++ x.bytes ++ r = p ++ (T ++ [x]).flatMap WRec.bytes ++ r := by rw [List.flatMap_append]; simp
      rw [← e] at h1
      rw [e2, List.length_append] at h2
      rw [recsW, h1, Option.bind_some, h2]
      have e3 : ((T ++ [x]).flatMap WRec.bytes).length = (T.flatMap WRec.bytes).length + x.bytes.length := by rw [List.flatMap_append, List.length_append]; simp
      rw [e3, List.map_append]
      simp only [Option.map_some, List.map_cons, List.map_nil]
      rw [Nat.add_assoc]
theorem recs_back (p r : List UInt8) (rs : List WRec) (h : ∀ x ∈ rs, x.ok = true) : recsW (p ++ rs.flatMap WRec.bytes ++ r) (some p.length) rs.length = some (rs.map toRec, p.length + (rs.flatMap WRec.bytes).length) := recs_back_n p rs.length rs r rfl h
/-- A head of twelve bytes, a question, records, whatever follows. -/
theorem msg_back (h r n : List UInt8) (k : Int) (rs : List WRec) (hh : h.length = 12) (h4 : numV (tk h 4 2) = 1) (h6 : numV (tk h 6 2) = rs.length) (h2 : numV (tk h 2 2) / 2048 % 16 = 0) (h32 : rs.length ≤ 32) (hs : subOK n k = true) (hr : ∀ x ∈ rs, x.ok = true) :
    decE (h ++ subB n k ++ rs.flatMap WRec.bytes ++ r) = some (⟨numV (tk h 0 2), decide (32768 ≤ numV (tk h 2 2)), decide (numV (tk h 2 2) / 512 % 2 = 1), decide (numV (tk h 2 2) / 256 % 2 = 1), numV (tk h 2 2) % 16, n, k.toNat, rs.map toRec⟩, 12 + (subB n k).length + (rs.flatMap WRec.bytes).length) := by
  have e1 := subj_back h (rs.flatMap WRec.bytes ++ r) n k hs
  rw [hh, ← List.append_assoc] at e1
  have e2 := recs_back (h ++ subB n k) r rs hr
  rw [List.length_append, hh] at e2
  have hx : ∀ i, i + 2 ≤ 12 → tk (h ++ subB n k ++ rs.flatMap WRec.bytes ++ r) i 2 = tk h i 2 := fun i hi => by
    rw [List.append_assoc, List.append_assoc]
    exact tk_ext _ (by omega)
  unfold decE
  rw [if_neg (by simp; omega), hx 4 (by omega), hx 6 (by omega), hx 2 (by omega), hx 0 (by omega), if_neg (by omega), e1, Option.bind_some]
  simp only
  rw [h6, e2]
  rfl
end Go.Proofs.YtepfeekfglpjoaaDoor

namespace Go.Proofs.YtepfeekfglpjoaaDoor
open Go.RowKit Go.Lib Go.Wi Go.Tx
theorem subjW_le {l : List UInt8} {i : Nat} {q : List UInt8 × Nat × Nat} (h : subjW l i = some q) : q.2.2 ≤ l.length := by
  unfold subjW at h
  split at h
  · cases h
  · split at h
    · rename_i hc
      cases h
      have := hc.1
      simp only
      omega
    · cases h
theorem dataW_le {l : List UInt8} {k : Int} {i : Nat} {q : List UInt8 × Nat} (h : dataW l k i = some q) : q.2 ≤ l.length := by
  unfold dataW at h
  split at h
  · split at h
    · split at h
      · cases h
      · rename_i m j hn
        have := nameW_le hn
        split at h
        · cases h; simp only; omega
        · cases h
    · split at h
      · rename_i hc
        cases h
        have := hc.1
        simp only
        omega
      · cases h
  · cases h
theorem recW_le {l : List UInt8} {i : Nat} {q : Rec × Nat} (h : recW l i = some q) : q.2 ≤ l.length := by
  unfold recW at h
  split at h
  · cases h
  · split at h
    · split at h
      · cases h
      · rename_i d j2 hd
        have := dataW_le hd
        cases h
        exact this
    · cases h
theorem recsW_le {l : List UInt8} {i : Nat} (hi : i ≤ l.length) : ∀ {k : Nat} {q : List Rec × Nat}, recsW l (some i) k = some q → q.2 ≤ l.length
  | 0, q, h => by
    cases h
    exact hi
  | k + 1, q, h => by
    unfold recsW at h
    rw [Option.bind_eq_some_iff] at h
    obtain ⟨a, ha, hb⟩ := h
    rw [Option.map_eq_some_iff] at hb
    obtain ⟨x, hx, hq⟩ := hb
    have := recW_le hx
    rw [← hq]
    exact this
theorem decE_le {l : List UInt8} {q : Msg × Nat} (h : decE l = some q) : q.2 ≤ l.length := by
  unfold decE at h
  split at h
  · cases h
  · split at h
    · cases h
    · rw [Option.bind_eq_some_iff] at h
      obtain ⟨a, ha, hb⟩ := h
      rw [Option.map_eq_some_iff] at hb
      obtain ⟨x, hx, hq⟩ := hb
      have := recsW_le (subjW_le ha) hx
      rw [← hq]
      exact this
/-- A message as it is read. -/
def msgOf (i c : Int) (r q x : Bool) (n : List UInt8) (k : Int) (rs : List WRec) : Msg := ⟨i.toNat, r, q, x, c.toNat, n, k.toNat, rs.map toRec⟩
theorem flag_read (c : Nat) (hc : c < 16) (r q x : Bool) : ∃ F : Nat, flagV c r q x = F ∧ F ≤ 65535 ∧ F / 2048 % 16 = 0 ∧ decide (32768 ≤ F) = r ∧ decide (F / 512 % 2 = 1) = q ∧ decide (F / 256 % 2 = 1) = x ∧ F % 16 = c := by
  have h : flagV (c : Int) r q x = flagS c r q x := flagV_small ⟨c, hc⟩ r q x
  rw [h]
  obtain ⟨a, ha⟩ : ∃ a : Nat, (a : Int) = (if r then 32768 else 0) ∧ ((r = true ∧ a = 32768) ∨ (r = false ∧ a = 0)) := by
    cases r
    · exact ⟨0, rfl, .inr ⟨rfl, rfl⟩⟩
    · exact ⟨32768, rfl, .inl ⟨rfl, rfl⟩⟩
  obtain ⟨b, hb⟩ : ∃ a : Nat, (a : Int) = (if q then 512 else 0) ∧ ((q = true ∧ a = 512) ∨ (q = false ∧ a = 0)) := by
    cases q
    · exact ⟨0, rfl, .inr ⟨rfl, rfl⟩⟩
    · exact ⟨512, rfl, .inl ⟨rfl, rfl⟩⟩
  obtain ⟨d, hd⟩ : ∃ a : Nat, (a : Int) = (if x then 256 else 0) ∧ ((x = true ∧ a = 256) ∨ (x = false ∧ a = 0)) := by
    cases x
    · exact ⟨0, rfl, .inr ⟨rfl, rfl⟩⟩
    · exact ⟨256, rfl, .inl ⟨rfl, rfl⟩⟩
  have ht : ∀ {y : Bool} {p : Prop} [Decidable p], (y = true → p) → (y = false → ¬ p) → decide p = y := fun {y p} _ h1 h2 => by
    cases y
    · exact decide_eq_false (h2 rfl)
    · exact decide_eq_true (h1 rfl)
  refine ⟨c + a + b + d, ?_, ?_, ?_, ht ?_ ?_, ht ?_ ?_, ht ?_ ?_, ?_⟩
  · unfold flagS; rw [← ha.1, ← hb.1, ← hd.1]; omega
  all_goals try intro h
  all_goals (rcases ha with ⟨_, ⟨h1, h2⟩ | ⟨h1, h2⟩⟩ <;> rcases hb with ⟨_, ⟨h3, h4⟩ | ⟨h3, h4⟩⟩ <;> rcases hd with ⟨_, ⟨h5, h6⟩ | ⟨h5, h6⟩⟩ <;> first | omega | simp_all)
/-- A head of twelve bytes, the question, the records, whatever follows: the message, and where it ends. -/
theorem head_back (h w : List UInt8) (i c : Int) (r q x : Bool) (n : List UInt8) (k : Int) (rs : List WRec) (hok : encOK i c r q x n k rs = true) (hh : h.length = 12) (h0 : tk h 0 2 = wordB i) (h4 : tk h 4 2 = wordB 1) (h6 : tk h 6 2 = wordB rs.length) (F : Nat)
    (h2 : numV (tk h 2 2) = F) (f1 : F / 2048 % 16 = 0) (f2 : decide (32768 ≤ F) = r) (f3 : decide (F / 512 % 2 = 1) = q) (f4 : decide (F / 256 % 2 = 1) = x) (f5 : F % 16 = c.toNat) :
    decE (h ++ subB n k ++ rs.flatMap WRec.bytes ++ w) = some (msgOf i c r q x n k rs, 12 + (subB n k).length + (rs.flatMap WRec.bytes).length) := by
  have hm := hok
  rw [encOK_may] at hm
  unfold encOK msgOK headOK at hok
  simp only [Bool.and_eq_true, decide_eq_true_eq] at hok
  unfold mayB headMay at hm
  simp only [Bool.and_eq_true, decide_eq_true_eq] at hm
  obtain ⟨h32, ⟨⟨⟨⟨⟨_, _⟩, _⟩, _⟩, hs⟩, hr⟩, hlen⟩ := hok
  have e := msg_back h w n k rs hh (by rw [h4, word_num (by omega) (by omega)]; rfl) (by rw [h6, word_num (by omega) (by omega)]; simp) (by rw [h2]; exact f1) h32 hs (fun y hy => List.all_eq_true.1 hr y hy)
  rw [h2, h0, f2, f3, f4, f5, word_num (by omega) (by omega)] at e
  exact e
theorem head_len (i c : Int) (r q x : Bool) (m : Nat) : (wordB i ++ wordB (flagV c r q x) ++ wordB 1 ++ wordB m ++ wordB 0 ++ wordB 0).length = 12 := rfl
theorem msgB_len (i c : Int) (r q x : Bool) (n : List UInt8) (k : Int) (rs : List WRec) : (msgB i c r q x n k rs).length = 12 + (subB n k).length + (rs.flatMap WRec.bytes).length := by
  unfold msgB headB
  rw [List.length_append, List.length_append (bs := subB n k), head_len]
/-- What was written is read back. -/
theorem written_back (w : List UInt8) (i c : Int) (r q x : Bool) (n : List UInt8) (k : Int) (rs : List WRec) (hok : encOK i c r q x n k rs = true) :
    decE (msgB i c r q x n k rs ++ w) = some (msgOf i c r q x n k rs, (msgB i c r q x n k rs).length) := by
  have hm := hok
  rw [encOK_may] at hm
  unfold mayB headMay at hm
  simp only [Bool.and_eq_true, decide_eq_true_eq] at hm
  obtain ⟨C, rfl⟩ : ∃ C : Nat, c = C := ⟨c.toNat, by omega⟩
  obtain ⟨F, hF, f0, f1, f2, f3, f4, f5⟩ := flag_read C (by omega) r q x
  have h := head_back (wordB i ++ wordB (flagV C r q x) ++ wordB 1 ++ wordB rs.length ++ wordB 0 ++ wordB 0) w i C r q x n k rs hok rfl rfl rfl rfl F (by
    show numV (wordB (flagV C r q x)) = F
    rw [hF, word_num (by omega) (by omega)]
    simp) f1 f2 f3 f4 (by rw [f5]; simp)
  rw [msgB_len]
  exact h
theorem enc_len {i c : Int} {r q x : Bool} {n : List UInt8} {k : Int} {rs : List WRec} (hok : encOK i c r q x n k rs = true) : (msgB i c r q x n k rs).length ≤ 4096 ∧ 12 ≤ (msgB i c r q x n k rs).length := by
  have h := msgB_len i c r q x n k rs
  unfold encOK at hok
  simp only [Bool.and_eq_true, decide_eq_true_eq] at hok
  exact ⟨hok.2.2, by omega⟩
theorem written_dec {i c : Int} {r q x : Bool} {n : List UInt8} {k : Int} {rs : List WRec} (hok : encOK i c r q x n k rs = true) (w : List UInt8) (hw : (msgB i c r q x n k rs ++ w).length ≤ 4096) : decW (msgB i c r q x n k rs ++ w) = some (msgOf i c r q x n k rs) := by
  rw [decW_E, if_pos hw, written_back w i c r q x n k rs hok]
  rfl
/-- Without its last bytes it is none. -/
theorem short_none {i c : Int} {r q x : Bool} {n : List UInt8} {k : Int} {rs : List WRec} (hok : encOK i c r q x n k rs = true) (m : Nat) (hm : m < (msgB i c r q x n k rs).length) : decW ((msgB i c r q x n k rs).take m) = none := by
  rw [decW_E]
  split
  · cases h : decE ((msgB i c r q x n k rs).take m) with
    | none => rfl
    | some z =>
      exfalso
      have h1 := decE_ext ((msgB i c r q x n k rs).drop m) h
      rw [List.take_append_drop] at h1
      have h2 := written_back [] i c r q x n k rs hok
      rw [List.append_nil, h1] at h2
      have h3 := decE_le h
      cases h2
      simp only [List.length_take] at h3
      omega
  · rfl
end Go.Proofs.YtepfeekfglpjoaaDoor

namespace Go.Proofs.YtepfeekfglpjoaaDoor
open Go.RowKit Go.Lib Go.Wi Go.Tx
/-- Fewer bytes of a slice. -/
theorem ba_take {w : World} {a : Option Addr} {n c : Nat} {l : List UInt8} (h : BA w a n c l) {m : Nat} (hm : m ≤ n) : BA w a m c (l.take m) :=
  ⟨by rw [List.length_take, h.len]; omega, Nat.le_trans hm h.cap, h.max, h.none, fun x hx j b hj => by
    by_cases hjm : j < m
    · rw [List.getElem?_take_of_lt hjm] at hj
      exact h.cell x hx j b hj
    · rw [List.getElem?_eq_none (by rw [List.length_take]; omega)] at hj
      cases hj⟩
set_option maxHeartbeats 4000000 in
set_option maxRecDepth 100000 in
theorem wireShort_walk (i c k : Int) (r q x : Bool) (s : ByteArray) (a : Option Addr) (n cap : Nat) (rs : List WRec) (a1 : Int) (W : World) (hs : s.size ≤ maxLen) (hrs : InRecs W a n cap rs) (w1 : (Lit.int .i64 a1).wf = true) (hm : MaxAt W) :
    Calls Tryd.prog 6 #[.agg #[.int .i64 i, .bool r, .bool q, .bool x, .int .i64 c, .string s, .int .i64 k, .slice a n cap], .int .i64 a1] W fun e w' => e = .returned (.bool true) ∧ Below W.heap.size W w' := by
  have HM := Lib.hid hm
  obtain ⟨R, hR⟩ : ∃ R, (rs.take 35).map cutRec = R := ⟨_, rfl⟩
  obtain ⟨nm, hnm⟩ : ∃ t, cutB s = t := ⟨_, rfl⟩
  obtain ⟨z, hz⟩ : ∃ z, R.length = z := ⟨_, rfl⟩
  have hRs : ∀ y ∈ R, y.name.size ≤ 300 ∧ y.data.size ≤ 300 := by
    rw [← hR]
    intro y hy
    obtain ⟨y0, _, rfl⟩ := List.mem_map.1 hy
    exact ⟨cutB_size _, cutB_size _⟩
  have hnm3 : nm.size ≤ 300 := hnm ▸ cutB_size s
  have HBg : Hid (∀ V, Below W.heap.size W V → Calls Tryd.prog 8 #[] V fun e w' => e = .returned (.bool true) ∧ Below V.heap.size V w') := Lib.hid fun V h => begun5_any V (hm.below h)
  have HCut : Hid (∀ V, Below W.heap.size W V → Calls Tryd.prog 9 #[.agg #[.int .i64 i, .bool r, .bool q, .bool x, .int .i64 c, .string s, .int .i64 k, .slice a n cap]] V fun e w' => ∃ p cc, e = .returned (.agg #[.int .i64 i, .bool r, .bool q, .bool x, .int .i64 c, .string nm, .int .i64 k, .slice p z cc]) ∧ WRecC V.heap.size w' (.slice p z cc) R ∧ Below V.heap.size V w') := Lib.hid fun V h => by
    have := mcut_any i c k r q x s a n cap rs V hs (hrs.below h)
    rw [hR, hnm, hz] at this
    exact this
  have HEncR : Hid (∀ V p cc B, WRecC B V (.slice p z cc) R → Calls Tryd.prog 10 #[.agg #[.int .i64 i, .bool r, .bool q, .bool x, .int .i64 c, .string nm, .int .i64 k, .slice p z cc]] V fun e w' => Below V.heap.size V w' ∧ ((encOK i c r q x nm.data.toList k R = true ∧ ∃ v, e = .returned v ∧ OwnB V.heap.size w' v (msgB i c r q x nm.data.toList k R)) ∨ (encOK i c r q x nm.data.toList k R = false ∧ e = .returned (.slice none 0 0)))) := Lib.hid fun V p cc B h => rencode_any i c k r q x nm (.slice p z cc) R V h.rows (by omega) (fun y hy => by have := hRs y hy; omega)
  have HB1 : Hid (Below W.heap.size W (W.alloc (.cells #[.int .i64 i, .bool r, .bool q, .bool x, .int .i64 c, .string s, .int .i64 k, .slice a n cap] 26))) := Lib.hid ((Below.refl _ W).alloc (Nat.le_refl _) _)
  have HA1 : Hid (At8 (W.alloc (.cells #[.int .i64 i, .bool r, .bool q, .bool x, .int .i64 c, .string s, .int .i64 k, .slice a n cap] 26)) W.heap.size #[.int .i64 i, .bool r, .bool q, .bool x, .int .i64 c, .string s, .int .i64 k, .slice a n cap]) := Lib.hid (heap_alloc_new W _)
  clear hm hs hrs hR hnm w1
  cases hok : encOK i c r q x nm.data.toList k R with
  | false =>
    have HOk := Lib.hid hok
    clear hok hRs hnm3 hz
    go_enter Tryd.func6, Tryd.ntmps6
    go_upto_region 1 with (fail)
    obtain ⟨bm, hbm⟩ : ∃ b, W.heap.size = b := ⟨_, rfl⟩
    have HBm := Lib.hid hbm
    rw [hbm] at HA1 ⊢
    clear hbm
    generalize W.alloc (.cells #[.int .i64 i, .bool r, .bool q, .bool x, .int .i64 c, .string s, .int .i64 k, .slice a n cap] 26) = W1 at *
    go_upto_region 4 with (go_at_call 8; refine (HBg.out _ HB1.out).mono ?_; rintro e w2 ⟨rfl, hb2⟩; have HB2 := Lib.hid (HB1.out.trans (hb2.mono HB1.out.size)); have HA2 := Lib.hid (HA1.out.bel hb2); clear hb2)
    have m0 := HA2.out.cell (j := 0) rfl
    have m1 := HA2.out.cell (j := 1) rfl
    have m2 := HA2.out.cell (j := 2) rfl
    have m3 := HA2.out.cell (j := 3) rfl
    have m4 := HA2.out.cell (j := 4) rfl
    have m5 := HA2.out.cell (j := 5) rfl
    have m6 := HA2.out.cell (j := 6) rfl
    have m7 := HA2.out.cell (j := 7) rfl
    go_wp2_with (first | (go_at_call 9; refine (HCut.out _ HB2.out).mono ?_; rintro e w3 ⟨p, cc, rfl, hrc, hb3⟩; have HEn := Lib.hid (HEncR.out w3 p cc _ hrc); have HB3 := Lib.hid (HB2.out.trans (hb3.mono HB2.out.size)); clear hrc hb3) | (go_at_call 10; refine HEn.out.mono ?_; rintro e w4 ⟨hb4, hq⟩; rcases hq with ⟨hq, _⟩ | ⟨_, rfl⟩; exact absurd (hq.symm.trans HOk.out) (by decide); have HB4 := Lib.hid (HB3.out.trans (hb4.mono HB3.out.size)); clear hb4))
    go_ret
    exact ⟨rfl, HB4.out⟩
  | true =>
    obtain ⟨u, hu⟩ : ∃ u, (msgB i c r q x nm.data.toList k R).length = u := ⟨_, rfl⟩
    have hu2 := enc_len hok
    rw [hu] at hu2
    obtain ⟨hu4, hu12⟩ := hu2
    obtain ⟨L, hL⟩ : ∃ L, msgB i c r q x nm.data.toList k R = L := ⟨_, rfl⟩
    have HEn2 : Hid (∀ V p cc B, WRecC B V (.slice p z cc) R → Calls Tryd.prog 10 #[.agg #[.int .i64 i, .bool r, .bool q, .bool x, .int .i64 c, .string nm, .int .i64 k, .slice p z cc]] V fun e w' => ∃ g gc, e = .returned (.slice (some ⟨g, 0, none⟩) u gc) ∧ V.heap.size ≤ g ∧ OwnB V.heap.size w' (.slice (some ⟨g, 0, none⟩) u gc) L ∧ g < w'.heap.size ∧ BA w' (some ⟨g, 0, none⟩) u gc L ∧ Below V.heap.size V w') := Lib.hid fun V p cc B h => (HEncR.out V p cc B h).mono (by
      rintro e w' ⟨hb, ⟨_, v, he, ho⟩ | ⟨hf, _⟩⟩
      · obtain ⟨g, gc, rfl, hg, hba⟩ := own_ba ho (by omega)
        rw [hu] at he ho hba
        rw [hL] at ho hba
        exact ⟨g, gc, he, (World.ownsRow.lt ho g rfl).1, ho, hg, hba, hb⟩
      · rw [hok] at hf; cases hf)
    have HSh : Hid (∀ m, m < u → decW (L.take m) = none) := Lib.hid fun m hm => by rw [← hL]; exact short_none hok m (by omega)
    have HDec : Hid (∀ V g gc m, BA V (some ⟨g, 0, none⟩) u gc L → g < V.heap.size → Below W.heap.size W V → m < u → Calls Tryd.prog 13 #[.slice (some ⟨g, 0, none⟩) m gc] V fun e w' => e = .returned (.tuple #[.agg #[.int .i64 0, .bool false, .bool false, .bool false, .int .i64 0, .string ⟨#[]⟩, .int .i64 0, .slice none 0 0], badV]) ∧ Below V.heap.size V w') := Lib.hid fun V g gc m hba hg hV hm => (decode_any _ _ _ _ V (ba_take hba (by omega)) (fun y hy => by cases hy; exact hg) (HM.out.below hV)).mono (by
      rintro e w' ⟨hb, hx⟩
      rw [HSh.out m hm] at hx
      exact ⟨hx, hb⟩)
    clear hok hu hL hRs hnm3 hz
    by_cases hn : 1 ≤ a1 ∧ a1 ≤ u
    · obtain ⟨h1, h2⟩ := hn
      obtain ⟨m, rfl⟩ : ∃ m : Nat, a1 = (u : Int) - m := ⟨(u - a1).toNat, by omega⟩
      have hmu : m < u := by omega
      have hk0 : ((u : Int) == 0) = false := by rw [beq_eq_false_iff_ne]; omega
      have hk1 : ¬ (u : Int) - m < 1 := by omega
      have hk2 : ¬ (u : Int) < (u : Int) - m := by omega
      have hk3 : (u : Int) - ((u : Int) - m) = m := by omega
      go_enter Tryd.func6, Tryd.ntmps6
      go_upto_region 1 with (fail)
      obtain ⟨bm, hbm⟩ : ∃ b, W.heap.size = b := ⟨_, rfl⟩
      have HBm := Lib.hid hbm
      rw [hbm] at HA1 ⊢
      clear hbm
      generalize W.alloc (.cells #[.int .i64 i, .bool r, .bool q, .bool x, .int .i64 c, .string s, .int .i64 k, .slice a n cap] 26) = W1 at *
      go_upto_region 4 with (go_at_call 8; refine (HBg.out _ HB1.out).mono ?_; rintro e w2 ⟨rfl, hb2⟩; have HB2 := Lib.hid (HB1.out.trans (hb2.mono HB1.out.size)); have HA2 := Lib.hid (HA1.out.bel hb2); clear hb2)
      have m0 := HA2.out.cell (j := 0) rfl
      have m1 := HA2.out.cell (j := 1) rfl
      have m2 := HA2.out.cell (j := 2) rfl
      have m3 := HA2.out.cell (j := 3) rfl
      have m4 := HA2.out.cell (j := 4) rfl
      have m5 := HA2.out.cell (j := 5) rfl
      have m6 := HA2.out.cell (j := 6) rfl
      have m7 := HA2.out.cell (j := 7) rfl
      go_upto_region 7 with (first | (go_at_call 9; refine (HCut.out _ HB2.out).mono ?_; rintro e w3 ⟨p, cc, rfl, hrc, hb3⟩; have HEn := Lib.hid (HEn2.out w3 p cc _ hrc); have HB3 := Lib.hid (HB2.out.trans (hb3.mono HB2.out.size)); clear hrc hb3) | (go_at_call 10; refine HEn.out.mono ?_; rintro e w4 ⟨g, gc, rfl, _, _, hg, hba, hb4⟩; have HB4 := Lib.hid (HB3.out.trans (hb4.mono HB3.out.size)); have HDc := Lib.hid (HDec.out w4 g gc m hba hg HB4.out hmu); have hgc := hba.cap; have hgx := hba.max; clear hb4 hba hg))
      clear hk0 hk1 hk2
      go_wp2_with (first | (go_at_call 13; refine HDc.out.mono ?_; rintro e w5 ⟨rfl, hb5⟩; have HB5 := Lib.hid (HB4.out.trans (hb5.mono HB4.out.size)); clear hb5) | (go_at_call 12; refine (bad_yes _).mono ?_; rintro e w6 ⟨rfl, rfl⟩))
      go_ret
      exact ⟨rfl, HB5.out.alloc HB5.out.size _⟩
    · have hk0 : ((u : Int) == 0) = false := by rw [beq_eq_false_iff_ne]; omega
      have hcase : a1 < 1 ∨ (¬ a1 < 1 ∧ (u : Int) < a1) := by omega
      clear hn
      rcases hcase with h1 | ⟨h1, h2⟩
      all_goals
        go_enter Tryd.func6, Tryd.ntmps6
        go_upto_region 1 with (fail)
        obtain ⟨bm, hbm⟩ : ∃ b, W.heap.size = b := ⟨_, rfl⟩
        have HBm := Lib.hid hbm
        rw [hbm] at HA1 ⊢
        clear hbm
        generalize W.alloc (.cells #[.int .i64 i, .bool r, .bool q, .bool x, .int .i64 c, .string s, .int .i64 k, .slice a n cap] 26) = W1 at *
        go_upto_region 4 with (go_at_call 8; refine (HBg.out _ HB1.out).mono ?_; rintro e w2 ⟨rfl, hb2⟩; have HB2 := Lib.hid (HB1.out.trans (hb2.mono HB1.out.size)); have HA2 := Lib.hid (HA1.out.bel hb2); clear hb2)
        have m0 := HA2.out.cell (j := 0) rfl
        have m1 := HA2.out.cell (j := 1) rfl
        have m2 := HA2.out.cell (j := 2) rfl
        have m3 := HA2.out.cell (j := 3) rfl
        have m4 := HA2.out.cell (j := 4) rfl
        have m5 := HA2.out.cell (j := 5) rfl
        have m6 := HA2.out.cell (j := 6) rfl
        have m7 := HA2.out.cell (j := 7) rfl
        go_wp2_with (first | (go_at_call 9; refine (HCut.out _ HB2.out).mono ?_; rintro e w3 ⟨p, cc, rfl, hrc, hb3⟩; have HEn := Lib.hid (HEn2.out w3 p cc _ hrc); have HB3 := Lib.hid (HB2.out.trans (hb3.mono HB2.out.size)); clear hrc hb3) | (go_at_call 10; refine HEn.out.mono ?_; rintro e w4 ⟨g, gc, rfl, _, _, hg, hba, hb4⟩; have HB4 := Lib.hid (HB3.out.trans (hb4.mono HB3.out.size)); have hgc := hba.cap; have hgx := hba.max; clear hb4 hba hg))
        go_ret
        exact ⟨rfl, HB4.out⟩
end Go.Proofs.YtepfeekfglpjoaaDoor

namespace Go.Proofs.YtepfeekfglpjoaaDoor
open Go.RowKit Go.Lib Go.Wi Go.Tx Go.WideShapes
theorem list_of {α : Type} {p : Nat → α → Prop} : ∀ n : Nat, (∀ j, j < n → ∃ r, p j r) → ∃ l : List α, l.length = n ∧ ∀ j r, l[j]? = some r → p j r
  | 0, _ => ⟨[], rfl, fun j r h => by simp at h⟩
  | n + 1, h => by
    obtain ⟨l, hl, hp⟩ := list_of n (fun j hj => h j (by omega))
    obtain ⟨r, hr⟩ := h n (by omega)
    refine ⟨l ++ [r], by simp [hl], fun j q hq => ?_⟩
    by_cases hj : j < n
    · rw [List.getElem?_append_left (by omega)] at hq
      exact hp j q hq
    · by_cases hj2 : j = n
      · subst hj2
        rw [List.getElem?_append_right (by omega), hl] at hq
        simp at hq
        rw [← hq]
        exact hr
      · rw [List.getElem?_eq_none (by simp; omega)] at hq
        cases hq
theorem some_of {α : Type} {xs : List α} {i n : Nat} (h : xs.length = n) (hi : i < n) : ∃ y, xs[i]? = some y := ⟨_, List.getElem?_eq_getElem (by omega)⟩
theorem list8 {α : Type} : ∀ l : List α, l.length = 8 → ∃ c0 c1 c2 c3 c4 c5 c6 c7, l = [c0, c1, c2, c3, c4, c5, c6, c7]
  | [c0, c1, c2, c3, c4, c5, c6, c7], _ => ⟨c0, c1, c2, c3, c4, c5, c6, c7, rfl⟩
theorem list4 {α : Type} : ∀ l : List α, l.length = 4 → ∃ c0 c1 c2 c3, l = [c0, c1, c2, c3]
  | [c0, c1, c2, c3], _ => ⟨c0, c1, c2, c3, rfl⟩
theorem fld {H : Type} {enc : TypeId × Value → H} {P : Program} {w : World} {b : Nat} {sp : Nat → Bool} {hd : Bool} {m : Nat} {t : TypeId} {l seg : List Value} {o k : Nat} {z : Option (DataW H × List MemPlace)} {y : DataW H × List MemPlace}
    (h : DataW.trod enc P w b sp hd m t (List.take (P.cellsOf t) (List.drop o l)) = z) (hc : P.cellsOf t = k) (hs : (l.drop o).take k = seg) (hz : z = some y) : DataW.trod enc P w b sp hd m t seg = some y := by
  rw [hc, hs] at h
  exact h.trans hz
/-- What a message that came in holds. -/
def IsMsg (w : World) (v : Value) : Prop := ∃ (i : Int) (r q x : Bool) (c : Int) (s : ByteArray) (k : Int) (a : Option Addr) (n cap : Nat) (rs : List WRec),
  v = .agg #[.int .i64 i, .bool r, .bool q, .bool x, .int .i64 c, .string s, .int .i64 k, .slice a n cap] ∧ s.size ≤ maxLen ∧ InRecs w a n cap rs
set_option maxHeartbeats 1000000 in
theorem isMsg_of {H : Type} {enc : TypeId × Value → H} {w : World} {v : Value} {d : DataW H} {ps : List MemPlace} (hv : ∃ cs, v = .agg cs ∧ cs.size = Tryd.prog.cellsOf 26)
    (h : DataW.Trod enc Tryd.prog w 0 (fun _ => true) true 26 v d ps) : IsMsg w v := by
  obtain ⟨cs, rfl, _⟩ := hv
  obtain ⟨fuel, hf⟩ := h
  have cI : Tryd.prog.cellsOf 3 = 1 := by kernel_rfl
  have cL : Tryd.prog.cellsOf 2 = 1 := by kernel_rfl
  have cB : Tryd.prog.cellsOf 4 = 1 := by kernel_rfl
  have cS : Tryd.prog.cellsOf 9 = 1 := by kernel_rfl
  have cQ : Tryd.prog.cellsOf 23 = 2 := by kernel_rfl
  have cM : Tryd.prog.cellsOf 26 = 8 := by kernel_rfl
  have cR : Tryd.prog.cellsOf 48 = 4 := by kernel_rfl
  have cA : Tryd.prog.cellsOf 24 = 1 := by kernel_rfl
  obtain ⟨xs, m, _, _, hl, hx, hg⟩ := DataW.trod_struct Tryd.underlying26 hf
  rw [cM] at hl
  have hc : (Value.agg cs).cells = cs := rfl
  rw [hc] at hl hg
  obtain ⟨l, hL⟩ : ∃ l, cs.toList = l := ⟨_, rfl⟩
  rw [hL] at hl hg
  obtain ⟨c0, c1, c2, c3, c4, c5, c6, c7, rfl⟩ := list8 l hl
  have e0 : ([c0, c1, c2, c3, c4, c5, c6, c7].drop 0).take 1 = [c0] := rfl
  obtain ⟨y0, hy0⟩ := some_of hx (i := 0) (by decide)
  obtain ⟨y1, hy1⟩ := some_of hx (i := 1) (by decide)
  obtain ⟨y2, hy2⟩ := some_of hx (i := 2) (by decide)
  obtain ⟨y3, hy3⟩ := some_of hx (i := 3) (by decide)
  obtain ⟨y4, hy4⟩ := some_of hx (i := 4) (by decide)
  obtain ⟨y5, hy5⟩ := some_of hx (i := 5) (by decide)
  obtain ⟨y6, hy6⟩ := some_of hx (i := 6) (by decide)
  obtain ⟨i, hi, _, _⟩ := DataW.trod_int Tryd.underlying3 (fld (t := 3) (seg := [c0]) (hg 0 _ rfl) cI rfl hy0)
  obtain ⟨r, hr, _⟩ := DataW.trod_bool Tryd.underlying4 (fld (t := 4) (seg := [c1]) (hg 1 _ rfl) cB rfl hy1)
  obtain ⟨q, hq, _⟩ := DataW.trod_bool Tryd.underlying4 (fld (t := 4) (seg := [c2]) (hg 2 _ rfl) cB rfl hy2)
  obtain ⟨b, hb, _⟩ := DataW.trod_bool Tryd.underlying4 (fld (t := 4) (seg := [c3]) (hg 3 _ rfl) cB rfl hy3)
  obtain ⟨c, hcc, _, _⟩ := DataW.trod_int Tryd.underlying3 (fld (t := 3) (seg := [c4]) (hg 4 _ rfl) cI rfl hy4)
  obtain ⟨xq, mq, _, _, _, hxq, hgq⟩ := DataW.trod_struct Tryd.underlying23 (fld (t := 23) (seg := [c5, c6]) (hg 5 _ rfl) cQ rfl hy5)
  obtain ⟨u0, hu0⟩ := some_of hxq (i := 0) (by decide)
  obtain ⟨u1, hu1⟩ := some_of hxq (i := 1) (by decide)
  obtain ⟨s, hs, _, hsz⟩ := DataW.trod_string Tryd.underlying9 (fld (t := 9) (seg := [c5]) (hgq 0 _ rfl) cS rfl hu0)
  obtain ⟨k, hk, _, _⟩ := DataW.trod_int Tryd.underlying3 (fld (t := 3) (seg := [c6]) (hgq 1 _ rfl) cI rfl hu1)
  have hcs : cs = #[c0, c1, c2, c3, c4, c5, c6, c7] := by
    obtain ⟨l⟩ := cs
    simp only at hL
    rw [hL]
  cases hi; cases hr; cases hq; cases hb; cases hcc; cases hs; cases hk
  rcases Go.Deep.open_slice Tryd.underlying24 (fld (t := 24) (seg := [c7]) (hg 6 _ rfl) cA rfl hy6) with ⟨h7, _⟩ | ⟨x, len, cap, z, n, D, Pl, h7, _, hlc, hcm, hz, _, hel⟩
  · cases h7
    exact ⟨i, r, q, b, c, s, k, none, 0, 0, [], by rw [hcs], hsz, rfl, Nat.le_refl _, Nat.zero_le _, fun j r h => by simp at h⟩
  · cases h7
    simp only [if_true] at hz
    obtain ⟨rs, hrl, hrs⟩ := list_of (p := fun j (r : WRec) => x.block < w.heap.size ∧ r.name.size ≤ maxLen ∧ r.data.size ≤ maxLen ∧
      w.cell? (x.add (j * 4)) = some (.string r.name) ∧ w.cell? ⟨(x.add (j * 4)).block, (x.add (j * 4)).off + 1, none⟩ = some (.int .i64 r.kind) ∧ w.cell? ⟨(x.add (j * 4)).block, (x.add (j * 4)).off + 2, none⟩ = some (.int .i64 r.ttl) ∧ w.cell? ⟨(x.add (j * 4)).block, (x.add (j * 4)).off + 3, none⟩ = some (.string r.data)) len (fun j hj => by
      obtain ⟨cs', h1, h2⟩ := hel j (by omega)
      rw [cR] at h1
      obtain ⟨_, hl4, hcell⟩ := World.cells?_some h1
      obtain ⟨d0, d1, d2, d3, rfl⟩ := list4 cs' hl4
      obtain ⟨xr, mr, _, _, _, hxr, hgr⟩ := DataW.trod_struct Tryd.underlying48 h2
      obtain ⟨v0, hv0⟩ := some_of hxr (i := 0) (by decide)
      obtain ⟨v1, hv1⟩ := some_of hxr (i := 1) (by decide)
      obtain ⟨v2, hv2⟩ := some_of hxr (i := 2) (by decide)
      obtain ⟨v3, hv3⟩ := some_of hxr (i := 3) (by decide)
      obtain ⟨t0, ht0, _, hs0⟩ := DataW.trod_string Tryd.underlying9 (fld (t := 9) (seg := [d0]) (hgr 0 _ rfl) cS rfl hv0)
      obtain ⟨t1, ht1, _, _⟩ := DataW.trod_int Tryd.underlying3 (fld (t := 3) (seg := [d1]) (hgr 1 _ rfl) cI rfl hv1)
      obtain ⟨t2, ht2, _, _⟩ := DataW.trod_int Tryd.underlying2 (fld (t := 2) (seg := [d2]) (hgr 2 _ rfl) cL rfl hv2)
      obtain ⟨t3, ht3, _, hs3⟩ := DataW.trod_string Tryd.underlying9 (fld (t := 9) (seg := [d3]) (hgr 3 _ rfl) cS rfl hv3)
      cases ht0; cases ht1; cases ht2; cases ht3
      have q0 := hcell 0 (by omega)
      have q1 := hcell 1 (by omega)
      have q2 := hcell 2 (by omega)
      have q3 := hcell 3 (by omega)
      refine ⟨⟨t0, t1, t2, t3⟩, ?_, hs0, hs3, q0, q1, q2, q3⟩
      have hb : (x.add (j * 4)).block = x.block := by unfold Addr.add; split <;> rfl
      have q0' : w.cell? (x.add (j * 4)) = some (.string t0) := q0
      rw [← hb]
      unfold World.cell? at q0'
      exact Classical.byContradiction fun hno => by
        rw [Array.getElem?_eq_none (by omega)] at q0'
        cases q0')
    exact ⟨i, r, q, b, c, s, k, some x, len, cap, rs, by rw [hcs], hsz, hrl, hlc, hcm, fun j r hj => ⟨x, rfl, hrs j r hj⟩⟩
end Go.Proofs.YtepfeekfglpjoaaDoor

