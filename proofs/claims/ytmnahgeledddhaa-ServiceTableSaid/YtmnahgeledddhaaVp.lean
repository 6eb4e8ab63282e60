/- Contracts of the document's SvcName and SvcPort. -/
import Derived.Test.YtmnahgeledddhaaVo
import Derived.BigQuiet
namespace Go.Tx
open Go.RowKit
theorem portAt_none {R : List Svc} {i : Nat} {r : Svc} {k : List UInt8 × List UInt8} (h : R[i]? = some r) (h0 : portAt (R.take i) k = none) (hne : ¬ ((k.2 = [] ∨ k.2 = r.2.2) ∧ k.1 ∈ r.1)) : portAt (R.take (i + 1)) k = none := by
  rw [takeH h, portAt_one, h0]; simp only; rw [if_neg hne]
theorem find_hit {α : Type} {R : List α} {i : Nat} {r : α} {p : α → Bool} (h : R[i]? = some r) (h0 : (R.take i).find? p = none) (hp : p r = true) : R.find? p = some r := by
  have e : R = R.take i ++ r :: R.drop (i + 1) := by
    have hi := (List.getElem?_eq_some_iff.1 h).1
    have h2 := (List.getElem?_eq_some_iff.1 h).2
    rw [← h2, List.getElem_cons_drop, List.take_append_drop]
  rw [e, List.find?_append, h0]
  simp [List.find?, hp]
theorem portAt_hit {R : List Svc} {i : Nat} {r : Svc} {k : List UInt8 × List UInt8} (h : R[i]? = some r) (h0 : portAt (R.take i) k = none) (hp : (k.2 = [] ∨ k.2 = r.2.2) ∧ k.1 ∈ r.1) : portAt R k = some r.2.1 := by
  unfold portAt at h0 ⊢
  rw [Option.map_eq_none_iff] at h0
  rw [find_hit h h0 (decide_eq_true hp)]; rfl
theorem namesOn_none {R : List Svc} {i : Nat} {r : Svc} {k : Int × List UInt8} (h : R[i]? = some r) (h0 : namesOn (R.take i) k = none) (hne : ¬ (r.2.1 = k.1 ∧ (k.2 = [] ∨ k.2 = r.2.2))) : namesOn (R.take (i + 1)) k = none := by
  rw [takeH h, namesOn_one, h0]; simp only; rw [if_neg hne]
theorem namesOn_hit {R : List Svc} {i : Nat} {r : Svc} {k : Int × List UInt8} (h : R[i]? = some r) (h0 : namesOn (R.take i) k = none) (hp : r.2.1 = k.1 ∧ (k.2 = [] ∨ k.2 = r.2.2)) : namesOn R k = some r.1 := by
  unfold namesOn at h0 ⊢
  rw [Option.map_eq_none_iff] at h0
  rw [find_hit h h0 (decide_eq_true hp)]; rfl
end Go.Tx
namespace Go.Proofs.Ytmnahgeledddhaa
open Go.RowKit Go.Lib Go.Tx
theorem ba_ne {x y : List UInt8} {xb yb : ByteArray} (hx : (⟨x.toArray⟩ : ByteArray) = xb) (hy : (⟨y.toArray⟩ : ByteArray) = yb) (h : ¬ x = y) : ¬ xb = yb ∧ (xb.toList == yb.toList) = false := by
  have hne : ¬ xb = yb := fun e => h (by
    rw [← hx, ← hy] at e
    exact congrArg (fun b : ByteArray => b.data.toList) e)
  exact ⟨hne, beq_eq_false_iff_ne.2 (by rw [Go.Lib.toList_data, Go.Lib.toList_data]; exact fun e => hne (ByteArray.ext (Array.ext' e)))⟩
theorem map_low_nil (t : ByteArray) : t.data.toList.map low = [] ↔ t = ⟨#[]⟩ := by
  constructor
  · intro h
    have h2 : t.data.toList = [] := by simpa using h
    cases t; simp at h2; simp [h2]
  · rintro rfl; rfl
theorem not_nil {t : ByteArray} (h : ¬ t = ⟨#[]⟩) : t.toList.isEmpty = false := (nil_or t h).2
def NameR (w : World) (X : Option Int) (e : Ending) (w' : World) : Prop := e = .returned (.tuple #[.int .i64 (X.getD 0), .bool X.isSome]) ∧ Below w.heap.size w w'
set_option maxHeartbeats 4000000 in
set_option maxRecDepth 100000 in
theorem svcName_ref {B : Nat} {v : Value} {R : List Svc} (s t : ByteArray) (w : World) (h : SvcsC B w v R) (hR : R.length ≤ 1000000) (hF : ∀ r ∈ R, r.1.length ≤ 1000) (ht : t.size ≤ maxLen) :
    Calls Try.prog 13 #[v, .string s, .string t] w (NameR w (svcN R s.data.toList t.data.toList)) := by
  obtain ⟨p, cap, rfl, hcap, hmax, _⟩ := h.read
  have HRs := Lib.hid h
  have HF := Lib.hid hF
  have HFo := Lib.hid (fun W => rfold_any t W ht)
  clear h hF
  obtain ⟨tb, htb⟩ : ∃ q : ByteArray, (⟨(t.data.toList.map low).toArray⟩ : ByteArray) = q := ⟨_, rfl⟩
  rw [htb] at HFo
  have HTb := Lib.hid htb
  clear htb
  go_enter Try.func13, Try.ntmps13
  go_wp2
  go_loopw [8] (fun iv wr => ∃ k : Nat, k ≤ R.length ∧ iv = .int .i64 k ∧ portAt (R.take k) (s.data.toList, t.data.toList.map low) = none ∧ Below w.heap.size w wr) (fun iv _ => R.length - (intOf iv).toNat)
  case atStart => exact ⟨0, Nat.zero_le _, rfl, rfl, Below.refl _ _⟩
  case round =>
    obtain ⟨k, hk, rfl, hno, hbr⟩ := hrel
    by_cases hlt : k < R.length
    · obtain ⟨⟨f, n, q⟩, hx⟩ : ∃ x, R[k]? = some x := ⟨_, List.getElem?_eq_getElem hlt⟩
      have hfl := HF.out (f, n, q) (List.mem_of_getElem? hx)
      simp only at hfl
      have HC : Hid (∀ W, Below w.heap.size w W → ∃ g nq nc, p = some ⟨g, 0, none⟩ ∧ W.cell? ⟨g, k * 3, none⟩ = some (.slice nq f.length nc) ∧ StrC B W (.slice nq f.length nc) f ∧ W.cell? ⟨g, k * 3 + 1, none⟩ = some (.int .i64 n) ∧ W.cell? ⟨g, k * 3 + 2, none⟩ = some (.string ⟨q.toArray⟩)) := Lib.hid (fun W hW => by
        obtain ⟨p', cap', e, _, _, hrd⟩ := (HRs.out.below hW).read
        cases e
        obtain ⟨g, hp, hgl, ⟨nq, nc, h1, h2⟩, h3, h4⟩ := hrd k f n q hx
        exact ⟨g, nq, nc, hp, by rw [Nat.mul_comm]; exact h1, h2, by rw [Nat.mul_comm]; exact h3, by rw [Nat.mul_comm]; exact h4⟩)
      have HNone := Lib.hid (portAt_none (k := (s.data.toList, t.data.toList.map low)) hx hno)
      have HHit := Lib.hid (portAt_hit (k := (s.data.toList, t.data.toList.map low)) hx hno)
      simp only at HNone HHit
      have HBr := Lib.hid hbr
      have hk0 : (0 : Int) ≤ (k : Int) := by omega
      have hki : (k : Int) < (R.length : Int) := by omega
      clear hx hno hbr
      obtain ⟨g, nq, nc, rfl, hg0, hst, hg1, hg2⟩ := HC.out wr HBr.out
      clear hst
      obtain ⟨qb, hqb⟩ : ∃ b : ByteArray, (⟨q.toArray⟩ : ByteArray) = b := ⟨_, rfl⟩
      rw [hqb] at hg2
      have HQb := Lib.hid hqb
      have HK : Hid (wr.drew.cell? ⟨g, k * 3 + 2, none⟩ = some (.string qb)) := Lib.hid hg2
      by_cases hq : t = ⟨#[]⟩ ∨ q = t.data.toList.map low
      · have hkey : (t.data.toList.map low = [] ∨ t.data.toList.map low = q) := by
          rcases hq with e | e
          · exact .inl ((map_low_nil t).2 e)
          · exact .inr e.symm
        have HKey := Lib.hid hkey
        go_upto_region 4 with (fail)
        go_cut [27] from 10 to 52 (fun bv wx => bv = .bool false ∧ Below w.heap.size w wx)
        case first =>
          by_cases h0 : t = ⟨#[]⟩
          · subst h0
            go_quiet (fail)
            go_wp2
            go_meet
            exact ⟨rfl, below_drewN' HBr.out _⟩
          · have hq2 : qb = tb := by
              rcases hq with e | e
              · exact absurd e h0
              · rw [← hqb, ← HTb.out, e]
            have h0' := not_nil h0
            subst hq2
            clear hq hqb hkey
            go_region_held3 (fun w' => w'.cell? ⟨g, k * 3 + 2, none⟩ = some (.string qb)) (first | with_reducible exact HK.out) (first | (go_at_call 27; refine (HFo.out _).mono ?_; rintro e w7 ⟨rfl, hb7⟩; have HB7 : Hid (Below w.heap.size w w7) := Lib.hid (HBr.out.trans (((Below.refl wr.heap.size wr).drew.trans hb7).mono HBr.out.size)); have HK : Hid (w7.cell? ⟨g, k * 3 + 2, none⟩ = some (.string qb)) := Lib.hid (by obtain ⟨g', nq', nc', e', _, _, _, h4⟩ := HC.out w7 HB7.out; cases e'; rw [← HQb.out]; exact h4)))
            all_goals
              go_wp2
              go_meet
              exact ⟨by simp, HB7.out⟩
        case rest =>
          obtain ⟨rfl, hbc⟩ := hcut
          clear hq hqb HK hkey hg0 hg1 hg2
          go_wp2
          go_loopw [9] (fun jv wq => ∃ j : Nat, j ≤ f.length ∧ jv = .int .i64 j ∧ s.data.toList ∉ f.take j ∧ Below w.heap.size w wq) (fun jv _ => f.length - (intOf jv).toNat)
          case atStart => exact ⟨0, Nat.zero_le _, rfl, by simp, hbc⟩
          case round =>
            obtain ⟨j, hj, rfl, hni, hbq⟩ := hrel
            obtain ⟨g', nq', nc', e', hh0, hst, hh1, _⟩ := HC.out _ hbq
            cases e'
            obtain ⟨_, c', e', hfc, hfm, hrf⟩ := StrC.read hst
            cases e'
            by_cases hjl : j < f.length
            · obtain ⟨x, hxj⟩ : ∃ x, f[j]? = some x := ⟨_, List.getElem?_eq_getElem hjl⟩
              obtain ⟨A, rfl, hAl, hcx⟩ := hrf j x hxj
              obtain ⟨xb, hxb⟩ : ∃ b : ByteArray, (⟨x.toArray⟩ : ByteArray) = b := ⟨_, rfl⟩
              rw [hxb] at hcx
              by_cases he : x = s.data.toList
              · have HX : Hid (svcN R s.data.toList t.data.toList = some n) := Lib.hid (HHit.out ⟨HKey.out, by rw [← he]; exact List.mem_of_getElem? hxj⟩)
                obtain rfl : xb = s := hxb.symm.trans (by rw [he, bk s])
                clear hrf hst hni hxj hxb
                go_wp2
                go_ret2
                exact ⟨by rw [HX.out]; rfl, hbq⟩
              · obtain ⟨n1, n2⟩ := ba_ne hxb (bk s) he
                have HNi : Hid (s.data.toList ∉ f.take (j + 1)) := Lib.hid (by rw [takeH hxj]; simp only [List.mem_append, List.mem_singleton, not_or]; exact ⟨hni, fun e => he e.symm⟩)
                clear hrf hst hni hxj hxb he
                go_wp2
                go_roundw
                case rel => exact ⟨j + 1, hjl, by go_num, HNi.out, hbq⟩
                case measure => simp [intOf]; omega
            · obtain rfl : j = f.length := by omega
              rw [List.take_length] at hni
              have HNx := Lib.hid (HNone.out (fun e => hni e.2))
              clear hrf hst hni
              go_wp2
              go_roundw
              case rel => exact ⟨k + 1, hlt, by go_num, HNx.out, hbq⟩
              case measure => simp [intOf]; omega
      · have h0 : ¬ t = ⟨#[]⟩ := fun e => hq (.inl e)
        have h0' := not_nil h0
        obtain ⟨n1, n2⟩ := ba_ne HTb.out hqb (fun e => hq (.inr e.symm))
        have HNx := Lib.hid (HNone.out (fun e => by
          rcases e.1 with e | e
          · exact h0 ((map_low_nil t).1 e)
          · exact hq (.inr e.symm)))
        clear hq hqb hg0 hg1
        go_upto_region 4 with (fail)
        go_cut [27] from 10 to 52 (fun bv wx => bv = .bool true ∧ Below w.heap.size w wx)
        case first =>
          go_region_held3 (fun w' => w'.cell? ⟨g, k * 3 + 2, none⟩ = some (.string qb)) (first | with_reducible exact HK.out) (first | (go_at_call 27; refine (HFo.out _).mono ?_; rintro e w7 ⟨rfl, hb7⟩; have HB7 : Hid (Below w.heap.size w w7) := Lib.hid (HBr.out.trans (((Below.refl wr.heap.size wr).drew.trans hb7).mono HBr.out.size)); have HK : Hid (w7.cell? ⟨g, k * 3 + 2, none⟩ = some (.string qb)) := Lib.hid (by obtain ⟨g', nq', nc', e', _, _, _, h4⟩ := HC.out w7 HB7.out; cases e'; rw [← HQb.out]; exact h4)))
          all_goals
            go_wp2
            go_meet
            exact ⟨by simp [n2], HB7.out⟩
        case rest =>
          obtain ⟨rfl, hbc⟩ := hcut
          go_wp2
          go_roundw
          case rel => exact ⟨k + 1, hlt, by go_num, HNx.out, hbc⟩
          case measure => simp [intOf]; omega
    · obtain rfl : k = R.length := by omega
      rw [List.take_length] at hno
      have HNo : Hid (svcN R s.data.toList t.data.toList = none) := Lib.hid hno
      clear hno
      go_wp2
      go_ret2
      exact ⟨by rw [HNo.out]; rfl, hbr⟩
end Go.Proofs.Ytmnahgeledddhaa
