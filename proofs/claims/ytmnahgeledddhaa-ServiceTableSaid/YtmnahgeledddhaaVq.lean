/- Contract of the document's SvcPort. -/
import Derived.Test.YtmnahgeledddhaaVp
namespace Go.Proofs.Ytmnahgeledddhaa
open Go.RowKit Go.Lib Go.Tx
def PortR (B : Nat) (w : World) (X : Option (List (List UInt8))) (e : Ending) (w' : World) : Prop := ∃ v, e = .returned (.tuple #[v, .bool X.isSome]) ∧ StrC B w' v (X.getD []) ∧ Below w.heap.size w w'
set_option maxHeartbeats 4000000 in
set_option maxRecDepth 100000 in
theorem svcPort_ref {B : Nat} {v : Value} {R : List Svc} (pt : Int) (t : ByteArray) (w : World) (h : SvcsC B w v R) (hR : R.length ≤ 1000000) (ht : t.size ≤ maxLen) :
    Calls Try.prog 15 #[v, .int .i64 pt, .string t] w (PortR B w (svcP R pt t.data.toList)) := by
  obtain ⟨p, cap, rfl, hcap, hmax, _⟩ := h.read
  have HRs := Lib.hid h
  have HFo := Lib.hid (fun W => rfold_any t W ht)
  clear h
  obtain ⟨tb, htb⟩ : ∃ q : ByteArray, (⟨(t.data.toList.map low).toArray⟩ : ByteArray) = q := ⟨_, rfl⟩
  rw [htb] at HFo
  have HTb := Lib.hid htb
  clear htb
  go_enter Try.func15, Try.ntmps15
  go_wp2
  go_loopw [8] (fun iv wr => ∃ k : Nat, k ≤ R.length ∧ iv = .int .i64 k ∧ namesOn (R.take k) (pt, t.data.toList.map low) = none ∧ Below w.heap.size w wr) (fun iv _ => R.length - (intOf iv).toNat)
  case atStart => exact ⟨0, Nat.zero_le _, rfl, rfl, Below.refl _ _⟩
  case round =>
    obtain ⟨k, hk, rfl, hno, hbr⟩ := hrel
    by_cases hlt : k < R.length
    · obtain ⟨⟨f, n, q⟩, hx⟩ : ∃ x, R[k]? = some x := ⟨_, List.getElem?_eq_getElem hlt⟩
      have HC : Hid (∀ W, Below w.heap.size w W → ∃ g nq nc, p = some ⟨g, 0, none⟩ ∧ W.cell? ⟨g, k * 3, none⟩ = some (.slice nq f.length nc) ∧ StrC B W (.slice nq f.length nc) f ∧ W.cell? ⟨g, k * 3 + 1, none⟩ = some (.int .i64 n) ∧ W.cell? ⟨g, k * 3 + 2, none⟩ = some (.string ⟨q.toArray⟩)) := Lib.hid (fun W hW => by
        obtain ⟨p', cap', e, _, _, hrd⟩ := (HRs.out.below hW).read
        cases e
        obtain ⟨g, hp, hgl, ⟨nq, nc, h1, h2⟩, h3, h4⟩ := hrd k f n q hx
        exact ⟨g, nq, nc, hp, by rw [Nat.mul_comm]; exact h1, h2, by rw [Nat.mul_comm]; exact h3, by rw [Nat.mul_comm]; exact h4⟩)
      have HNone := Lib.hid (namesOn_none (k := (pt, t.data.toList.map low)) hx hno)
      have HHit := Lib.hid (namesOn_hit (k := (pt, t.data.toList.map low)) hx hno)
      simp only at HNone HHit
      have HBr := Lib.hid hbr
      have hk0 : (0 : Int) ≤ (k : Int) := by omega
      have hki : (k : Int) < (R.length : Int) := by omega
      clear hx hno hbr
      obtain ⟨g, nq, nc, rfl, hg0, hst, hg1, hg2⟩ := HC.out wr HBr.out
      obtain ⟨qb, hqb⟩ : ∃ b : ByteArray, (⟨q.toArray⟩ : ByteArray) = b := ⟨_, rfl⟩
      rw [hqb] at hg2
      have HQb := Lib.hid hqb
      have HK : Hid (wr.drew.cell? ⟨g, k * 3 + 1, none⟩ = some (.int .i64 n) ∧ wr.drew.cell? ⟨g, k * 3 + 2, none⟩ = some (.string qb)) := Lib.hid ⟨hg1, hg2⟩
      clear hst
      by_cases hn : n = pt
      · subst hn
        by_cases hq : t = ⟨#[]⟩ ∨ q = t.data.toList.map low
        · have hkey : (t.data.toList.map low = [] ∨ t.data.toList.map low = q) := by
            rcases hq with e | e
            · exact .inl ((map_low_nil t).2 e)
            · exact .inr e.symm
          have HX : Hid (svcP R n t.data.toList = some f) := Lib.hid (HHit.out ⟨rfl, hkey⟩)
          go_upto_region 4 with (fail)
          go_cut [35] from 9 to 40 (fun bv wx => bv = .bool true ∧ Below w.heap.size w wx)
          case first =>
            by_cases h0 : t = ⟨#[]⟩
            · subst h0
              go_quiet (fail)
              go_wp2
              go_meet
              exact ⟨by simp, below_drewN' HBr.out _⟩
            · have hq2 : qb = tb := by
                rcases hq with e | e
                · exact absurd e h0
                · rw [← hqb, ← HTb.out, e]
              have h0' := not_nil h0
              subst hq2
              clear hq hqb hkey
              go_region_held3 (fun w' => w'.cell? ⟨g, k * 3 + 1, none⟩ = some (.int .i64 n) ∧ w'.cell? ⟨g, k * 3 + 2, none⟩ = some (.string qb)) (first | with_reducible exact HK.out) (first | (go_at_call 27; refine (HFo.out _).mono ?_; rintro e w7 ⟨rfl, hb7⟩; have HB7 : Hid (Below w.heap.size w w7) := Lib.hid (HBr.out.trans (((Below.refl wr.heap.size wr).drew.trans hb7).mono HBr.out.size)); have HK : Hid (w7.cell? ⟨g, k * 3 + 1, none⟩ = some (.int .i64 n) ∧ w7.cell? ⟨g, k * 3 + 2, none⟩ = some (.string qb)) := Lib.hid (by obtain ⟨g', nq', nc', e', _, _, h3, h4⟩ := HC.out w7 HB7.out; cases e'; exact ⟨h3, by rw [← HQb.out]; exact h4⟩)))
              all_goals
                go_wp2
                go_meet
                exact ⟨by simp, HB7.out⟩
          case rest =>
            obtain ⟨rfl, hbc⟩ := hcut
            clear hq hqb HK hkey hg0 hg1 hg2
            obtain ⟨g', nq', nc', e', hh0, hst, hh1, _⟩ := HC.out _ hbc
            cases e'
            have HSt := Lib.hid hst
            clear hst
            go_wp2
            go_ret2
            exact ⟨_, by rw [HX.out]; rfl, by rw [HX.out]; exact HSt.out, hbc⟩
        · have h0 : ¬ t = ⟨#[]⟩ := fun e => hq (.inl e)
          have h0' := not_nil h0
          obtain ⟨n1, n2⟩ := ba_ne HTb.out hqb (fun e => hq (.inr e.symm))
          have HNx := Lib.hid (HNone.out (fun e => by
            rcases e.2 with e | e
            · exact h0 ((map_low_nil t).1 e)
            · exact hq (.inr e.symm)))
          clear hq hqb hg0 hg1
          go_upto_region 4 with (fail)
          go_cut [35] from 9 to 40 (fun bv wx => bv = .bool false ∧ Below w.heap.size w wx)
          case first =>
            go_region_held3 (fun w' => w'.cell? ⟨g, k * 3 + 1, none⟩ = some (.int .i64 n) ∧ w'.cell? ⟨g, k * 3 + 2, none⟩ = some (.string qb)) (first | with_reducible exact HK.out) (first | (go_at_call 27; refine (HFo.out _).mono ?_; rintro e w7 ⟨rfl, hb7⟩; have HB7 : Hid (Below w.heap.size w w7) := Lib.hid (HBr.out.trans (((Below.refl wr.heap.size wr).drew.trans hb7).mono HBr.out.size)); have HK : Hid (w7.cell? ⟨g, k * 3 + 1, none⟩ = some (.int .i64 n) ∧ w7.cell? ⟨g, k * 3 + 2, none⟩ = some (.string qb)) := Lib.hid (by obtain ⟨g', nq', nc', e', _, _, h3, h4⟩ := HC.out w7 HB7.out; cases e'; exact ⟨h3, by rw [← HQb.out]; exact h4⟩)))
            all_goals
              go_wp2
              go_meet
              exact ⟨by simp [n2], HB7.out⟩
          case rest =>
            obtain ⟨rfl, hbc⟩ := hcut
            go_wp2
            go_roundw
            case rel => exact ⟨k + 1, hlt, by go_num, HNx.out, hbc⟩
            case measure => simp [intOf]; omega
      · have HNx := Lib.hid (HNone.out (fun e => hn e.1))
        have hnb : (n == pt) = false := beq_eq_false_iff_ne.2 hn
        clear hqb hg0
        go_upto_region 4 with (fail)
        go_cut [35] from 9 to 40 (fun bv wx => bv = .bool false ∧ Below w.heap.size w wx)
        case first =>
          go_quiet (fail)
          go_wp2
          go_meet
          exact ⟨by simp [hnb], below_drewN' HBr.out _⟩
        case rest =>
          obtain ⟨rfl, hbc⟩ := hcut
          go_wp2
          go_roundw
          case rel => exact ⟨k + 1, hlt, by go_num, HNx.out, hbc⟩
          case measure => simp [intOf]; omega
    · obtain rfl : k = R.length := by omega
      rw [List.take_length] at hno
      have HNo : Hid (svcP R pt t.data.toList = none) := Lib.hid hno
      clear hno
      go_wp2
      go_ret2
      exact ⟨_, by rw [HNo.out]; rfl, by rw [HNo.out]; exact World.ownsRow_nil _ _ _ _, hbr⟩
end Go.Proofs.Ytmnahgeledddhaa
