/- The world's Cut, said by what the files hold: a synced count, bytes, the bytes ahead of each write. -/
import Derived.Test.YtfpgobbkeocokaaDl
import Derived.Test.YtfpgobbkeocokaaDh
namespace Go.Proofs.Ytfpgobbkeocokaa
open Go.RowKit Go.Mp Go.Rb Go.Lib
def fstB (L : List (ByteArray × List UInt8)) (t : ByteArray) : Option (List UInt8) := (L.find? fun e => decide (e.1 = t)).map (·.2)
theorem fstB_cons (nm t : ByteArray) (v : List UInt8) (L : List (ByteArray × List UInt8)) : fstB ((nm, v) :: L) t = if t = nm then some v else fstB L t := by
  unfold fstB
  by_cases h : t = nm
  · subst h; simp
  · have h2 : ¬ nm = t := fun e => h e.symm
    simp [h, h2]
theorem fst_pair {R : Value → List UInt8 → Prop} : ∀ (V : List (ByteArray × Value)) (UL : List (ByteArray × List UInt8)), UL.length = V.length → (∀ (j : Nat) e l, V[j]? = some e → UL[j]? = some l → e.1 = l.1 ∧ R e.2 l.2) → ∀ t, (fstV V t = none ∧ fstB UL t = none) ∨ ∃ v l, fstV V t = some v ∧ fstB UL t = some l ∧ R v l
  | [], [], _, _, _ => .inl ⟨rfl, rfl⟩
  | [], _ :: _, h, _, _ => by cases h
  | _ :: _, [], h, _, _ => by cases h
  | (nm, v) :: V, (nb, l) :: UL, h, hr, t => by
    obtain ⟨h1, h2⟩ := hr 0 _ _ rfl rfl
    dsimp only at h1 h2
    subst h1
    rw [fstV_cons, fstB_cons]
    by_cases ht : t = nm
    · rw [if_pos ht, if_pos ht]; exact .inr ⟨v, l, rfl, rfl, h2⟩
    · rw [if_neg ht, if_neg ht]; exact fst_pair V UL (Nat.succ.inj h) (fun j e l he hl => hr (j + 1) e l he hl) t
section
variable {w : World} {b B K : Nat} {c : Value × Value × Value × Value × Value} {mp : Option Nat} {D : DataW Value} {syn : Nat} {V : List (ByteArray × Value)} {p : Option Addr} {cap : Nat} {F : ByteArray → List UInt8} {UL : List (ByteArray × List UInt8)}
theorem DI.ahead (h : DI w b B K c mp D syn V p cap F UL) (k : Nat) (t : ByteArray) (ht : t.size ≤ maxLen) : RB B w ((fstV (V.drop k) t).getD (valOf D t)) ((fstB (UL.drop k) t).getD (F t)) := by
  rcases fst_pair (R := RB B w) (V.drop k) (UL.drop k) (by simp [h.len]) (fun j e l he hl => h.old (k + j) e l (by simpa using he) (by simpa using hl)) t with ⟨h1, h2⟩ | ⟨v, l, h1, h2, hr⟩
  · rw [h1, h2]; exact h.body t ht
  · rw [h1, h2]; exact hr
theorem RB.of_nil {B : Nat} {w : World} {l : List UInt8} (h : RB B w nilS l) : l = [] := by
  rcases h with ⟨_, h⟩ | ⟨g, cp, e, _⟩
  · exact h
  · cases e
theorem DI.ahead_none (h : DI w b B K c mp D syn V p cap F UL) (k : Nat) (t : ByteArray) (ht : t.size ≤ maxLen) (hx : Go.Maps.has D (keyL t) = false) : (fstB (UL.drop k) t).getD (F t) = [] := by
  have hr := h.ahead k t ht
  have hv : fstV (V.drop k) t = none := by
    cases hf : fstV (V.drop k) t with
    | none => rfl
    | some v =>
      exfalso
      unfold fstV at hf
      obtain ⟨e, he, _⟩ := Option.map_eq_some_iff.1 hf
      have hm := List.mem_of_find?_eq_some he
      have hn := List.find?_some he
      obtain ⟨j, hj⟩ := List.getElem?_of_mem hm
      have := (h.named (k + j) e (by simpa using hj)).2.1
      rw [of_decide_eq_true hn, hx] at this
      cases this
  rw [hv, Option.getD_none, valOf_none hx] at hr
  exact RB.of_nil hr
theorem DI.congr (h : DI w b B K c mp D syn V p cap F UL) {F' : ByteArray → List UInt8} (hF : ∀ s, s.size ≤ maxLen → F' s = F s) : DI w b B K c mp D syn V p cap F' UL :=
  ⟨h.wd, h.base, h.map, h.undo, fun s hs => by rw [hF s hs]; exact h.body s hs, h.len, h.old, h.apart, h.elder, h.named⟩
theorem wcut_bytes {now stamp : Int} {sent streams : Value} (h : DI w b B K (.int .i64 now, .int .i64 stamp, .map none, sent, streams) mp D syn V p cap F UL) (n : Int) (hn : -9223372036854775808 ≤ n ∧ n ≤ 9223372036854775807) (hsyn : syn ≤ 100000) (hU : UL.length ≤ 100000) (hK : K ≤ 1000000)
    (hlen : ∀ k t, t.size ≤ maxLen → ((fstB (UL.drop k) t).getD (F t)).length ≤ 1000000) (N : Nat) (hN : min (max n (syn : Int)) ((syn : Int) + (UL.length : Int)) = (N : Int)) :
    Calls Try.prog 24 #[.pointer (some ⟨b, 0, none⟩), .int .i64 n] w fun e w' => ∃ bn mf, ∃ D' : DataW Value, e = .returned (.pointer (some ⟨bn, 0, none⟩)) ∧ w.heap.size ≤ bn ∧ DI w' bn w.heap.size K (.int .i64 now, .int .i64 stamp, .map none, .slice none 0 0, .slice none 0 0) (some mf) D' N [] none 0 (fun t => (fstB (UL.drop (N - syn)) t).getD (F t)) [] ∧ Below w.heap.size w w' := by
  refine (wcut_any h n hn hsyn (h.len ▸ hU) hK (fun t => (fstB (UL.drop (N - syn)) t).getD (F t)) N (fun t ht _ => ⟨h.ahead _ t ht, hlen _ t ht⟩) (h.len ▸ hN)).mono ?_
  rintro e w' ⟨bn, mf, D', he, hb, hw, hm, ⟨left, hO, hl⟩, hbl⟩
  refine ⟨bn, mf, D', he, hb, (OutD.di hw hb hm hO hl).congr (fun s hs => ?_), hbl⟩
  cases hx : Go.Maps.has D (keyL s) with
  | true => simp
  | false => simpa using h.ahead_none (N - syn) s hs hx
theorem wcut_dks {now stamp : Int} {sent streams : Value} (h : DKS w b B K (.int .i64 now, .int .i64 stamp, .map none, sent, streams) syn F UL) (n : Int) (hn : -9223372036854775808 ≤ n ∧ n ≤ 9223372036854775807) (hsyn : syn ≤ 100000) (hU : UL.length ≤ 100000) (hK : K ≤ 1000000)
    (hlen : ∀ k t, t.size ≤ maxLen → ((fstB (UL.drop k) t).getD (F t)).length ≤ 1000000) (N : Nat) (hN : min (max n (syn : Int)) ((syn : Int) + (UL.length : Int)) = (N : Int)) :
    Calls Try.prog 24 #[.pointer (some ⟨b, 0, none⟩), .int .i64 n] w fun e w' => ∃ bn, e = .returned (.pointer (some ⟨bn, 0, none⟩)) ∧ w.heap.size ≤ bn ∧ DKS w' bn w.heap.size K (.int .i64 now, .int .i64 stamp, .map none, .slice none 0 0, .slice none 0 0) N (fun t => (fstB (UL.drop (N - syn)) t).getD (F t)) [] ∧ Below w.heap.size w w' := by
  obtain ⟨mp, D, V, p, cap, hd⟩ := h
  refine (wcut_bytes hd n hn hsyn hU hK hlen N hN).mono ?_
  rintro e w' ⟨bn, mf, D', he, hb, hd', hbl⟩
  exact ⟨bn, he, hb, ⟨_, _, _, _, _, hd'⟩, hbl⟩
end
end Go.Proofs.Ytfpgobbkeocokaa
