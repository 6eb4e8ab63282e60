/- Slices of texts: appended to, whatever the source. -/
import Derived.Test.YtmnahgeledddhaaChecked
import Derived.Test.YtmnahgeledddhaaGs
import Derived.Laws.AppendOwnNone
import Derived.OwnWalk
namespace Go.Proofs.Ytmnahgeledddhaa
open Go.RowKit Go.Lib Go.Tx
/-- A value that reads as texts. -/
def TextsIn (w : World) (v : Value) (zs : List (List UInt8)) : Prop :=
  (v = .slice none 0 0 ∧ zs = []) ∨ ∃ ad c, v = .slice (some ad) zs.length c ∧ ∀ (i : Nat) l, zs[i]? = some l → w.cell? (ad.add i) = some (strV l)
theorem StrC.texts {B : Nat} {w : World} {v : Value} {ws : List (List UInt8)} (h : StrC B w v ws) : TextsIn w v ws := by
  rcases h.2 with ⟨a, b⟩ | ⟨g, cap, cur, a, a2, a3, a4, a5, a6⟩
  · refine .inl ⟨a, ?_⟩
    have := h.1
    cases ws
    · rfl
    · simp at b
  · refine .inr ⟨⟨g, 0, none⟩, cap, a, fun i l hi => ?_⟩
    have := World.ownsRow.cells h (g := g) (by rw [a]; rfl) i (strV l) (by rw [List.getElem?_map, hi]; rfl)
    exact this
theorem TextsIn.below {w w' : World} {v : Value} {zs : List (List UInt8)} (h : TextsIn w v zs) (hb : Below w.heap.size w w') : TextsIn w' v zs := by
  rcases h with h | ⟨ad, c, h1, h2⟩
  · exact .inl h
  · refine .inr ⟨ad, c, h1, fun i l hi => ?_⟩
    have hc := h2 i l hi
    have hlt : (ad.add i).block < w.heap.size := by
      unfold World.cell? at hc
      split at hc
      · rename_i hh
        exact (Array.getElem?_eq_some_iff.1 hh).1
      · cases hc
    rw [hb.cell hlt]
    exact hc
theorem infoStr : (Try.prog.info? 9).map (fun i => (i.zero, i.size, i.bytes)) = some (some (.string ⟨#[]⟩), 1, 16) := by kernel_rfl
theorem wpList_append_texts {w : World} {ops : Array Oper} {rest : List Oper} {o : Oper} {a : Act} {Q : Exit → Act → World → Prop} (hgd : o.guard = none) (s x : Operand)
    (ho : o.op = .call { callee := .builtin .append, args := #[s, x], argTypes := #[34, 34] }) {B : Nat} {v y : Value} {ws zs : List (List UInt8)} (hs : a.eval s = v) (hx : a.eval x = y) (hown : StrC B w v ws) (hsrc : TextsIn w y zs)
    (hlen : ws.length + zs.length ≤ 1000000) (hB : B ≤ w.heap.size) (h : ∀ v' w', StrC B w' v' (ws ++ zs) → Below B w w' → wpList Try.prog ops Q rest (a.put o.dst v') w') : wpList Try.prog ops Q (o :: rest) a w := by
  obtain ⟨i9, hi, hz0, hz1, hz2⟩ := info_parts infoStr
  rcases hsrc with ⟨rfl, rfl⟩ | ⟨ad, c, rfl, hcell⟩
  · exact wpList_append_own_none hgd s x 34 ho B 9 i9 1 Try.underlying34 hi v ws.length (ws.map strV) hs hown hx (h v w (by rw [List.append_nil]; exact hown) (Below.refl B w))
  · refine wpList_append_own w hgd s x 34 ho B 9 i9 (.string ⟨#[]⟩) 1 16 Try.underlying34 hi hz0 hz1 hz2 rfl (by decide) v ws.length (ws.map strV) hs hown ad zs.length c (zs.map strV) hx (by simp) (fun j u hj => ?_) ?_ (by unfold maxLen; omega) (by omega) hB fun v' w' h1 h2 h3 => ?_
    · rw [List.getElem?_map] at hj
      obtain ⟨l, hl, rfl⟩ := Option.map_eq_some_iff.1 hj
      exact hcell j l hl
    · intro u hu
      obtain ⟨l, _, rfl⟩ := List.mem_map.1 hu
      rfl
    · refine h v' w' ?_ ?_
      · unfold StrC
        rw [List.length_append, List.map_append]
        exact h1
      · exact (Below.refl B w).grown h2 hB (fun g hg => (World.ownsRow.lt hown g hg).1)
end Go.Proofs.Ytmnahgeledddhaa
