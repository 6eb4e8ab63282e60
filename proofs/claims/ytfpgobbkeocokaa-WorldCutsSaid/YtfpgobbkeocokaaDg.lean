/- The disk's state behind an append in place, and behind a write; contract of extend. -/
import Derived.Test.YtfpgobbkeocokaaDf
import Derived.Deep.CutRange
namespace Go.Proofs.Ytfpgobbkeocokaa
open Go.RowKit Go.Mp Go.Rb Go.Lib
theorem MapD.isMap {w : World} {B K : Nat} {mp : Option Nat} {D : DataW Value} (h : MapD w B K mp D) : Go.Maps.IsMap D := by
  rcases h with ⟨_, rfl⟩ | ⟨m', N, e, _, h, _⟩
  · exact Go.Maps.isMap_empty
  · exact h.isMap
def updF (F : ByteArray → List UInt8) (s : ByteArray) (l : List UInt8) : ByteArray → List UInt8 := fun t => if t = s then l else F t
theorem RB.kg {B : Nat} {w w' : World} {v : Value} {l : List UInt8} {g n : Nat} (h : RB B w v l) (hk : KG g n w w') (hn : ∀ a m c, v = .slice (some a) m c → a.block = g → m ≤ n) : RB B w' v l := by
  rcases h with h | ⟨b, cp, rfl, hB, hc, hr⟩
  · exact .inl h
  · exact .inr ⟨b, cp, rfl, hB, hc, hr.kg hk (fun e => hn _ _ _ rfl e)⟩
section
variable {w : World} {b B K : Nat} {c : Value × Value × Value × Value × Value} {mp : Option Nat} {D : DataW Value} {syn : Nat} {V : List (ByteArray × Value)} {p : Option Addr} {cap : Nat} {F : ByteArray → List UInt8} {UL : List (ByteArray × List UInt8)}
theorem DI.kg (h : DI w b B K c mp D syn V p cap F UL) {s : ByteArray} (hs : s.size ≤ maxLen) {a : Addr} {n c0 : Nat} (hv : valOf D s = .slice (some a) n c0) {w' : World} (hk : KG a.block n w w') : DI w' b B K c mp D syn V p cap F UL := by
  have hb := h.body s hs
  rw [hv] at hb
  obtain ⟨_, _, _, _, _, cur, fr, hcur⟩ := RB.obj hb
  obtain ⟨n1, n2, n3⟩ := h.other hcur
  exact {
    wd := h.wd.same (hk.block b h.wd.lt (fun e => n1 e.symm))
    base := h.base
    map := h.map.same (fun m e => hk.block m (by subst e; exact h.map.lt) (fun e2 => n2 (by rw [e, e2])))
    undo := by
      obtain ⟨h1, h2⟩ := h.undo
      refine ⟨h1, h2.imp id (fun ⟨g, cp, cur, e, hB, hg, h3⟩ => ⟨g, cp, cur, e, hB, (hk.block g (Array.getElem?_eq_some_iff.1 hg).1 (fun e2 => ?_)).trans hg, h3⟩)⟩
      injection e with e3 e4 e5
      exact n3 _ e3 e2.symm
    body := fun t ht => RB.kg (h.body t ht) hk (fun a' m' c' e e2 => by
      by_cases hts : t = s
      · subst hts
        rw [hv] at e
        cases e
        exact Nat.le_refl _
      · exact absurd e2 (h.apart t s _ _ _ _ _ _ ht hs hts e hv))
    len := h.len
    old := fun j e l h1 h2 => ⟨(h.old j e l h1 h2).1, RB.kg (h.old j e l h1 h2).2 hk (fun a' m' c' e e2 => h.elder s j _ _ _ _ _ _ _ hs h1 hv e e2.symm)⟩
    apart := h.apart
    elder := h.elder
    named := h.named }
theorem DI.write (h : DI w b B K c mp D syn V p cap F UL) {s : ByteArray} (hs : s.size ≤ maxLen) {a1 : Option Addr} {n1 c1 : Nat} {l1 : List UInt8} (h1 : RB B w (.slice a1 n1 c1) l1) {e : Ending} {w' : World} (hw : WriteR w b B K c mp D syn V p s (.slice a1 n1 c1) e w')
    (hap : ∀ t a n c' a', t.size ≤ maxLen → t ≠ s → valOf D t = .slice (some a) n c' → a1 = some a' → a.block ≠ a'.block)
    (hel : ∀ (j : Nat) x a a' n' c', V[j]? = some x → a1 = some a → x.2 = .slice (some a') n' c' → a.block = a'.block → n' ≤ n1)
    (hes : ∀ a a' n' c', a1 = some a → valOf D s = .slice (some a') n' c' → a.block = a'.block → n' ≤ n1) :
    e = .returned (.tuple #[]) ∧ (∃ mp' D' V' p' cap', DI w' b B (K + 1) c mp' D' syn V' p' cap' (updF F s l1) (UL ++ [(s, F s)]) ∧ V'.length = V.length + 1) ∧ w'.os = w.os ∧ w'.tape = w.tape ∧ w'.output = w.output ∧ w.heap.size ≤ w'.heap.size ∧ (B ≤ w.heap.size → ∀ k, k < B → w'.heap[k]? = w.heap[k]?) := by
  obtain ⟨he, g, cap', m', k1, k2, k3, k4, k5, k6, k7, k8, k9, k10⟩ := hw
  have keep : ∀ v l, RB B w v l → RB B w' v l := fun v l hr => RB.same hr (fun a n c' e => by
    subst e
    obtain ⟨_, _, _, _, _, cur, fr, hcur⟩ := RB.obj hr
    obtain ⟨x1, x2, x3⟩ := h.other hcur
    exact k10 _ (Array.getElem?_eq_some_iff.1 hcur).1 x1 x2 x3)
  have hvs : valOf (D.put (keyL s) (.held (.slice a1 n1 c1))) s = .slice a1 n1 c1 := valOf_put_same h.map.isMap s a1 n1 c1
  have hvo : ∀ t, t ≠ s → valOf (D.put (keyL s) (.held (.slice a1 n1 c1))) t = valOf D t := fun t ht => valOf_put_other ht _
  refine ⟨he, ⟨some m', D.put (keyL s) (.held (.slice a1 n1 c1)), V ++ [(s, valOf D s)], some ⟨g, 0, none⟩, cap', ?_, by simp⟩, k6, k7, k8, k9, fun hBs k hk => k10 k (by omega) (by have := h.base; omega) (fun e => ?_) (fun q e => ?_)⟩
  · exact {
      wd := by rw [List.length_append]; exact k1
      base := h.base
      map := k3
      undo := k2
      body := fun t ht => by
        unfold updF
        by_cases hts : t = s
        · subst hts
          rw [hvs, if_pos rfl]
          exact keep _ _ h1
        · rw [hvo t hts, if_neg hts]
          exact keep _ _ (h.body t ht)
      len := by rw [List.length_append, List.length_append, h.len]; rfl
      old := fun j x l hj hl => by
        by_cases hjl : j < V.length
        · rw [List.getElem?_append_left hjl] at hj
          rw [List.getElem?_append_left (by rw [h.len]; exact hjl)] at hl
          exact ⟨(h.old j x l hj hl).1, keep _ _ (h.old j x l hj hl).2⟩
        · rw [List.getElem?_append_right (by omega)] at hj
          rw [List.getElem?_append_right (by rw [h.len]; omega), h.len] at hl
          obtain hz : j - V.length = 0 := by
            have := (List.getElem?_eq_some_iff.1 hj).1
            simp at this
            omega
          rw [hz] at hj hl
          cases hj
          cases hl
          exact ⟨rfl, keep _ _ (h.body s hs)⟩
      apart := fun t u a n ca a' n' ca' ht hu htu e1 e2 => by
        by_cases hts : t = s
        · subst hts
          rw [hvs] at e1
          rw [hvo u (fun e => htu e.symm)] at e2
          injection e1 with q1
          exact fun e => hap u _ _ _ _ hu (fun e => htu e.symm) e2 q1 e.symm
        · rw [hvo t hts] at e1
          by_cases hus : u = s
          · subst hus
            rw [hvs] at e2
            injection e2 with q1
            exact hap t _ _ _ _ ht hts e1 q1
          · rw [hvo u hus] at e2
            exact h.apart t u _ _ _ _ _ _ ht hu htu e1 e2
      elder := fun t j x a n ca a' n' ca' ht hj e1 e2 e3 => by
        by_cases hjl : j < V.length
        · rw [List.getElem?_append_left hjl] at hj
          by_cases hts : t = s
          · subst hts
            rw [hvs] at e1
            injection e1 with q1 q2
            subst q2
            exact hel j x a a' n' ca' hj q1 e2 e3
          · rw [hvo t hts] at e1
            exact h.elder t j x _ _ _ _ _ _ ht hj e1 e2 e3
        · rw [List.getElem?_append_right (by omega)] at hj
          obtain hz : j - V.length = 0 := by
            have := (List.getElem?_eq_some_iff.1 hj).1
            simp at this
            omega
          rw [hz] at hj
          cases hj
          by_cases hts : t = s
          · subst hts
            rw [hvs] at e1
            injection e1 with q1 q2
            subst q2
            exact hes a a' n' ca' q1 e2 e3
          · rw [hvo t hts] at e1
            exact absurd e3 (h.apart t s _ _ _ _ _ _ ht hs hts e1 e2)
      named := fun j x hj => by
        by_cases hjl : j < V.length
        · rw [List.getElem?_append_left hjl] at hj
          obtain ⟨q1, q2, q3⟩ := h.named j x hj
          refine ⟨q1, ?_, q3⟩
          by_cases hx : x.1 = s
          · rw [hx]
            exact Go.Maps.has_put_same h.map.isMap (show Go.WideAt.IsKeyLit (keyL s) from trivial) _
          · rw [Go.Maps.has_put_other (fun e => hx (keyL_inj e)) _]
            exact q2
        · rw [List.getElem?_append_right (by omega)] at hj
          obtain hz : j - V.length = 0 := by
            have := (List.getElem?_eq_some_iff.1 hj).1
            simp at this
            omega
          rw [hz] at hj
          cases hj
          exact ⟨hs, Go.Maps.has_put_same h.map.isMap (show Go.WideAt.IsKeyLit (keyL s) from trivial) _, h.map.shape s hs⟩ }
  · subst e
    have := h.map.base
    omega
  · subst e
    have := h.undo.obj.1
    omega
end
end Go.Proofs.Ytfpgobbkeocokaa
