/- Contract: the words of a line, the document's: the walk. -/
import Derived.Test.YtmnahgeledddhaaRo
import Derived.Test.YtmnahgeledddhaaLe
namespace Go.Proofs.Ytmnahgeledddhaa
open Go.RowKit Go.Lib Go.Tx Go.Proofs
theorem one_cell (w : World) (s : ByteArray) (e : TypeId) : ∀ j u, [Value.string s][j]? = some u → (w.alloc (.cells #[.string s] e)).cell? ((⟨w.heap.size, 0, none⟩ : Addr).add j) = some u := by
  intro j u hj
  have ha : (⟨w.heap.size, 0, none⟩ : Addr).add j = ⟨w.heap.size, j, none⟩ := by unfold Addr.add; split <;> simp_all
  rw [ha, World.cell?_alloc_new]
  simpa using hj
theorem byte_str (w : World) (c : UInt8) : (convert 22 9 (.slice (some ⟨w.heap.size, 0, none⟩) 1 1)).run Try.prog (w.alloc (.cells #[.int .u8 (c.toNat : Int)] 5)) = .ok (.string ⟨#[c]⟩) (w.alloc (.cells #[.int .u8 (c.toNat : Int)] 5)) := by
  have := run_convert_bytes_back (P := Try.prog) (w.alloc (.cells #[.int .u8 (c.toNat : Int)] 5)) 22 9 5 ⟨w.heap.size, 0, none⟩ 1 [c] Try.underlying22 Try.underlying5 Try.underlying9 (fun j hj => by
    have ha : (⟨w.heap.size, 0, none⟩ : Addr).add j = ⟨w.heap.size, j, none⟩ := by unfold Addr.add; split <;> simp_all
    rw [ha, World.cell?_alloc_new]
    have : j = 0 := by simpa using hj
    subst this
    rfl)
  exact this
def OneR (w : World) (ws : List (List UInt8)) (e : Ending) (w' : World) : Prop := ∃ v, e = .returned v ∧ StrC w.heap.size w' v ws ∧ Below w.heap.size w w'
theorem one_long (a : Option Addr) (n c : Nat) (l : List UInt8) (w : World) (h : BA w a n c l) (hn : 512 < n) :
    Calls Try.prog 37 #[.slice a n c] w (OneR w (wordsOf l)) := by
  have hb : Hid (wordsOf l = []) := Lib.hid (by have := h.len; simp [wordsOf, badSeg, this, hn])
  have hcap := h.cap
  have hmax := h.max
  go_enter Try.func37, Try.ntmps37
  go_wp2
  go_ret
  exact ⟨_, rfl, by rw [hb.out]; exact World.ownsRow_nil _ _ _ _, Below.refl _ _⟩
/-- A foreign byte in it. -/
theorem words_for {l : List UInt8} {k : Nat} {b : UInt8} (h : l[k]? = some b) (hb : forB b = true) : wordsOf l = [] := by
  have : l.any forB = true := any_yes l k b h hb
  simp [wordsOf, badSeg, this]
theorem nil_own (B : Nat) (w : World) (ws : List (List UInt8)) (h : ws = []) : StrC B w (.slice none 0 0) ws := by
  subst h; exact World.ownsRow_nil _ _ _ _
theorem forB_hi {c : UInt8} (h : 127 ≤ (c.toNat : Int)) : forB c = true := by
  have : 127 ≤ c.toNat := by omega
  simp [forB, this]
theorem forB_lo {c : UInt8} (h : (c.toNat : Int) < 32) (hb : blankN c.toNat = false) : forB c = true := by
  have : c.toNat < 32 := by omega
  simp [forB, this, hb]
theorem forB_blank {c : UInt8} (h : (c.toNat : Int) < 127) (hb : blankN c.toNat = true) : forB c = false := by
  have : ¬ 127 ≤ c.toNat := by omega
  simp [forB, this, hb]
theorem forB_mid {c : UInt8} (h : (c.toNat : Int) < 127) (h2 : 32 ≤ (c.toNat : Int)) : forB c = false := by
  have h1 : ¬ 127 ≤ c.toNat := by omega
  have h3 : ¬ c.toNat < 32 := by omega
  simp [forB, h1, h3]
/-- The sign, or what stands behind it: nothing turns. -/
theorem _root_.Go.Tx.OneI.stay {l : List UInt8} {w wr : World} {k : Nat} {rest word lv : Value} {s : ByteArray} {b : UInt8} (h : OneI l w k rest word lv wr s) (hb : l[k]? = some b) (hf : forB b = false) (hr : (35 : UInt8) ∈ l.take k ∨ b = 35) : OneI l w (k + 1) (.bool true) word lv wr s :=
  ⟨by rw [decide_eq_true ((mem_snoc hb).2 hr)], h.word, by rw [ust_rest hb hr]; exact h.text, by rw [ust_rest hb hr]; exact h.row, any_snoc hb h.fine hf, h.bel⟩
theorem _root_.Go.Tx.OneI.start (l : List UInt8) (w : World) : OneI l w 0 (.bool false) (.string ⟨#[]⟩) (.slice none 0 0) w ⟨#[]⟩ :=
  ⟨by simp, rfl, rfl, World.ownsRow_nil _ _ _ _, rfl, Below.refl _ _⟩
/-- A blank, no word open. -/
theorem _root_.Go.Tx.OneI.blank0 {l : List UInt8} {w wr : World} {k : Nat} {rest word lv : Value} {s : ByteArray} {b : UInt8} (h : OneI l w k rest word lv wr s) (hb : l[k]? = some b) (hf : forB b = false) (hr : ¬ (35 : UInt8) ∈ l.take k) (h35 : ¬ b = 35) (hbl : blankN b.toNat = true) (hs : s.data.toList = []) : OneI l w (k + 1) (.bool false) (.string ⟨#[]⟩) lv wr ⟨#[]⟩ := by
  have hu : (ust l k).1 = [] := by rw [← h.text]; exact hs
  have e := (ust_step hb hr h35).trans (stepW_nil hbl hu)
  exact ⟨by rw [decide_eq_false (fun hm => by rcases (mem_snoc hb).1 hm with h | h <;> contradiction)], rfl, by rw [e], by rw [e]; exact h.row, any_snoc hb h.fine hf, h.bel⟩
/-- A blank behind a word. -/
theorem _root_.Go.Tx.OneI.blank1 {l : List UInt8} {w wr w' : World} {k : Nat} {rest word lv lv' : Value} {s : ByteArray} {b : UInt8} (h : OneI l w k rest word lv wr s) (hb : l[k]? = some b) (hf : forB b = false) (hr : ¬ (35 : UInt8) ∈ l.take k) (h35 : ¬ b = 35) (hbl : blankN b.toNat = true) (hs : ¬ s.data.toList = [])
    (ho : w'.ownsRow w.heap.size 9 1 lv' ((ust l k).2.length + 1) ((ust l k).2.map strV ++ [.string s])) (hbel : Below w.heap.size w w') : OneI l w (k + 1) (.bool false) (.string ⟨#[]⟩) lv' w' ⟨#[]⟩ := by
  have hu : ¬ (ust l k).1 = [] := by rw [← h.text]; exact hs
  have e := (ust_step hb hr h35).trans (stepW_end hbl hu)
  have hv : Value.string s = strV (ust l k).1 := by rw [← h.text]; unfold strV; simp
  refine ⟨by rw [decide_eq_false (fun hm => by rcases (mem_snoc hb).1 hm with h | h <;> contradiction)], rfl, by rw [e], ?_, any_snoc hb h.fine hf, hbel⟩
  rw [e]
  unfold StrC
  rw [List.length_append, List.map_append]
  rw [hv] at ho
  exact ho
/-- A letter. -/
theorem _root_.Go.Tx.OneI.letter {l : List UInt8} {w wr w' : World} {k : Nat} {rest word lv : Value} {s : ByteArray} {b : UInt8} (h : OneI l w k rest word lv wr s) (hb : l[k]? = some b) (hf : forB b = false) (hr : ¬ (35 : UInt8) ∈ l.take k) (h35 : ¬ b = 35) (hbl : ¬ blankN b.toNat = true)
    (hbel : Below wr.heap.size wr w') : OneI l w (k + 1) (.bool false) (.string (s ++ ⟨#[b]⟩)) lv w' (s ++ ⟨#[b]⟩) := by
  have e := (ust_step hb hr h35).trans (stepW_in hbl)
  refine ⟨by rw [decide_eq_false (fun hm => by rcases (mem_snoc hb).1 hm with h | h <;> contradiction)], rfl, ?_, ?_, any_snoc hb h.fine hf, h.bel.trans (hbel.mono h.bel.size)⟩
  · rw [e]; simp [h.text]
  · rw [e]; exact own_below h.row hbel
end Go.Proofs.Ytmnahgeledddhaa
