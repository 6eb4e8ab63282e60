/- The document's Decode: plain; its contract. -/
import Derived.Test.YtepfeekfglpjoaaDoorWsCb
import Derived.Test.YtepfeekfglpjoaaDoorXbM
import Derived.Test.YtepfeekfglpjoaaDoorWjM
namespace Go.Proofs.YtepfeekfglpjoaaDoor
open Go.RowKit Go.Lib Go.Wi Go.Tx
/-- A record, as the document reads it. -/
def recX (l : List UInt8) (i : Nat) : Option (Rec × Nat) :=
  (nameX l i).bind fun q =>
    let k : Int := (q.2 : Int)
    if nmV l k < 1 ∨ nmV l (k + 2) ≠ 1 ∨ nmV l (k + 4) < 0 ∨ nmV l (k + 6) < 0 ∨ nmV l (k + 8) < 0 then none
    else if (l.length : Int) < k + 10 + nmV l (k + 8) ∨ 2147483647 < nmV l (k + 4) * 65536 + nmV l (k + 6) then none
    else
      let s := (nmV l (k + 8)).toNat
      let d : Option (List UInt8) := if nmV l k = 12 then (match nameX l (q.2 + 10) with
        | some (d, e) => if e = q.2 + 10 + s then some d else none
        | none => none) else some (tk l (q.2 + 10) s)
      d.bind fun d => if fineB (nmV l k) d = true then some (⟨q.1, (nmV l k).toNat, (nmV l (k + 4) * 65536 + nmV l (k + 6)).toNat, d⟩, q.2 + 10 + s) else none
def recsX (l : List UInt8) (i : Nat) : Nat → Option (List Rec × Nat)
  | 0 => some ([], i)
  | k + 1 => (recsX l i k).bind fun q => (recX l q.2).map fun x => (q.1 ++ [x.1], x.2)
theorem recsX_none {l : List UInt8} {i : Nat} : ∀ {k m : Nat}, k ≤ m → recsX l i k = none → recsX l i m = none
  | k, 0, h, hn => by obtain rfl : k = 0 := by omega
                      exact hn
  | k, m + 1, h, hn => by
    by_cases e : k = m + 1
    · rw [← e]; exact hn
    · unfold recsX; rw [recsX_none (by omega) hn]; rfl
theorem nameH_len (l : List UInt8) : ∀ (f lo i : Nat) (s : List UInt8) (en : Option Nat) (m : List UInt8) (j : Nat), nameH l f lo i s en = some (m, j) → m.length ≤ 253
  | 0, _, _, _, _, _, _, h => by cases h
  | f + 1, lo, i, s, en, m, j, h => by
    unfold nameH at h
    generalize (if en = none then i else lo) = lo' at h
    split at h
    · cases h
    · split at h
      · split at h
        · rename_i hb
          cases h
          rw [List.length_map]
          unfold nameB at hb
          simp only [Bool.and_eq_true, decide_eq_true_eq] at hb
          exact hb.1
        · cases h
      · split at h
        · split at h
          · cases h
          · split at h
            · exact nameH_len l f _ _ _ _ m j h
            · cases h
        · split at h
          · cases h
          · split at h
            · split at h
              · cases h
              · split at h
                · exact nameH_len l f _ _ _ _ m j h
                · cases h
            · cases h
theorem nameX_len {l : List UInt8} {i : Nat} {m : List UInt8} {j : Nat} (h : nameX l i = some (m, j)) : m.length ≤ 253 := nameH_len l _ _ _ _ _ _ _ h
theorem nmV_cases (l : List UInt8) (i : Nat) : (i + 2 ≤ l.length ∧ ∃ v : Nat, nmV l (i : Int) = (v : Int) ∧ v < 65536) ∨ (l.length < i + 2 ∧ nmV l (i : Int) = -1) := by
  by_cases h : i + 2 ≤ l.length
  · exact .inl ⟨h, numV (tk l i 2), by unfold nmV; rw [if_pos ⟨by omega, by omega⟩, Int.toNat_natCast], numV_two l i⟩
  · exact .inr ⟨by omega, by unfold nmV; rw [if_neg (by omega)]⟩
/-- A whole message, as the document reads it. -/
def decX (l : List UInt8) : Option Msg :=
  if l.length < 12 ∨ 4096 < l.length then none
  else if nmV l 4 ≠ 1 ∨ 32 < nmV l 6 ∨ nmV l 2 / 2048 % 16 ≠ 0 then none
  else (nameX l 12).bind fun q =>
    if nmV l q.2 < 1 ∨ nmV l (q.2 + 2) ≠ 1 then none
    else (recsX l (q.2 + 4) (nmV l 6).toNat).map fun r =>
      ⟨(nmV l 0).toNat, decide (32768 ≤ nmV l 2), decide (nmV l 2 / 512 % 2 = 1), decide (nmV l 2 / 256 % 2 = 1), (nmV l 2 % 16).toNat, q.1, (nmV l q.2).toNat, r.1⟩
theorem At8.bel {w w' : World} {b : Nat} {arr : Array Value} (h : At8 w b arr) (hb : Below w.heap.size w w') : At8 w' b arr := by
  unfold At8; rw [hb.block b h.lt]; exact h
/-- A record in the making: block b holds these cells. -/
def At4 (w : World) (b : Nat) (arr : Array Value) : Prop := w.heap[b]? = some (.cells arr 48 (0, 0))
theorem At4.new (w : World) (arr : Array Value) : At4 (w.alloc (.cells arr 48 (0, 0))) w.heap.size arr := heap_alloc_new w _
theorem At4.lt {w : World} {b : Nat} {arr : Array Value} (h : At4 w b arr) : b < w.heap.size := (Array.getElem?_eq_some_iff.1 h).1
theorem At4.cell {w : World} {b : Nat} {arr : Array Value} (h : At4 w b arr) {j : Nat} {v : Value} (hj : arr[j]? = some v) : w.cell? ⟨b, j, none⟩ = some v := by unfold At4 at h; simp [World.cell?, h, hj]
theorem At4.free {w : World} {b : Nat} {arr : Array Value} (h : At4 w b arr) (j : Nat) : w.frozen? ⟨b, j, none⟩ = false := by unfold At4 at h; simp [World.frozen?, h]
theorem At4.set {w : World} {b : Nat} {arr : Array Value} (h : At4 w b arr) (k : Nat) (v : Value) : At4 (w.setCell ⟨b, k, none⟩ v) b (arr.setIfInBounds k v) := block_set h v
theorem At4.bel {w w' : World} {b : Nat} {arr : Array Value} (h : At4 w b arr) (hb : Below w.heap.size w w') : At4 w' b arr := by
  unfold At4; rw [hb.block b h.lt]; exact h
theorem own_bel {B : Nat} {e : TypeId} {size n : Nat} {v : Value} {xs : List Value} {w w' : World} (h : w.ownsRow B e size v n xs) (hb : Below w.heap.size w w') : w'.ownsRow B e size v n xs := by
  refine ⟨h.1, ?_⟩
  rcases h.2 with h | ⟨g, cap, cur, h1, h2, h3, h4⟩
  · exact .inl h
  · exact .inr ⟨g, cap, cur, h1, h2, by rw [hb.block g (Array.getElem?_eq_some_iff.1 h3).1]; exact h3, h4⟩
def DecX (w : World) (l : List UInt8) (e : Ending) (w' : World) : Prop :=
  Below w.heap.size w w' ∧ match decX l with
    | some M => ∃ v, e = .returned (.tuple #[M.val v, .bool true]) ∧ RecC w.heap.size w' v M.recs
    | none => e = .returned (.tuple #[.agg zMsg, .bool false])
set_option maxHeartbeats 16000000 in
set_option maxRecDepth 100000 in
theorem xdecode_any (a : Option Addr) (n c : Nat) (l : List UInt8) (w : World) (h : BA w a n c l) (hold : ∀ x, a = some x → x.block < w.heap.size) :
    Calls Tryd.prog 16 #[.slice a n c] w (DecX w l) := by
  have hl := h.len
  have HBA : Hid (∀ W, Below w.heap.size w W → BA W a n c l ∧ ∀ x, a = some x → x.block < W.heap.size) := Lib.hid (fun W hW => ⟨h.kp (p := w.heap.size) (Kp.of hW) (fun x hx => ⟨hold x hx, by have := hold x hx; omega⟩), fun x hx => Nat.lt_of_lt_of_le (hold x hx) hW.size⟩)
  have HNm : Hid (∀ W (i : Int), Below w.heap.size w W → n ≤ 4096 → -1000000 ≤ i ∧ i ≤ 1000000 → Calls Tryd.prog 24 #[.slice a n c, .int .i64 i] W fun e w' => e = .returned (.int .i64 (nmV l i)) ∧ Below W.heap.size W w') := Lib.hid (fun W i hW hn hi => nm_any W a n c l i (HBA.out W hW).1 (by omega) hi)
  have hs1 : (w.alloc (.cells zMsg 26)).heap.size = w.heap.size + 1 := by show (w.heap.push _).size = _; simp
  have hb1 : Below w.heap.size w ((w.alloc (.cells zMsg 26)).alloc (.cells zMsg 26)) := ((Below.refl _ _).alloc (Nat.le_refl _) _).alloc (by rw [hs1]; omega) _
  have hA2 : At8 ((w.alloc (.cells zMsg 26)).alloc (.cells zMsg 26)) w.heap.size zMsg := At8.alloc (show At8 (w.alloc (.cells zMsg 26)) w.heap.size zMsg from heap_alloc_new w _) _
  have hA4 : At8 ((w.alloc (.cells zMsg 26)).alloc (.cells zMsg 26)) (w.heap.size + 1) zMsg := by
    have := heap_alloc_new (w.alloc (.cells zMsg 26)) (.cells zMsg 26)
    rw [hs1] at this; exact this
  have HA2 := Lib.hid hA2
  have HA4 := Lib.hid hA4
  have HB := Lib.hid hb1
  unfold zMsg at HA2 HA4 HB
  clear hA2 hA4 hb1 h hold hs1
  go_enter Tryd.func16, Tryd.ntmps16
  go_upto_region 2 with (fail)
  generalize ((w.alloc (.cells #[.int .i64 0, .bool false, .bool false, .bool false, .int .i64 0, .string ⟨#[]⟩, .int .i64 0, .slice none 0 0] 26)).alloc (.cells #[.int .i64 0, .bool false, .bool false, .bool false, .int .i64 0, .string ⟨#[]⟩, .int .i64 0, .slice none 0 0] 26)) = W1 at *
  by_cases hlen : 12 ≤ n ∧ n ≤ 4096
  · obtain ⟨h12, h4096⟩ := hlen
    have h12i : ¬ (n : Int) < 12 := by omega
    have h4096i : ¬ (4096 : Int) < (n : Int) := by omega
    have hnv : ∀ k : Nat, k + 2 ≤ n → nmV l (k : Int) = ((numV (tk l k 2) : Nat) : Int) := fun k hk => by unfold nmV; rw [if_pos ⟨by omega, by omega⟩, Int.toNat_natCast]
    obtain ⟨v0, hv0, hq0⟩ : ∃ v : Nat, nmV l 0 = (v : Int) ∧ v < 65536 := ⟨_, hnv 0 (by omega), numV_two l 0⟩
    obtain ⟨v2, hv2, hq2⟩ : ∃ v : Nat, nmV l 2 = (v : Int) ∧ v < 65536 := ⟨_, hnv 2 (by omega), numV_two l 2⟩
    obtain ⟨v4, hv4, hq4⟩ : ∃ v : Nat, nmV l 4 = (v : Int) ∧ v < 65536 := ⟨_, hnv 4 (by omega), numV_two l 4⟩
    obtain ⟨v6, hv6, hq6⟩ : ∃ v : Nat, nmV l 6 = (v : Int) ∧ v < 65536 := ⟨_, hnv 6 (by omega), numV_two l 6⟩
    have HDec : Hid (decX l = if (v4 : Int) ≠ 1 ∨ 32 < (v6 : Int) ∨ (v2 : Int) / 2048 % 16 ≠ 0 then none else (nameX l 12).bind fun q =>
        if nmV l q.2 < 1 ∨ nmV l (q.2 + 2) ≠ 1 then none
        else (recsX l (q.2 + 4) v6).map fun r => ⟨v0, decide (32768 ≤ (v2 : Int)), decide ((v2 : Int) / 512 % 2 = 1), decide ((v2 : Int) / 256 % 2 = 1), ((v2 : Int) % 16).toNat, q.1, (nmV l q.2).toNat, r.1⟩) := Lib.hid (by
      unfold decX
      rw [if_neg (by omega), hv0, hv2, hv4, hv6]
      rfl)
    have HN : ∀ (i : Int) (v : Int), nmV l i = v → -1000000 ≤ i ∧ i ≤ 1000000 → Hid (∀ W, Below w.heap.size w W → Calls Tryd.prog 24 #[.slice a n c, .int .i64 i] W fun e w' => e = .returned (.int .i64 v) ∧ Below W.heap.size W w') := fun i v hv hi => Lib.hid (fun W hW => by rw [← hv]; exact HNm.out W i hW h4096 hi)
    have HN0 := HN 0 v0 hv0 (by omega)
    have HN2 := HN 2 v2 hv2 (by omega)
    have HN4 := HN 4 v4 hv4 (by omega)
    have HN6 := HN 6 v6 hv6 (by omega)
    clear hnv hv0 hv2 hv4 hv6
    go_upto_region 5 with (go_at_call 24; with_reducible refine (HN2.out _ HB.out).mono ?_; rintro e w2 ⟨rfl, hb2⟩; have HA2 := Lib.hid (HA2.out.bel hb2); have HA4 := Lib.hid (HA4.out.bel hb2); have HB := Lib.hid (HB.out.trans (hb2.mono HB.out.size)); clear hb2)
    go_upto_region 6 with (go_at_call 24; with_reducible refine (HN6.out _ HB.out).mono ?_; rintro e w3 ⟨rfl, hb2⟩; have HA2 := Lib.hid (HA2.out.bel hb2); have HA4 := Lib.hid (HA4.out.bel hb2); have HB := Lib.hid (HB.out.trans (hb2.mono HB.out.size)); clear hb2)
    by_cases hc4 : v4 = 1
    · subst hc4
      by_cases hc6 : v6 ≤ 32
      · have hc6i : ¬ (32 : Int) < (v6 : Int) := by omega
        by_cases hcf : (v2 : Int) / 2048 % 16 = 0
        · have HDec2 : Hid (decX l = (nameX l 12).bind fun q =>
              if nmV l q.2 < 1 ∨ nmV l (q.2 + 2) ≠ 1 then none
              else (recsX l (q.2 + 4) v6).map fun r => ⟨v0, decide (32768 ≤ (v2 : Int)), decide ((v2 : Int) / 512 % 2 = 1), decide ((v2 : Int) / 256 % 2 = 1), ((v2 : Int) % 16).toNat, q.1, (nmV l q.2).toNat, r.1⟩) := Lib.hid (by rw [HDec.out, if_neg (fun h => by rcases h with h | h | h; exact h rfl; exact hc6i h; exact h hcf)])
          go_upto_region 8 with (go_at_call 24; with_reducible refine (HN4.out _ HB.out).mono ?_; rintro e w4 ⟨rfl, hb2⟩; have HA2 := Lib.hid (HA2.out.bel hb2); have HA4 := Lib.hid (HA4.out.bel hb2); have HB := Lib.hid (HB.out.trans (hb2.mono HB.out.size)); clear hb2)
          go_upto_region 9 with (go_at_call 24; with_reducible refine (HN0.out _ HB.out).mono ?_; rintro e w5 ⟨rfl, hb2⟩; have HA2 := Lib.hid (HA2.out.bel hb2); have HA4 := Lib.hid (HA4.out.bel hb2); have HB := Lib.hid (HB.out.trans (hb2.mono HB.out.size)); clear hb2)
          have HA7 : Hid (At8 (w5.alloc (.cells #[.int .i64 (v0 : Int), .bool (decide (32768 ≤ (v2 : Int))), .bool ((v2 : Int) / 512 % 2 == 1), .bool ((v2 : Int) / 256 % 2 == 1), .int .i64 ((v2 : Int) % 16), .string ⟨#[]⟩, .int .i64 0, .slice none 0 0] 26)) w5.heap.size #[.int .i64 (v0 : Int), .bool (decide (32768 ≤ (v2 : Int))), .bool ((v2 : Int) / 512 % 2 == 1), .bool ((v2 : Int) / 256 % 2 == 1), .int .i64 ((v2 : Int) % 16), .string ⟨#[]⟩, .int .i64 0, .slice none 0 0]) := Lib.hid (heap_alloc_new w5 _)
          have hb47 := HA4.out.lt
          have HA2 := Lib.hid (HA2.out.alloc (.cells #[.int .i64 (v0 : Int), .bool (decide (32768 ≤ (v2 : Int))), .bool ((v2 : Int) / 512 % 2 == 1), .bool ((v2 : Int) / 256 % 2 == 1), .int .i64 ((v2 : Int) % 16), .string ⟨#[]⟩, .int .i64 0, .slice none 0 0] 26))
          have HA4 := Lib.hid (HA4.out.alloc (.cells #[.int .i64 (v0 : Int), .bool (decide (32768 ≤ (v2 : Int))), .bool ((v2 : Int) / 512 % 2 == 1), .bool ((v2 : Int) / 256 % 2 == 1), .int .i64 ((v2 : Int) % 16), .string ⟨#[]⟩, .int .i64 0, .slice none 0 0] 26))
          have HB := Lib.hid (HB.out.alloc HB.out.size (.cells #[.int .i64 (v0 : Int), .bool (decide (32768 ≤ (v2 : Int))), .bool ((v2 : Int) / 512 % 2 == 1), .bool ((v2 : Int) / 256 % 2 == 1), .int .i64 ((v2 : Int) % 16), .string ⟨#[]⟩, .int .i64 0, .slice none 0 0] 26))
          generalize (w5.alloc (.cells #[.int .i64 (v0 : Int), .bool (decide (32768 ≤ (v2 : Int))), .bool ((v2 : Int) / 512 % 2 == 1), .bool ((v2 : Int) / 256 % 2 == 1), .int .i64 ((v2 : Int) % 16), .string ⟨#[]⟩, .int .i64 0, .slice none 0 0] 26)) = W7 at *
          obtain ⟨b7, hb7⟩ : ∃ b, w5.heap.size = b := ⟨_, rfl⟩
          rw [hb7] at HA7 hb47 ⊢
          have HNx : Hid (∀ W (k : Nat), Below w.heap.size w W → k ≤ n → Calls Tryd.prog 25 #[.slice a n c, .int .i64 (k : Int)] W (NameX W n (nameX l k))) := Lib.hid (fun W k hW hk => namex_any W a n c l k (HBA.out W hW).1 (HBA.out W hW).2 h4096 hk)
          have HN12 : Hid (∀ W, Below w.heap.size w W → Calls Tryd.prog 25 #[.slice a n c, .int .i64 12] W (NameX W n (nameX l 12))) := Lib.hid (fun W hW => HNx.out W 12 hW h12)
          cases hnx : nameX l 12 with
          | none =>
            have HNo : Hid (decX l = none) := Lib.hid (by rw [HDec2.out, hnx]; rfl)
            rw [hnx] at HN12
            unfold NameX at HN12
            clear hnx
            go_wp2_with (go_at_call 25; refine (HN12.out _ HB.out).mono ?_; rintro e w8 ⟨hb2, x8, rfl⟩; have HA2 := Lib.hid (HA2.out.bel hb2); have HA4 := Lib.hid (HA4.out.bel hb2); have HB := Lib.hid (HB.out.trans (hb2.mono HB.out.size)); clear hb2; have d0 := HA4.out.cell (j := 0) rfl; have d1 := HA4.out.cell (j := 1) rfl; have d2 := HA4.out.cell (j := 2) rfl; have d3 := HA4.out.cell (j := 3) rfl; have d4 := HA4.out.cell (j := 4) rfl; have d5 := HA4.out.cell (j := 5) rfl; have d6 := HA4.out.cell (j := 6) rfl; have d7 := HA4.out.cell (j := 7) rfl; have c0 := HA2.out.cell (j := 0) rfl; have c1 := HA2.out.cell (j := 1) rfl; have c2 := HA2.out.cell (j := 2) rfl; have c3 := HA2.out.cell (j := 3) rfl; have c4 := HA2.out.cell (j := 4) rfl; have c5 := HA2.out.cell (j := 5) rfl; have c6 := HA2.out.cell (j := 6) rfl; have c7 := HA2.out.cell (j := 7) rfl; have e0 := HA2.out.free 0; have e1 := HA2.out.free 1; have e2 := HA2.out.free 2; have e3 := HA2.out.free 3; have e4 := HA2.out.free 4; have e5 := HA2.out.free 5; have e6 := HA2.out.free 6; have e7 := HA2.out.free 7)
            refine bodyPost_ret (results_row2 rfl _ _ _ _ _ _ _ rfl (set8_at HA2.out) Tryd.underlying26 rfl (by kernel_rfl)) rfl ?_
            refine ⟨below_set8 HB.out (Nat.le_refl _), ?_⟩
            rw [HNo.out]
            rfl
          | some q =>
            obtain ⟨s8, at8⟩ := q
            have HDec3 : Hid (decX l = if nmV l at8 < 1 ∨ nmV l (at8 + 2) ≠ 1 then none
              else (recsX l (at8 + 4) v6).map fun r => ⟨v0, decide (32768 ≤ (v2 : Int)), decide ((v2 : Int) / 512 % 2 = 1), decide ((v2 : Int) / 256 % 2 = 1), ((v2 : Int) % 16).toNat, s8, (nmV l at8).toNat, r.1⟩) := Lib.hid (by rw [HDec2.out, hnx]; rfl)
            rw [hnx] at HN12
            unfold NameX at HN12
            clear hnx
            go_upto_region 10 with (go_at_call 25; refine (HN12.out _ HB.out).mono ?_; rintro e w8 ⟨hb2, rfl, hat8⟩; have HA7 := Lib.hid (HA7.out.bel hb2); have HA2 := Lib.hid (HA2.out.bel hb2); have HA4 := Lib.hid (HA4.out.bel hb2); have HB := Lib.hid (HB.out.trans (hb2.mono HB.out.size)); clear hb2)
            have HNa : Hid (∀ W, Below w.heap.size w W → Calls Tryd.prog 24 #[.slice a n c, .int .i64 (at8 : Int)] W fun e w' => e = .returned (.int .i64 (nmV l at8)) ∧ Below W.heap.size W w') := Lib.hid (fun W hW => HNm.out W at8 hW h4096 (by omega))
            have HNb : Hid (∀ W, Below w.heap.size w W → Calls Tryd.prog 24 #[.slice a n c, .int .i64 ((at8 : Int) + 2)] W fun e w' => e = .returned (.int .i64 (nmV l ((at8 : Int) + 2))) ∧ Below W.heap.size W w') := Lib.hid (fun W hW => HNm.out W (at8 + 2) hW h4096 (by omega))
            obtain ⟨y1, hy1⟩ : ∃ y, nmV l (at8 : Int) = y := ⟨_, rfl⟩
            obtain ⟨y2, hy2⟩ : ∃ y, nmV l ((at8 : Int) + 2) = y := ⟨_, rfl⟩
            rw [hy1] at HNa
            rw [hy2] at HNb
            rw [hy1, hy2] at HDec3
            by_cases hc1 : y1 < 1
            · have HNo : Hid (decX l = none) := Lib.hid (by rw [HDec3.out, if_pos (.inl hc1)])
              go_wp2_with (go_at_call 24; with_reducible refine (HNa.out _ HB.out).mono ?_; rintro e w9 ⟨rfl, hb2⟩; have HA2 := Lib.hid (HA2.out.bel hb2); have HA4 := Lib.hid (HA4.out.bel hb2); have HB := Lib.hid (HB.out.trans (hb2.mono HB.out.size)); clear hb2; have d0 := HA4.out.cell (j := 0) rfl; have d1 := HA4.out.cell (j := 1) rfl; have d2 := HA4.out.cell (j := 2) rfl; have d3 := HA4.out.cell (j := 3) rfl; have d4 := HA4.out.cell (j := 4) rfl; have d5 := HA4.out.cell (j := 5) rfl; have d6 := HA4.out.cell (j := 6) rfl; have d7 := HA4.out.cell (j := 7) rfl; have c0 := HA2.out.cell (j := 0) rfl; have c1 := HA2.out.cell (j := 1) rfl; have c2 := HA2.out.cell (j := 2) rfl; have c3 := HA2.out.cell (j := 3) rfl; have c4 := HA2.out.cell (j := 4) rfl; have c5 := HA2.out.cell (j := 5) rfl; have c6 := HA2.out.cell (j := 6) rfl; have c7 := HA2.out.cell (j := 7) rfl; have e0 := HA2.out.free 0; have e1 := HA2.out.free 1; have e2 := HA2.out.free 2; have e3 := HA2.out.free 3; have e4 := HA2.out.free 4; have e5 := HA2.out.free 5; have e6 := HA2.out.free 6; have e7 := HA2.out.free 7)
              refine bodyPost_ret (results_row2 rfl _ _ _ _ _ _ _ rfl (set8_at HA2.out) Tryd.underlying26 rfl (by kernel_rfl)) rfl ?_
              refine ⟨below_set8 HB.out (Nat.le_refl _), ?_⟩
              rw [HNo.out]
              rfl
            · by_cases hc2 : y2 = 1
              · obtain ⟨kq, rfl⟩ : ∃ k : Nat, y1 = (k : Int) := ⟨y1.toNat, by omega⟩
                subst hc2
                have HDec4 : Hid (decX l = (recsX l (at8 + 4) v6).map fun r => ⟨v0, decide (32768 ≤ (v2 : Int)), decide ((v2 : Int) / 512 % 2 = 1), decide ((v2 : Int) / 256 % 2 = 1), ((v2 : Int) % 16).toNat, s8, kq, r.1⟩) := Lib.hid (by rw [HDec3.out, if_neg (fun h => by rcases h with h | h; exact hc1 h; exact h rfl)]; rfl)
                have hat4 : at8 + 4 ≤ n := by
                  rcases nmV_cases l (at8 + 2) with ⟨h, _⟩ | ⟨_, h⟩
                  · omega
                  · rw [show ((at8 + 2 : Nat) : Int) = (at8 : Int) + 2 by omega, hy2] at h; omega
                go_upto_region 12 with (first | (go_at_call 24; with_reducible refine (HNa.out _ HB.out).mono ?_; rintro e w9 ⟨rfl, hb2⟩; have HA7 := Lib.hid (HA7.out.bel hb2); have HA2 := Lib.hid (HA2.out.bel hb2); have HA4 := Lib.hid (HA4.out.bel hb2); have HB := Lib.hid (HB.out.trans (hb2.mono HB.out.size)); clear hb2) | (go_at_call 24; with_reducible refine (HNb.out _ HB.out).mono ?_; rintro e w9 ⟨rfl, hb2⟩; have HA7 := Lib.hid (HA7.out.bel hb2); have HA2 := Lib.hid (HA2.out.bel hb2); have HA4 := Lib.hid (HA4.out.bel hb2); have HB := Lib.hid (HB.out.trans (hb2.mono HB.out.size)); clear hb2))
                go_upto_region 13 with (go_at_call 24; with_reducible refine (HNa.out _ HB.out).mono ?_; rintro e w10 ⟨rfl, hb2⟩; have HA7 := Lib.hid (HA7.out.bel hb2); have HA2 := Lib.hid (HA2.out.bel hb2); have HA4 := Lib.hid (HA4.out.bel hb2); have HB := Lib.hid (HB.out.trans (hb2.mono HB.out.size)); clear hb2; have k5 := HA7.out.cell (j := 5) rfl; have k6 := HA7.out.cell (j := 6) rfl; have f5 := HA7.out.free 5; have f6 := HA7.out.free 6)
                have HA7 : Hid (At8 ((w10.setCell ⟨b7, 5, none⟩ (.string ⟨s8.toArray⟩)).setCell ⟨b7, 6, none⟩ (.int .i64 (kq : Int))) b7 #[.int .i64 (v0 : Int), .bool (decide (32768 ≤ (v2 : Int))), .bool ((v2 : Int) / 512 % 2 == 1), .bool ((v2 : Int) / 256 % 2 == 1), .int .i64 ((v2 : Int) % 16), .string ⟨s8.toArray⟩, .int .i64 (kq : Int), .slice none 0 0]) := Lib.hid ((HA7.out.set 5 _).set 6 _)
                have HA2 := Lib.hid ((HA2.out.late (b' := b7) (by omega) 5 (.string ⟨s8.toArray⟩)).late (b' := b7) (by omega) 6 (.int .i64 (kq : Int)))
                have HA4 := Lib.hid ((HA4.out.late (b' := b7) (by omega) 5 (.string ⟨s8.toArray⟩)).late (b' := b7) (by omega) 6 (.int .i64 (kq : Int)))
                have HB := Lib.hid (below_set1 (below_set1 HB.out (b := b7) (by omega) 5 (.string ⟨s8.toArray⟩)) (b := b7) (by omega) 6 (.int .i64 (kq : Int)))
                generalize ((w10.setCell ⟨b7, 5, none⟩ (.string ⟨s8.toArray⟩)).setCell ⟨b7, 6, none⟩ (.int .i64 (kq : Int))) = W11 at *
                obtain ⟨i4, hi, hz0, hz1, hz2⟩ := info_parts infoRec
                clear k5 k6 f5 f6 HNa HNb hy1 hy2 hc1 HDec HDec2 HDec3 HN12 HN0 HN2 HN4 HN6 HN
                go_wp2
                go_loopw [6, 9] (fun iv av wr => ∃ (k pos : Nat) (v : Value) (rs : List Rec), k ≤ v6 ∧ iv = .int .i64 ((v6 : Int) - (k : Int)) ∧ av = .int .i64 (pos : Int) ∧ pos ≤ n ∧ recsX l (at8 + 4) k = some (rs, pos) ∧ rs.length = k ∧ At8 wr b7 #[.int .i64 (v0 : Int), .bool (decide (32768 ≤ (v2 : Int))), .bool ((v2 : Int) / 512 % 2 == 1), .bool ((v2 : Int) / 256 % 2 == 1), .int .i64 ((v2 : Int) % 16), .string ⟨s8.toArray⟩, .int .i64 (kq : Int), v] ∧ RecC (b7 + 1) wr v rs ∧ At8 wr w.heap.size #[.int .i64 0, .bool false, .bool false, .bool false, .int .i64 0, .string ⟨#[]⟩, .int .i64 0, .slice none 0 0] ∧ At8 wr (w.heap.size + 1) #[.int .i64 0, .bool false, .bool false, .bool false, .int .i64 0, .string ⟨#[]⟩, .int .i64 0, .slice none 0 0] ∧ Below w.heap.size w wr) (fun iv _ _ => (intOf iv).toNat)
                case atStart => exact ⟨0, at8 + 4, _, [], Nat.zero_le _, by go_num, by go_num, hat4, rfl, rfl, HA7.out, World.ownsRow_nil _ _ _ _, HA2.out, HA4.out, HB.out⟩
                case round =>
                  clear HA7 HA2 HA4 HB
                  obtain ⟨k, pos, v, rs, hk, rfl, rfl, hpos, hrec, hrl, ha7, hrc, ha2, ha4, hb⟩ := hrel
                  obtain ⟨vq, vc, rfl⟩ := slice_of hrc
                  have HA7 := Lib.hid ha7
                  have HA2 := Lib.hid ha2
                  have HA4 := Lib.hid ha4
                  have HB := Lib.hid hb
                  have HRc := Lib.hid hrc
                  have HRl := Lib.hid hrl
                  have HRec := Lib.hid hrec
                  clear ha7 ha2 ha4 hb hrc hrl hrec
                  by_cases hlt : k < v6
                  · have hlti : (0 : Int) < (v6 : Int) - (k : Int) := by omega
                    have HNoR : Hid (recX l pos = none → decX l = none) := Lib.hid (fun hn => by
                      rw [HDec4.out, recsX_none (k := k + 1) (by omega) (by rw [recsX, HRec.out]; show ((recX l pos).map _) = none; rw [hn]; rfl)]; rfl)
                    have HNp := Lib.hid (fun W hW => HNx.out W pos hW hpos)
                    cases hnx : nameX l pos with
                    | none =>
                      have HNo : Hid (decX l = none) := Lib.hid (HNoR.out (by unfold recX; rw [hnx]; rfl))
                      rw [hnx] at HNp
                      unfold NameX at HNp
                      clear hnx
                      go_wp2_with (go_at_call 25; refine (HNp.out _ HB.out).mono ?_; rintro e w20 ⟨hb2, x8, rfl⟩; have HA2 := Lib.hid (HA2.out.bel hb2); have HA4 := Lib.hid (HA4.out.bel hb2); have HB := Lib.hid (HB.out.trans (hb2.mono HB.out.size)); clear hb2; have d0 := HA4.out.cell (j := 0) rfl; have d1 := HA4.out.cell (j := 1) rfl; have d2 := HA4.out.cell (j := 2) rfl; have d3 := HA4.out.cell (j := 3) rfl; have d4 := HA4.out.cell (j := 4) rfl; have d5 := HA4.out.cell (j := 5) rfl; have d6 := HA4.out.cell (j := 6) rfl; have d7 := HA4.out.cell (j := 7) rfl; have c0 := HA2.out.cell (j := 0) rfl; have c1 := HA2.out.cell (j := 1) rfl; have c2 := HA2.out.cell (j := 2) rfl; have c3 := HA2.out.cell (j := 3) rfl; have c4 := HA2.out.cell (j := 4) rfl; have c5 := HA2.out.cell (j := 5) rfl; have c6 := HA2.out.cell (j := 6) rfl; have c7 := HA2.out.cell (j := 7) rfl; have e0 := HA2.out.free 0; have e1 := HA2.out.free 1; have e2 := HA2.out.free 2; have e3 := HA2.out.free 3; have e4 := HA2.out.free 4; have e5 := HA2.out.free 5; have e6 := HA2.out.free 6; have e7 := HA2.out.free 7)
                      refine bodyPost_ret (results_row2 rfl _ _ _ _ _ _ _ rfl (set8_at HA2.out) Tryd.underlying26 rfl (by kernel_rfl)) rfl ?_
                      refine ⟨below_set8 HB.out (Nat.le_refl _), ?_⟩
                      rw [HNo.out]
                      rfl
                    | some q =>
                      obtain ⟨s9, at9⟩ := q
                      rw [hnx] at HNp
                      unfold NameX at HNp
                      have hnx' := hnx
                      have HNX := Lib.hid hnx
                      clear hnx hnx'
                      go_upto_region 17 with (go_at_call 25; refine (HNp.out _ HB.out).mono ?_; rintro e w20 ⟨hb2, rfl, hat9⟩; have HA7 := Lib.hid (HA7.out.bel hb2); have HRc := Lib.hid (own_bel HRc.out hb2); have HA2 := Lib.hid (HA2.out.bel hb2); have HA4 := Lib.hid (HA4.out.bel hb2); have HB := Lib.hid (HB.out.trans (hb2.mono HB.out.size)); clear hb2)
                      by_cases c1 : nmV l (at9 : Int) < 1
                      · have HNo : Hid (decX l = none) := Lib.hid (HNoR.out (by unfold recX; rw [HNX.out]; simp only [Option.bind_some]; rw [if_pos (.inl c1)]))
                        go_wp2_with (go_at_call 24; refine (HNm.out _ _ HB.out h4096 (by omega)).mono ?_; rintro e w21 ⟨rfl, hb2⟩; have HA2 := Lib.hid (HA2.out.bel hb2); have HA4 := Lib.hid (HA4.out.bel hb2); have HB := Lib.hid (HB.out.trans (hb2.mono HB.out.size)); clear hb2; have d0 := HA4.out.cell (j := 0) rfl; have d1 := HA4.out.cell (j := 1) rfl; have d2 := HA4.out.cell (j := 2) rfl; have d3 := HA4.out.cell (j := 3) rfl; have d4 := HA4.out.cell (j := 4) rfl; have d5 := HA4.out.cell (j := 5) rfl; have d6 := HA4.out.cell (j := 6) rfl; have d7 := HA4.out.cell (j := 7) rfl; have c0 := HA2.out.cell (j := 0) rfl; have c1 := HA2.out.cell (j := 1) rfl; have c2 := HA2.out.cell (j := 2) rfl; have c3 := HA2.out.cell (j := 3) rfl; have c4 := HA2.out.cell (j := 4) rfl; have c5 := HA2.out.cell (j := 5) rfl; have c6 := HA2.out.cell (j := 6) rfl; have c7 := HA2.out.cell (j := 7) rfl; have e0 := HA2.out.free 0; have e1 := HA2.out.free 1; have e2 := HA2.out.free 2; have e3 := HA2.out.free 3; have e4 := HA2.out.free 4; have e5 := HA2.out.free 5; have e6 := HA2.out.free 6; have e7 := HA2.out.free 7)
                        refine bodyPost_ret (results_row2 rfl _ _ _ _ _ _ _ rfl (set8_at HA2.out) Tryd.underlying26 rfl (by kernel_rfl)) rfl ?_
                        refine ⟨below_set8 HB.out (Nat.le_refl _), ?_⟩
                        rw [HNo.out]
                        rfl
                      · by_cases c2 : nmV l ((at9 : Int) + 2) = 1
                        · by_cases c4 : nmV l ((at9 : Int) + 4) < 0
                          · have HNo : Hid (decX l = none) := Lib.hid (HNoR.out (by unfold recX; rw [HNX.out]; simp only [Option.bind_some]; rw [if_pos (.inr (.inr (.inl c4)))]))
                            go_wp2_with (go_at_call 24; refine (HNm.out _ _ HB.out h4096 (by omega)).mono ?_; rintro e w21 ⟨rfl, hb2⟩; have HA2 := Lib.hid (HA2.out.bel hb2); have HA4 := Lib.hid (HA4.out.bel hb2); have HB := Lib.hid (HB.out.trans (hb2.mono HB.out.size)); clear hb2; have d0 := HA4.out.cell (j := 0) rfl; have d1 := HA4.out.cell (j := 1) rfl; have d2 := HA4.out.cell (j := 2) rfl; have d3 := HA4.out.cell (j := 3) rfl; have d4 := HA4.out.cell (j := 4) rfl; have d5 := HA4.out.cell (j := 5) rfl; have d6 := HA4.out.cell (j := 6) rfl; have d7 := HA4.out.cell (j := 7) rfl; have c0 := HA2.out.cell (j := 0) rfl; have c1 := HA2.out.cell (j := 1) rfl; have c2 := HA2.out.cell (j := 2) rfl; have c3 := HA2.out.cell (j := 3) rfl; have c4 := HA2.out.cell (j := 4) rfl; have c5 := HA2.out.cell (j := 5) rfl; have c6 := HA2.out.cell (j := 6) rfl; have c7 := HA2.out.cell (j := 7) rfl; have e0 := HA2.out.free 0; have e1 := HA2.out.free 1; have e2 := HA2.out.free 2; have e3 := HA2.out.free 3; have e4 := HA2.out.free 4; have e5 := HA2.out.free 5; have e6 := HA2.out.free 6; have e7 := HA2.out.free 7)
                            refine bodyPost_ret (results_row2 rfl _ _ _ _ _ _ _ rfl (set8_at HA2.out) Tryd.underlying26 rfl (by kernel_rfl)) rfl ?_
                            refine ⟨below_set8 HB.out (Nat.le_refl _), ?_⟩
                            rw [HNo.out]
                            rfl
                          · by_cases c6 : nmV l ((at9 : Int) + 6) < 0
                            · have HNo : Hid (decX l = none) := Lib.hid (HNoR.out (by unfold recX; rw [HNX.out]; simp only [Option.bind_some]; rw [if_pos (.inr (.inr (.inr (.inl c6))))]))
                              go_wp2_with (go_at_call 24; refine (HNm.out _ _ HB.out h4096 (by omega)).mono ?_; rintro e w21 ⟨rfl, hb2⟩; have HA2 := Lib.hid (HA2.out.bel hb2); have HA4 := Lib.hid (HA4.out.bel hb2); have HB := Lib.hid (HB.out.trans (hb2.mono HB.out.size)); clear hb2; have d0 := HA4.out.cell (j := 0) rfl; have d1 := HA4.out.cell (j := 1) rfl; have d2 := HA4.out.cell (j := 2) rfl; have d3 := HA4.out.cell (j := 3) rfl; have d4 := HA4.out.cell (j := 4) rfl; have d5 := HA4.out.cell (j := 5) rfl; have d6 := HA4.out.cell (j := 6) rfl; have d7 := HA4.out.cell (j := 7) rfl; have c0 := HA2.out.cell (j := 0) rfl; have c1 := HA2.out.cell (j := 1) rfl; have c2 := HA2.out.cell (j := 2) rfl; have c3 := HA2.out.cell (j := 3) rfl; have c4 := HA2.out.cell (j := 4) rfl; have c5 := HA2.out.cell (j := 5) rfl; have c6 := HA2.out.cell (j := 6) rfl; have c7 := HA2.out.cell (j := 7) rfl; have e0 := HA2.out.free 0; have e1 := HA2.out.free 1; have e2 := HA2.out.free 2; have e3 := HA2.out.free 3; have e4 := HA2.out.free 4; have e5 := HA2.out.free 5; have e6 := HA2.out.free 6; have e7 := HA2.out.free 7)
                              refine bodyPost_ret (results_row2 rfl _ _ _ _ _ _ _ rfl (set8_at HA2.out) Tryd.underlying26 rfl (by kernel_rfl)) rfl ?_
                              refine ⟨below_set8 HB.out (Nat.le_refl _), ?_⟩
                              rw [HNo.out]
                              rfl
                            · by_cases c8 : nmV l ((at9 : Int) + 8) < 0
                              · have HNo : Hid (decX l = none) := Lib.hid (HNoR.out (by unfold recX; rw [HNX.out]; simp only [Option.bind_some]; rw [if_pos (.inr (.inr (.inr (.inr c8))))]))
                                go_wp2_with (go_at_call 24; refine (HNm.out _ _ HB.out h4096 (by omega)).mono ?_; rintro e w21 ⟨rfl, hb2⟩; have HA2 := Lib.hid (HA2.out.bel hb2); have HA4 := Lib.hid (HA4.out.bel hb2); have HB := Lib.hid (HB.out.trans (hb2.mono HB.out.size)); clear hb2; have d0 := HA4.out.cell (j := 0) rfl; have d1 := HA4.out.cell (j := 1) rfl; have d2 := HA4.out.cell (j := 2) rfl; have d3 := HA4.out.cell (j := 3) rfl; have d4 := HA4.out.cell (j := 4) rfl; have d5 := HA4.out.cell (j := 5) rfl; have d6 := HA4.out.cell (j := 6) rfl; have d7 := HA4.out.cell (j := 7) rfl; have c0 := HA2.out.cell (j := 0) rfl; have c1 := HA2.out.cell (j := 1) rfl; have c2 := HA2.out.cell (j := 2) rfl; have c3 := HA2.out.cell (j := 3) rfl; have c4 := HA2.out.cell (j := 4) rfl; have c5 := HA2.out.cell (j := 5) rfl; have c6 := HA2.out.cell (j := 6) rfl; have c7 := HA2.out.cell (j := 7) rfl; have e0 := HA2.out.free 0; have e1 := HA2.out.free 1; have e2 := HA2.out.free 2; have e3 := HA2.out.free 3; have e4 := HA2.out.free 4; have e5 := HA2.out.free 5; have e6 := HA2.out.free 6; have e7 := HA2.out.free 7)
                                refine bodyPost_ret (results_row2 rfl _ _ _ _ _ _ _ rfl (set8_at HA2.out) Tryd.underlying26 rfl (by kernel_rfl)) rfl ?_
                                refine ⟨below_set8 HB.out (Nat.le_refl _), ?_⟩
                                rw [HNo.out]
                                rfl
                              · go_upto_region 19 with (go_at_call 24; refine (HNm.out _ _ HB.out h4096 (by omega)).mono ?_; rintro e w21 ⟨rfl, hb2⟩; have HA7 := Lib.hid (HA7.out.bel hb2); have HRc := Lib.hid (own_bel HRc.out hb2); have HA2 := Lib.hid (HA2.out.bel hb2); have HA4 := Lib.hid (HA4.out.bel hb2); have HB := Lib.hid (HB.out.trans (hb2.mono HB.out.size)); clear hb2)
                                have h10 : at9 + 10 ≤ n := by
                                  rcases nmV_cases l (at9 + 8) with ⟨h, _⟩ | ⟨_, h⟩
                                  · omega
                                  · rw [show ((at9 + 8 : Nat) : Int) = (at9 : Int) + 8 by omega] at h; omega
                                have hval : ∀ j : Nat, j + 2 ≤ n → ∃ u : Nat, nmV l (j : Int) = (u : Int) ∧ u < 65536 := fun j hj => by
                                  rcases nmV_cases l j with ⟨_, h⟩ | ⟨h, _⟩
                                  · exact h
                                  · omega
                                obtain ⟨u1, hu1, hb1⟩ := hval at9 (by omega)
                                obtain ⟨u4, hu4, hb4⟩ := hval (at9 + 4) (by omega)
                                obtain ⟨u6, hu6, hb6⟩ := hval (at9 + 6) (by omega)
                                obtain ⟨u8, hu8, hb8⟩ := hval (at9 + 8) (by omega)
                                rw [show ((at9 + 4 : Nat) : Int) = (at9 : Int) + 4 by omega] at hu4
                                rw [show ((at9 + 6 : Nat) : Int) = (at9 : Int) + 6 by omega] at hu6
                                rw [show ((at9 + 8 : Nat) : Int) = (at9 : Int) + 8 by omega] at hu8
                                have HX1 : Hid (recX l pos = if (l.length : Int) < (at9 : Int) + 10 + (u8 : Int) ∨ 2147483647 < (u4 : Int) * 65536 + (u6 : Int) then none
                                    else (if (u1 : Int) = 12 then (match nameX l (at9 + 10) with
                                      | some (d, e) => if e = at9 + 10 + u8 then some d else none
                                      | none => none) else some (tk l (at9 + 10) u8)).bind fun d => if fineB (u1 : Int) d = true then some (⟨s9, u1, u4 * 65536 + u6, d⟩, at9 + 10 + u8) else none) := Lib.hid (by
                                  unfold recX
                                  rw [HNX.out]
                                  simp only [Option.bind_some]
                                  rw [if_neg (fun h => by rcases h with h | h | h | h | h <;> first | exact h c2 | omega), hu1, hu4, hu6, hu8]
                                  have et : ((u4 : Int) * 65536 + (u6 : Int)).toNat = u4 * 65536 + u6 := by omega
                                  rw [et]
                                  rfl)
                                go_upto_region 20 with (go_at_call 24; refine (HNm.out _ _ HB.out h4096 (by omega)).mono ?_; rintro e w21 ⟨rfl, hb2⟩; have HA7 := Lib.hid (HA7.out.bel hb2); have HRc := Lib.hid (own_bel HRc.out hb2); have HA2 := Lib.hid (HA2.out.bel hb2); have HA4 := Lib.hid (HA4.out.bel hb2); have HB := Lib.hid (HB.out.trans (hb2.mono HB.out.size)); clear hb2)
                                obtain ⟨ut, hut⟩ : ∃ t : Nat, u4 * 65536 + u6 = t := ⟨_, rfl⟩
                                have huti : (u4 : Int) * 65536 + (u6 : Int) = (ut : Int) := by omega
                                rw [huti, hut] at HX1
                                rw [huti]
                                have hb2 : Below w21.heap.size w21 (w21.alloc (.cells #[.string ⟨s9.toArray⟩, .int .i64 (u1 : Int), .int .i64 (ut : Int), .string ⟨#[]⟩] 48)) := (Below.refl _ _).alloc (Nat.le_refl _) _
                                have HA14 : Hid (At4 (w21.alloc (.cells #[.string ⟨s9.toArray⟩, .int .i64 (u1 : Int), .int .i64 (ut : Int), .string ⟨#[]⟩] 48)) w21.heap.size #[.string ⟨s9.toArray⟩, .int .i64 (u1 : Int), .int .i64 (ut : Int), .string ⟨#[]⟩]) := Lib.hid (At4.new w21 _)
                                have hlt14 : b7 < w21.heap.size := HA7.out.lt
                                have hlt4 : w.heap.size + 1 < w21.heap.size := HA4.out.lt
                                have HA7o := Lib.hid HA7.out
                                have HRco := Lib.hid HRc.out
                                have HA2o := Lib.hid HA2.out
                                have HA4o := Lib.hid HA4.out
                                have HBo := Lib.hid HB.out
                                have HB14 := Lib.hid hb2
                                have HA2 := Lib.hid (HA2.out.bel hb2); have HA4 := Lib.hid (HA4.out.bel hb2); have HB := Lib.hid (HB.out.trans (hb2.mono HB.out.size)); clear hb2
                                obtain ⟨b14, hb14⟩ : ∃ b, w21.heap.size = b := ⟨_, rfl⟩
                                rw [hb14] at HA14 hlt14 hlt4 ⊢
                                have HE14 := Lib.hid hb14
                                clear hb14
                                generalize w21.alloc (.cells #[.string ⟨s9.toArray⟩, .int .i64 (u1 : Int), .int .i64 (ut : Int), .string ⟨#[]⟩] 48) = W22 at *
                                go_upto_region 22 with (go_at_call 24; refine (HNm.out _ _ HB.out h4096 (by omega)).mono ?_; rintro e w22 ⟨rfl, hb2⟩; have HA14 := Lib.hid (HA14.out.bel hb2); have HB14 := Lib.hid (HB14.out.trans (hb2.mono HB14.out.size)); have HA2 := Lib.hid (HA2.out.bel hb2); have HA4 := Lib.hid (HA4.out.bel hb2); have HB := Lib.hid (HB.out.trans (hb2.mono HB.out.size)); clear hb2)
                                by_cases hsz : (n : Int) < (at9 : Int) + 10 + (u8 : Int)
                                · have HNo : Hid (decX l = none) := Lib.hid (HNoR.out (by rw [HX1.out, if_pos (.inl (by rw [hl]; exact hsz))]))
                                  have d0 := HA4.out.cell (j := 0) rfl
                                  have d1 := HA4.out.cell (j := 1) rfl
                                  have d2 := HA4.out.cell (j := 2) rfl
                                  have d3 := HA4.out.cell (j := 3) rfl
                                  have d4 := HA4.out.cell (j := 4) rfl
                                  have d5 := HA4.out.cell (j := 5) rfl
                                  have d6 := HA4.out.cell (j := 6) rfl
                                  have d7 := HA4.out.cell (j := 7) rfl
                                  have c0 := HA2.out.cell (j := 0) rfl
                                  have c1 := HA2.out.cell (j := 1) rfl
                                  have c2 := HA2.out.cell (j := 2) rfl
                                  have c3 := HA2.out.cell (j := 3) rfl
                                  have c4 := HA2.out.cell (j := 4) rfl
                                  have c5 := HA2.out.cell (j := 5) rfl
                                  have c6 := HA2.out.cell (j := 6) rfl
                                  have c7 := HA2.out.cell (j := 7) rfl
                                  have e0 := HA2.out.free 0
                                  have e1 := HA2.out.free 1
                                  have e2 := HA2.out.free 2
                                  have e3 := HA2.out.free 3
                                  have e4 := HA2.out.free 4
                                  have e5 := HA2.out.free 5
                                  have e6 := HA2.out.free 6
                                  have e7 := HA2.out.free 7
                                  go_wp2
                                  refine bodyPost_ret (results_row2 rfl _ _ _ _ _ _ _ rfl (set8_at HA2.out) Tryd.underlying26 rfl (by kernel_rfl)) rfl ?_
                                  refine ⟨below_set8 HB.out (Nat.le_refl _), ?_⟩
                                  rw [HNo.out]
                                  rfl
                                · by_cases httl : 2147483647 < (ut : Int)
                                  · have HNo : Hid (decX l = none) := Lib.hid (HNoR.out (by rw [HX1.out, if_pos (.inr httl)]))
                                    have r2 := HA14.out.cell (j := 2) rfl
                                    have d0 := HA4.out.cell (j := 0) rfl
                                    have d1 := HA4.out.cell (j := 1) rfl
                                    have d2 := HA4.out.cell (j := 2) rfl
                                    have d3 := HA4.out.cell (j := 3) rfl
                                    have d4 := HA4.out.cell (j := 4) rfl
                                    have d5 := HA4.out.cell (j := 5) rfl
                                    have d6 := HA4.out.cell (j := 6) rfl
                                    have d7 := HA4.out.cell (j := 7) rfl
                                    have c0 := HA2.out.cell (j := 0) rfl
                                    have c1 := HA2.out.cell (j := 1) rfl
                                    have c2 := HA2.out.cell (j := 2) rfl
                                    have c3 := HA2.out.cell (j := 3) rfl
                                    have c4 := HA2.out.cell (j := 4) rfl
                                    have c5 := HA2.out.cell (j := 5) rfl
                                    have c6 := HA2.out.cell (j := 6) rfl
                                    have c7 := HA2.out.cell (j := 7) rfl
                                    have e0 := HA2.out.free 0
                                    have e1 := HA2.out.free 1
                                    have e2 := HA2.out.free 2
                                    have e3 := HA2.out.free 3
                                    have e4 := HA2.out.free 4
                                    have e5 := HA2.out.free 5
                                    have e6 := HA2.out.free 6
                                    have e7 := HA2.out.free 7
                                    go_wp2
                                    refine bodyPost_ret (results_row2 rfl _ _ _ _ _ _ _ rfl (set8_at HA2.out) Tryd.underlying26 rfl (by kernel_rfl)) rfl ?_
                                    refine ⟨below_set8 HB.out (Nat.le_refl _), ?_⟩
                                    rw [HNo.out]
                                    rfl
                                  · have HX2 : Hid (recX l pos = (if (u1 : Int) = 12 then (match nameX l (at9 + 10) with
                                      | some (d, e) => if e = at9 + 10 + u8 then some d else none
                                      | none => none) else some (tk l (at9 + 10) u8)).bind fun d => if fineB (u1 : Int) d = true then some (⟨s9, u1, ut, d⟩, at9 + 10 + u8) else none) := Lib.hid (by
                                      rw [HX1.out, if_neg (by rw [hl]; intro h; rcases h with h | h; exact hsz h; exact httl h)])
                                    have hpart := fun (W : World) (hW : Below w.heap.size w W) => (HBA.out W hW).1.part (at9 + 10) u8 (by omega)
                                    have HPart := Lib.hid hpart
                                    clear hpart
                                    have r2 := HA14.out.cell (j := 2) rfl
                                    go_upto_region 24 with (fail)
                                    have hsl : ∀ W : World, (Instr.slice 29 (.slice a n c) (some (.int .i64 ((at9 : Int) + 10))) (some (.int .i64 ((at9 : Int) + 10 + (u8 : Int)))) none).run Tryd.prog W = .ok (.slice (if c = at9 + 10 then a else a.map (·.add (at9 + 10))) u8 (c - (at9 + 10))) W := fun W => by
                                      have hel : Tryd.prog.elem 29 = 5 := by kernel_rfl
                                      have hcap := (HBA.out _ HB.out).1.cap
                                      have := run_slice_lh (P := Tryd.prog) (w := W) 29 a n c (by rw [hel]; exact Tryd.underlying29) .i64 .i64 ((at9 : Int) + 10) ((at9 : Int) + 10 + (u8 : Int)) (by omega) (by omega) (by omega)
                                      rw [this, hel, Tryd.sizeOf5]
                                      simp only [Result.andThen_ok, sliced]
                                      rw [show ((at9 : Int) + 10).toNat = at9 + 10 by omega, show ((at9 : Int) + 10 + (u8 : Int)).toNat = at9 + 10 + u8 by omega, show at9 + 10 + u8 - (at9 + 10) = u8 by omega, Nat.mul_one]
                                    have hstr := BA.str (HPart.out _ HB.out)
                                    obtain ⟨ap, hap⟩ : ∃ x, (if c = at9 + 10 then a else a.map (·.add (at9 + 10))) = x := ⟨_, rfl⟩
                                    obtain ⟨q, hq⟩ : ∃ q : ByteArray, (⟨(tk l (at9 + 10) u8).toArray⟩ : ByteArray) = q := ⟨_, rfl⟩
                                    rw [hap] at hsl hstr
                                    rw [hq] at hstr
                                    have HQ : Hid (q.data.toList = tk l (at9 + 10) u8) := Lib.hid (by rw [← hq])
                                    have r3 := HA14.out.free 3
                                    have r4 := HA14.out.cell (j := 3) rfl
                                    clear hap hq
                                    go_upto_region 25 with (fail)
                                    have HA14 : Hid (At4 (w22.setCell ⟨b14, 3, none⟩ (.string q)) b14 #[.string ⟨s9.toArray⟩, .int .i64 (u1 : Int), .int .i64 (ut : Int), .string q]) := Lib.hid (HA14.out.set 3 _)
                                    have HB14 := Lib.hid (below_set1 HB14.out (by rw [HE14.out]; exact Nat.le_refl _) 3 (.string q))
                                    clear r2 r3 r4 hsl hstr
                                    generalize w22.setCell ⟨b14, 3, none⟩ (.string q) = W24 at *
                                    have HA2 := Lib.hid (HA2o.out.bel HB14.out)
                                    have HA4 := Lib.hid (HA4o.out.bel HB14.out)
                                    have HB := Lib.hid (HBo.out.trans (HB14.out.mono HBo.out.size))
                                    by_cases hptr : (u1 : Int) = 12
                                    · have hptrb : ((u1 : Int) == 12) = true := by rw [beq_iff_eq]; exact hptr
                                      have r1 := HA14.out.cell (j := 1) rfl
                                      have HNp : Hid (∀ W, Below w.heap.size w W → Calls Tryd.prog 25 #[.slice a n c, .int .i64 ((at9 : Int) + 10)] W (NameX W n (nameX l (at9 + 10)))) := Lib.hid (fun W hW => by
                                        have := HNx.out W (at9 + 10) hW h10
                                        rw [show ((at9 + 10 : Nat) : Int) = (at9 : Int) + 10 by omega] at this
                                        exact this)
                                      cases hnp : nameX l (at9 + 10) with
                                      | none =>
                                        have HNo : Hid (decX l = none) := Lib.hid (HNoR.out (by rw [HX2.out, if_pos hptr, hnp]; rfl))
                                        rw [hnp] at HNp
                                        unfold NameX at HNp
                                        clear hnp
                                        go_wp2_with (go_at_call 25; refine (HNp.out _ HB.out).mono ?_; rintro e w8 ⟨hb2, x8, rfl⟩; have HA2 := Lib.hid (HA2.out.bel hb2); have HA4 := Lib.hid (HA4.out.bel hb2); have HB := Lib.hid (HB.out.trans (hb2.mono HB.out.size)); clear hb2; have d0 := HA4.out.cell (j := 0) rfl; have d1 := HA4.out.cell (j := 1) rfl; have d2 := HA4.out.cell (j := 2) rfl; have d3 := HA4.out.cell (j := 3) rfl; have d4 := HA4.out.cell (j := 4) rfl; have d5 := HA4.out.cell (j := 5) rfl; have d6 := HA4.out.cell (j := 6) rfl; have d7 := HA4.out.cell (j := 7) rfl; have c0 := HA2.out.cell (j := 0) rfl; have c1 := HA2.out.cell (j := 1) rfl; have c2 := HA2.out.cell (j := 2) rfl; have c3 := HA2.out.cell (j := 3) rfl; have c4 := HA2.out.cell (j := 4) rfl; have c5 := HA2.out.cell (j := 5) rfl; have c6 := HA2.out.cell (j := 6) rfl; have c7 := HA2.out.cell (j := 7) rfl; have e0 := HA2.out.free 0; have e1 := HA2.out.free 1; have e2 := HA2.out.free 2; have e3 := HA2.out.free 3; have e4 := HA2.out.free 4; have e5 := HA2.out.free 5; have e6 := HA2.out.free 6; have e7 := HA2.out.free 7)
                                        refine bodyPost_ret (results_row2 rfl _ _ _ _ _ _ _ rfl (set8_at HA2.out) Tryd.underlying26 rfl (by kernel_rfl)) rfl ?_
                                        refine ⟨below_set8 HB.out (Nat.le_refl _), ?_⟩
                                        rw [HNo.out]
                                        rfl
                                      | some qd =>
                                        obtain ⟨dd, e9⟩ := qd
                                        have hdl := nameX_len hnp
                                        rw [hnp] at HNp
                                        unfold NameX at HNp
                                        by_cases he9 : e9 = at9 + 10 + u8
                                        · obtain ⟨q2, hq2⟩ : ∃ q2 : ByteArray, (⟨dd.toArray⟩ : ByteArray) = q2 := ⟨_, rfl⟩
                                          have HQ2 : Hid (q2.data.toList = dd) := Lib.hid (by rw [← hq2])
                                          have hqs2 : q2.size ≤ 1000000 := by
                                            have e : q2.data.toList.length = q2.size := rfl
                                            rw [← e, HQ2.out]; omega
                                          have HX3 : Hid (recX l pos = if fineB (u1 : Int) q2.data.toList = true then some (⟨s9, u1, ut, q2.data.toList⟩, at9 + 10 + u8) else none) := Lib.hid (by rw [HX2.out, if_pos hptr, hnp, HQ2.out]; simp only; rw [if_pos he9]; rfl)
                                          have HNp2 : Hid (∀ W, Below w.heap.size w W → Calls Tryd.prog 25 #[.slice a n c, .int .i64 ((at9 : Int) + 10)] W fun e w' => e = .returned (.tuple #[.string q2, .int .i64 ((at9 : Int) + 10 + (u8 : Int)), .bool true]) ∧ Below W.heap.size W w') := Lib.hid (fun W hW => (HNp.out W hW).mono (by
                                            rintro e w' ⟨h1, rfl, h2⟩
                                            refine ⟨?_, h1⟩
                                            rw [hq2, show ((e9 : Nat) : Int) = (at9 : Int) + 10 + (u8 : Int) by omega]))
                                          have hbn : (((at9 : Int) + 10 + (u8 : Int)) != ((at9 : Int) + 10 + (u8 : Int))) = false := by simp
                                          clear HNp hnp hq2 hdl he9
                                          go_upto_region 29 with (go_at_call 25; refine (HNp2.out _ HB.out).mono ?_; rintro e w25 ⟨rfl, hb2⟩; have HA14 := Lib.hid (HA14.out.bel hb2); have HB14 := Lib.hid (HB14.out.trans (hb2.mono HB14.out.size)); have HA2 := Lib.hid (HA2.out.bel hb2); have HA4 := Lib.hid (HA4.out.bel hb2); have HB := Lib.hid (HB.out.trans (hb2.mono HB.out.size)); clear hb2)
                                          have r3 := HA14.out.free 3
                                          have r4 := HA14.out.cell (j := 3) rfl
                                          go_upto_region 30 with (fail)
                                          have HA14 : Hid (At4 (w25.setCell ⟨b14, 3, none⟩ (.string q2)) b14 #[.string ⟨s9.toArray⟩, .int .i64 (u1 : Int), .int .i64 (ut : Int), .string q2]) := Lib.hid (HA14.out.set 3 _)
                                          have HB14 := Lib.hid (below_set1 HB14.out (by rw [HE14.out]; exact Nat.le_refl _) 3 (.string q2))
                                          clear r1 r3 r4
                                          generalize w25.setCell ⟨b14, 3, none⟩ (.string q2) = W26 at *
                                          have HA2 := Lib.hid (HA2o.out.bel HB14.out)
                                          have HA4 := Lib.hid (HA4o.out.bel HB14.out)
                                          have HB := Lib.hid (HBo.out.trans (HB14.out.mono HBo.out.size))
                                          clear hptr hptrb
                                          have HF : Hid (∀ W, Calls Tryd.prog 26 #[.agg #[.string ⟨s9.toArray⟩, .int .i64 (u1 : Int), .int .i64 (ut : Int), .string q2]] W fun e w' => e = .returned (.bool (fineB (u1 : Int) q2.data.toList)) ∧ Below W.heap.size W w') := Lib.hid (fun W => fine_any ⟨s9.toArray⟩ q2 u1 ut W hqs2)
                                          have r0 := HA14.out.cell (j := 0) rfl
                                          have r1 := HA14.out.cell (j := 1) rfl
                                          have r2 := HA14.out.cell (j := 2) rfl
                                          have r3 := HA14.out.cell (j := 3) rfl
                                          cases hfb : fineB (u1 : Int) q2.data.toList with
                                          | false =>
                                            have HNo : Hid (decX l = none) := Lib.hid (HNoR.out (by rw [HX3.out, if_neg (by rw [hfb]; decide)]))
                                            rw [hfb] at HF
                                            go_wp2_with (go_at_call 26; refine (HF.out _).mono ?_; rintro e w30 ⟨rfl, hb2⟩; have HA2 := Lib.hid (HA2.out.bel hb2); have HA4 := Lib.hid (HA4.out.bel hb2); have HB := Lib.hid (HB.out.trans (hb2.mono HB.out.size)); clear hb2; have d0 := HA4.out.cell (j := 0) rfl; have d1 := HA4.out.cell (j := 1) rfl; have d2 := HA4.out.cell (j := 2) rfl; have d3 := HA4.out.cell (j := 3) rfl; have d4 := HA4.out.cell (j := 4) rfl; have d5 := HA4.out.cell (j := 5) rfl; have d6 := HA4.out.cell (j := 6) rfl; have d7 := HA4.out.cell (j := 7) rfl; have c0 := HA2.out.cell (j := 0) rfl; have c1 := HA2.out.cell (j := 1) rfl; have c2 := HA2.out.cell (j := 2) rfl; have c3 := HA2.out.cell (j := 3) rfl; have c4 := HA2.out.cell (j := 4) rfl; have c5 := HA2.out.cell (j := 5) rfl; have c6 := HA2.out.cell (j := 6) rfl; have c7 := HA2.out.cell (j := 7) rfl; have e0 := HA2.out.free 0; have e1 := HA2.out.free 1; have e2 := HA2.out.free 2; have e3 := HA2.out.free 3; have e4 := HA2.out.free 4; have e5 := HA2.out.free 5; have e6 := HA2.out.free 6; have e7 := HA2.out.free 7)
                                            refine bodyPost_ret (results_row2 rfl _ _ _ _ _ _ _ rfl (set8_at HA2.out) Tryd.underlying26 rfl (by kernel_rfl)) rfl ?_
                                            refine ⟨below_set8 HB.out (Nat.le_refl _), ?_⟩
                                            rw [HNo.out]
                                            rfl
                                          | true =>
                                            have HX4 : Hid (recX l pos = some (⟨s9, u1, ut, q2.data.toList⟩, at9 + 10 + u8)) := Lib.hid (by rw [HX3.out, if_pos hfb])
                                            rw [hfb] at HF
                                            go_upto_region 33 with (go_at_call 26; refine (HF.out _).mono ?_; rintro e w30 ⟨rfl, hb2⟩; have HA14 := Lib.hid (HA14.out.bel hb2); have HB14 := Lib.hid (HB14.out.trans (hb2.mono HB14.out.size)); have HA2 := Lib.hid (HA2.out.bel hb2); have HA4 := Lib.hid (HA4.out.bel hb2); have HB := Lib.hid (HB.out.trans (hb2.mono HB.out.size)); clear hb2)
                                            have HA2 := Lib.hid (HA2o.out.bel HB14.out)
                                            have HA4 := Lib.hid (HA4o.out.bel HB14.out)
                                            have HB := Lib.hid (HBo.out.trans (HB14.out.mono HBo.out.size))
                                            have HA7 := Lib.hid (HA7o.out.bel HB14.out)
                                            have HRc := Lib.hid (own_bel HRco.out HB14.out)
                                            have HRc30 : RecC (b7 + 1) w30 (.slice vq rs.length vc) rs := HRc.out
                                            have hrl2 : rs.length ≤ 65536 := by have := HRl.out; omega
                                            have hlt30 : b14 < w30.heap.size := HA14.out.lt
                                            have r0 := HA14.out.cell (j := 0) rfl
                                            have r1 := HA14.out.cell (j := 1) rfl
                                            have r2 := HA14.out.cell (j := 2) rfl
                                            have r3 := HA14.out.cell (j := 3) rfl
                                            have c77 := HA7.out.cell (j := 7) rfl
                                            obtain ⟨i4, hi, hz0, hz1, hz2⟩ := info_parts infoRec
                                            go_wp2_with (at_builtin; refine wpList_append_own _ rfl _ _ 24 rfl (b7 + 1) 48 i4 (.agg #[.string ⟨#[]⟩, .int .i64 0, .int .i64 0, .string ⟨#[]⟩]) 4 48 Tryd.underlying24 hi hz0 hz1 hz2 rfl (by decide) (.slice vq rs.length vc) rs.length (rs.flatMap recCells) (by rfl) (World.ownsRow.alloc HRc30 _) ⟨w30.heap.size, 0, none⟩ 1 1 [.string ⟨s9.toArray⟩, .int .i64 (u1 : Int), .int .i64 (ut : Int), .string q2] (by rfl) rfl (new_cells4 _ _ _ _ _ _) (by simp [Value.oneCell']) (by unfold maxLen; omega) (by omega) (by show b7 + 1 ≤ (w30.heap.push _).size; simp; omega) ?_; intro v5 w5 hown5 hg5 _; obtain ⟨x5, y5, rfl⟩ : ∃ x y, v5 = .slice x (rs.length + 1) y := (hown5.2.elim (fun h => absurd h.2 (by omega)) (fun ⟨_, _, _, e1, _⟩ => ⟨_, _, e1⟩)); have hblk : ∀ j, j ≤ b7 → w5.heap[j]? = w30.heap[j]? := (fun j hj => (hg5.block j (by show j < (w30.heap.push _).size; simp; omega) (fun e => by have := (World.ownsRow.lt HRc30 j e.symm).1; omega)).trans (by show (w30.heap.push _)[j]? = _; rw [Array.getElem?_push, if_neg (by omega)])); have HA75 : Hid (At8 w5 b7 _) := Lib.hid ((hblk b7 (Nat.le_refl _)).trans HA7.out); have f57 := HA75.out.free 7; have c57 := HA75.out.cell (j := 7) rfl)
                                            go_roundw
                                            case rel =>
                                              have hs5 : w30.heap.size ≤ w5.heap.size := by
                                                have := hg5.size
                                                have e : (w30.heap.push (.cells #[.string ⟨s9.toArray⟩, .int .i64 (u1 : Int), .int .i64 (ut : Int), .string q2] 48)).size = w30.heap.size + 1 := by simp
                                                have h2 : (w30.heap.push (.cells #[.string ⟨s9.toArray⟩, .int .i64 (u1 : Int), .int .i64 (ut : Int), .string q2] 48)).size ≤ w5.heap.size := this
                                                omega
                                              have hb5 : Below w.heap.size w w5 := HB.out.trans ⟨hg5.os, hg5.tape, hg5.output, hs5, fun j hj => hblk j (by omega)⟩
                                              refine ⟨k + 1, at9 + 10 + u8, _, rs ++ [⟨s9, u1, ut, q2.data.toList⟩], hlt, by go_num, by go_num, by omega, by rw [recsX, HRec.out]; simp only [Option.bind_some]; rw [HX4.out]; rfl, by rw [List.length_append, HRl.out]; rfl, HA75.out.set 7 _, ?_, At8.late ((hblk _ (by omega)).trans HA2.out) (by omega) 7 _, At8.late ((hblk _ (by omega)).trans HA4.out) (by omega) 7 _, below_set1 hb5 (by omega) 7 _⟩
                                              unfold RecC
                                              rw [List.flatMap_append, List.length_append]
                                              have e : ([⟨s9, u1, ut, q2.data.toList⟩] : List Rec).flatMap recCells = [.string ⟨s9.toArray⟩, .int .i64 (u1 : Int), .int .i64 (ut : Int), .string q2] := by simp [recCells]
                                              rw [e]
                                              exact own_same hown5 (fun j hj => by
                                                show (w5.heap.modify b7 _)[j]? = _
                                                rw [Array.getElem?_modify, if_neg (by omega)])
                                            case measure => simp [intOf]; omega
                                        · have HNo : Hid (decX l = none) := Lib.hid (HNoR.out (by rw [HX2.out, if_pos hptr, hnp]; simp only; rw [if_neg he9]; rfl))
                                          have hbn : ((e9 : Int) != (at9 : Int) + 10 + (u8 : Int)) = true := by rw [bne, beq_eq_false_iff_ne.2 (by omega)]; rfl
                                          clear hnp hdl
                                          go_wp2_with (go_at_call 25; refine (HNp.out _ HB.out).mono ?_; rintro e w8 ⟨hb2, rfl, hj8⟩; have HA2 := Lib.hid (HA2.out.bel hb2); have HA4 := Lib.hid (HA4.out.bel hb2); have HB := Lib.hid (HB.out.trans (hb2.mono HB.out.size)); clear hb2; have d0 := HA4.out.cell (j := 0) rfl; have d1 := HA4.out.cell (j := 1) rfl; have d2 := HA4.out.cell (j := 2) rfl; have d3 := HA4.out.cell (j := 3) rfl; have d4 := HA4.out.cell (j := 4) rfl; have d5 := HA4.out.cell (j := 5) rfl; have d6 := HA4.out.cell (j := 6) rfl; have d7 := HA4.out.cell (j := 7) rfl; have c0 := HA2.out.cell (j := 0) rfl; have c1 := HA2.out.cell (j := 1) rfl; have c2 := HA2.out.cell (j := 2) rfl; have c3 := HA2.out.cell (j := 3) rfl; have c4 := HA2.out.cell (j := 4) rfl; have c5 := HA2.out.cell (j := 5) rfl; have c6 := HA2.out.cell (j := 6) rfl; have c7 := HA2.out.cell (j := 7) rfl; have e0 := HA2.out.free 0; have e1 := HA2.out.free 1; have e2 := HA2.out.free 2; have e3 := HA2.out.free 3; have e4 := HA2.out.free 4; have e5 := HA2.out.free 5; have e6 := HA2.out.free 6; have e7 := HA2.out.free 7)
                                          refine bodyPost_ret (results_row2 rfl _ _ _ _ _ _ _ rfl (set8_at HA2.out) Tryd.underlying26 rfl (by kernel_rfl)) rfl ?_
                                          refine ⟨below_set8 HB.out (Nat.le_refl _), ?_⟩
                                          rw [HNo.out]
                                          rfl
                                    · have hptrb : ((u1 : Int) == 12) = false := by rw [beq_eq_false_iff_ne]; exact hptr
                                      have HX3 : Hid (recX l pos = if fineB (u1 : Int) q.data.toList = true then some (⟨s9, u1, ut, q.data.toList⟩, at9 + 10 + u8) else none) := Lib.hid (by rw [HX2.out, if_neg hptr, HQ.out]; rfl)
                                      have hqs : q.size ≤ 1000000 := by
                                        have e : q.data.toList.length = q.size := rfl
                                        rw [← e, HQ.out]
                                        unfold tk
                                        rw [List.length_take, List.length_drop]
                                        omega
                                      have HF : Hid (∀ W, Calls Tryd.prog 26 #[.agg #[.string ⟨s9.toArray⟩, .int .i64 (u1 : Int), .int .i64 (ut : Int), .string q]] W fun e w' => e = .returned (.bool (fineB (u1 : Int) q.data.toList)) ∧ Below W.heap.size W w') := Lib.hid (fun W => fine_any ⟨s9.toArray⟩ q u1 ut W hqs)
                                      have r0 := HA14.out.cell (j := 0) rfl
                                      have r1 := HA14.out.cell (j := 1) rfl
                                      have r2 := HA14.out.cell (j := 2) rfl
                                      have r3 := HA14.out.cell (j := 3) rfl
                                      cases hfb : fineB (u1 : Int) q.data.toList with
                                      | false =>
                                        have HNo : Hid (decX l = none) := Lib.hid (HNoR.out (by rw [HX3.out, if_neg (by rw [hfb]; decide)]))
                                        rw [hfb] at HF
                                        go_wp2_with (go_at_call 26; refine (HF.out _).mono ?_; rintro e w30 ⟨rfl, hb2⟩; have HA2 := Lib.hid (HA2.out.bel hb2); have HA4 := Lib.hid (HA4.out.bel hb2); have HB := Lib.hid (HB.out.trans (hb2.mono HB.out.size)); clear hb2; have d0 := HA4.out.cell (j := 0) rfl; have d1 := HA4.out.cell (j := 1) rfl; have d2 := HA4.out.cell (j := 2) rfl; have d3 := HA4.out.cell (j := 3) rfl; have d4 := HA4.out.cell (j := 4) rfl; have d5 := HA4.out.cell (j := 5) rfl; have d6 := HA4.out.cell (j := 6) rfl; have d7 := HA4.out.cell (j := 7) rfl; have c0 := HA2.out.cell (j := 0) rfl; have c1 := HA2.out.cell (j := 1) rfl; have c2 := HA2.out.cell (j := 2) rfl; have c3 := HA2.out.cell (j := 3) rfl; have c4 := HA2.out.cell (j := 4) rfl; have c5 := HA2.out.cell (j := 5) rfl; have c6 := HA2.out.cell (j := 6) rfl; have c7 := HA2.out.cell (j := 7) rfl; have e0 := HA2.out.free 0; have e1 := HA2.out.free 1; have e2 := HA2.out.free 2; have e3 := HA2.out.free 3; have e4 := HA2.out.free 4; have e5 := HA2.out.free 5; have e6 := HA2.out.free 6; have e7 := HA2.out.free 7)
                                        refine bodyPost_ret (results_row2 rfl _ _ _ _ _ _ _ rfl (set8_at HA2.out) Tryd.underlying26 rfl (by kernel_rfl)) rfl ?_
                                        refine ⟨below_set8 HB.out (Nat.le_refl _), ?_⟩
                                        rw [HNo.out]
                                        rfl
                                      | true =>
                                        have HX4 : Hid (recX l pos = some (⟨s9, u1, ut, q.data.toList⟩, at9 + 10 + u8)) := Lib.hid (by rw [HX3.out, if_pos hfb])
                                        rw [hfb] at HF
                                        go_upto_region 33 with (go_at_call 26; refine (HF.out _).mono ?_; rintro e w30 ⟨rfl, hb2⟩; have HA14 := Lib.hid (HA14.out.bel hb2); have HB14 := Lib.hid (HB14.out.trans (hb2.mono HB14.out.size)); have HA2 := Lib.hid (HA2.out.bel hb2); have HA4 := Lib.hid (HA4.out.bel hb2); have HB := Lib.hid (HB.out.trans (hb2.mono HB.out.size)); clear hb2)
                                        have HA2 := Lib.hid (HA2o.out.bel HB14.out)
                                        have HA4 := Lib.hid (HA4o.out.bel HB14.out)
                                        have HB := Lib.hid (HBo.out.trans (HB14.out.mono HBo.out.size))
                                        have HA7 := Lib.hid (HA7o.out.bel HB14.out)
                                        have HRc := Lib.hid (own_bel HRco.out HB14.out)
                                        have HRc30 : RecC (b7 + 1) w30 (.slice vq rs.length vc) rs := HRc.out
                                        have hrl2 : rs.length ≤ 65536 := by have := HRl.out; omega
                                        have hlt30 : b14 < w30.heap.size := HA14.out.lt
                                        have r0 := HA14.out.cell (j := 0) rfl
                                        have r1 := HA14.out.cell (j := 1) rfl
                                        have r2 := HA14.out.cell (j := 2) rfl
                                        have r3 := HA14.out.cell (j := 3) rfl
                                        have c77 := HA7.out.cell (j := 7) rfl
                                        obtain ⟨i4, hi, hz0, hz1, hz2⟩ := info_parts infoRec
                                        go_wp2_with (at_builtin; refine wpList_append_own _ rfl _ _ 24 rfl (b7 + 1) 48 i4 (.agg #[.string ⟨#[]⟩, .int .i64 0, .int .i64 0, .string ⟨#[]⟩]) 4 48 Tryd.underlying24 hi hz0 hz1 hz2 rfl (by decide) (.slice vq rs.length vc) rs.length (rs.flatMap recCells) (by rfl) (World.ownsRow.alloc HRc30 _) ⟨w30.heap.size, 0, none⟩ 1 1 [.string ⟨s9.toArray⟩, .int .i64 (u1 : Int), .int .i64 (ut : Int), .string q] (by rfl) rfl (new_cells4 _ _ _ _ _ _) (by simp [Value.oneCell']) (by unfold maxLen; omega) (by omega) (by show b7 + 1 ≤ (w30.heap.push _).size; simp; omega) ?_; intro v5 w5 hown5 hg5 _; obtain ⟨x5, y5, rfl⟩ : ∃ x y, v5 = .slice x (rs.length + 1) y := (hown5.2.elim (fun h => absurd h.2 (by omega)) (fun ⟨_, _, _, e1, _⟩ => ⟨_, _, e1⟩)); have hblk : ∀ j, j ≤ b7 → w5.heap[j]? = w30.heap[j]? := (fun j hj => (hg5.block j (by show j < (w30.heap.push _).size; simp; omega) (fun e => by have := (World.ownsRow.lt HRc30 j e.symm).1; omega)).trans (by show (w30.heap.push _)[j]? = _; rw [Array.getElem?_push, if_neg (by omega)])); have HA75 : Hid (At8 w5 b7 _) := Lib.hid ((hblk b7 (Nat.le_refl _)).trans HA7.out); have f57 := HA75.out.free 7; have c57 := HA75.out.cell (j := 7) rfl)
                                        go_roundw
                                        case rel =>
                                          have hs5 : w30.heap.size ≤ w5.heap.size := by
                                            have := hg5.size
                                            have e : (w30.heap.push (.cells #[.string ⟨s9.toArray⟩, .int .i64 (u1 : Int), .int .i64 (ut : Int), .string q] 48)).size = w30.heap.size + 1 := by simp
                                            have h2 : (w30.heap.push (.cells #[.string ⟨s9.toArray⟩, .int .i64 (u1 : Int), .int .i64 (ut : Int), .string q] 48)).size ≤ w5.heap.size := this
                                            omega
                                          have hb5 : Below w.heap.size w w5 := HB.out.trans ⟨hg5.os, hg5.tape, hg5.output, hs5, fun j hj => hblk j (by omega)⟩
                                          refine ⟨k + 1, at9 + 10 + u8, _, rs ++ [⟨s9, u1, ut, q.data.toList⟩], hlt, by go_num, by go_num, by omega, by rw [recsX, HRec.out]; simp only [Option.bind_some]; rw [HX4.out]; rfl, by rw [List.length_append, HRl.out]; rfl, HA75.out.set 7 _, ?_, At8.late ((hblk _ (by omega)).trans HA2.out) (by omega) 7 _, At8.late ((hblk _ (by omega)).trans HA4.out) (by omega) 7 _, below_set1 hb5 (by omega) 7 _⟩
                                          unfold RecC
                                          rw [List.flatMap_append, List.length_append]
                                          have e : ([⟨s9, u1, ut, q.data.toList⟩] : List Rec).flatMap recCells = [.string ⟨s9.toArray⟩, .int .i64 (u1 : Int), .int .i64 (ut : Int), .string q] := by simp [recCells]
                                          rw [e]
                                          exact own_same hown5 (fun j hj => by
                                            show (w5.heap.modify b7 _)[j]? = _
                                            rw [Array.getElem?_modify, if_neg (by omega)])
                                        case measure => simp [intOf]; omega
                        · have c2n : (nmV l ((at9 : Int) + 2) != 1) = true := by rw [bne, beq_eq_false_iff_ne.2 c2]; rfl
                          have HNo : Hid (decX l = none) := Lib.hid (HNoR.out (by unfold recX; rw [HNX.out]; simp only [Option.bind_some]; rw [if_pos (.inr (.inl c2))]))
                          go_wp2_with (go_at_call 24; refine (HNm.out _ _ HB.out h4096 (by omega)).mono ?_; rintro e w21 ⟨rfl, hb2⟩; have HA2 := Lib.hid (HA2.out.bel hb2); have HA4 := Lib.hid (HA4.out.bel hb2); have HB := Lib.hid (HB.out.trans (hb2.mono HB.out.size)); clear hb2; have d0 := HA4.out.cell (j := 0) rfl; have d1 := HA4.out.cell (j := 1) rfl; have d2 := HA4.out.cell (j := 2) rfl; have d3 := HA4.out.cell (j := 3) rfl; have d4 := HA4.out.cell (j := 4) rfl; have d5 := HA4.out.cell (j := 5) rfl; have d6 := HA4.out.cell (j := 6) rfl; have d7 := HA4.out.cell (j := 7) rfl; have c0 := HA2.out.cell (j := 0) rfl; have c1 := HA2.out.cell (j := 1) rfl; have c2 := HA2.out.cell (j := 2) rfl; have c3 := HA2.out.cell (j := 3) rfl; have c4 := HA2.out.cell (j := 4) rfl; have c5 := HA2.out.cell (j := 5) rfl; have c6 := HA2.out.cell (j := 6) rfl; have c7 := HA2.out.cell (j := 7) rfl; have e0 := HA2.out.free 0; have e1 := HA2.out.free 1; have e2 := HA2.out.free 2; have e3 := HA2.out.free 3; have e4 := HA2.out.free 4; have e5 := HA2.out.free 5; have e6 := HA2.out.free 6; have e7 := HA2.out.free 7)
                          refine bodyPost_ret (results_row2 rfl _ _ _ _ _ _ _ rfl (set8_at HA2.out) Tryd.underlying26 rfl (by kernel_rfl)) rfl ?_
                          refine ⟨below_set8 HB.out (Nat.le_refl _), ?_⟩
                          rw [HNo.out]
                          rfl
                  · have hlti : ¬ (0 : Int) < (v6 : Int) - (k : Int) := by omega
                    obtain rfl : k = v6 := by omega
                    have HYes : Hid (decX l = some ⟨v0, decide (32768 ≤ (v2 : Int)), decide ((v2 : Int) / 512 % 2 = 1), decide ((v2 : Int) / 256 % 2 = 1), ((v2 : Int) % 16).toNat, s8, kq, rs⟩) := Lib.hid (by rw [HDec4.out, HRec.out]; rfl)
                    have g0 := HA7.out.cell (j := 0) rfl
                    have g1 := HA7.out.cell (j := 1) rfl
                    have g2 := HA7.out.cell (j := 2) rfl
                    have g3 := HA7.out.cell (j := 3) rfl
                    have g4 := HA7.out.cell (j := 4) rfl
                    have g5 := HA7.out.cell (j := 5) rfl
                    have g6 := HA7.out.cell (j := 6) rfl
                    have g7 := HA7.out.cell (j := 7) rfl
                    have d0 := HA4.out.cell (j := 0) rfl
                    have d1 := HA4.out.cell (j := 1) rfl
                    have d2 := HA4.out.cell (j := 2) rfl
                    have d3 := HA4.out.cell (j := 3) rfl
                    have d4 := HA4.out.cell (j := 4) rfl
                    have d5 := HA4.out.cell (j := 5) rfl
                    have d6 := HA4.out.cell (j := 6) rfl
                    have d7 := HA4.out.cell (j := 7) rfl
                    have c0 := HA2.out.cell (j := 0) rfl
                    have c1 := HA2.out.cell (j := 1) rfl
                    have c2 := HA2.out.cell (j := 2) rfl
                    have c3 := HA2.out.cell (j := 3) rfl
                    have c4 := HA2.out.cell (j := 4) rfl
                    have c5 := HA2.out.cell (j := 5) rfl
                    have c6 := HA2.out.cell (j := 6) rfl
                    have c7 := HA2.out.cell (j := 7) rfl
                    have e0 := HA2.out.free 0
                    have e1 := HA2.out.free 1
                    have e2 := HA2.out.free 2
                    have e3 := HA2.out.free 3
                    have e4 := HA2.out.free 4
                    have e5 := HA2.out.free 5
                    have e6 := HA2.out.free 6
                    have e7 := HA2.out.free 7
                    go_wp2
                    refine bodyPost_ret (results_row2 rfl _ _ _ _ _ _ _ rfl (set8_at HA2.out) Tryd.underlying26 rfl (by kernel_rfl)) rfl ?_
                    refine ⟨below_set8 HB.out (Nat.le_refl _), ?_⟩
                    rw [HYes.out]
                    refine ⟨_, ?_, own_lower (own_set8 HRc.out (by omega)) (by omega)⟩
                    unfold Msg.val
                    have e16 : (((((v2 : Int) % 16).toNat : Nat)) : Int) = (v2 : Int) % 16 := Int.toNat_of_nonneg (by omega)
                    simp only [e16]
                    rfl
              · have hc2n : (y2 != 1) = true := by rw [bne, beq_eq_false_iff_ne.2 hc2]; rfl
                have HNo : Hid (decX l = none) := Lib.hid (by rw [HDec3.out, if_pos (.inr hc2)])
                go_wp2_with (first | (go_at_call 24; with_reducible refine (HNa.out _ HB.out).mono ?_; rintro e w9 ⟨rfl, hb2⟩; have HA2 := Lib.hid (HA2.out.bel hb2); have HA4 := Lib.hid (HA4.out.bel hb2); have HB := Lib.hid (HB.out.trans (hb2.mono HB.out.size)); clear hb2) | (go_at_call 24; with_reducible refine (HNb.out _ HB.out).mono ?_; rintro e w9 ⟨rfl, hb2⟩; have HA2 := Lib.hid (HA2.out.bel hb2); have HA4 := Lib.hid (HA4.out.bel hb2); have HB := Lib.hid (HB.out.trans (hb2.mono HB.out.size)); clear hb2; have d0 := HA4.out.cell (j := 0) rfl; have d1 := HA4.out.cell (j := 1) rfl; have d2 := HA4.out.cell (j := 2) rfl; have d3 := HA4.out.cell (j := 3) rfl; have d4 := HA4.out.cell (j := 4) rfl; have d5 := HA4.out.cell (j := 5) rfl; have d6 := HA4.out.cell (j := 6) rfl; have d7 := HA4.out.cell (j := 7) rfl; have c0 := HA2.out.cell (j := 0) rfl; have c1 := HA2.out.cell (j := 1) rfl; have c2 := HA2.out.cell (j := 2) rfl; have c3 := HA2.out.cell (j := 3) rfl; have c4 := HA2.out.cell (j := 4) rfl; have c5 := HA2.out.cell (j := 5) rfl; have c6 := HA2.out.cell (j := 6) rfl; have c7 := HA2.out.cell (j := 7) rfl; have e0 := HA2.out.free 0; have e1 := HA2.out.free 1; have e2 := HA2.out.free 2; have e3 := HA2.out.free 3; have e4 := HA2.out.free 4; have e5 := HA2.out.free 5; have e6 := HA2.out.free 6; have e7 := HA2.out.free 7))
                refine bodyPost_ret (results_row2 rfl _ _ _ _ _ _ _ rfl (set8_at HA2.out) Tryd.underlying26 rfl (by kernel_rfl)) rfl ?_
                refine ⟨below_set8 HB.out (Nat.le_refl _), ?_⟩
                rw [HNo.out]
                rfl
        · have HNo : Hid (decX l = none) := Lib.hid (by rw [HDec.out, if_pos (.inr (.inr hcf))])
          have hcfb : ((v2 : Int) / 2048 % 16 == 0) = false := by rw [beq_eq_false_iff_ne]; exact hcf
          have hcfn : ((v2 : Int) / 2048 % 16 != 0) = true := by rw [bne, hcfb]; rfl
          clear hcfb
          go_wp2_with (go_at_call 24; with_reducible refine (HN4.out _ HB.out).mono ?_; rintro e w4 ⟨rfl, hb2⟩; have HA2 := Lib.hid (HA2.out.bel hb2); have HA4 := Lib.hid (HA4.out.bel hb2); have HB := Lib.hid (HB.out.trans (hb2.mono HB.out.size)); clear hb2; have d0 := HA4.out.cell (j := 0) rfl; have d1 := HA4.out.cell (j := 1) rfl; have d2 := HA4.out.cell (j := 2) rfl; have d3 := HA4.out.cell (j := 3) rfl; have d4 := HA4.out.cell (j := 4) rfl; have d5 := HA4.out.cell (j := 5) rfl; have d6 := HA4.out.cell (j := 6) rfl; have d7 := HA4.out.cell (j := 7) rfl; have c0 := HA2.out.cell (j := 0) rfl; have c1 := HA2.out.cell (j := 1) rfl; have c2 := HA2.out.cell (j := 2) rfl; have c3 := HA2.out.cell (j := 3) rfl; have c4 := HA2.out.cell (j := 4) rfl; have c5 := HA2.out.cell (j := 5) rfl; have c6 := HA2.out.cell (j := 6) rfl; have c7 := HA2.out.cell (j := 7) rfl; have e0 := HA2.out.free 0; have e1 := HA2.out.free 1; have e2 := HA2.out.free 2; have e3 := HA2.out.free 3; have e4 := HA2.out.free 4; have e5 := HA2.out.free 5; have e6 := HA2.out.free 6; have e7 := HA2.out.free 7)
          refine bodyPost_ret (results_row2 rfl _ _ _ _ _ _ _ rfl (set8_at HA2.out) Tryd.underlying26 rfl (by kernel_rfl)) rfl ?_
          refine ⟨below_set8 HB.out (Nat.le_refl _), ?_⟩
          rw [HNo.out]
          rfl
      · have hc6i : (32 : Int) < (v6 : Int) := by omega
        have HNo : Hid (decX l = none) := Lib.hid (by rw [HDec.out, if_pos (.inr (.inl hc6i))])
        go_wp2_with (go_at_call 24; with_reducible refine (HN4.out _ HB.out).mono ?_; rintro e w4 ⟨rfl, hb2⟩; have HA2 := Lib.hid (HA2.out.bel hb2); have HA4 := Lib.hid (HA4.out.bel hb2); have HB := Lib.hid (HB.out.trans (hb2.mono HB.out.size)); clear hb2; have d0 := HA4.out.cell (j := 0) rfl; have d1 := HA4.out.cell (j := 1) rfl; have d2 := HA4.out.cell (j := 2) rfl; have d3 := HA4.out.cell (j := 3) rfl; have d4 := HA4.out.cell (j := 4) rfl; have d5 := HA4.out.cell (j := 5) rfl; have d6 := HA4.out.cell (j := 6) rfl; have d7 := HA4.out.cell (j := 7) rfl; have c0 := HA2.out.cell (j := 0) rfl; have c1 := HA2.out.cell (j := 1) rfl; have c2 := HA2.out.cell (j := 2) rfl; have c3 := HA2.out.cell (j := 3) rfl; have c4 := HA2.out.cell (j := 4) rfl; have c5 := HA2.out.cell (j := 5) rfl; have c6 := HA2.out.cell (j := 6) rfl; have c7 := HA2.out.cell (j := 7) rfl; have e0 := HA2.out.free 0; have e1 := HA2.out.free 1; have e2 := HA2.out.free 2; have e3 := HA2.out.free 3; have e4 := HA2.out.free 4; have e5 := HA2.out.free 5; have e6 := HA2.out.free 6; have e7 := HA2.out.free 7)
        refine bodyPost_ret (results_row2 rfl _ _ _ _ _ _ _ rfl (set8_at HA2.out) Tryd.underlying26 rfl (by kernel_rfl)) rfl ?_
        refine ⟨below_set8 HB.out (Nat.le_refl _), ?_⟩
        rw [HNo.out]
        rfl
    · have hc4i : ¬ (v4 : Int) = 1 := by omega
      have hc4b : ((v4 : Int) == 1) = false := by rw [beq_eq_false_iff_ne]; exact hc4i
      have HNo : Hid (decX l = none) := Lib.hid (by rw [HDec.out, if_pos (.inl hc4i)])
      go_wp2_with (go_at_call 24; with_reducible refine (HN4.out _ HB.out).mono ?_; rintro e w4 ⟨rfl, hb2⟩; have HA2 := Lib.hid (HA2.out.bel hb2); have HA4 := Lib.hid (HA4.out.bel hb2); have HB := Lib.hid (HB.out.trans (hb2.mono HB.out.size)); clear hb2; have d0 := HA4.out.cell (j := 0) rfl; have d1 := HA4.out.cell (j := 1) rfl; have d2 := HA4.out.cell (j := 2) rfl; have d3 := HA4.out.cell (j := 3) rfl; have d4 := HA4.out.cell (j := 4) rfl; have d5 := HA4.out.cell (j := 5) rfl; have d6 := HA4.out.cell (j := 6) rfl; have d7 := HA4.out.cell (j := 7) rfl; have c0 := HA2.out.cell (j := 0) rfl; have c1 := HA2.out.cell (j := 1) rfl; have c2 := HA2.out.cell (j := 2) rfl; have c3 := HA2.out.cell (j := 3) rfl; have c4 := HA2.out.cell (j := 4) rfl; have c5 := HA2.out.cell (j := 5) rfl; have c6 := HA2.out.cell (j := 6) rfl; have c7 := HA2.out.cell (j := 7) rfl; have e0 := HA2.out.free 0; have e1 := HA2.out.free 1; have e2 := HA2.out.free 2; have e3 := HA2.out.free 3; have e4 := HA2.out.free 4; have e5 := HA2.out.free 5; have e6 := HA2.out.free 6; have e7 := HA2.out.free 7)
      refine bodyPost_ret (results_row2 rfl _ _ _ _ _ _ _ rfl (set8_at HA2.out) Tryd.underlying26 rfl (by kernel_rfl)) rfl ?_
      refine ⟨below_set8 HB.out (Nat.le_refl _), ?_⟩
      rw [HNo.out]
      rfl
  · have HNo : Hid (decX l = none) := Lib.hid (by unfold decX; rw [if_pos (by omega)])
    by_cases h4096 : (4096 : Int) < (n : Int)
    · have d0 := HA4.out.cell (j := 0) rfl
      have d1 := HA4.out.cell (j := 1) rfl
      have d2 := HA4.out.cell (j := 2) rfl
      have d3 := HA4.out.cell (j := 3) rfl
      have d4 := HA4.out.cell (j := 4) rfl
      have d5 := HA4.out.cell (j := 5) rfl
      have d6 := HA4.out.cell (j := 6) rfl
      have d7 := HA4.out.cell (j := 7) rfl
      have c0 := HA2.out.cell (j := 0) rfl
      have c1 := HA2.out.cell (j := 1) rfl
      have c2 := HA2.out.cell (j := 2) rfl
      have c3 := HA2.out.cell (j := 3) rfl
      have c4 := HA2.out.cell (j := 4) rfl
      have c5 := HA2.out.cell (j := 5) rfl
      have c6 := HA2.out.cell (j := 6) rfl
      have c7 := HA2.out.cell (j := 7) rfl
      have e0 := HA2.out.free 0
      have e1 := HA2.out.free 1
      have e2 := HA2.out.free 2
      have e3 := HA2.out.free 3
      have e4 := HA2.out.free 4
      have e5 := HA2.out.free 5
      have e6 := HA2.out.free 6
      have e7 := HA2.out.free 7
      go_wp2
      refine bodyPost_ret (results_row2 rfl _ _ _ _ _ _ _ rfl (set8_at HA2.out) Tryd.underlying26 rfl (by kernel_rfl)) rfl ?_
      refine ⟨below_set8 HB.out (Nat.le_refl _), ?_⟩
      rw [HNo.out]
      rfl
    · have h12 : (n : Int) < 12 := by omega
      have d0 := HA4.out.cell (j := 0) rfl
      have d1 := HA4.out.cell (j := 1) rfl
      have d2 := HA4.out.cell (j := 2) rfl
      have d3 := HA4.out.cell (j := 3) rfl
      have d4 := HA4.out.cell (j := 4) rfl
      have d5 := HA4.out.cell (j := 5) rfl
      have d6 := HA4.out.cell (j := 6) rfl
      have d7 := HA4.out.cell (j := 7) rfl
      have c0 := HA2.out.cell (j := 0) rfl
      have c1 := HA2.out.cell (j := 1) rfl
      have c2 := HA2.out.cell (j := 2) rfl
      have c3 := HA2.out.cell (j := 3) rfl
      have c4 := HA2.out.cell (j := 4) rfl
      have c5 := HA2.out.cell (j := 5) rfl
      have c6 := HA2.out.cell (j := 6) rfl
      have c7 := HA2.out.cell (j := 7) rfl
      have e0 := HA2.out.free 0
      have e1 := HA2.out.free 1
      have e2 := HA2.out.free 2
      have e3 := HA2.out.free 3
      have e4 := HA2.out.free 4
      have e5 := HA2.out.free 5
      have e6 := HA2.out.free 6
      have e7 := HA2.out.free 7
      go_wp2
      refine bodyPost_ret (results_row2 rfl _ _ _ _ _ _ _ rfl (set8_at HA2.out) Tryd.underlying26 rfl (by kernel_rfl)) rfl ?_
      refine ⟨below_set8 HB.out (Nat.le_refl _), ?_⟩
      rw [HNo.out]
      rfl
end Go.Proofs.YtepfeekfglpjoaaDoor
