/- Contract of the world's Cut, where no file was put. -/
import Derived.Test.YtfpgobbkeocokaaDn
namespace Go.Proofs.Ytfpgobbkeocokaa
open Go.RowKit Go.Mp Go.Rb Go.Lib
theorem mclone_nil (w : World) : Calls Try.prog 39 #[.map none] w fun e w' => e = .returned (.map none) ∧ w = w' := by
  have e79 := eql79_none
  go_enter Try.func39, Try.ntmps39
  go_wp2
  go_ret
  exact ⟨rfl, rfl⟩
section
variable {b B K : Nat} {c : Value × Value × Value × Value × Value} {mp : Option Nat} {D : DataW Value} {syn : Nat} {V : List (ByteArray × Value)} {p : Option Addr} {cap : Nat} {F : ByteArray → List UInt8} {UL : List (ByteArray × List UInt8)}
theorem cut_both {w : World} (h : DI w b B K c mp D syn V p cap F UL) (n : Int) (hn : -9223372036854775808 ≤ n ∧ n ≤ 9223372036854775807) (hsyn : syn ≤ 100000) (hV : V.length ≤ 100000) (hK : K ≤ 1000000) (G : ByteArray → List UInt8) (N : Nat) (hG : ∀ t, t.size ≤ maxLen → Go.Maps.has D (keyL t) = true → RB B w ((fstV (V.drop (N - syn)) t).getD (valOf D t)) (G t) ∧ (G t).length ≤ 1000000) (hN : min (max n (syn : Int)) ((syn : Int) + (V.length : Int)) = (N : Int)) :
    Calls Try.prog 40 #[.pointer (some ⟨b, 5, none⟩), .int .i64 n] w fun e w' => ∃ mf, ∃ D' : DataW Value, e = .returned (.agg #[.map (some mf), .int .i64 (N : Int), .slice none 0 0]) ∧ MapD w' w.heap.size K (some mf) D' ∧ (∃ left, OutD w' w.heap.size D' D G left ∧ ∀ kl, left kl = false) ∧ Below w.heap.size w w' := by
  cases mp with
  | none => exact cut_none h n hn hsyn hV hK G N hG hN
  | some m => exact cut_any h (by simp) n hn hsyn hV hK G N hG hN
end
section
variable {b B K : Nat} {now stamp : Int} {sent streams : Value} {mp : Option Nat} {D : DataW Value} {syn : Nat} {V : List (ByteArray × Value)} {p : Option Addr} {cap : Nat} {F : ByteArray → List UInt8} {UL : List (ByteArray × List UInt8)}
set_option maxHeartbeats 4000000 in
set_option maxRecDepth 100000 in
theorem wcut_any {w : World} (h : DI w b B K (.int .i64 now, .int .i64 stamp, .map none, sent, streams) mp D syn V p cap F UL) (n : Int) (hn : -9223372036854775808 ≤ n ∧ n ≤ 9223372036854775807) (hsyn : syn ≤ 100000) (hV : V.length ≤ 100000) (hK : K ≤ 1000000) (G : ByteArray → List UInt8) (N : Nat)
    (hG : ∀ t, t.size ≤ maxLen → Go.Maps.has D (keyL t) = true → RB B w ((fstV (V.drop (N - syn)) t).getD (valOf D t)) (G t) ∧ (G t).length ≤ 1000000) (hN : min (max n (syn : Int)) ((syn : Int) + (V.length : Int)) = (N : Int)) :
    Calls Try.prog 24 #[.pointer (some ⟨b, 0, none⟩), .int .i64 n] w fun e w' => ∃ bn mf, ∃ D' : DataW Value, e = .returned (.pointer (some ⟨bn, 0, none⟩)) ∧ w.heap.size ≤ bn ∧ WD w' bn (.int .i64 now, .int .i64 stamp, .map none, .slice none 0 0, .slice none 0 0) (some mf) N (.slice none 0 0) ∧ MapD w' w.heap.size K (some mf) D' ∧ (∃ left, OutD w' w.heap.size D' D G left ∧ ∀ kl, left kl = false) ∧ Below w.heap.size w w' := by
  have HD := Lib.hid h
  have HG := Lib.hid hG
  have hwd := h.wd
  unfold WD at hwd
  have k0 : w.drew.cell? ⟨b, 0, none⟩ = some (.int .i64 now) := by show w.cell? _ = _; simp [World.cell?, hwd]
  have k1 : w.drew.cell? ⟨b, 1, none⟩ = some (.int .i64 stamp) := by show w.cell? _ = _; simp [World.cell?, hwd]
  have k2 : w.drew.cell? ⟨b, 2, none⟩ = some (.map none) := by show w.cell? _ = _; simp [World.cell?, hwd]
  have hb0 : Below w.heap.size w w.drew := (Below.refl _ w).drew
  have HCut := Lib.hid (cut_both (h.below hb0) n hn hsyn hV hK G N (fun t ht hx => ⟨(hG t ht hx).1.below hb0, (hG t ht hx).2⟩) hN)
  have HK : Hid (w.drew.cell? ⟨b, 0, none⟩ = some (.int .i64 now) ∧ w.drew.cell? ⟨b, 1, none⟩ = some (.int .i64 stamp) ∧ w.drew.cell? ⟨b, 2, none⟩ = some (.map none)) := Lib.hid ⟨k0, k1, k2⟩
  have hbl := h.wd.lt
  have HCl : Hid (∀ W, Below w.heap.size w.drew W → W.cell? ⟨b, 0, none⟩ = some (.int .i64 now) ∧ W.cell? ⟨b, 1, none⟩ = some (.int .i64 stamp) ∧ W.cell? ⟨b, 2, none⟩ = some (.map none)) := Lib.hid (fun W hW => ⟨by rw [hW.cell (p := ⟨b, 0, none⟩) hbl]; exact k0, by rw [hW.cell (p := ⟨b, 1, none⟩) hbl]; exact k1, by rw [hW.cell (p := ⟨b, 2, none⟩) hbl]; exact k2⟩)
  clear h hG hwd hb0
  go_enter Try.func24, Try.ntmps24
  go_upto_region 3 with (fail)
  go_region_held3 (fun w' => w'.cell? ⟨b, 0, none⟩ = some (.int .i64 now) ∧ w'.cell? ⟨b, 1, none⟩ = some (.int .i64 stamp) ∧ w'.cell? ⟨b, 2, none⟩ = some (.map none)) (first | exact HK.out | exact HKa.out _) (first | (go_at_call 39; refine (mclone_nil _).mono ?_; rintro e w2 ⟨rfl, hw2⟩; obtain rfl := hw2) | (go_at_call 40; refine HCut.out.mono ?_; rintro e w3 ⟨mf, D', rfl, hm3, hl3, hb3⟩; have HK := Lib.hid (HCl.out w3 hb3); have HKa := Lib.hid (fun o => HCl.out (w3.alloc o) (hb3.alloc hb3.size o)); have HM3 := Lib.hid hm3; have HL3 := Lib.hid hl3; have HB3 := Lib.hid hb3; clear hm3 hl3 hb3))
  go_wp2
  go_ret
  have hsz : w.heap.size ≤ w3.heap.size := HB3.out.size
  have hal : Below w3.heap.size w3 (w3.alloc (.cells #[.int .i64 now, .int .i64 stamp, .map none, .slice none 0 0, .slice none 0 0, .map (some mf), .int .i64 (N : Int), .slice none 0 0] 64)) := (Below.refl _ w3).alloc (Nat.le_refl _) _
  obtain ⟨left, hO, hl⟩ := HL3.out
  have hm := HM3.out
  refine ⟨w3.heap.size, mf, D', rfl, hsz, heap_alloc_new w3 _, hm.same (fun q hq => ?_), ⟨left, hO.below hal, hl⟩, ?_⟩
  · obtain rfl := Option.some.inj hq
    exact heap_alloc_lt _ _ _ hm.lt
  · exact (((Below.refl _ w).drew).trans HB3.out).alloc hsz _
end
end Go.Proofs.Ytfpgobbkeocokaa
