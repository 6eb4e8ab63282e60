/- Texts to bytes and back; copy. -/
import Derived.Test.YtjlaiimcbkbciaaDoorEv14
import Derived.Laws.IdiomStrings
noncomputable section
namespace Go.Ev
open Go
section
variable {P : Program} {B : Bas} {ρ : Ren} {H : AHeap} {w : World}
/-- []byte(s). -/
def aToBytes (P : Program) (H : AHeap) (s d : TypeId) (l : List Nat) : Option (AV × AHeap) :=
  match P.underlying s, P.underlying d with
  | some .string, some (.slice e) => match P.underlying e, P.info? e with
    | some (.int .u8), some i => match Nat.beq i.size 1 && Nat.ble l.length 1000000000 with
      | false => none
      | true => match H.open_ e (l.map fun b => .int .u8 (Int.ofNat b)) with
        | none => none
        | some (g, H') => some (.slice g 0 l.length 0, H')
    | _, _ => none
  | _, _ => none
theorem aToBytes_sound (h : HR P B ρ H w) {s d : TypeId} {l : List Nat} {r : AV} {H' : AHeap} (ha : aToBytes P H s d l = some (r, H')) (hf : Free ρ H.next H'.next) (hl : ∀ x ∈ l, x < 256) :
    ∃ v w' ρ', (convert s d (.string (bs l))).run P w = .ok v w' ∧ VR ρ' r v ∧ HR P B ρ' H' w' ∧ Post ρ H w ρ' H' w' := by
  unfold aToBytes at ha
  split at ha
  · rename_i e hs hd
    split at ha
    · rename_i i he hi
      split at ha
      · cases ha
      rename_i hb
      obtain ⟨b1, b2⟩ := bAnd hb
      have b1 := Nat.eq_of_beq_eq_true b1
      have b2 := Nat.le_of_ble_eq_true b2
      split at ha
      · cases ha
      rename_i g H1 ho
      cases ha
      have hsz : (bs l).size = l.length := bs_size l
      let cap := grownCap w l.length 0 e
      have hcap : l.length ≤ cap := grownCap_ge w l.length 0 e
      let arr : Array Value := ((bs l).data.map fun b => Value.int .u8 b.toNat) ++ Array.replicate (cap - l.length) (.int .u8 0)
      have harr : arr.size = cap := by
        have : (bs l).data.size = l.length := by simp [bs]
        simp only [arr, Array.size_append, Array.size_map, Array.size_replicate, this]
        omega
      have hrun : (convert s d (.string (bs l))).run P w = .ok (.slice (some ⟨w.heap.size, 0, none⟩) l.length cap) (w.drew.alloc (.cells arr e (arr.size, arr.size + 1))) := by
        have := run_bytes_of_string w s d e (bs l) hs hd he
        rw [hsz] at this
        have e2 : bytesRow (bs l) (grownCap w l.length 0 e) = arr := by simp only [bytesRow, arr, hsz, cap]
        rw [e2] at this
        exact this
      have hrow : ∀ (j : Nat) (a : AV), (l.map fun b => AV.int .u8 (Int.ofNat b))[j]? = some a → ∃ v, arr[j]? = some v ∧ VR ρ a v := by
        intro j a hj
        obtain ⟨v, e1, e2⟩ := (VRL.bytes ρ l hl).get j a hj
        refine ⟨v, ?_, e2⟩
        have hlt : j < l.length := by simpa using (List.getElem?_eq_some_iff.1 hj).1
        have hsd : (bs l).data.size = l.length := by simp [bs]
        simp only [arr]
        rw [Array.getElem?_append, if_pos (by simp [hsd]; exact hlt)]
        rw [← e1]
        simp [bs]
      obtain ⟨ρ', q1, q2, q3⟩ := open_sound h.drew ho hf (cp := cap) (arr := arr) (fr := (arr.size, arr.size + 1)) hi (by rw [harr, b1]; omega) (by simp [harr]; exact hcap) ⟨by intro j hj hh; simp only at hh; omega, by simp⟩ hrow
      exact ⟨_, _, ρ', hrun, ⟨_, _, q3, by omega, by simp⟩, q1, q2.ofDrew⟩
    · cases ha
  · cases ha
/-- string(b). -/
def intBytes : List AV → Option (List Nat)
  | [] => some []
  | .int .u8 (.ofNat n) :: l => match Nat.blt n 256, intBytes l with
    | true, some m => some (n :: m)
    | _, _ => none
  | _ => none
theorem intBytes_sound : ∀ {l : List AV} {m : List Nat} {vs : List Value}, intBytes l = some m → VRL ρ l vs → vs = (m.map fun n => (Int.ofNat n)).map (Value.int .u8) ∧ ∀ x ∈ m, x < 256
  | [], m, vs, h, hv => by
    simp [intBytes] at h; subst h
    simp [VRL] at hv; subst hv
    simp
  | a :: l, m, vs, h, hv => by
    obtain ⟨v, ws, rfl, hv1, hv2⟩ := hv
    unfold intBytes at h
    split at h
    · rename_i heq; cases heq
    · rename_i n l' heq
      cases heq
      split at h
      · rename_i m' hb hm
        cases h
        obtain ⟨e1, e2⟩ := intBytes_sound hm hv2
        simp only [VR] at hv1
        subst hv1 e1
        exact ⟨by simp, fun x hx => by
          rcases List.mem_cons.1 hx with h | h
          · subst h; exact blt_t hb
          · exact e2 x h⟩
      · cases h
    · cases h
theorem foldl_bytes : ∀ (m : List Nat) (s : List Nat), (m.map fun n => (Int.ofNat n)).foldl (fun r n => r.push (UInt8.ofNat n.toNat)) (bs s) = bs (s ++ m)
  | [], s => by simp
  | n :: m, s => by
    simp only [List.map_cons, List.foldl_cons]
    have : (bs s).push (UInt8.ofNat (Int.ofNat n).toNat) = bs (s ++ [n]) := by
      simp [bs, ByteArray.push]
    rw [this, foldl_bytes m (s ++ [n])]
    simp
def aToStr (P : Program) (H : AHeap) (s d : TypeId) (x : AV) : Option AV :=
  match P.underlying s, P.underlying d with
  | some (.slice e), some .string => match P.underlying e with
    | some (.int .u8) => match x with
      | .eslice _ => some (.str [])
      | .slice g off n _ => match aSrc H 1 (.slice g off n 0) with
        | some (_, l) => match intBytes l with
          | some m => some (.str m)
          | none => none
        | none => none
      | .sliceC g off n cap => match aSrc H 1 (.sliceC g off n cap) with
        | some (_, l) => match intBytes l with
          | some m => some (.str m)
          | none => none
        | none => none
      | _ => none
    | _ => none
  | _, _ => none
theorem aToStr_sound (h : HR P B ρ H w) {s d : TypeId} {x r : AV} {v : Value} (ha : aToStr P H s d x = some r) (hx : VR ρ x v) : ∃ z, (convert s d v).run P w = .ok z w ∧ VR ρ r z := by
  have fin : ∀ {a : Addr} {n cap : Nat} {l : List AV} {m : List Nat} {vs : List Value}, VRL ρ l vs → (loadCells a n).run P w = .ok vs.toArray w → intBytes l = some m →
      ∃ z, (Conv.bytesToString (.slice (some a) n cap)).run P w = .ok z w ∧ VR ρ (.str m) z := by
    intro a n cap l m vs hv hr hb
    obtain ⟨e1, e2⟩ := intBytes_sound hb hv
    rw [e1] at hr
    refine ⟨_, run_bytesToString w a n cap _ hr, ?_, e2⟩
    have := foldl_bytes m []
    simp only [List.nil_append] at this
    rw [← this]
    rfl
  unfold aToStr at ha
  split at ha
  · rename_i e hs hd
    split at ha
    · rename_i he
      have hc : ∀ a l c, (convert s d (.slice a l c)).run P w = (Conv.bytesToString (.slice a l c)).run P w := fun a l c => run_convert_bytes_string w s d e a l c hs he hd
      split at ha
      · cases ha
        simp only [VR] at hx
        obtain ⟨b, c, _, off, cap, rfl⟩ := hx
        rw [hc]
        exact fin (l := []) (m := []) VRL.nil (by simp [loadCells, loadCellsFrom]) rfl
      · rename_i g off n sh
        simp only [VR] at hx
        obtain ⟨b, cp, hr, hcap, rfl⟩ := hx
        split at ha
        · rename_i l hsrc
          split at ha
          · rename_i m hm
            cases ha
            rw [hc]
            unfold aSrc at hsrc
            simp only at hsrc
            split at hsrc
            · rename_i e' k c t hg
              split at hsrc
              · rename_i hb
                split at hsrc
                · rename_i l' hl'
                  cases hsrc
                  obtain ⟨vs, v1, v2, v3⟩ := h.cellsL hg hr _ _ _ hl' (Nat.le_of_ble_eq_true hb)
                  have := run_loads (P := P) b off vs v3
                  rw [v2] at this
                  simp only [Nat.mul_one] at this
                  exact fin v1 this hm
                · cases hsrc
              · cases hsrc
            · cases hsrc
          · cases ha
        · cases ha
      · rename_i g off n cap
        simp only [VR] at hx
        obtain ⟨b, cp, hr, rfl⟩ := hx
        split at ha
        · rename_i l hsrc
          split at ha
          · rename_i m hm
            cases ha
            rw [hc]
            unfold aSrc at hsrc
            simp only at hsrc
            split at hsrc
            · rename_i e' k c t hg
              split at hsrc
              · rename_i hb
                split at hsrc
                · rename_i l' hl'
                  cases hsrc
                  obtain ⟨vs, v1, v2, v3⟩ := h.cellsL hg hr _ _ _ hl' (Nat.le_of_ble_eq_true hb)
                  have := run_loads (P := P) b off vs v3
                  rw [v2] at this
                  simp only [Nat.mul_one] at this
                  exact fin v1 this hm
                · cases hsrc
              · cases hsrc
            · cases hsrc
          · cases ha
        · cases ha
      · cases ha
    · cases ha
  · cases ha
/-- copy(d, s), where all of s has room. -/
def aCopy (P : Program) (H : AHeap) (ts : Array TypeId) (d x : AV) : Option (AV × AHeap) :=
  match ts[0]? with
  | none => none
  | some t => match P.underlying t with
    | some (.slice e) => match P.info? e with
      | none => none
      | some i => match aSrc H i.size x with
        | none => none
        | some (n, l) => match d with
          | .nilSlice => match Nat.beq n 0 with
            | true => some (.int .i64 0, H)
            | false => none
          | .eslice _ => match Nat.beq n 0 with
            | true => some (.int .i64 0, H)
            | false => none
          | .slice g off dn _ => match Nat.ble n dn with
            | false => none
            | true => match Nat.beq n 0 with
              | true => some (.int .i64 0, H)
              | false => match aStoreCells H g off l with
                | some H' => some (.int .i64 (Int.ofNat n), H')
                | none => none
          | .sliceC g off dn _ => match Nat.ble n dn with
            | false => none
            | true => match Nat.beq n 0 with
              | true => some (.int .i64 0, H)
              | false => match aStoreCells H g off l with
                | some H' => some (.int .i64 (Int.ofNat n), H')
                | none => none
          | _ => none
    | _ => none
theorem aCopy_sound (h : HR P B ρ H w) {ts : Array TypeId} {d x r : AV} {H' : AHeap} (ha : aCopy P H ts d x = some (r, H')) {ty : TypeId} {dv xv : Value} (hd : VR ρ d dv) (hx : VR ρ x xv) :
    ∃ v w', (Builtin.copy_ ts ty #[dv, xv]).run P w = .ok v w' ∧ VR ρ r v ∧ HR P B ρ H' w' ∧ Post ρ H w ρ H' w' := by
  unfold aCopy at ha
  split at ha
  · cases ha
  rename_i t h0
  split at ha
  · rename_i e ht
    split at ha
    · cases ha
    rename_i i hi
    split at ha
    · cases ha
    rename_i n l hsrc
    obtain ⟨vs, v1, v2, v3, v4⟩ := aSrc_sound h hsrc hx
    have gen : ∀ (base : Option Addr) (dn cap : Nat), n ≤ dn → (Builtin.copy_ ts ty #[.slice base dn cap, xv]).run P w =
        (match base with
          | some a => ((storeCells a vs 0).run P w).andThen fun _ w' => .ok (goInt n) w'
          | none => .ok (goInt n) w) := by
      intro base dn cap hle
      have hm : Nat.min n dn = n := Nat.min_eq_left hle
      simp only [Builtin.copy_, h0, List.getElem?_toArray, List.getElem?_cons_zero, List.getElem?_cons_succ, Sem.run_bind, run_und ht, Result.andThen_ok, v3, run_size hi, hm, v4 w rfl]
      cases base with
      | none => simp
      | some a => simp
    have zero : ∀ {base : Option Addr} {dn cap : Nat}, n = 0 → (Builtin.copy_ ts ty #[.slice base dn cap, xv]).run P w = .ok (goInt 0) w := by
      intro base dn cap hn
      have := gen base dn cap (by omega)
      subst hn
      have hvs : vs = [] := List.eq_nil_of_length_eq_zero (by simpa using v2)
      subst hvs
      rw [this]
      cases base <;> rfl
    have store : ∀ {g off dn cap : Nat} {H1 : AHeap} {b cp : Nat}, n ≤ dn → aStoreCells H g off l = some H1 → ρ g = some (b, cp) →
        ∃ v w', (Builtin.copy_ ts ty #[.slice (some ⟨b, off, none⟩) dn cap, xv]).run P w = .ok v w' ∧ VR ρ (.int .i64 (Int.ofNat n)) v ∧ HR P B ρ H1 w' ∧ Post ρ H w ρ H1 w' := by
      intro g off dn cap H1 b cp hle hst hr
      obtain ⟨w', e1, e2, e3⟩ := aStoreCells_sound h hst hr v1 (P := P)
      exact ⟨goInt n, w', by rw [gen _ _ _ hle]; simp only [e1, Result.andThen_ok], rfl, e2, e3⟩
    split at ha
    · simp only [VR] at hd; subst hd
      split at ha
      · rename_i hn
        cases ha
        exact ⟨_, w, zero (Nat.eq_of_beq_eq_true hn), rfl, h, Post.refl _ _ _⟩
      · cases ha
    · simp only [VR] at hd
      obtain ⟨b, c, _, off, cap, rfl⟩ := hd
      split at ha
      · rename_i hn
        cases ha
        exact ⟨_, w, zero (Nat.eq_of_beq_eq_true hn), rfl, h, Post.refl _ _ _⟩
      · cases ha
    · simp only [VR] at hd
      obtain ⟨b, c, hr, _, rfl⟩ := hd
      split at ha
      · cases ha
      rename_i hle
      split at ha
      · rename_i hn
        cases ha
        exact ⟨_, w, zero (Nat.eq_of_beq_eq_true hn), rfl, h, Post.refl _ _ _⟩
      · split at ha
        · rename_i H1 hst
          cases ha
          exact store (Nat.le_of_ble_eq_true hle) hst hr
        · cases ha
    · simp only [VR] at hd
      obtain ⟨b, c, hr, rfl⟩ := hd
      split at ha
      · cases ha
      rename_i hle
      split at ha
      · rename_i hn
        cases ha
        exact ⟨_, w, zero (Nat.eq_of_beq_eq_true hn), rfl, h, Post.refl _ _ _⟩
      · split at ha
        · rename_i H1 hst
          cases ha
          exact store (Nat.le_of_ble_eq_true hle) hst hr
        · cases ha
    · cases ha
  · cases ha
end
end Go.Ev
