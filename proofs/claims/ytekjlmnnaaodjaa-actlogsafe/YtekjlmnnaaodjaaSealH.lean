/-
  The walks of seal.Record and of the document's Record.
-/
import Derived.Test.YtekjlmnnaaodjaaSealG
import Derived.Deep.RegionHeld3
namespace Go.Proofs.Ytekjlmnnaaodjaa.Seal
open Go.RowKit
open Math
open Crc

/-- What stands ahead of a record's sum, and the record. -/
def twelve (n y : Nat) : List Nat := be 4 n ++ be 8 y
def recd (n y : Nat) : List Nat := sealed (twelve n y)
theorem twelve_length (n y : Nat) : (twelve n y).length = 12 := by simp [twelve, be_length]
theorem recd_length (n y : Nat) : (recd n y).length = 16 := by rw [recd, sealed_length, twelve_length]
theorem twelve_byte (n y : Nat) : ∀ b ∈ twelve n y, b < 256 := by
  intro b hb
  rcases List.mem_append.1 hb with h | h
  · exact be_byte 4 n b h
  · exact be_byte 8 y b h
theorem recd_byte (n y : Nat) : ∀ b ∈ recd n y, b < 256 := sealed_byte _ (twelve_byte n y)

/-- A sector of noughts, in a new block. -/
def sec0 : Obj := .cells #[.int .u8 0, .int .u8 0, .int .u8 0, .int .u8 0, .int .u8 0, .int .u8 0, .int .u8 0, .int .u8 0, .int .u8 0, .int .u8 0, .int .u8 0, .int .u8 0, .int .u8 0, .int .u8 0, .int .u8 0, .int .u8 0] 56
theorem sec0_is : sec0 = .cells ((zeros 16).map enc).toArray 56 := rfl
theorem arr_sec0 (w : World) : Arr (w.alloc sec0) w.heap.size 56 (zeros 16) := by rw [sec0_is]; exact arr_new w 56 _

/-- What a record's maker carries: two sectors of its own, and nothing of before is turned. -/
def Two (w W : World) (l : List Nat) : Prop := Below w.heap.size w W ∧ Arr W w.heap.size 56 (zeros 16) ∧ Arr W (w.heap.size + 1) 56 l
theorem two_new (w : World) : Two w ((w.alloc sec0).alloc sec0) (zeros 16) := by
  refine ⟨(below_alloc w _).alloc (by simp) _, (arr_sec0 w).alloc _, ?_⟩
  have := arr_sec0 (w.alloc sec0)
  rwa [World.size_alloc] at this
theorem Two.drew {w W : World} {l : List Nat} (h : Two w W l) : Two w W.drew l := ⟨h.1.drew, h.2.1.drew, h.2.2.drew⟩
theorem Two.after {w W W' : World} {l : List Nat} (h : Two w W l) (hB : Below W.heap.size W W') : Two w W' l :=
  ⟨h.1.trans (hB.mono h.1.size), h.2.1.below hB h.2.1.lt, h.2.2.below hB h.2.2.lt⟩

theorem splice_all (L l : List Nat) (h : l.length = L.length) : splice L 0 l = l := by
  simp [splice, h]

set_option maxRecDepth 100000 in
/-- num.Put32 of nothing, num.Put64 behind four bytes, seal.Put of twelve. -/
theorem put32_first (n : Nat) (w : World) (hn : n < 4294967296) :
    Calls Try.prog 38 #[.slice none 0 0, .int .u32 n] w fun e w' => ∃ v, e = .returned v ∧ BytesAt w'.heap.size w' v (be 4 n) ∧ Below w.heap.size w w' := by
  refine (put32_any (.slice none 0 0) [] n w (by simp) hn ⟨by simp, none, 0, rfl, fun _ => rfl, .inl rfl⟩).mono ?_
  rintro e w' ⟨v, rfl, ho, hB⟩
  exact ⟨v, rfl, bytesAt_owns (be_byte 4 n) (Nat.le_refl _) (by simpa [be_length] using ho), hB⟩
set_option maxRecDepth 100000 in
theorem put64_then (n y : Nat) (v : Value) (w : World) (hy : y < 18446744073709551616) (hI : BytesAt w.heap.size w v (be 4 n)) :
    Calls Try.prog 37 #[v, .int .u64 y] w fun e w' => ∃ v', e = .returned v' ∧ BytesAt w'.heap.size w' v' (twelve n y) ∧ Below w.heap.size w w' := by
  refine (put64_any v (be 4 n) y w (by simp [be_length]) hy hI).mono ?_
  rintro e w' ⟨v', rfl, ho, hB⟩
  exact ⟨v', rfl, bytesAt_owns (twelve_byte n y) (Nat.le_refl _) (by rw [twelve_length]; simpa [be_length, twelve] using ho), hB⟩
set_option maxRecDepth 100000 in
theorem put_twelve (n y : Nat) (v : Value) (w : World) (hI : BytesAt w.heap.size w v (twelve n y)) :
    Calls Try.prog 36 #[v] w fun e w' => ∃ g, e = .returned (.slice (some ⟨g, 0, none⟩) 16 16) ∧ w.heap.size ≤ g ∧ Arr w' g 5 (recd n y) ∧ Below w.heap.size w w' := by
  refine (put_any v (twelve n y) w (by rw [twelve_length]; omega) hI).mono ?_
  rintro e w' ⟨g, rfl, hg, hA, hB⟩
  rw [twelve_length]
  exact ⟨g, rfl, hg, hA, hB⟩
/-- Where a call's own bytes lie. -/
theorem owns_cells {W : World} {base n : Nat} {v : Value} {l : List Nat} (h : W.ownsRow base 5 1 v n (l.map enc)) (hl : l.length = n) (hn : 0 < n) :
    ∃ g cap, v = .slice (some ⟨g, 0, none⟩) n cap ∧ base ≤ g ∧ ∀ j, j < n → W.cell? ⟨g, j, none⟩ = some (.int .u8 ((l[j]?.getD 0 : Nat) : Int)) := by
  obtain ⟨_, ⟨rfl, h0⟩ | ⟨g, cap, cur, rfl, hb, hg, h1, h2, h3, h4⟩⟩ := id h
  · omega
  · refine ⟨g, cap, rfl, hb, fun j hj => ?_⟩
    rw [h.cellAt j (by omega)]
    exact enc_get l j (by omega)
/-- The first k bytes laid over noughts. -/
def over (l : List Nat) (k : Nat) : List Nat := l.take k ++ zeros (l.length - k)
theorem over_start (l : List Nat) : over l 0 = zeros l.length := by simp [over]
theorem over_end (l : List Nat) : over l l.length = l := by simp [over, zeros]
theorem over_length (l : List Nat) (k : Nat) (h : k ≤ l.length) : (over l k).length = l.length := by simp [over, zeros]; omega
theorem over_step (l : List Nat) (k : Nat) (h : k < l.length) : (over l k).set k (l[k]?.getD 0) = over l (k + 1) := by
  unfold over
  rw [List.set_append, if_neg (by simp; omega)]
  rw [show l.length - k = (l.length - (k + 1)) + 1 by omega]
  simp only [zeros, List.replicate_succ, List.length_take]
  rw [show k - min k l.length = 0 by omega, List.set_cons_zero, List.take_succ_eq_append_getElem h, List.append_assoc]
  simp only [h, getElem?_pos, Option.getD_some, List.cons_append, List.nil_append]

set_option maxRecDepth 100000 in
set_option maxHeartbeats 400000 in
/-- seal.Record -/
theorem record_any (n y : Nat) (w : World) (hn : n < 4294967296) (hy : y < 18446744073709551616) :
    Calls Try.prog 26 #[.int .u32 n, .int .u64 y] w fun e w' => e = .returned (arr (recd n y)) ∧ Below w.heap.size w w' := by
  have hT := (two_new w).drew
  go_enter Try.func26, Try.ntmps26
  go_wp2_with fail
  go_region_held3 (fun _ => True) (trivial) (first
    | (refine step_copy_arr rfl (.tmp 6) (.tmp 11) rfl (some ⟨w.heap.size + 1, 0, none⟩) (some ⟨g, 0, none⟩) 16 16 16 16 (by simp [Act.eval]) (by simp [Act.eval]) (w.heap.size + 1) 0 56 (zeros 16) (recd n y) hT.2.2 (recd_length n y) (fun _ => ⟨rfl, _, rfl, hG.values⟩) (by rw [recd_length, zeros_length]; omega) (w.heap.size + 1) _ (Below.refl _ _) (Nat.le_refl _) ?_; intro w4 hA4 hB4)
    | (go_at_call 38; refine (put32_first n _ hn).mono ?_; rintro e w1 ⟨v, rfl, hI, hB⟩; replace hT := hT.after hB)
    | (go_at_call 37; refine (put64_then n y _ _ hy hI).mono ?_; rintro e w1 ⟨v, rfl, hI', hB⟩; replace hT := hT.after hB)
    | (go_at_call 36; refine (put_twelve n y _ _ hI').mono ?_; rintro e w1 ⟨g, rfl, -, hG, hB⟩; replace hT := hT.after hB))
  rw [splice_all _ _ (by rw [recd_length, zeros_length])] at hA4
  have hA0 := hT.2.1.below hB4 (Nat.lt_succ_self _)
  have hB0 := hT.1.trans (hB4.mono (Nat.le_succ _))
  have HR : Hid ((Try.prog.info? 56).map (·.size) = some (recd n y).length) := by
    show _ = _
    rw [recd_length]
    exact Try.size56
  have HL : Hid ((recd n y).length = (zeros 16).length) := recd_length n y
  clear hT hI hI' hG hB4
  go_wp2_with (first
    | (refine wpList_load_arr rfl 56 _ rfl (w.heap.size + 1) 56 (recd n y) rfl hA4 _ _ Try.underlying56 HR.out ?_)
    | (refine wpList_store_arr rfl 56 _ _ rfl w.heap.size 56 (zeros 16) (recd n y) rfl rfl hA0 HL.out HR.out w.heap.size w hB0 (Nat.le_refl _) ?_; intro w5 hA5 _ _ hB5))
  refine bodyPost_ret (v := arr (recd n y)) (results_cell_row rfl _ _ w.heap.size 56 ((recd n y).map enc).toArray (0, 0) _ rfl hA5 Try.underlying56 rfl (by simpa using HR.out)) rfl ⟨rfl, hB5⟩

end Go.Proofs.Ytekjlmnnaaodjaa.Seal
