/-
  The walks of seal.Open and of the document's Open.
-/
import Derived.Test.YtekjlmnnaaodjaaSealJ
namespace Go.Proofs.Ytekjlmnnaaodjaa.Seal
open Go.RowKit
open Math
open Crc

/-- What a sector holds ahead of its sum. -/
def opN (s : List Nat) : Nat := getv 4 s
def opY (s : List Nat) : Nat := getv 8 (s.drop 4)
theorem opN_lt {s : List Nat} (h : ∀ b ∈ s, b < 256) : opN s < 4294967296 := getv_lt (k := 4) h
theorem opY_lt {s : List Nat} (h : ∀ b ∈ s, b < 256) : opY s < 18446744073709551616 := getv_lt (k := 8) (fun b hb => h b (List.mem_of_mem_drop hb))

theorem Arr.bytes4 {W : World} {g t : Nat} {l : List Nat} (h : Arr W g t l) (hl : ∀ c ∈ l, c < 256) (hn : l.length = 16) : BytesAt W.heap.size W (.slice (some ⟨g, 4, none⟩) 12 12) (l.drop 4) := by
  have e : (l.drop 4).length = 12 := by simp [hn]
  refine ⟨fun c hc => hl c (List.mem_of_mem_drop hc), some ⟨g, 4, none⟩, 12, by rw [e], fun h => by simp at h, .inr ⟨g, 4, rfl, by omega, h.lt, fun j hj => ?_⟩⟩
  rw [h.cell (4 + j) (by omega)]
  simp

set_option maxRecDepth 100000 in
set_option maxHeartbeats 400000 in
/-- seal.Open, of a record -/
theorem open_is (s : List Nat) (w : World) (hs : s.length = 16) (hb : ∀ c ∈ s, c < 256) (he : s = recd (opN s) (opY s)) :
    Calls Try.prog 42 #[arr s] w fun e w' => e = .returned (.tuple #[.int .u32 (opN s), .int .u64 (opY s), .bool true]) ∧ Below w.heap.size w w' := by
  have hn := opN_lt hb
  have hy := opY_lt hb
  have hA := arr_new w 56 s
  have g1 := get32_any _ _ _ _ (by rw [hs]; omega) (hA.bytes hb hs)
  have g2 := get64_any _ _ _ _ (by simp [hs]) (hA.bytes4 hb hs)
  have eN : getv 4 s = opN s := rfl
  have eY : getv 8 (s.drop 4) = opY s := rfl
  rw [eN] at g1
  rw [eY] at g2
  clear eN eY
  have q := fun w' => record_any (opN s) (opY s) w' hn hy
  have hq : ∀ w : World, (binOp .neq 56 (.agg (s.map enc).toArray) (arr (recd (opN s) (opY s)))).run Try.prog w = .ok (.bool false) w := fun w => by
    have := neq_arr 56 16 Try.underlying56 s (recd (opN s) (opY s)) hs (recd_length _ _) hb (recd_byte _ _) w
    rw [decide_eq_true he] at this
    exact this
  have hgd : ∀ (x y : Operand) (w : World), (eqGuard .neq 56 x y (.agg (s.map enc).toArray) (arr (recd (opN s) (opY s)))).run Try.prog w = .ok () w := fun x y w => guard56 .neq x y s _ w
  have HR : Hid (∀ W, Below (w.alloc (.cells (s.map enc).toArray 56)).heap.size (w.alloc (.cells (s.map enc).toArray 56)) W → W.rangeAt w.heap.size 0 (s.map enc)) := fun W h => (hA.below h hA.lt).range
  have h28 : Try.prog.underlying 56 = some (.array 16 5) := Try.underlying56
  have hz : (Try.prog.info? 56).map (·.size) = some (s.map enc).length := by rw [List.length_map, hs]; exact Try.size56
  have hB0 : Below w.heap.size w (w.alloc (.cells (s.map enc).toArray 56)) := below_alloc w _
  have hB := (Below.refl (w.alloc (.cells (s.map enc).toArray 56)).heap.size (w.alloc (.cells (s.map enc).toArray 56))).drew
  clear hA he hs hb
  generalize recd (opN s) (opY s) = r at *
  generalize opN s = n at *
  generalize opY s = y at *
  generalize getB 4 s = t1 at *
  generalize getB 8 (s.drop 4) = t2 at *
  unfold arr at *
  generalize s.map enc = cs at *
  clear s
  go_enter Try.func42, Try.ntmps42
  go_wp2_with (first
    | (go_at_call 50; refine g1.mono ?_; rintro e w1 ⟨rfl, rfl⟩)
    | (go_at_call 51; refine g2.mono ?_; rintro e w1 ⟨rfl, rfl⟩))
  go_region_held3 (fun W => W.rangeAt w.heap.size 0 cs) (exact HR.out _ hB) (first
    | (go_at_call 26; refine (q _).mono ?_; rintro e w1 ⟨rfl, hB1⟩; replace hB := hB.trans (hB1.mono hB.size)))
  go_wp2
  go_ret3
  exact ⟨rfl, hB0.trans (hB.mono hB0.size)⟩

set_option maxRecDepth 100000 in
set_option maxHeartbeats 400000 in
/-- seal.Open, of what is none -/
theorem open_not (s : List Nat) (w : World) (hs : s.length = 16) (hb : ∀ c ∈ s, c < 256) (he : s ≠ recd (opN s) (opY s)) :
    Calls Try.prog 42 #[arr s] w fun e w' => e = .returned (.tuple #[.int .u32 0, .int .u64 0, .bool false]) ∧ Below w.heap.size w w' := by
  have hn := opN_lt hb
  have hy := opY_lt hb
  have hA := arr_new w 56 s
  have g1 := get32_any _ _ _ _ (by rw [hs]; omega) (hA.bytes hb hs)
  have g2 := get64_any _ _ _ _ (by simp [hs]) (hA.bytes4 hb hs)
  have eN : getv 4 s = opN s := rfl
  have eY : getv 8 (s.drop 4) = opY s := rfl
  rw [eN] at g1
  rw [eY] at g2
  clear eN eY
  have q := fun w' => record_any (opN s) (opY s) w' hn hy
  have hq : ∀ w : World, (binOp .neq 56 (.agg (s.map enc).toArray) (arr (recd (opN s) (opY s)))).run Try.prog w = .ok (.bool true) w := fun w => by
    have := neq_arr 56 16 Try.underlying56 s (recd (opN s) (opY s)) hs (recd_length _ _) hb (recd_byte _ _) w
    rw [decide_eq_false he] at this
    exact this
  have hgd : ∀ (x y : Operand) (w : World), (eqGuard .neq 56 x y (.agg (s.map enc).toArray) (arr (recd (opN s) (opY s)))).run Try.prog w = .ok () w := fun x y w => guard56 .neq x y s _ w
  have HR : Hid (∀ W, Below (w.alloc (.cells (s.map enc).toArray 56)).heap.size (w.alloc (.cells (s.map enc).toArray 56)) W → W.rangeAt w.heap.size 0 (s.map enc)) := fun W h => (hA.below h hA.lt).range
  have h28 : Try.prog.underlying 56 = some (.array 16 5) := Try.underlying56
  have hz : (Try.prog.info? 56).map (·.size) = some (s.map enc).length := by rw [List.length_map, hs]; exact Try.size56
  have hB0 : Below w.heap.size w (w.alloc (.cells (s.map enc).toArray 56)) := below_alloc w _
  have hB := (Below.refl (w.alloc (.cells (s.map enc).toArray 56)).heap.size (w.alloc (.cells (s.map enc).toArray 56))).drew
  clear hA he hs hb
  generalize recd (opN s) (opY s) = r at *
  generalize opN s = n at *
  generalize opY s = y at *
  generalize getB 4 s = t1 at *
  generalize getB 8 (s.drop 4) = t2 at *
  unfold arr at *
  generalize s.map enc = cs at *
  clear s
  go_enter Try.func42, Try.ntmps42
  go_wp2_with (first
    | (go_at_call 50; refine g1.mono ?_; rintro e w1 ⟨rfl, rfl⟩)
    | (go_at_call 51; refine g2.mono ?_; rintro e w1 ⟨rfl, rfl⟩))
  go_region_held3 (fun W => W.rangeAt w.heap.size 0 cs) (exact HR.out _ hB) (first
    | (go_at_call 26; refine (q _).mono ?_; rintro e w1 ⟨rfl, hB1⟩; replace hB := hB.trans (hB1.mono hB.size)))
  go_wp2
  go_ret3
  exact ⟨rfl, hB0.trans (hB.mono hB0.size)⟩

/-- What Open tells of a sector. -/
def isRec (s : List Nat) : Bool := decide (s = recd (opN s) (opY s))
def toldN (s : List Nat) : Nat := if isRec s then opN s else 0
def toldY (s : List Nat) : Nat := if isRec s then opY s else 0

set_option maxRecDepth 100000 in
/-- seal.Open -/
theorem open_any (s : List Nat) (w : World) (hs : s.length = 16) (hb : ∀ c ∈ s, c < 256) :
    Calls Try.prog 42 #[arr s] w fun e w' => e = .returned (.tuple #[.int .u32 (toldN s : Nat), .int .u64 (toldY s : Nat), .bool (isRec s)]) ∧ Below w.heap.size w w' := by
  by_cases he : s = recd (opN s) (opY s)
  · have h1 : isRec s = true := decide_eq_true he
    have h2 : toldN s = opN s := by unfold toldN; rw [h1]; rfl
    have h3 : toldY s = opY s := by unfold toldY; rw [h1]; rfl
    rw [h1, h2, h3]
    exact open_is s w hs hb he
  · have h1 : isRec s = false := decide_eq_false he
    have h2 : toldN s = 0 := by unfold toldN; rw [h1]; rfl
    have h3 : toldY s = 0 := by unfold toldY; rw [h1]; rfl
    rw [h1, h2, h3]
    exact open_not s w hs hb he

/-- A call's own sixteen bytes, and those from the fifth on. -/
theorem own_parts {W : World} {base : Nat} {v : Value} {l : List Nat} (h : W.ownsRow base 5 1 v 16 (l.map enc)) (hl : l.length = 16) (hb : ∀ c ∈ l, c < 256) :
    ∃ g cap, v = .slice (some ⟨g, 0, none⟩) 16 cap ∧ 16 ≤ cap ∧ BytesAt W.heap.size W (.slice (some ⟨g, 0, none⟩) 16 cap) l ∧ BytesAt W.heap.size W (.slice (some ⟨g, 4, none⟩) 12 (cap - 4)) (l.drop 4) := by
  have hB := bytesAt_owns (n₀ := W.heap.size) hb (Nat.le_refl _) (by rw [hl]; exact h)
  obtain ⟨g, cap, rfl, _, hc⟩ := owns_cells h hl (by omega)
  obtain ⟨_, a, cap', e, _, rfl | ⟨b, off, rfl, hcap, hlt, _⟩⟩ := id hB
  · simp at hl
  · injection e with e1 e2 e3
    injection e1 with e1
    injection e1 with e4 e5
    subst e4
    subst e3
    have e : (l.drop 4).length = 12 := by simp [hl]
    refine ⟨g, cap, rfl, by omega, hB, fun c hc => hb c (List.mem_of_mem_drop hc), some ⟨g, 4, none⟩, cap - 4, by rw [e], fun h => by simp at h, .inr ⟨g, 4, rfl, by omega, hlt, fun j hj => ?_⟩⟩
    rw [hc (4 + j) (by omega)]
    simp

end Go.Proofs.Ytekjlmnnaaodjaa.Seal
