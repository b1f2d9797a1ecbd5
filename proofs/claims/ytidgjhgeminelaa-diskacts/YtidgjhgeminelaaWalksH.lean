/-
  The walk of the statements' common example.
-/
import Derived.Test.YtidgjhgeminelaaWalksG
namespace Go.Proofs.Ytidgjhgeminelaa
open Go.RowKit Go.Maps Go.Shelf
open Math

def lv1 : Dk := wroteS (made 8) 3 (first 7)
def lv2 : Dk := wroteS lv1 5 (first 8)
def lv3 : Dk := crashed lv2 2
theorem lv_e1 : wroteE (made 8) 3 = 0 := rfl
theorem lv_e2 : wroteE lv1 5 = 0 := rfl
theorem lv_s5 : lv3.safe 5 = first 8 := rfl
theorem lv_s3 : lv3.safe 3 = nought := rfl
theorem lv_k : keys lv3 = [] := rfl
theorem lv_o : lv3.ops = 2 := rfl
theorem lv_o1 : lv1.ops = 1 := rfl

/-- What nothing is cached for: a slice of no length. -/
theorem Nums.empty {W : World} {base : Nat} {v : Value} (h : Nums W base v []) : ∃ a cap, v = .slice a 0 cap := by
  rcases h.open with ⟨rfl, _⟩ | ⟨g, cap, rfl, _⟩
  · exact ⟨_, _, rfl⟩
  · exact ⟨_, _, rfl⟩
theorem eqls_first (b : Nat) (h : b < 256) (w : World) : (binOp .eql 32 (arr (first b)) (arr (first b))).run Try.prog w = .ok (.bool true) w := by
  have := eqls_arr 32 16 Try.underlying32 (first b) (first b) rfl rfl (sec_first b h).2 (sec_first b h).2 w
  simpa using this
theorem eqls_same (x : List Nat) (hx : Sec x) (w : World) : (binOp .eql 32 (arr x) (arr x)).run Try.prog w = .ok (.bool true) w := by
  have := eqls_arr 32 16 Try.underlying32 x x hx.1 hx.1 hx.2 hx.2 w
  simpa using this

set_option maxRecDepth 100000 in
set_option maxHeartbeats 1000000 in
/-- lives -/
theorem lives_any (w : World) : Calls Try.prog 7 #[] w fun e w' => e = .returned (.bool true) ∧ Kept [] w w' := by
  have q0 := new_any 8 (by omega) (by omega) w
  have g7 : arr (first 7) = .agg #[.int .u8 7, .int .u8 0, .int .u8 0, .int .u8 0, .int .u8 0, .int .u8 0, .int .u8 0, .int .u8 0, .int .u8 0, .int .u8 0, .int .u8 0, .int .u8 0, .int .u8 0, .int .u8 0, .int .u8 0, .int .u8 0] := rfl
  have g8 : arr (first 8) = .agg #[.int .u8 8, .int .u8 0, .int .u8 0, .int .u8 0, .int .u8 0, .int .u8 0, .int .u8 0, .int .u8 0, .int .u8 0, .int .u8 0, .int .u8 0, .int .u8 0, .int .u8 0, .int .u8 0, .int .u8 0, .int .u8 0] := rfl
  have g0 : arr nought = .agg #[.int .u8 0, .int .u8 0, .int .u8 0, .int .u8 0, .int .u8 0, .int .u8 0, .int .u8 0, .int .u8 0, .int .u8 0, .int .u8 0, .int .u8 0, .int .u8 0, .int .u8 0, .int .u8 0, .int .u8 0, .int .u8 0] := rfl
  have y8 := eqls_first 8 (by omega)
  have y0 := eqls_same nought sec_nought
  have z8 := fun op a b w => guard32 op a b (first 8) (first 8) w
  have z0 := fun op a b w => guard32 op a b nought nought w
  have q1 := fun w1 (h : DiskAt w1 (w.heap.size + 2) w.heap.size (w.heap.size + 1) (made 8)) => write_any _ _ _ (made 8) 3 (first 7) (sec_first 7 (by omega)) (by decide) w1 h
  have q2 := fun w1 (h : DiskAt w1 (w.heap.size + 2) w.heap.size (w.heap.size + 1) lv1) => write_any _ _ _ lv1 5 (first 8) (sec_first 8 (by omega)) (by decide) w1 h
  have q3 := fun w1 (h : DiskAt w1 (w.heap.size + 2) w.heap.size (w.heap.size + 1) lv2) => crash_any _ _ _ lv2 2 (by omega) w1 h
  have q5 := fun w1 (h : DiskAt w1 (w.heap.size + 2) w.heap.size (w.heap.size + 1) lv3) => durable_any _ _ _ lv3 5 (by omega) (by omega) w1 h
  have q6 := fun w1 (h : DiskAt w1 (w.heap.size + 2) w.heap.size (w.heap.size + 1) lv3) => durable_any _ _ _ lv3 3 (by omega) (by omega) w1 h
  have q7 := fun w1 (h : DiskAt w1 (w.heap.size + 2) w.heap.size (w.heap.size + 1) lv3) => cached_any _ _ _ lv3 w1 h
  have q8 := fun w1 (h : DiskAt w1 (w.heap.size + 2) w.heap.size (w.heap.size + 1) lv3) => ops_any _ _ _ lv3 w1 h
  rw [lv_s5] at q5
  rw [lv_s3] at q6
  rw [lv_e1] at q1
  rw [lv_e2] at q2
  rw [lv_k] at q7
  rw [lv_o] at q8
  rw [g7] at q1
  rw [g8] at q2 q5
  rw [g0] at q6
  simp only [g8, g0] at y8 y0 z8 z0
  clear g7 g8 g0
  go_enter Try.func7, Try.ntmps7
  go_wp2_with (first
    | (go_at_call 8; refine q0.mono ?_; rintro e w1 ⟨rfl, hD, hk⟩; clear q0)
    | (go_at_call 13; refine (q1 _ hD).mono ?_; rintro e w2 ⟨rfl, hD2, hk2⟩; clear q1)
    | (go_at_call 13; refine (q2 _ hD2).mono ?_; rintro e w3 ⟨rfl, hD3, hk3⟩; clear q2)
    | (go_at_call 17; refine (q3 _ hD3).mono ?_; rintro e w4 ⟨rfl, hD4, hk4⟩; clear q3)
    | (go_at_call 18; refine (q5 _ hD4).mono ?_; rintro e w5 ⟨rfl, hk5⟩; clear q5; have hD5 := hD4.kept hk5 (by simp) (by simp) (by simp))
    | (go_at_call 18; refine (q6 _ hD5).mono ?_; rintro e w6 ⟨rfl, hk6⟩; clear q6; have hD6 := hD5.kept hk6 (by simp) (by simp) (by simp))
    | (go_at_call 19; refine (q7 _ hD6).mono ?_; rintro e w7 ⟨v, rfl, hn, hk7⟩; clear q7; have hD7 := hD6.kept hk7 (by simp) (by simp) (by simp); obtain ⟨va, vc, rfl⟩ := hn.empty)
    | (go_at_call 21; refine (q8 _ hD7).mono ?_; rintro e w8 ⟨rfl, hw8⟩; subst hw8; clear q8))
  go_ret
  refine ⟨rfl, ?_⟩
  have s1 : w.heap.size ≤ w1.heap.size := hk.size
  refine ((((?_ : Kept [] w w4).trans hk5).trans hk6).trans hk7)
  have hL : Kept [w.heap.size + 2, w.heap.size, w.heap.size + 1] w1 w4 := (hk2.trans hk3).trans hk4
  exact ⟨hL.os.trans hk.os, hL.tape.trans hk.tape, hL.output.trans hk.output, Nat.le_trans hk.size hL.size, fun i hi _ => (hL.block i (by omega) (by simp; omega)).trans (hk.block i hi (by simp))⟩
end Go.Proofs.Ytidgjhgeminelaa
