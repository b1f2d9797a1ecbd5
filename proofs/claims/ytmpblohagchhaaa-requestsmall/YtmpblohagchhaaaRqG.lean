/-
  lives.
-/
import Derived.Test.YtmpblohagchhaaaRqF
import Derived.Deep.RegionHeld3
namespace Go.Proofs.Ytmpblohagchhaaa.Request
open Go.RowKit
open Span (ret_bool ret_int)

set_option maxRecDepth 100000 in
theorem good_t (w : World) : Calls Try.prog 6 #[.agg #[.int .i64 16, .int .i64 3, .int .i64 1, .int .i64 1, .int .i64 2]] w fun e w' => e = .returned (.bool true) ∧ Kept [] w w' := by
  have := good_any 16 3 1 1 2 (by omega) (by omega) w
  rwa [show cgood 16 3 1 1 2 = true by decide] at this
set_option maxRecDepth 100000 in
theorem check_t : ∃ E : Nat → Int, E 32 = 0 ∧ E 31 = 5 ∧ ∀ (sa : Option Addr) (len cap : Nat) (w : World), Calls Try.prog 8 #[.agg #[.int .i64 16, .int .i64 3, .int .i64 1, .int .i64 1, .int .i64 2], .agg #[.int .i64 1, .int .i64 0, .int .i64 2, .slice sa len cap]] w fun e w' => e = .returned (.int .i64 (E len)) ∧ Kept [] w w' :=
  ⟨fun len => errN (may 1 0 2 len 16), by decide, by decide, fun sa len cap w => check_any 16 3 1 1 2 1 0 2 sa len cap w⟩
set_option maxRecDepth 100000 in
theorem name_t (w : World) : Calls Try.prog 12 #[.int .i64 2] w fun e w' => e = .returned (.string { data := #[102, 108, 117, 115, 104] }) ∧ Kept [] w w' := name_any 2 w
/-- A row of noughts. -/
def zs (n : Nat) : Obj := .cells (List.replicate n (.int .u8 0)).toArray 5
set_option maxRecDepth 100000 in
theorem make32 (w : World) : (Instr.makeSlice 26 (.int .i64 32) (.int .i64 32)).run Try.prog w = .ok (.slice (some ⟨w.heap.size, 0, none⟩) 32 32) (w.alloc (zs 32)) := by kernel_rfl
set_option maxRecDepth 100000 in
theorem make31 (w : World) : (Instr.makeSlice 26 (.int .i64 31) (.int .i64 31)).run Try.prog w = .ok (.slice (some ⟨w.heap.size, 0, none⟩) 31 31) (w.alloc (zs 31)) := by kernel_rfl
set_option maxRecDepth 100000 in
set_option maxHeartbeats 1000000 in
/-- lives -/
theorem lives_any (w : World) : Calls Try.prog 5 #[] w fun e w' => e = .returned (.bool true) ∧ Kept [] w w' := by
  have qg := good_t
  obtain ⟨E, E1, E2, qt⟩ := check_t
  have qn := name_t
  have m1 := make32
  have m2 := make31
  generalize zs 32 = Z1 at *
  generalize zs 31 = Z2 at *
  have k1 := kept_alloc [] w (.cells #[.int .i64 16, .int .i64 3, .int .i64 1, .int .i64 1, .int .i64 2] 23)
  have b1 := blk_new w 23 #[.int .i64 16, .int .i64 3, .int .i64 1, .int .i64 1, .int .i64 2]
  have e1 : (w.alloc (.cells #[.int .i64 16, .int .i64 3, .int .i64 1, .int .i64 1, .int .i64 2] 23)).heap.size = w.heap.size + 1 := by simp
  have k2 := kept_alloc [] (w.alloc (.cells #[.int .i64 16, .int .i64 3, .int .i64 1, .int .i64 1, .int .i64 2] 23)) Z1
  have e2 : ((w.alloc (.cells #[.int .i64 16, .int .i64 3, .int .i64 1, .int .i64 1, .int .i64 2] 23)).alloc Z1).heap.size = w.heap.size + 2 := by simp
  have k3 := kept_alloc [] ((w.alloc (.cells #[.int .i64 16, .int .i64 3, .int .i64 1, .int .i64 1, .int .i64 2] 23)).alloc Z1) (.cells #[.int .i64 1, .int .i64 0, .int .i64 2, .slice (some ⟨w.heap.size + 1, 0, none⟩) 32 32] 28)
  have b3 := blk_new ((w.alloc (.cells #[.int .i64 16, .int .i64 3, .int .i64 1, .int .i64 1, .int .i64 2] 23)).alloc Z1) 28 #[.int .i64 1, .int .i64 0, .int .i64 2, .slice (some ⟨w.heap.size + 1, 0, none⟩) 32 32]
  rw [e2] at b3
  have b1' := (b1.kept k2 (by simp)).kept k3 (by simp)
  have k := (k1.trans k2).trans k3
  clear b1 k1 k2 k3 e1 e2
  go_enter Try.func5, Try.ntmps5
  go_wp2_with fail
  obtain ⟨W, hW⟩ : ∃ W, ((w.alloc (.cells #[.int .i64 16, .int .i64 3, .int .i64 1, .int .i64 1, .int .i64 2] 23)).alloc Z1).alloc (.cells #[.int .i64 1, .int .i64 0, .int .i64 2, .slice (some ⟨w.heap.size + 1, 0, none⟩) 32 32] 28) = W := ⟨_, rfl⟩
  rw [hW] at b1' b3 k ⊢
  clear hW
  have S0 : ∀ A, Kept [] W A → A.cell? ⟨w.heap.size, 0, none⟩ = some (.int .i64 16) ∧ A.cell? ⟨w.heap.size, 1, none⟩ = some (.int .i64 3) ∧ A.cell? ⟨w.heap.size, 2, none⟩ = some (.int .i64 1) ∧ A.cell? ⟨w.heap.size, 3, none⟩ = some (.int .i64 1) ∧ A.cell? ⟨w.heap.size, 4, none⟩ = some (.int .i64 2) ∧ A.cell? ⟨w.heap.size + 2, 0, none⟩ = some (.int .i64 1) ∧ A.cell? ⟨w.heap.size + 2, 1, none⟩ = some (.int .i64 0) ∧ A.cell? ⟨w.heap.size + 2, 2, none⟩ = some (.int .i64 2) ∧ A.cell? ⟨w.heap.size + 2, 3, none⟩ = some (.slice (some ⟨w.heap.size + 1, 0, none⟩) 32 32) := fun A h => ⟨((b1'.kept h (by simp)).cell 0).trans rfl, ((b1'.kept h (by simp)).cell 1).trans rfl, ((b1'.kept h (by simp)).cell 2).trans rfl, ((b1'.kept h (by simp)).cell 3).trans rfl, ((b1'.kept h (by simp)).cell 4).trans rfl, ((b3.kept h (by simp)).cell 0).trans rfl, ((b3.kept h (by simp)).cell 1).trans rfl, ((b3.kept h (by simp)).cell 2).trans rfl, ((b3.kept h (by simp)).cell 3).trans rfl⟩
  have d0 := kept_drew [] W
  obtain ⟨c0, c1, c2, c3, c4, c5, c6, c7, c8⟩ := S0 W (Kept.refl _ _)
  clear b1' b3
  go_region_held3 (fun A => A.cell? ⟨w.heap.size, 0, none⟩ = some (.int .i64 16) ∧ A.cell? ⟨w.heap.size, 1, none⟩ = some (.int .i64 3) ∧ A.cell? ⟨w.heap.size, 2, none⟩ = some (.int .i64 1) ∧ A.cell? ⟨w.heap.size, 3, none⟩ = some (.int .i64 1) ∧ A.cell? ⟨w.heap.size, 4, none⟩ = some (.int .i64 2) ∧ A.cell? ⟨w.heap.size + 2, 0, none⟩ = some (.int .i64 1) ∧ A.cell? ⟨w.heap.size + 2, 1, none⟩ = some (.int .i64 0) ∧ A.cell? ⟨w.heap.size + 2, 2, none⟩ = some (.int .i64 2) ∧ A.cell? ⟨w.heap.size + 2, 3, none⟩ = some (.slice (some ⟨w.heap.size + 1, 0, none⟩) 32 32)) (first
      | exact S0 _ d0
      | exact S0 _ d1
      | exact S0 _ d2
      | exact S0 _ (d2.trans (kept_alloc [] _ _))
      | exact S0 _ d3
      | exact S0 _ d4) (first
      | (go_at_call 6; refine (qg _).mono ?_; rintro e w1 ⟨rfl, hk1⟩; have d1 := d0.trans hk1)
      | (go_at_call 8; refine (qt _ _ _ _).mono ?_; rw [E1]; rintro e w2 ⟨rfl, hk2⟩; have d2 := d1.trans hk2)
      | (go_at_call 8; refine (qt _ _ _ _).mono ?_; rw [E2]; rintro e w3 ⟨rfl, hk3⟩; have d3 := (d2.trans (kept_alloc [] _ _)).trans hk3)
      | (go_at_call 12; refine (qn _).mono ?_; rintro e w4 ⟨rfl, hk4⟩; have d4 := d3.trans hk4))
  go_wp2_with fail
  go_ret
  exact ⟨rfl, k.trans d4⟩
end Go.Proofs.Ytmpblohagchhaaa.Request
