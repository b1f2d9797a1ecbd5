/-
  The walks of PackSame and PackForms.
-/
import Derived.Test.YtlbgpnodpbjkoaaPkL
namespace Go.Proofs.Ytlbgpnodpbjkoaa.Pack
open Go.RowKit
open Seal (enc ret_bool ret_int)
open Seal.Math

theorem Pair.after {w : World} {x y : Mv} {g h : Nat} {A B : World} (t : Pair w x y g h A) (hk : Kept [] A B) : Pair w x y g h B := ⟨t.one.kept hk (by simp), t.two.kept hk (by simp), t.kept.trans hk⟩
set_option maxRecDepth 100000 in
set_option maxHeartbeats 4000000 in
/-- PackSame -/
theorem packSame (x y : Mv) (w : World) (h : x.At 0 w.heap.size w) (hy : y.At 0 w.heap.size w) : Calls Try.prog 6 #[x.val, y.val] w fun e w' => e = .returned (.bool true) ∧ Kept [] w w' := by
  have hP := pair_new w x y
  obtain ⟨W, hW⟩ : ∃ W, (w.alloc (.cells #[.int .i64 x.k, .int .i64 x.i, .int .i64 x.o, .int .u64 (x.m : Int), .bool x.s, .slice x.sa x.len x.cap] 25)).alloc (.cells #[.int .i64 y.k, .int .i64 y.i, .int .i64 y.o, .int .u64 (y.m : Int), .bool y.s, .slice y.sa y.len y.cap] 25) = W := ⟨_, rfl⟩
  rw [hW] at hP
  have hx : ∀ A, Kept [] w A → x.At 0 w.heap.size A := fun A hA => h.kept (Nat.le_refl _) hA (by simp)
  have hyA : ∀ A, Kept [] w A → y.At 0 w.heap.size A := fun A hA => hy.kept (Nat.le_refl _) hA (by simp)
  have q1 : ∀ A, Kept [] w A → Calls Try.prog 17 #[x.val, y.val] A _ := fun A hA => same_any x y _ _ _ _ A (hx A hA) hA.size (hyA A hA) hA.size
  have q2 : ∀ A, Kept [] w A → Calls Try.prog 16 #[x.val, y.val] A _ := fun A hA => refSame_any x y _ _ _ _ A (hx A hA) hA.size (hyA A hA) hA.size
  have q3 : ∀ A, Kept [] w A → Calls Try.prog 17 #[x.val, x.val] A fun e w' => e = .returned (.bool true) ∧ Kept [] A w' := fun A hA => by
    have := same_any x x _ _ _ _ A (hx A hA) hA.size (hx A hA) hA.size
    rw [sameB_refl] at this
    exact this
  have q4 := fun A : World => lives_any A
  generalize sameB x.ms y.ms = B at *
  clear hx hyA h hy
  have S0 : ∀ A, Kept [] W A → (A.cell? ⟨w.heap.size, 0, none⟩ = some (.int .i64 x.k) ∧ A.cell? ⟨w.heap.size, 1, none⟩ = some (.int .i64 x.i) ∧ A.cell? ⟨w.heap.size, 2, none⟩ = some (.int .i64 x.o) ∧ A.cell? ⟨w.heap.size, 3, none⟩ = some (.int .u64 (x.m : Int)) ∧ A.cell? ⟨w.heap.size, 4, none⟩ = some (.bool x.s) ∧ A.cell? ⟨w.heap.size, 5, none⟩ = some (.slice x.sa x.len x.cap)) ∧
      (A.cell? ⟨w.heap.size + 1, 0, none⟩ = some (.int .i64 y.k) ∧ A.cell? ⟨w.heap.size + 1, 1, none⟩ = some (.int .i64 y.i) ∧ A.cell? ⟨w.heap.size + 1, 2, none⟩ = some (.int .i64 y.o) ∧ A.cell? ⟨w.heap.size + 1, 3, none⟩ = some (.int .u64 (y.m : Int)) ∧ A.cell? ⟨w.heap.size + 1, 4, none⟩ = some (.bool y.s) ∧ A.cell? ⟨w.heap.size + 1, 5, none⟩ = some (.slice y.sa y.len y.cap)) := fun A hA => ⟨(hP.one.kept hA (by simp)).six, (hP.two.kept hA (by simp)).six⟩
  have hkW := hP.kept
  have hkr : Kept [] W W.drew := kept_drew [] W
  unfold Mv.val at *
  go_enter Try.func6, Try.ntmps6
  go_wp2_with fail
  go_region_held3 (fun A => (A.cell? ⟨w.heap.size, 0, none⟩ = some (.int .i64 x.k) ∧ A.cell? ⟨w.heap.size, 1, none⟩ = some (.int .i64 x.i) ∧ A.cell? ⟨w.heap.size, 2, none⟩ = some (.int .i64 x.o) ∧ A.cell? ⟨w.heap.size, 3, none⟩ = some (.int .u64 (x.m : Int)) ∧ A.cell? ⟨w.heap.size, 4, none⟩ = some (.bool x.s) ∧ A.cell? ⟨w.heap.size, 5, none⟩ = some (.slice x.sa x.len x.cap)) ∧
      (A.cell? ⟨w.heap.size + 1, 0, none⟩ = some (.int .i64 y.k) ∧ A.cell? ⟨w.heap.size + 1, 1, none⟩ = some (.int .i64 y.i) ∧ A.cell? ⟨w.heap.size + 1, 2, none⟩ = some (.int .i64 y.o) ∧ A.cell? ⟨w.heap.size + 1, 3, none⟩ = some (.int .u64 (y.m : Int)) ∧ A.cell? ⟨w.heap.size + 1, 4, none⟩ = some (.bool y.s) ∧ A.cell? ⟨w.heap.size + 1, 5, none⟩ = some (.slice y.sa y.len y.cap))) (exact S0 _ hkr) (first
    | (go_at_call_of 17 (#[.agg #[.int .i64 x.k, .int .i64 x.i, .int .i64 x.o, .int .u64 (x.m : Int), .bool x.s, .slice x.sa x.len x.cap], .agg #[.int .i64 y.k, .int .i64 y.i, .int .i64 y.o, .int .u64 (y.m : Int), .bool y.s, .slice y.sa y.len y.cap]] : Array Value); refine (q1 _ (hkW.trans hkr)).mono ?_; rintro e w1 ⟨rfl, hk1⟩; replace hkr := hkr.trans hk1)
    | (go_at_call 16; refine (q2 _ (hkW.trans hkr)).mono ?_; rintro e w2 ⟨rfl, hk1⟩; replace hkr := hkr.trans hk1)
    | (go_at_call_of 17 (#[.agg #[.int .i64 x.k, .int .i64 x.i, .int .i64 x.o, .int .u64 (x.m : Int), .bool x.s, .slice x.sa x.len x.cap], .agg #[.int .i64 x.k, .int .i64 x.i, .int .i64 x.o, .int .u64 (x.m : Int), .bool x.s, .slice x.sa x.len x.cap]] : Array Value); refine (q3 _ (hkW.trans hkr)).mono ?_; rintro e w3 ⟨rfl, hk1⟩; replace hkr := hkr.trans hk1)
    | (go_at_call 7; refine (q4 _).mono ?_; rintro e w4 ⟨rfl, hk1⟩; replace hkr := hkr.trans hk1))
  all_goals go_wp2_with fail
  all_goals go_ret
  all_goals exact ⟨by simp, hkW.trans hkr⟩
end Go.Proofs.Ytlbgpnodpbjkoaa.Pack
