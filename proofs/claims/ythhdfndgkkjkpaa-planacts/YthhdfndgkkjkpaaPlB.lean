/-
  lives; the walk of PlanNone; the early ways of PlanActs and PlanOver.
-/
import Derived.Test.YthhdfndgkkjkpaaPlA
namespace Go.Proofs.Ythhdfndgkkjkpaa.Plan
open Go.RowKit
open Bits Bits.Math

set_option maxRecDepth 100000 in
/-- How many numbers All answers. -/
theorem all_len {o m s : Nat} (w : World) (h : PlAt w o m s) :
    Calls Try.prog 13 #[.pointer (some ⟨o, 0, none⟩)] w fun e w' => ∃ a cap, e = .returned (.slice a (pop m) cap) ∧ Kept [] w w' := by
  refine (all_any w h).mono ?_
  rintro e w' ⟨v, rfl, ⟨a, cap, rfl, -⟩, hB⟩
  exact ⟨a, cap, by rw [List.length_map, pop_elems], Kept.of_below hB []⟩
theorem h50 : has 5 0 = true := by decide +kernel
theorem h40 : has 4 0 = false := by decide +kernel
theorem h42 : has 4 2 = true := by decide +kernel
theorem w50 : without 5 0 = 4 := by decide +kernel
theorem w40 : without 4 0 = 4 := by decide +kernel
theorem w42 : without 4 2 = 0 := by decide +kernel
theorem p5 : pop 5 = 2 := by decide +kernel
set_option maxRecDepth 100000 in
/-- lives -/
theorem lives_any (w : World) : Calls Try.prog 6 #[] w fun e w' => e = .returned (.bool true) ∧ Kept [] w w' := by
  have qn := new_any 5 (by omega) w
  have q1 := fun W (h : PlAt W w.heap.size 5 5) => have_any 0 W h
  have q2 := fun W (h : PlAt W w.heap.size 5 4) => have_any 0 W h
  have q3 := fun W (h : PlAt W w.heap.size 5 4) => over_any W h
  have q4 := fun W (h : PlAt W w.heap.size 5 4) => left_any W h
  have q5 := fun W (h : PlAt W w.heap.size 5 4) => have_any 2 W h
  have q6 := fun W (h : PlAt W w.heap.size 5 0) => over_any W h
  have q7 := fun W (h : PlAt W w.heap.size 5 0) => all_len W h
  simp only [h50, w50] at q1
  simp only [h40, w40] at q2
  simp only [h42, w42] at q5
  simp only [p5] at q7
  simp only [show decide (4 = 0) = false from rfl] at q3
  rw [show decide (0 = 0) = true from rfl] at q6
  go_enter Try.func6, Try.ntmps6
  go_wp2_with (first
    | (go_at_call 7; refine qn.mono ?_; rintro e w1 ⟨rfl, h1, hs1, hk1⟩; clear qn)
    | (go_at_call 8; refine (q1 _ h1).mono ?_; rintro e w2 ⟨rfl, h2, hk2⟩; clear q1)
    | (go_at_call 8; refine (q2 _ h2).mono ?_; rintro e w3 ⟨rfl, h3, hk3⟩; clear q2)
    | (go_at_call 11; refine (q3 _ h3).mono ?_; rintro e w3 ⟨rfl, rfl⟩; clear q3)
    | (go_at_call 10; refine (q4 _ h3).mono ?_; rintro e w3 ⟨rfl, rfl⟩; clear q4)
    | (go_at_call 8; refine (q5 _ h3).mono ?_; rintro e w4 ⟨rfl, h4, hk4⟩; clear q5)
    | (go_at_call 11; refine (q6 _ h4).mono ?_; rintro e w4 ⟨rfl, rfl⟩; clear q6)
    | (go_at_call 13; refine (q7 _ h4).mono ?_; rintro e w5 ⟨a, cap, rfl, hk5⟩; clear q7))
  go_ret
  exact ⟨rfl, hk1.young (((hk2.trans hk3).trans hk4).trans (hk5.mono (by simp))) (Nat.le_refl _)⟩
set_option maxRecDepth 100000 in
/-- PlanNone -/
theorem none_walk (n : Int) (w : World) :
    Calls Try.prog 5 #[.int .i64 n] w fun e w' => e = .returned (.bool true) ∧ Kept [] w w' := by
  have k1 := kept_alloc [] w (.cells #[.int .u64 0, .int .u64 0] 40)
  have hb1 := blk_new w 40 #[.int .u64 0, .int .u64 0]
  have k2 := kept_alloc [] (w.alloc (.cells #[.int .u64 0, .int .u64 0] 40)) (.cells #[.pointer none, .pointer (some ⟨w.heap.size, 0, none⟩)] 25)
  have hb2 := blk_new (w.alloc (.cells #[.int .u64 0, .int .u64 0] 40)) 25 #[.pointer none, .pointer (some ⟨w.heap.size, 0, none⟩)]
  rw [World.size_alloc] at hb2
  replace hb1 := hb1.kept k2 (by simp)
  have k0 := k1.trans k2
  clear k1 k2
  obtain ⟨W0, hW⟩ : ∃ W0, (w.alloc (.cells #[.int .u64 0, .int .u64 0] 40)).alloc (.cells #[.pointer none, .pointer (some ⟨w.heap.size, 0, none⟩)] 25) = W0 := ⟨_, rfl⟩
  rw [hW] at hb1 hb2 k0
  go_enter Try.func5, Try.ntmps5
  go_wp2_with fail
  clear hW
  go_loopw [11] (fun i wr => ∃ j : Nat, j ≤ 2 ∧ i = .int .i64 j ∧ Kept [] W0 wr) (fun i _ => 2 - (RowKit.intOf i).toNat)
  case atStart => exact ⟨0, by omega, rfl, Kept.refl _ _⟩
  case round =>
    obtain ⟨j, hj, rfl, hk⟩ := hrel
    by_cases hlt : j < 2
    · obtain ⟨p, hp, hN⟩ : ∃ p, wr.cell? ⟨w.heap.size + 1, j, none⟩ = some (.pointer p) ∧ NoPl wr p := by
        have hc := (hb2.kept hk (by simp)).cell j
        rcases (by omega : j = 0 ∨ j = 1) with rfl | rfl
        · exact ⟨none, hc, .inl rfl⟩
        · exact ⟨_, hc, .inr ⟨_, rfl, hb1.kept hk (by simp), by omega, by omega⟩⟩
      have i1 : (j : Int) < 2 := by omega
      have hm1 : Hid (2 - (j + 1) < 2 - j) := by show _ < _; omega
      have q1 := have_none p n wr hN
      have q2 := over_none p wr hN
      have q3 := left_none p wr hN
      have q4 := allN_none p wr hN
      clear hb1 hb2
      go_wp2_with (first
        | (go_at_call 8; refine q1.mono ?_; rintro e wr ⟨rfl, rfl⟩)
        | (go_at_call 11; refine q2.mono ?_; rintro e wr ⟨rfl, rfl⟩)
        | (go_at_call 10; refine q3.mono ?_; rintro e wr ⟨rfl, rfl⟩)
        | (go_at_call 13; refine q4.mono ?_; rintro e wr ⟨rfl, rfl⟩))
      go_roundw
      case rel => exact ⟨j + 1, by omega, by go_num, hk⟩
      case measure => simpa [RowKit.intOf] using hm1.out
    · obtain rfl : j = 2 := by omega
      have q := lives_any wr
      clear hb1 hb2
      go_wp2_with (go_at_call 6; refine q.mono ?_; rintro e w1 ⟨rfl, hk1⟩)
      go_ret
      exact ⟨rfl, (k0.trans hk).trans hk1⟩
set_option maxRecDepth 100000 in
/-- PlanActs, of more than it plays -/
theorem acts_early (m : Nat) (a : Option Addr) (len cap : Nat) (w : World) (h : 200 < len) :
    Calls Try.prog 3 #[.int .u64 (m : Int), .slice a len cap] w fun e w' => e = .returned (.bool true) ∧ Kept [] w w' := by
  have i1 : (200 : Int) < (len : Int) := by omega
  have q := lives_any w
  go_enter Try.func3, Try.ntmps3
  go_wp2_with (go_at_call 6; refine q.mono ?_; rintro e w1 ⟨rfl, hk1⟩)
  go_ret
  exact ⟨rfl, hk1⟩
set_option maxRecDepth 100000 in
/-- PlanOver, of more than it plays -/
theorem over_early (m : Nat) (a : Option Addr) (len cap : Nat) (w : World) (h : 200 < len) :
    Calls Try.prog 4 #[.int .u64 (m : Int), .slice a len cap] w fun e w' => e = .returned (.bool true) ∧ Kept [] w w' := by
  have i1 : (200 : Int) < (len : Int) := by omega
  have q := lives_any w
  go_enter Try.func4, Try.ntmps4
  go_wp2_with (go_at_call 6; refine q.mono ?_; rintro e w1 ⟨rfl, hk1⟩)
  go_ret
  exact ⟨rfl, hk1⟩
end Go.Proofs.Ythhdfndgkkjkpaa.Plan
