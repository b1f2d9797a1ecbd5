/-
  The walk of RoleTells.
-/
import Derived.Test.YtkiggeldgecooaaRoB
namespace Go.Proofs.Ytkiggeldgecooaa.Role
open Go.RowKit
open Bits Bits.Math

set_option maxRecDepth 100000 in
theorem tells_small (who : Int) (mine theirs : Bool) (a b : Nat) (z : Int) (ha : a < 18446744073709551616) (hb : b < 18446744073709551616) (h0 : -9223372036854775808 ≤ z) (h1 : z ≤ 9223372036854775807) (hz : z ≤ 1000) (w : World) :
    Calls Try.prog 3 #[.agg #[.int .i64 who, .bool mine, .bool theirs, .int .u64 (a : Int), .int .u64 (b : Int), .int .i64 z]] w fun e w' => e = .returned (.bool true) ∧ Below w.heap.size w w' := by
  have q1 := fun w => arbiter_any who w
  have q2 := fun w => rArbiter_any who w
  have q3 := fun w => source_any who mine theirs w
  have q4 := fun w => rSource_any who mine theirs w
  have q5 := fun w => union_any a b (z) ha hb (by omega) (by omega) w
  have q6 := fun w => rUnion_any a b (z) ha hb w
  generalize decide (who = 0) = d at *
  generalize gives who mine theirs = g at *
  generalize uni a b (z) = U at *
  have qv := lives_any
  have hB := Below.refl w.heap.size w
  have hN : w.heap.size ≤ w.heap.size := Nat.le_refl _
  clear ha hb
  go_enter Try.func3, Try.ntmps3
  replace hB := (hB.alloc hN (.cells #[.int .i64 who, .bool mine, .bool theirs, .int .u64 (a : Int), .int .u64 (b : Int), .int .i64 z] 24)).drew
  clear hN
  go_wp2_with fail
  go_region
  generalize (w.alloc (.cells #[.int .i64 who, .bool mine, .bool theirs, .int .u64 (a : Int), .int .u64 (b : Int), .int .i64 z] 24)).drew = W0 at *
  go_wp2_with (first
    | (go_at_call 5; refine (q1 _).mono ?_; rintro e w1 ⟨rfl, rfl⟩)
    | (go_at_call 6; refine (q2 _).mono ?_; rintro e w1 ⟨rfl, rfl⟩)
    | (go_at_call 7; refine (q3 _).mono ?_; rintro e w1 ⟨rfl, hB1⟩; replace hB := hB.trans (hB1.mono hB.size); clear hB1)
    | (go_at_call 8; refine (q4 _).mono ?_; rintro e w1 ⟨rfl, rfl⟩)
    | (go_at_call 9; refine (q5 _).mono ?_; rintro e w1 ⟨rfl, rfl⟩)
    | (go_at_call 10; refine (q6 _).mono ?_; rintro e w1 ⟨rfl, hB1⟩; replace hB := hB.trans (hB1.mono hB.size); clear hB1)
    | (go_at_call 11; refine (qv _).mono ?_; rintro e w1 ⟨rfl, hB1⟩; replace hB := hB.trans (hB1.mono hB.size); clear hB1))
  go_ret
  exact ⟨rfl, hB⟩
set_option maxRecDepth 100000 in
theorem tells_great (who : Int) (mine theirs : Bool) (a b : Nat) (z : Int) (ha : a < 18446744073709551616) (hb : b < 18446744073709551616) (hz : 1000 < z) (w : World) :
    Calls Try.prog 3 #[.agg #[.int .i64 who, .bool mine, .bool theirs, .int .u64 (a : Int), .int .u64 (b : Int), .int .i64 z]] w fun e w' => e = .returned (.bool true) ∧ Below w.heap.size w w' := by
  have q1 := fun w => arbiter_any who w
  have q2 := fun w => rArbiter_any who w
  have q3 := fun w => source_any who mine theirs w
  have q4 := fun w => rSource_any who mine theirs w
  have q5 := fun w => union_any a b (1000) ha hb (by omega) (by omega) w
  have q6 := fun w => rUnion_any a b (1000) ha hb w
  generalize decide (who = 0) = d at *
  generalize gives who mine theirs = g at *
  generalize uni a b (1000) = U at *
  have qv := lives_any
  have hB := Below.refl w.heap.size w
  have hN : w.heap.size ≤ w.heap.size := Nat.le_refl _
  clear ha hb
  go_enter Try.func3, Try.ntmps3
  replace hB := (hB.alloc hN (.cells #[.int .i64 who, .bool mine, .bool theirs, .int .u64 (a : Int), .int .u64 (b : Int), .int .i64 z] 24)).drew
  clear hN
  go_wp2_with fail
  go_region
  generalize (w.alloc (.cells #[.int .i64 who, .bool mine, .bool theirs, .int .u64 (a : Int), .int .u64 (b : Int), .int .i64 z] 24)).drew = W0 at *
  go_wp2_with (first
    | (go_at_call 5; refine (q1 _).mono ?_; rintro e w1 ⟨rfl, rfl⟩)
    | (go_at_call 6; refine (q2 _).mono ?_; rintro e w1 ⟨rfl, rfl⟩)
    | (go_at_call 7; refine (q3 _).mono ?_; rintro e w1 ⟨rfl, hB1⟩; replace hB := hB.trans (hB1.mono hB.size); clear hB1)
    | (go_at_call 8; refine (q4 _).mono ?_; rintro e w1 ⟨rfl, rfl⟩)
    | (go_at_call 9; refine (q5 _).mono ?_; rintro e w1 ⟨rfl, rfl⟩)
    | (go_at_call 10; refine (q6 _).mono ?_; rintro e w1 ⟨rfl, hB1⟩; replace hB := hB.trans (hB1.mono hB.size); clear hB1)
    | (go_at_call 11; refine (qv _).mono ?_; rintro e w1 ⟨rfl, hB1⟩; replace hB := hB.trans (hB1.mono hB.size); clear hB1))
  go_ret
  exact ⟨rfl, hB⟩
set_option maxRecDepth 100000 in
/-- RoleTells -/
theorem tells_walk (who : Int) (mine theirs : Bool) (a b : Nat) (z : Int) (ha : a < 18446744073709551616) (hb : b < 18446744073709551616) (h0 : -9223372036854775808 ≤ z) (h1 : z ≤ 9223372036854775807) (w : World) :
    Calls Try.prog 3 #[.agg #[.int .i64 who, .bool mine, .bool theirs, .int .u64 (a : Int), .int .u64 (b : Int), .int .i64 z]] w fun e w' => e = .returned (.bool true) ∧ Below w.heap.size w w' := by
  by_cases hz : z ≤ 1000
  · exact tells_small who mine theirs a b z ha hb h0 h1 hz w
  · exact tells_great who mine theirs a b z ha hb (by omega) w
end Go.Proofs.Ytkiggeldgecooaa.Role
