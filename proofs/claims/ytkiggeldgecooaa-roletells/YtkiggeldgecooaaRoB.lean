/-
  The walks of lives, RoleOne and RoleTells.
-/
import Derived.Test.YtkiggeldgecooaaRoA
import Derived.Deep.RegionHeld3
namespace Go.Proofs.Ytkiggeldgecooaa.Role
open Go.RowKit
open Bits Bits.Math

set_option maxRecDepth 100000 in
theorem source_t1 (w : World) : Calls Try.prog 7 #[.int .i64 1, .bool true, .bool false] w fun e w' => e = .returned (.bool true) ∧ Below w.heap.size w w' := source_any 1 true false w
set_option maxRecDepth 100000 in
theorem source_t2 (w : World) : Calls Try.prog 7 #[.int .i64 1, .bool false, .bool false] w fun e w' => e = .returned (.bool false) ∧ Below w.heap.size w w' := source_any 1 false false w
set_option maxRecDepth 100000 in
theorem source_t3 (w : World) : Calls Try.prog 7 #[.int .i64 0, .bool false, .bool false] w fun e w' => e = .returned (.bool true) ∧ Below w.heap.size w w' := source_any 0 false false w
set_option maxRecDepth 100000 in
theorem arbiter_t (w : World) : Calls Try.prog 5 #[.int .i64 0] w fun e w' => e = .returned (.bool true) ∧ w' = w := arbiter_any 0 w
set_option maxRecDepth 100000 in
theorem union_t (w : World) : Calls Try.prog 9 #[.int .u64 5, .int .u64 2, .int .i64 8] w fun e w' => e = .returned (.int .u64 3) ∧ w' = w := union_any 5 2 8 (by omega) (by omega) (by omega) (by omega) w
set_option maxRecDepth 100000 in
/-- lives -/
theorem lives_any (w : World) : Calls Try.prog 11 #[] w fun e w' => e = .returned (.bool true) ∧ Below w.heap.size w w' := by
  have s1 := source_t1
  have s2 := source_t2
  have s3 := source_t3
  have s4 := arbiter_t
  have s5 := union_t
  have hB := Below.refl w.heap.size w
  go_enter Try.func11, Try.ntmps11
  go_wp2_with (first
    | (go_at_call_of 7 (#[.int .i64 1, .bool true, .bool false] : Array Value); refine (s1 _).mono ?_; rintro e w1 ⟨rfl, hB1⟩; replace hB := hB.trans (hB1.mono hB.size); clear hB1)
    | (go_at_call_of 7 (#[.int .i64 1, .bool false, .bool false] : Array Value); refine (s2 _).mono ?_; rintro e w1 ⟨rfl, hB1⟩; replace hB := hB.trans (hB1.mono hB.size); clear hB1)
    | (go_at_call_of 7 (#[.int .i64 0, .bool false, .bool false] : Array Value); refine (s3 _).mono ?_; rintro e w1 ⟨rfl, hB1⟩; replace hB := hB.trans (hB1.mono hB.size); clear hB1)
    | (go_at_call 5; refine (s4 _).mono ?_; rintro e w1 ⟨rfl, rfl⟩)
    | (go_at_call 9; refine (s5 _).mono ?_; rintro e w1 ⟨rfl, rfl⟩))
  go_ret
  exact ⟨rfl, hB⟩
set_option maxRecDepth 100000 in
theorem union_256 (x y : Nat) (hx : x < 18446744073709551616) (hy : y < 18446744073709551616) (w : World) : Calls Try.prog 9 #[.int .u64 (x : Int), .int .u64 (y : Int), .int .i64 256] w fun e w' => e = .returned (.int .u64 ((x ||| y : Nat) : Int)) ∧ w' = w := by
  have := union_any x y 256 hx hy (by omega) (by omega) w
  rwa [uni256 x y hx hy] at this
set_option maxRecDepth 100000 in
theorem union_0 (x y : Nat) (hx : x < 18446744073709551616) (hy : y < 18446744073709551616) (w : World) : Calls Try.prog 9 #[.int .u64 (x : Int), .int .u64 (y : Int), .int .i64 0] w fun e w' => e = .returned (.int .u64 0) ∧ w' = w := by
  have := union_any x y 0 hx hy (by omega) (by omega) w
  rwa [uni0 x y] at this
set_option maxRecDepth 100000 in
theorem union_16 (x y : Nat) (hx : x < 18446744073709551616) (hy : y < 18446744073709551616) (w : World) : Calls Try.prog 9 #[.int .u64 (x : Int), .int .u64 (y : Int), .int .i64 16] w fun e w' => e = .returned (.int .u64 (((x ||| y) % 16 : Nat) : Int)) ∧ w' = w := by
  have := union_any x y 16 hx hy (by omega) (by omega) w
  rwa [uni16 x y] at this
set_option maxRecDepth 100000 in
theorem one_ff (x y : Nat) (hx : x < 18446744073709551616) (hy : y < 18446744073709551616) (w : World) :
    Calls Try.prog 4 #[.agg #[.bool false, .bool false, .int .u64 (x : Int), .int .u64 (y : Int)]] w fun e w' => e = .returned (.bool true) ∧ Below w.heap.size w w' := by
  have s1 : ∀ w, Calls Try.prog 7 #[.int .i64 0, .bool false, .bool false] w fun e w' => e = .returned (.bool true) ∧ Below w.heap.size w w' := source_any 0 false false
  have s2 : ∀ w, Calls Try.prog 7 #[.int .i64 1, .bool false, .bool false] w fun e w' => e = .returned (.bool false) ∧ Below w.heap.size w w' := source_any 1 false false
  have u1 := fun w => union_256 x y hx hy w
  have u2 := fun w => union_0 x y hx hy w
  have u3 := fun w => union_16 x y hx hy w
  have o := u64_or_nat x y hx hy
  have hs : (x ||| y) % 16 < 18446744073709551616 := by omega
  have ql := fun w => refList_any ((x ||| y) % 16) w hs
  have h4 := four (x ||| y)
  generalize (x ||| y) % 16 = u at *
  generalize elems u = L at *
  have i4 : (L.length : Int) ≤ 4 := by omega
  have qv := lives_any
  have hB := Below.refl w.heap.size w
  have hN : w.heap.size ≤ w.heap.size := Nat.le_refl _
  clear hs hx hy h4
  go_enter Try.func4, Try.ntmps4
  replace hB := (hB.alloc hN (.cells #[.bool false, .bool false, .int .u64 (x : Int), .int .u64 (y : Int)] 31)).drew
  clear hN
  go_wp2_with fail
  go_region
  generalize (w.alloc (.cells #[.bool false, .bool false, .int .u64 (x : Int), .int .u64 (y : Int)] 31)).drew = W0 at *
  go_wp2_with (first
    | (go_at_call_of 7 (#[.int .i64 0, .bool false, .bool false] : Array Value); refine (s1 _).mono ?_; rintro e w1 ⟨rfl, hB1⟩; replace hB := hB.trans (hB1.mono hB.size); clear hB1)
    | (go_at_call_of 7 (#[.int .i64 1, .bool false, .bool false] : Array Value); refine (s2 _).mono ?_; rintro e w1 ⟨rfl, hB1⟩; replace hB := hB.trans (hB1.mono hB.size); clear hB1)
    | (go_at_call_of 9 (#[.int .u64 (x : Int), .int .u64 (y : Int), .int .i64 256] : Array Value); refine (u1 _).mono ?_; rintro e w1 ⟨rfl, rfl⟩)
    | (go_at_call_of 9 (#[.int .u64 (x : Int), .int .u64 (y : Int), .int .i64 0] : Array Value); refine (u2 _).mono ?_; rintro e w1 ⟨rfl, rfl⟩)
    | (go_at_call_of 9 (#[.int .u64 (x : Int), .int .u64 (y : Int), .int .i64 16] : Array Value); refine (u3 _).mono ?_; rintro e w1 ⟨rfl, rfl⟩)
    | (go_at_call 12; refine (ql _).mono ?_; rintro e w1 ⟨v, rfl, hrow, hB1⟩; obtain ⟨la, cap, rfl, -⟩ := owns_at hrow; replace hB := hB.trans (hB1.mono hB.size); clear hB1 hrow)
    | (go_at_call 11; refine (qv _).mono ?_; rintro e w1 ⟨rfl, hB1⟩; replace hB := hB.trans (hB1.mono hB.size); clear hB1))
  go_ret
  exact ⟨rfl, hB⟩
set_option maxRecDepth 100000 in
theorem one_ft (x y : Nat) (hx : x < 18446744073709551616) (hy : y < 18446744073709551616) (w : World) :
    Calls Try.prog 4 #[.agg #[.bool false, .bool true, .int .u64 (x : Int), .int .u64 (y : Int)]] w fun e w' => e = .returned (.bool true) ∧ Below w.heap.size w w' := by
  have s1 : ∀ w, Calls Try.prog 7 #[.int .i64 0, .bool false, .bool true] w fun e w' => e = .returned (.bool false) ∧ Below w.heap.size w w' := source_any 0 false true
  have s2 : ∀ w, Calls Try.prog 7 #[.int .i64 1, .bool true, .bool false] w fun e w' => e = .returned (.bool true) ∧ Below w.heap.size w w' := source_any 1 true false
  have u1 := fun w => union_256 x y hx hy w
  have u2 := fun w => union_0 x y hx hy w
  have u3 := fun w => union_16 x y hx hy w
  have o := u64_or_nat x y hx hy
  have hs : (x ||| y) % 16 < 18446744073709551616 := by omega
  have ql := fun w => refList_any ((x ||| y) % 16) w hs
  have h4 := four (x ||| y)
  generalize (x ||| y) % 16 = u at *
  generalize elems u = L at *
  have i4 : (L.length : Int) ≤ 4 := by omega
  have qv := lives_any
  have hB := Below.refl w.heap.size w
  have hN : w.heap.size ≤ w.heap.size := Nat.le_refl _
  clear hs hx hy h4
  go_enter Try.func4, Try.ntmps4
  replace hB := (hB.alloc hN (.cells #[.bool false, .bool true, .int .u64 (x : Int), .int .u64 (y : Int)] 31)).drew
  clear hN
  go_wp2_with fail
  go_region
  generalize (w.alloc (.cells #[.bool false, .bool true, .int .u64 (x : Int), .int .u64 (y : Int)] 31)).drew = W0 at *
  go_wp2_with (first
    | (go_at_call_of 7 (#[.int .i64 0, .bool false, .bool true] : Array Value); refine (s1 _).mono ?_; rintro e w1 ⟨rfl, hB1⟩; replace hB := hB.trans (hB1.mono hB.size); clear hB1)
    | (go_at_call_of 7 (#[.int .i64 1, .bool true, .bool false] : Array Value); refine (s2 _).mono ?_; rintro e w1 ⟨rfl, hB1⟩; replace hB := hB.trans (hB1.mono hB.size); clear hB1)
    | (go_at_call_of 9 (#[.int .u64 (x : Int), .int .u64 (y : Int), .int .i64 256] : Array Value); refine (u1 _).mono ?_; rintro e w1 ⟨rfl, rfl⟩)
    | (go_at_call_of 9 (#[.int .u64 (x : Int), .int .u64 (y : Int), .int .i64 0] : Array Value); refine (u2 _).mono ?_; rintro e w1 ⟨rfl, rfl⟩)
    | (go_at_call_of 9 (#[.int .u64 (x : Int), .int .u64 (y : Int), .int .i64 16] : Array Value); refine (u3 _).mono ?_; rintro e w1 ⟨rfl, rfl⟩)
    | (go_at_call 12; refine (ql _).mono ?_; rintro e w1 ⟨v, rfl, hrow, hB1⟩; obtain ⟨la, cap, rfl, -⟩ := owns_at hrow; replace hB := hB.trans (hB1.mono hB.size); clear hB1 hrow)
    | (go_at_call 11; refine (qv _).mono ?_; rintro e w1 ⟨rfl, hB1⟩; replace hB := hB.trans (hB1.mono hB.size); clear hB1))
  go_ret
  exact ⟨rfl, hB⟩
set_option maxRecDepth 100000 in
theorem one_tf (x y : Nat) (hx : x < 18446744073709551616) (hy : y < 18446744073709551616) (w : World) :
    Calls Try.prog 4 #[.agg #[.bool true, .bool false, .int .u64 (x : Int), .int .u64 (y : Int)]] w fun e w' => e = .returned (.bool true) ∧ Below w.heap.size w w' := by
  have s1 : ∀ w, Calls Try.prog 7 #[.int .i64 0, .bool true, .bool false] w fun e w' => e = .returned (.bool true) ∧ Below w.heap.size w w' := source_any 0 true false
  have s2 : ∀ w, Calls Try.prog 7 #[.int .i64 1, .bool false, .bool true] w fun e w' => e = .returned (.bool false) ∧ Below w.heap.size w w' := source_any 1 false true
  have u1 := fun w => union_256 x y hx hy w
  have u2 := fun w => union_0 x y hx hy w
  have u3 := fun w => union_16 x y hx hy w
  have o := u64_or_nat x y hx hy
  have hs : (x ||| y) % 16 < 18446744073709551616 := by omega
  have ql := fun w => refList_any ((x ||| y) % 16) w hs
  have h4 := four (x ||| y)
  generalize (x ||| y) % 16 = u at *
  generalize elems u = L at *
  have i4 : (L.length : Int) ≤ 4 := by omega
  have qv := lives_any
  have hB := Below.refl w.heap.size w
  have hN : w.heap.size ≤ w.heap.size := Nat.le_refl _
  clear hs hx hy h4
  go_enter Try.func4, Try.ntmps4
  replace hB := (hB.alloc hN (.cells #[.bool true, .bool false, .int .u64 (x : Int), .int .u64 (y : Int)] 31)).drew
  clear hN
  go_wp2_with fail
  go_region
  generalize (w.alloc (.cells #[.bool true, .bool false, .int .u64 (x : Int), .int .u64 (y : Int)] 31)).drew = W0 at *
  go_wp2_with (first
    | (go_at_call_of 7 (#[.int .i64 0, .bool true, .bool false] : Array Value); refine (s1 _).mono ?_; rintro e w1 ⟨rfl, hB1⟩; replace hB := hB.trans (hB1.mono hB.size); clear hB1)
    | (go_at_call_of 7 (#[.int .i64 1, .bool false, .bool true] : Array Value); refine (s2 _).mono ?_; rintro e w1 ⟨rfl, hB1⟩; replace hB := hB.trans (hB1.mono hB.size); clear hB1)
    | (go_at_call_of 9 (#[.int .u64 (x : Int), .int .u64 (y : Int), .int .i64 256] : Array Value); refine (u1 _).mono ?_; rintro e w1 ⟨rfl, rfl⟩)
    | (go_at_call_of 9 (#[.int .u64 (x : Int), .int .u64 (y : Int), .int .i64 0] : Array Value); refine (u2 _).mono ?_; rintro e w1 ⟨rfl, rfl⟩)
    | (go_at_call_of 9 (#[.int .u64 (x : Int), .int .u64 (y : Int), .int .i64 16] : Array Value); refine (u3 _).mono ?_; rintro e w1 ⟨rfl, rfl⟩)
    | (go_at_call 12; refine (ql _).mono ?_; rintro e w1 ⟨v, rfl, hrow, hB1⟩; obtain ⟨la, cap, rfl, -⟩ := owns_at hrow; replace hB := hB.trans (hB1.mono hB.size); clear hB1 hrow)
    | (go_at_call 11; refine (qv _).mono ?_; rintro e w1 ⟨rfl, hB1⟩; replace hB := hB.trans (hB1.mono hB.size); clear hB1))
  go_ret
  exact ⟨rfl, hB⟩
set_option maxRecDepth 100000 in
theorem one_tt (x y : Nat) (hx : x < 18446744073709551616) (hy : y < 18446744073709551616) (w : World) :
    Calls Try.prog 4 #[.agg #[.bool true, .bool true, .int .u64 (x : Int), .int .u64 (y : Int)]] w fun e w' => e = .returned (.bool true) ∧ Below w.heap.size w w' := by
  have s1 : ∀ w, Calls Try.prog 7 #[.int .i64 0, .bool true, .bool true] w fun e w' => e = .returned (.bool true) ∧ Below w.heap.size w w' := source_any 0 true true
  have s2 : ∀ w, Calls Try.prog 7 #[.int .i64 1, .bool true, .bool true] w fun e w' => e = .returned (.bool false) ∧ Below w.heap.size w w' := source_any 1 true true
  have u1 := fun w => union_256 x y hx hy w
  have u2 := fun w => union_0 x y hx hy w
  have u3 := fun w => union_16 x y hx hy w
  have o := u64_or_nat x y hx hy
  have hs : (x ||| y) % 16 < 18446744073709551616 := by omega
  have ql := fun w => refList_any ((x ||| y) % 16) w hs
  have h4 := four (x ||| y)
  generalize (x ||| y) % 16 = u at *
  generalize elems u = L at *
  have i4 : (L.length : Int) ≤ 4 := by omega
  have qv := lives_any
  have hB := Below.refl w.heap.size w
  have hN : w.heap.size ≤ w.heap.size := Nat.le_refl _
  clear hs hx hy h4
  go_enter Try.func4, Try.ntmps4
  replace hB := (hB.alloc hN (.cells #[.bool true, .bool true, .int .u64 (x : Int), .int .u64 (y : Int)] 31)).drew
  clear hN
  go_wp2_with fail
  go_region
  generalize (w.alloc (.cells #[.bool true, .bool true, .int .u64 (x : Int), .int .u64 (y : Int)] 31)).drew = W0 at *
  go_wp2_with (first
    | (go_at_call_of 7 (#[.int .i64 0, .bool true, .bool true] : Array Value); refine (s1 _).mono ?_; rintro e w1 ⟨rfl, hB1⟩; replace hB := hB.trans (hB1.mono hB.size); clear hB1)
    | (go_at_call_of 7 (#[.int .i64 1, .bool true, .bool true] : Array Value); refine (s2 _).mono ?_; rintro e w1 ⟨rfl, hB1⟩; replace hB := hB.trans (hB1.mono hB.size); clear hB1)
    | (go_at_call_of 9 (#[.int .u64 (x : Int), .int .u64 (y : Int), .int .i64 256] : Array Value); refine (u1 _).mono ?_; rintro e w1 ⟨rfl, rfl⟩)
    | (go_at_call_of 9 (#[.int .u64 (x : Int), .int .u64 (y : Int), .int .i64 0] : Array Value); refine (u2 _).mono ?_; rintro e w1 ⟨rfl, rfl⟩)
    | (go_at_call_of 9 (#[.int .u64 (x : Int), .int .u64 (y : Int), .int .i64 16] : Array Value); refine (u3 _).mono ?_; rintro e w1 ⟨rfl, rfl⟩)
    | (go_at_call 12; refine (ql _).mono ?_; rintro e w1 ⟨v, rfl, hrow, hB1⟩; obtain ⟨la, cap, rfl, -⟩ := owns_at hrow; replace hB := hB.trans (hB1.mono hB.size); clear hB1 hrow)
    | (go_at_call 11; refine (qv _).mono ?_; rintro e w1 ⟨rfl, hB1⟩; replace hB := hB.trans (hB1.mono hB.size); clear hB1))
  go_ret
  exact ⟨rfl, hB⟩
set_option maxRecDepth 100000 in
/-- RoleOne -/
theorem one_walk (a b : Bool) (x y : Nat) (hx : x < 18446744073709551616) (hy : y < 18446744073709551616) (w : World) :
    Calls Try.prog 4 #[.agg #[.bool a, .bool b, .int .u64 (x : Int), .int .u64 (y : Int)]] w fun e w' => e = .returned (.bool true) ∧ Below w.heap.size w w' := by
  cases a <;> cases b
  · exact one_ff x y hx hy w
  · exact one_ft x y hx hy w
  · exact one_tf x y hx hy w
  · exact one_tt x y hx hy w
end Go.Proofs.Ytkiggeldgecooaa.Role
