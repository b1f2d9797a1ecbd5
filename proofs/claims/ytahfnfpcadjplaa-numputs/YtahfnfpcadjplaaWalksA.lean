/-
  The walks of layer 2's functions that only reckon: what each call answers, in plain words.
-/
import Derived.Test.YtahfnfpcadjplaaProg
import Derived.Test.YtahfnfpcadjplaaMath
import Derived.WalkKit
import Derived.WalkSpells
import Derived.WalkLawsBesides
import Derived.Laws.BitsAllLaws
import Derived.Laws.ShiftsVarLaws
import Derived.Below
import Derived.LoopTactic
namespace Go.Proofs.Ytahfnfpcadjplaa
open Go.RowKit
open Math

theorem ret_int {k : IntKind} {a b : Int} (h : a = b) : Ending.returned (.int k a) = .returned (.int k b) := by rw [h]
theorem ret_bool {a b : Bool} (h : a = b) : Ending.returned (.bool a) = .returned (.bool b) := by rw [h]

/-- A ticket, and whether there is one. -/
def tick (b n : Int) : Int := if 0 ≤ n ∧ n < 16777216 then b * 16777216 + n else 0
def tickB (n : Int) : Bool := decide (0 ≤ n ∧ n < 16777216)
theorem tick_in {b n : Int} (h : 0 ≤ n) (h' : n < 16777216) : tick b n = b * 16777216 + n := if_pos ⟨h, h'⟩
theorem tick_out {b n : Int} (h : n < 0 ∨ 16777216 ≤ n) : tick b n = 0 := if_neg (by omega)
theorem tickB_in {n : Int} (h : 0 ≤ n) (h' : n < 16777216) : tickB n = true := decide_eq_true ⟨h, h'⟩
theorem tickB_out {n : Int} (h : n < 0 ∨ 16777216 ≤ n) : tickB n = false := decide_eq_false (by omega)

/-- num.Ticket -/
theorem ticket_any (b n : Int) (w : World) (h0 : 0 ≤ b) (h1 : b < 4294967296) :
    Calls Try.prog 18 #[.int .u32 b, .int .i64 n] w fun e w' => e = .returned (.tuple #[.int .i64 (tick b n), .bool (tickB n)]) ∧ w' = w := by
  by_cases ha : n < 0
  · rw [tick_out (.inl ha), tickB_out (.inl ha)]
    go_enter Try.func18, Try.ntmps18
    go_wp2
    go_ret2
    exact ⟨rfl, rfl⟩
  · by_cases hb : 16777216 ≤ n
    · rw [tick_out (.inr hb), tickB_out (.inr hb)]
      go_enter Try.func18, Try.ntmps18
      go_wp2
      go_ret2
      exact ⟨rfl, rfl⟩
    · rw [tick_in (by omega) (by omega), tickB_in (by omega) (by omega)]
      go_enter Try.func18, Try.ntmps18
      go_wp2
      go_ret2
      exact ⟨rfl, rfl⟩

/-- twainref02.Ticket -/
theorem refTicket_any (b n : Int) (w : World) (h0 : 0 ≤ b) (h1 : b < 4294967296) :
    Calls Try.prog 19 #[.int .u32 b, .int .i64 n] w fun e w' => e = .returned (.tuple #[.int .i64 (tick b n), .bool (tickB n)]) ∧ w' = w := by
  by_cases ha : n < 0
  · rw [tick_out (.inl ha), tickB_out (.inl ha)]
    go_enter Try.func19, Try.ntmps19
    go_wp2
    go_ret2
    exact ⟨rfl, rfl⟩
  · by_cases hb : 16777215 < n
    · rw [tick_out (.inr (by omega)), tickB_out (.inr (by omega))]
      go_enter Try.func19, Try.ntmps19
      go_wp2
      go_ret2
      exact ⟨rfl, rfl⟩
    · rw [tick_in (by omega) (by omega), tickB_in (by omega) (by omega)]
      go_enter Try.func19, Try.ntmps19
      go_wp2
      go_ret2
      exact ⟨rfl, rfl⟩

/-- The parts of a ticket. -/
def bootOf (t : Int) : Int := if 0 ≤ t ∧ t ≤ 72057594037927935 then t / 16777216 else 0
def restOf (t : Int) : Int := if 0 ≤ t ∧ t ≤ 72057594037927935 then t % 16777216 else 0
theorem bootOf_in {t : Int} (h : 0 ≤ t) (h' : t ≤ 72057594037927935) : bootOf t = t / 16777216 := if_pos ⟨h, h'⟩
theorem restOf_in {t : Int} (h : 0 ≤ t) (h' : t ≤ 72057594037927935) : restOf t = t % 16777216 := if_pos ⟨h, h'⟩
theorem bootOf_out {t : Int} (h : t < 0 ∨ 72057594037927935 < t) : bootOf t = 0 := if_neg (by omega)
theorem restOf_out {t : Int} (h : t < 0 ∨ 72057594037927935 < t) : restOf t = 0 := if_neg (by omega)
theorem bootOf_tick {b n : Int} (h0 : 0 ≤ b) (h1 : b < 4294967296) (h : 0 ≤ n) (h' : n < 16777216) : bootOf (b * 16777216 + n) = b := by
  rw [bootOf_in (by omega) (by omega)]; omega
theorem restOf_tick {b n : Int} (h0 : 0 ≤ b) (h1 : b < 4294967296) (h : 0 ≤ n) (h' : n < 16777216) : restOf (b * 16777216 + n) = n := by
  rw [restOf_in (by omega) (by omega)]; omega

/-- num.Boot -/
theorem boot_any (t : Int) (w : World) :
    Calls Try.prog 20 #[.int .i64 t] w fun e w' => e = .returned (.tuple #[.int .u32 (bootOf t), .int .i64 (restOf t)]) ∧ w' = w := by
  by_cases ha : t < 0
  · rw [bootOf_out (.inl ha), restOf_out (.inl ha)]
    go_enter Try.func20, Try.ntmps20
    go_wp2
    go_ret2
    exact ⟨rfl, rfl⟩
  · by_cases hb : 72057594037927935 < t
    · rw [bootOf_out (.inr hb), restOf_out (.inr hb)]
      go_enter Try.func20, Try.ntmps20
      go_wp2
      go_ret2
      exact ⟨rfl, rfl⟩
    · rw [bootOf_in (by omega) (by omega), restOf_in (by omega) (by omega)]
      go_enter Try.func20, Try.ntmps20
      go_wp2
      go_ret2
      exact ⟨rfl, rfl⟩

/-- twainref02.Boot -/
theorem refBoot_any (t : Int) (w : World) :
    Calls Try.prog 21 #[.int .i64 t] w fun e w' => e = .returned (.tuple #[.int .u32 (bootOf t), .int .i64 (restOf t)]) ∧ w' = w := by
  by_cases ha : t < 0
  · rw [bootOf_out (.inl ha), restOf_out (.inl ha)]
    go_enter Try.func21, Try.ntmps21
    go_wp2
    go_ret2
    exact ⟨rfl, rfl⟩
  · by_cases hb : 72057594037927935 < t
    · rw [bootOf_out (.inr hb), restOf_out (.inr hb)]
      go_enter Try.func21, Try.ntmps21
      go_wp2
      go_ret2
      exact ⟨rfl, rfl⟩
    · rw [bootOf_in (by omega) (by omega), restOf_in (by omega) (by omega)]
      go_enter Try.func21, Try.ntmps21
      go_wp2
      go_ret2
      exact ⟨rfl, rfl⟩

/-- A number that is small, and whether it is. -/
def smallOf (x : Int) : Int := if 2147483647 < x then 0 else x
def smallB (x : Int) : Bool := decide (¬ 2147483647 < x)
theorem smallOf_in {x : Int} (h : ¬ 2147483647 < x) : smallOf x = x := if_neg h
theorem smallOf_out {x : Int} (h : 2147483647 < x) : smallOf x = 0 := if_pos h
theorem smallB_in {x : Int} (h : ¬ 2147483647 < x) : smallB x = true := decide_eq_true h
theorem smallB_out {x : Int} (h : 2147483647 < x) : smallB x = false := decide_eq_false (by omega)

/-- num.Small -/
theorem small_any (x : Int) (w : World) (h0 : 0 ≤ x) :
    Calls Try.prog 22 #[.int .u64 x] w fun e w' => e = .returned (.tuple #[.int .i64 (smallOf x), .bool (smallB x)]) ∧ w' = w := by
  by_cases ha : 2147483647 < x
  · rw [smallOf_out ha, smallB_out ha]
    go_enter Try.func22, Try.ntmps22
    go_wp2
    go_ret2
    exact ⟨rfl, rfl⟩
  · rw [smallOf_in ha, smallB_in ha]
    go_enter Try.func22, Try.ntmps22
    go_wp2
    go_ret2
    exact ⟨rfl, rfl⟩

/-- twainref02.Small -/
theorem refSmall_any (x : Int) (w : World) (h0 : 0 ≤ x) :
    Calls Try.prog 23 #[.int .u64 x] w fun e w' => e = .returned (.tuple #[.int .i64 (smallOf x), .bool (smallB x)]) ∧ w' = w := by
  by_cases ha : 2147483647 < x
  · rw [smallOf_out ha, smallB_out ha]
    go_enter Try.func23, Try.ntmps23
    go_wp2
    go_ret2
    exact ⟨rfl, rfl⟩
  · rw [smallOf_in ha, smallB_in ha]
    go_enter Try.func23, Try.ntmps23
    go_wp2
    go_ret2
    exact ⟨rfl, rfl⟩

set_option maxRecDepth 100000 in
/-- math/bits.Len64, of the greatest words of three kinds -/
theorem len16 (w : World) : Calls Try.prog 38 #[.int .u64 65535] w fun e w' => e = .returned (.int .i64 16) ∧ w' = w := by
  go_enter Try.func38, Try.ntmps38
  go_wp2
  go_ret
  exact ⟨by kernel_rfl, rfl⟩
set_option maxRecDepth 100000 in
theorem len32 (w : World) : Calls Try.prog 38 #[.int .u64 4294967295] w fun e w' => e = .returned (.int .i64 32) ∧ w' = w := by
  go_enter Try.func38, Try.ntmps38
  go_wp2
  go_ret
  exact ⟨by kernel_rfl, rfl⟩
set_option maxRecDepth 100000 in
theorem len64 (w : World) : Calls Try.prog 38 #[.int .u64 18446744073709551615] w fun e w' => e = .returned (.int .i64 64) ∧ w' = w := by
  go_enter Try.func38, Try.ntmps38
  go_wp2
  go_ret
  exact ⟨by kernel_rfl, rfl⟩

/-- num.size, of three kinds -/
theorem size16 (w : World) : Calls Try.prog 32 #[] w fun e w' => e = .returned (.int .i64 2) ∧ w' = w := by
  go_enter Try.func32, Try.ntmps32
  go_wp2_with (go_at_call 38; refine (len16 _).mono ?_; rintro e w' ⟨rfl, rfl⟩)
  go_ret
  exact ⟨rfl, rfl⟩
theorem size32 (w : World) : Calls Try.prog 33 #[] w fun e w' => e = .returned (.int .i64 4) ∧ w' = w := by
  go_enter Try.func33, Try.ntmps33
  go_wp2_with (go_at_call 38; refine (len32 _).mono ?_; rintro e w' ⟨rfl, rfl⟩)
  go_ret
  exact ⟨rfl, rfl⟩
theorem size64 (w : World) : Calls Try.prog 34 #[] w fun e w' => e = .returned (.int .i64 8) ∧ w' = w := by
  go_enter Try.func34, Try.ntmps34
  go_wp2_with (go_at_call 38; refine (len64 _).mono ?_; rintro e w' ⟨rfl, rfl⟩)
  go_ret
  exact ⟨rfl, rfl⟩

end Go.Proofs.Ytahfnfpcadjplaa
