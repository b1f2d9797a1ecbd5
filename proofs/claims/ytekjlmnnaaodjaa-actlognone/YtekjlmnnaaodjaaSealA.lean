/-
  The walks of layers 2 and 3's functions that only reckon (taken over from the rounds before).
-/
import Derived.Test.YtekjlmnnaaodjaaProg
import Derived.Test.YtekjlmnnaaodjaaSealMath
import Derived.WalkKit
import Derived.WalkSpells
import Derived.WalkLawsBesides
import Derived.Laws.BitsAllLaws
import Derived.Laws.ShiftsVarLaws
import Derived.Below
import Derived.LoopTactic
import Derived.Deep.WholeRow
namespace Go.Proofs.Ytekjlmnnaaodjaa.Seal
open Go.RowKit
open Math
open Crc

theorem ret_int {k : IntKind} {a b : Int} (h : a = b) : Ending.returned (.int k a) = .returned (.int k b) := by rw [h]

theorem ret_bool {a b : Bool} (h : a = b) : Ending.returned (.bool a) = .returned (.bool b) := by rw [h]

set_option maxRecDepth 100000 in
theorem len32 (w : World) : Calls Try.prog 61 #[.int .u64 4294967295] w fun e w' => e = .returned (.int .i64 32) ∧ w' = w := by
  go_enter Try.func61, Try.ntmps61
  go_wp2
  go_ret
  exact ⟨by kernel_rfl, rfl⟩

set_option maxRecDepth 100000 in
theorem len64 (w : World) : Calls Try.prog 61 #[.int .u64 18446744073709551615] w fun e w' => e = .returned (.int .i64 64) ∧ w' = w := by
  go_enter Try.func61, Try.ntmps61
  go_wp2
  go_ret
  exact ⟨by kernel_rfl, rfl⟩

set_option maxRecDepth 100000 in
theorem size32 (w : World) : Calls Try.prog 54 #[] w fun e w' => e = .returned (.int .i64 4) ∧ w' = w := by
  go_enter Try.func54, Try.ntmps54
  go_wp2_with (go_at_call 61; refine (len32 _).mono ?_; rintro e w' ⟨rfl, rfl⟩)
  go_ret
  exact ⟨rfl, rfl⟩

set_option maxRecDepth 100000 in
theorem size64 (w : World) : Calls Try.prog 53 #[] w fun e w' => e = .returned (.int .i64 8) ∧ w' = w := by
  go_enter Try.func53, Try.ntmps53
  go_wp2_with (go_at_call 61; refine (len64 _).mono ?_; rintro e w' ⟨rfl, rfl⟩)
  go_ret
  exact ⟨rfl, rfl⟩

/-- The half bytes' steps are those of the document. -/
theorem table_at (r : Nat) (h : r < 16) : ([.int .u32 0, .int .u32 498536548, .int .u32 997073096, .int .u32 651767980, .int .u32 1994146192, .int .u32 1802195444, .int .u32 1303535960, .int .u32 1342533948, .int .u32 3988292384, .int .u32 4027552580, .int .u32 3604390888, .int .u32 3412177804, .int .u32 2607071920, .int .u32 2262029012, .int .u32 2685067896, .int .u32 3183342108] : List Value)[r]? = some (.int .u32 ((halves 4 r : Nat) : Int)) := by
  have e : ([.int .u32 0, .int .u32 498536548, .int .u32 997073096, .int .u32 651767980, .int .u32 1994146192, .int .u32 1802195444, .int .u32 1303535960, .int .u32 1342533948, .int .u32 3988292384, .int .u32 4027552580, .int .u32 3604390888, .int .u32 3412177804, .int .u32 2607071920, .int .u32 2262029012, .int .u32 2685067896, .int .u32 3183342108] : List Value) = (List.range 16).map (fun r => .int .u32 ((halves 4 r : Nat) : Int)) := by kernel_rfl
  rw [e]
  simp [h]

set_option maxRecDepth 100000 in
/-- crc.halve4 -/
theorem halve4_any (x : Nat) (w : World) (hx : x < 4294967296) :
    Calls Try.prog 81 #[.int .u32 x] w fun e w' => e = .returned (.int .u32 (halves 4 x : Nat)) ∧ Below w.heap.size w w' := by
  have ht := table_at (x % 16) (by omega)
  have hl : halves 4 (x % 16) < 4294967296 := halves_lt 4 (by omega)
  have HT : Hid (halves 4 x = (x / 16) ^^^ halves 4 (x % 16)) := halves_table 4 x
  have ho := u32_xor_nat (x / 16) (halves 4 (x % 16)) (by omega) (by omega)
  generalize halves 4 (x % 16) = t at *
  go_enter Try.func81, Try.ntmps81
  go_wp2
  go_ret
  exact ⟨ret_int (by rw [HT.out, ← ho, Int.natCast_ediv]; rfl), (Below.refl _ _).alloc (Nat.le_refl _) _⟩

set_option maxRecDepth 100000 in
/-- crc.Step -/
theorem step_any (x c : Nat) (w : World) (hx : x < 4294967296) (hc : c < 256) :
    Calls Try.prog 74 #[.int .u32 x, .int .u8 c] w fun e w' => e = .returned (.int .u32 (by8 x c : Nat)) ∧ Below w.heap.size w w' := by
  have ho := u32_xor_nat x c hx (by omega)
  have hy : x ^^^ c < 4294967296 := Nat.xor_lt_two_pow (n := 32) hx (by omega)
  have hz : halves 4 (x ^^^ c) < 4294967296 := halves_lt 4 hy
  have HE : Hid (by8 x c = halves 4 (halves 4 (x ^^^ c))) := halves_add 4 4 _
  generalize x ^^^ c = y at *
  have hB := Below.refl w.heap.size w
  go_enter Try.func74, Try.ntmps74
  go_wp2_with (go_at_call 81; refine (halve4_any _ _ (by assumption)).mono ?_; rintro e w' ⟨rfl, hB'⟩; replace hB := hB.trans (hB'.mono hB.size))
  go_ret
  exact ⟨ret_int (by rw [HE.out]), hB⟩

end Go.Proofs.Ytekjlmnnaaodjaa.Seal
