/-
  The walks of layer 1's functions without an iterator: what each call answers, in the plain words of the Math text.
-/
import Derived.Test.YtldeecjocapfgaaProg
import Derived.Test.YtldeecjocapfgaaBitsMath
import Derived.WalkKit
import Derived.WalkSpells
import Derived.WalkLawsBesides
import Derived.Laws.BitsAllLaws
import Derived.Laws.ShiftsVarLaws
import Derived.Below
import Derived.LoopTactic
namespace Go.Proofs.Ytldeecjocapfgaa.Bits
open Go.RowKit
open Math

theorem ret_int {k : IntKind} {a b : Int} (h : a = b) : Ending.returned (.int k a) = .returned (.int k b) := by rw [h]
theorem ret_bool {a b : Bool} (h : a = b) : Ending.returned (.bool a) = .returned (.bool b) := by rw [h]
theorem ne_bool (a : Nat) : ((a : Int) != 0) = decide (a ≠ 0) := by
  by_cases h : a = 0
  · subst h; rfl
  · have : (a : Int) ≠ 0 := by omega
    simp [h]
theorem wrap_pow {k : Nat} (h : k < 64) : IntKind.u64.wrap ((2 : Int) ^ k) = ((2 ^ k : Nat) : Int) := by
  have a := Nat.pow_lt_pow_right (a := 2) (by omega) h
  have b : ((2 : Int) ^ k) = ((2 ^ k : Nat) : Int) := by simp
  rw [IntKind.wrap_u64, b]
  generalize 2 ^ k = P at *
  have : P < 18446744073709551616 := a
  omega

set_option maxRecDepth 100000 in
/-- bits.One -/
theorem one_any (n : Int) (w : World) :
    Calls Try.prog 37 #[.int .i64 n] w fun e w' => e = .returned (.int .u64 (one n)) ∧ w' = w := by
  by_cases ha : n < 0
  · rw [one_out (.inl ha)]
    go_enter Try.func37, Try.ntmps37
    go_wp2
    go_ret
    exact ⟨rfl, rfl⟩
  · by_cases hb : 64 ≤ n
    · rw [one_out (.inr (by omega))]
      go_enter Try.func37, Try.ntmps37
      go_wp2
      go_ret
      exact ⟨rfl, rfl⟩
    · rw [one_in (by omega) (by omega)]
      go_enter Try.func37, Try.ntmps37
      go_wp2
      go_ret
      exact ⟨ret_int (wrap_pow (by omega)), rfl⟩

set_option maxRecDepth 100000 in
/-- bits.Has -/
theorem has_any (s : Nat) (n : Int) (w : World) (hs : s < 18446744073709551616) :
    Calls Try.prog 25 #[.int .u64 s, .int .i64 n] w fun e w' => e = .returned (.bool (has s n)) ∧ w' = w := by
  have ho := one_lt n
  have e := u64_and_nat s (one n) hs ho
  go_enter Try.func25, Try.ntmps25
  go_wp2_with (go_at_call 37; refine (one_any _ _).mono ?_; rintro e w' ⟨rfl, rfl⟩)
  go_ret
  exact ⟨ret_bool (by rw [has_and, ne_bool]), rfl⟩

set_option maxRecDepth 100000 in
/-- bits.With -/
theorem with_any (s : Nat) (n : Int) (w : World) (hs : s < 18446744073709551616) :
    Calls Try.prog 41 #[.int .u64 s, .int .i64 n] w fun e w' => e = .returned (.int .u64 (withN s n)) ∧ w' = w := by
  have ho := one_lt n
  have e := u64_or_nat s (one n) hs ho
  go_enter Try.func41, Try.ntmps41
  go_wp2_with (go_at_call 37; refine (one_any _ _).mono ?_; rintro e w' ⟨rfl, rfl⟩)
  go_ret
  exact ⟨rfl, rfl⟩

set_option maxRecDepth 100000 in
/-- twainref01.One -/
theorem refOne_any (n : Int) (w : World) :
    Calls Try.prog 35 #[.int .i64 n] w fun e w' => e = .returned (.int .u64 (one n)) ∧ w' = w := by
  by_cases ha : n < 0
  · rw [one_out (.inl ha)]
    go_enter Try.func35, Try.ntmps35
    go_wp2
    go_ret
    exact ⟨rfl, rfl⟩
  · by_cases hb : 63 < n
    · rw [one_out (.inr (by omega))]
      go_enter Try.func35, Try.ntmps35
      go_wp2
      go_ret
      exact ⟨rfl, rfl⟩
    · rw [one_in (by omega) (by omega)]
      obtain ⟨m, rfl⟩ : ∃ m : Nat, n = m := ⟨n.toNat, by omega⟩
      go_enter Try.func35, Try.ntmps35
      go_wp2
      go_loop [3, 4] (fun x i => ∃ k : Nat, k ≤ m ∧ i = .int .i64 k ∧ x = .int .u64 ((2 ^ k : Nat) : Int)) (fun _ i => m - (intOf i).toNat)
      case atStart => exact ⟨0, Nat.zero_le _, rfl, rfl⟩
      case round =>
        obtain ⟨k, hk, rfl, rfl⟩ := hrel
        by_cases hlt : k < m
        · have hp : 2 ^ (k + 1) = 2 ^ k * 2 := Nat.pow_succ 2 k
          have hq := Nat.pow_lt_pow_right (a := 2) (by omega) (show k + 1 < 64 by omega)
          obtain ⟨P, hP⟩ : ∃ P, 2 ^ k = P := ⟨_, rfl⟩
          have HP : Hid (2 ^ (k + 1) = P * 2) := by rw [← hP]; exact hp
          have hP2 : P < 9223372036854775808 := by rw [hp, hP] at hq; omega
          rw [hP]
          clear hp hq hP
          go_wp2
          go_round
          case rel => exact ⟨k + 1, by omega, by go_num, by rw [HP.out]; first | rfl | go_num⟩
          case measure => simp [intOf]; omega
        · obtain rfl : k = m := by omega
          go_wp2
          go_ret
          exact ⟨ret_int (by simp), rfl⟩

theorem quo_bit (s p : Nat) (hs : s < 18446744073709551616) (_hp : 0 < p) : ((IntKind.u64.wrap ((s : Int) / (p : Int))).tmod 2 == 1) = decide (s / p % 2 = 1) := by
  have a : s / p ≤ s := Nat.div_le_self s p
  have b : ((s : Int) / (p : Int)) = ((s / p : Nat) : Int) := by simp
  rw [IntKind.wrap_u64, b]
  generalize s / p = q at *
  have c : ((q : Int) % 18446744073709551616) = q := by omega
  rw [c]
  have d : ((q : Int).tmod 2) = ((q % 2 : Nat) : Int) := by rw [Int.tmod_eq_emod_of_nonneg (by omega)]; omega
  rw [d]
  rcases Nat.mod_two_eq_zero_or_one q with h | h <;> simp [h]

set_option maxRecDepth 100000 in
/-- twainref01.Has -/
theorem refHas_any (s : Nat) (n : Int) (w : World) (hs : s < 18446744073709551616) :
    Calls Try.prog 22 #[.int .u64 s, .int .i64 n] w fun e w' => e = .returned (.bool (has s n)) ∧ w' = w := by
  by_cases ha : n < 0
  · rw [has_out s (.inl ha)]
    go_enter Try.func22, Try.ntmps22
    go_wp2
    go_ret
    exact ⟨rfl, rfl⟩
  · by_cases hb : 63 < n
    · rw [has_out s (.inr hb)]
      go_enter Try.func22, Try.ntmps22
      go_wp2
      go_ret
      exact ⟨rfl, rfl⟩
    · have ho := one_lt n
      have hp : 0 < one n := by rw [one_in (by omega) (by omega)]; exact Nat.two_pow_pos _
      have hh := has_in s (n := n) (by omega) (by omega)
      rw [← one_in (by omega) (by omega)] at hh
      rw [hh]
      clear hh
      go_enter Try.func22, Try.ntmps22
      go_wp2_with (go_at_call 35; refine (refOne_any _ _).mono ?_; rintro e w' ⟨rfl, rfl⟩)
      go_ret
      exact ⟨ret_bool (quo_bit s (one n) hs hp), rfl⟩

set_option maxRecDepth 100000 in
/-- twainref01.With -/
theorem refWith_any (s : Nat) (n : Int) (w : World) (hs : s < 18446744073709551616) :
    Calls Try.prog 42 #[.int .u64 s, .int .i64 n] w fun e w' => e = .returned (.int .u64 (withN s n)) ∧ w' = w := by
  have ho := one_lt n
  have hw := withN_lt s n hs
  cases hh : has s n with
  | true =>
    rw [withN_true hs hh]
    go_enter Try.func42, Try.ntmps42
    go_wp2_with (first | (go_at_call 22; refine (refHas_any _ _ _ hs).mono ?_; rw [hh]; rintro e w' ⟨rfl, rfl⟩))
    go_ret
    exact ⟨rfl, rfl⟩
  | false =>
    rw [withN_false hs hh] at hw ⊢
    go_enter Try.func42, Try.ntmps42
    go_wp2_with (first | (go_at_call 22; refine (refHas_any _ _ _ hs).mono ?_; rw [hh]; rintro e w' ⟨rfl, rfl⟩) | (go_at_call 35; refine (refOne_any _ _).mono ?_; rintro e w' ⟨rfl, rfl⟩))
    go_ret
    exact ⟨ret_int (by omega), rfl⟩

/-- What the set has become behind k rounds. -/
def cc : Nat → Nat → Nat
  | 0, x => x
  | 1, x => c1 x
  | 2, x => c2 x
  | 3, x => c3 x
  | 4, x => c4 x
  | 5, x => c5 x
  | _, x => c6 x

theorem step_u64 (x d m : Nat) (hx : x < 18446744073709551616) (hm : m < 18446744073709551616) (hlt : (x &&& m) + ((x / d) &&& m) < 18446744073709551616) :
    IntKind.u64.wrap (bits .and .u64 (x : Int) (m : Int) + bits .and .u64 ((x : Int) / (d : Int)) (m : Int)) = (((x &&& m) + ((x / d) &&& m) : Nat) : Int) := by
  have a : x / d ≤ x := Nat.div_le_self x d
  have b : ((x : Int) / (d : Int)) = ((x / d : Nat) : Int) := by simp
  rw [b, u64_and_nat x m hx hm, u64_and_nat (x / d) m (by omega) hm, IntKind.wrap_u64]
  generalize (x &&& m) = p at *
  generalize (x / d &&& m) = q at *
  omega

theorem cc_lt (s : Nat) (hs : s < 18446744073709551616) : ∀ k, cc k s < 18446744073709551616
  | 0 => hs
  | 1 => (c_lt s).1
  | 2 => (c_lt s).2.1
  | 3 => (c_lt s).2.2.1
  | 4 => (c_lt s).2.2.2.1
  | 5 => (c_lt s).2.2.2.2.1
  | _ + 6 => (c_lt s).2.2.2.2.2

theorem round0 (s : Nat) (hs : s < 18446744073709551616) : IntKind.u64.wrap (bits .and .u64 ((cc 0 s : Nat) : Int) 6148914691236517205 + bits .and .u64 (((cc 0 s : Nat) : Int) / 2) 6148914691236517205) = ((cc 1 s : Nat) : Int) := by
  have e : cc 1 s = (cc 0 s &&& 6148914691236517205) + ((cc 0 s / 2) &&& 6148914691236517205) := c1_eq s
  have h := cc_lt s hs 1
  rw [e] at h ⊢
  exact step_u64 (cc 0 s) 2 6148914691236517205 (cc_lt s hs 0) (by omega) h

theorem round1 (s : Nat) (hs : s < 18446744073709551616) : IntKind.u64.wrap (bits .and .u64 ((cc 1 s : Nat) : Int) 3689348814741910323 + bits .and .u64 (((cc 1 s : Nat) : Int) / 4) 3689348814741910323) = ((cc 2 s : Nat) : Int) := by
  have e : cc 2 s = (cc 1 s &&& 3689348814741910323) + ((cc 1 s / 4) &&& 3689348814741910323) := c2_eq s
  have h := cc_lt s hs 2
  rw [e] at h ⊢
  exact step_u64 (cc 1 s) 4 3689348814741910323 (cc_lt s hs 1) (by omega) h

theorem round2 (s : Nat) (hs : s < 18446744073709551616) : IntKind.u64.wrap (bits .and .u64 ((cc 2 s : Nat) : Int) 1085102592571150095 + bits .and .u64 (((cc 2 s : Nat) : Int) / 16) 1085102592571150095) = ((cc 3 s : Nat) : Int) := by
  have e : cc 3 s = (cc 2 s &&& 1085102592571150095) + ((cc 2 s / 16) &&& 1085102592571150095) := c3_eq s
  have h := cc_lt s hs 3
  rw [e] at h ⊢
  exact step_u64 (cc 2 s) 16 1085102592571150095 (cc_lt s hs 2) (by omega) h

theorem round3 (s : Nat) (hs : s < 18446744073709551616) : IntKind.u64.wrap (bits .and .u64 ((cc 3 s : Nat) : Int) 71777214294589695 + bits .and .u64 (((cc 3 s : Nat) : Int) / 256) 71777214294589695) = ((cc 4 s : Nat) : Int) := by
  have e : cc 4 s = (cc 3 s &&& 71777214294589695) + ((cc 3 s / 256) &&& 71777214294589695) := c4_eq s
  have h := cc_lt s hs 4
  rw [e] at h ⊢
  exact step_u64 (cc 3 s) 256 71777214294589695 (cc_lt s hs 3) (by omega) h

theorem round4 (s : Nat) (hs : s < 18446744073709551616) : IntKind.u64.wrap (bits .and .u64 ((cc 4 s : Nat) : Int) 281470681808895 + bits .and .u64 (((cc 4 s : Nat) : Int) / 65536) 281470681808895) = ((cc 5 s : Nat) : Int) := by
  have e : cc 5 s = (cc 4 s &&& 281470681808895) + ((cc 4 s / 65536) &&& 281470681808895) := c5_eq s
  have h := cc_lt s hs 5
  rw [e] at h ⊢
  exact step_u64 (cc 4 s) 65536 281470681808895 (cc_lt s hs 4) (by omega) h

theorem round5 (s : Nat) (hs : s < 18446744073709551616) : IntKind.u64.wrap (bits .and .u64 ((cc 5 s : Nat) : Int) 4294967295 + bits .and .u64 (((cc 5 s : Nat) : Int) / 4294967296) 4294967295) = ((cc 6 s : Nat) : Int) := by
  have e : cc 6 s = (cc 5 s &&& 4294967295) + ((cc 5 s / 4294967296) &&& 4294967295) := c6_eq s
  have h := cc_lt s hs 6
  rw [e] at h ⊢
  exact step_u64 (cc 5 s) 4294967296 4294967295 (cc_lt s hs 5) (by omega) h

set_option maxRecDepth 100000 in
/-- bits.Count -/
theorem count_any (s : Nat) (w : World) (hs : s < 18446744073709551616) :
    Calls Try.prog 21 #[.int .u64 s] w fun e w' => e = .returned (.int .i64 (pop s)) ∧ Below w.heap.size w w' := by
  go_enter Try.func21, Try.ntmps21
  go_wp2
  go_loop [0, 9] (fun x i => ∃ k : Nat, k ≤ 6 ∧ i = .int .i64 k ∧ x = .int .u64 (cc k s)) (fun _ i => 6 - (intOf i).toNat)
  case atStart => exact ⟨0, by omega, rfl, rfl⟩
  case round =>
    obtain ⟨k, hk, rfl, rfl⟩ := hrel
    have hcl := cc_lt s hs
    by_cases h0 : k = 0
    · subst h0
      have ix : ∀ w, (Instr.index 64 (.agg #[.int .u64 6148914691236517205, .int .u64 3689348814741910323, .int .u64 1085102592571150095, .int .u64 71777214294589695, .int .u64 281470681808895, .int .u64 4294967295]) (.int .i64 0)).run Try.prog w = .ok (.int .u64 6148914691236517205) w := fun _ => by kernel_rfl
      go_wp2
      go_round
      case rel => exact ⟨1, by omega, rfl, congrArg (Value.int .u64) (round0 s hs)⟩
      case measure => simp [intOf]
    by_cases h1 : k = 1
    · subst h1
      have ix : ∀ w, (Instr.index 64 (.agg #[.int .u64 6148914691236517205, .int .u64 3689348814741910323, .int .u64 1085102592571150095, .int .u64 71777214294589695, .int .u64 281470681808895, .int .u64 4294967295]) (.int .i64 1)).run Try.prog w = .ok (.int .u64 3689348814741910323) w := fun _ => by kernel_rfl
      go_wp2
      go_round
      case rel => exact ⟨2, by omega, rfl, congrArg (Value.int .u64) (round1 s hs)⟩
      case measure => simp [intOf]
    by_cases h2 : k = 2
    · subst h2
      have ix : ∀ w, (Instr.index 64 (.agg #[.int .u64 6148914691236517205, .int .u64 3689348814741910323, .int .u64 1085102592571150095, .int .u64 71777214294589695, .int .u64 281470681808895, .int .u64 4294967295]) (.int .i64 2)).run Try.prog w = .ok (.int .u64 1085102592571150095) w := fun _ => by kernel_rfl
      go_wp2
      go_round
      case rel => exact ⟨3, by omega, rfl, congrArg (Value.int .u64) (round2 s hs)⟩
      case measure => simp [intOf]
    by_cases h3 : k = 3
    · subst h3
      have ix : ∀ w, (Instr.index 64 (.agg #[.int .u64 6148914691236517205, .int .u64 3689348814741910323, .int .u64 1085102592571150095, .int .u64 71777214294589695, .int .u64 281470681808895, .int .u64 4294967295]) (.int .i64 3)).run Try.prog w = .ok (.int .u64 71777214294589695) w := fun _ => by kernel_rfl
      go_wp2
      go_round
      case rel => exact ⟨4, by omega, rfl, congrArg (Value.int .u64) (round3 s hs)⟩
      case measure => simp [intOf]
    by_cases h4 : k = 4
    · subst h4
      have ix : ∀ w, (Instr.index 64 (.agg #[.int .u64 6148914691236517205, .int .u64 3689348814741910323, .int .u64 1085102592571150095, .int .u64 71777214294589695, .int .u64 281470681808895, .int .u64 4294967295]) (.int .i64 4)).run Try.prog w = .ok (.int .u64 281470681808895) w := fun _ => by kernel_rfl
      go_wp2
      go_round
      case rel => exact ⟨5, by omega, rfl, congrArg (Value.int .u64) (round4 s hs)⟩
      case measure => simp [intOf]
    by_cases h5 : k = 5
    · subst h5
      have ix : ∀ w, (Instr.index 64 (.agg #[.int .u64 6148914691236517205, .int .u64 3689348814741910323, .int .u64 1085102592571150095, .int .u64 71777214294589695, .int .u64 281470681808895, .int .u64 4294967295]) (.int .i64 5)).run Try.prog w = .ok (.int .u64 4294967295) w := fun _ => by kernel_rfl
      go_wp2
      go_round
      case rel => exact ⟨6, by omega, rfl, congrArg (Value.int .u64) (round5 s hs)⟩
      case measure => simp [intOf]
    obtain rfl : k = 6 := by omega
    have hp : cc 6 s = pop s := c6_pop s
    have hp64 := pop_le s
    rw [hp]
    clear hp hcl
    go_wp2
    go_ret
    exact ⟨rfl, (Below.refl _ _).alloc (Nat.le_refl _) _⟩

set_option maxRecDepth 100000 in
/-- bits.Lowest -/
theorem lowest_zero (w : World) : Calls Try.prog 44 #[.int .u64 0] w fun e w' => e = .returned (.tuple #[.int .i64 0, .bool false]) ∧ w' = w := by
  go_enter Try.func44, Try.ntmps44
  go_wp2
  go_ret2
  exact ⟨rfl, rfl⟩

set_option maxRecDepth 100000 in
theorem lowest_any (s : Nat) (w : World) (h0 : 0 < s) (hs : s < 18446744073709551616) :
    Calls Try.prog 44 #[.int .u64 s] w fun e w' => e = .returned (.tuple #[.int .i64 (pop (below s)), .bool true]) ∧ Below w.heap.size w w' := by
  have hb : bits .andNot .u64 ((s : Int) - 1) (s : Int) = ((below s : Nat) : Int) := by
    have e : ((s : Int) - 1) = ((s - 1 : Nat) : Int) := by omega
    rw [e, u64_andNot_nat (s - 1) s (by omega) hs]
    rfl
  have hl := below_lt s hs
  have hn : ((s : Int) == 0) = false := by simp; omega
  go_enter Try.func44, Try.ntmps44
  go_wp2_with (go_at_call 21; refine (count_any _ _ hl).mono ?_; rintro e w' ⟨rfl, hB⟩)
  go_ret2
  exact ⟨rfl, hB⟩

theorem row_u64 (f n : Nat) (hn : n ≤ 64) (h : f + n ≤ 64) : IntKind.u64.wrap ((18446744073709551615 : Int) / 2 ^ (64 - n) * 2 ^ f) = ((row f n : Nat) : Int) := by
  have a := full_div n (by omega)
  have b : ((18446744073709551615 : Int) / 2 ^ (64 - n) * 2 ^ f) = ((18446744073709551615 / 2 ^ (64 - n) * 2 ^ f : Nat) : Int) := by
    simp
  have c := row_lt64 h
  rw [b, a, IntKind.wrap_u64]
  show (((row f n : Nat) : Int) % 18446744073709551616) = _
  omega

end Go.Proofs.Ytldeecjocapfgaa.Bits
