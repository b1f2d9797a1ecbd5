/-
 Texts of ours, joined: BitsA, BitsB, BitsC.
-/
import Derived.Test.YtoaeficfmcncjaaGreatProg
import Derived.WalkSpells
import Derived.WalkLawsBesides
import Derived.RangeFuncCalls
import Derived.RangeFuncBox
import Derived.Shelf.RegionOpen
import Derived.OwnWalkIn
import Derived.LoopNIn
import Derived.LoopIn
import Derived.Test.YtoaeficfmcncjaaGreatM4
/-
 The walks of layer 1's functions without an iterator: what each call answers, in the plain words of the Math text.
-/
namespace Go.Proofs.YtoaeficfmcncjaaGreat.Bits
open Go.RowKit
open Math
theorem ret_int {k : IntKind} {a b : Int} (h : a = b) : Ending.returned (.int k a) = .returned (.int k b) := by rw [h]
theorem ret_bool {a b : Bool} (h : a = b) : Ending.returned (.bool a) = .returned (.bool b) := by rw [h]
theorem ne_bool (a : Nat) : ((a : Int) != 0) = decide (a ≠ 0) := by
 by_cases h : a = 0
 ·subst h; rfl
 ·have : (a : Int) ≠ 0 := by omega
  simp [h]
theorem wrap_pow {k : Nat} (h : k < 64) : IntKind.u64.wrap ((2 : Int) ^ k) = ((2 ^ k : Nat) : Int) := by
 have a := Nat.pow_lt_pow_right (a := 2) (by omega) h
 have b : ((2 : Int) ^ k) = ((2 ^ k : Nat) : Int) := by simp
 rw [IntKind.wrap_u64, b]
 generalize 2 ^ k = P at *
 have : P < 18446744073709551616 := a
 omega
section
set_option maxRecDepth 100000
theorem one_any (n : Int) (w : World) :
  Calls Tryz.prog 219 #[.int .i64 n] w fun e w' => e = .returned (.int .u64 (one n)) ∧ w' = w := by
 by_cases ha : n < 0
 ·rw [one_out (.inl ha)]
  go_enter Tryz.func219, Tryz.ntmps219
  go_wp2
  go_ret
  exact ⟨rfl, rfl⟩
 ·by_cases hb : 64 ≤ n
  ·rw [one_out (.inr (by omega))]
   go_enter Tryz.func219, Tryz.ntmps219
   go_wp2
   go_ret
   exact ⟨rfl, rfl⟩
  ·rw [one_in (by omega) (by omega)]
   go_enter Tryz.func219, Tryz.ntmps219
   go_wp2
   go_ret
   exact ⟨ret_int (wrap_pow (by omega)), rfl⟩
theorem has_any (s : Nat) (n : Int) (w : World) (hs : s < 18446744073709551616) :
  Calls Tryz.prog 186 #[.int .u64 s, .int .i64 n] w fun e w' => e = .returned (.bool (has s n)) ∧ w' = w := by
 have ho := one_lt n
 have e := u64_and_nat s (one n) hs ho
 go_enter Tryz.func186, Tryz.ntmps186
 go_wp2_with (go_at_call 219; refine (one_any _ _).mono ?_; rintro e w' ⟨rfl, rfl⟩)
 go_ret
 exact ⟨ret_bool (by rw [has_and, ne_bool]), rfl⟩
theorem with_any (s : Nat) (n : Int) (w : World) (hs : s < 18446744073709551616) :
  Calls Tryz.prog 169 #[.int .u64 s, .int .i64 n] w fun e w' => e = .returned (.int .u64 (withN s n)) ∧ w' = w := by
 have ho := one_lt n
 have e := u64_or_nat s (one n) hs ho
 go_enter Tryz.func169, Tryz.ntmps169
 go_wp2_with (go_at_call 219; refine (one_any _ _).mono ?_; rintro e w' ⟨rfl, rfl⟩)
 go_ret
 exact ⟨rfl, rfl⟩
end
def cc : Nat → Nat → Nat
 | 0, x => x
 | 1, x => c1 x
 | 2, x => c2 x
 | 3, x => c3 x
 | 4, x => c4 x
 | 5, x => c5 x
 | _, x => c6 x
theorem step_u64 (x d m : Nat) (hx : x < 18446744073709551616) (hm : m < 18446744073709551616) (hlt : (x &&& m) + ((x / d) &&& m) < 18446744073709551616) :
  IntKind.u64.wrap (bits .and .u64 (x : Int) (m : Int) + bits .and .u64 ((x : Int) / (d : Int)) (m : Int)) = (((x &&& m) + ((x / d) &&& m) : Nat) : Int) := by
 have a : x / d ≤ x := Nat.div_le_self x d
 have b : ((x : Int) / (d : Int)) = ((x / d : Nat) : Int) := by simp
 rw [b, u64_and_nat x m hx hm, u64_and_nat (x / d) m (by omega) hm, IntKind.wrap_u64]
 generalize (x &&& m) = p at *
 generalize (x / d &&& m) = q at *
 omega
theorem cc_lt (s : Nat) (hs : s < 18446744073709551616) : ∀ k, cc k s < 18446744073709551616
 | 0 => hs
 | 1 => (c_lt s).1
 | 2 => (c_lt s).2.1
 | 3 => (c_lt s).2.2.1
 | 4 => (c_lt s).2.2.2.1
 | 5 => (c_lt s).2.2.2.2.1
 | _ + 6 => (c_lt s).2.2.2.2.2
theorem round0 (s : Nat) (hs : s < 18446744073709551616) : IntKind.u64.wrap (bits .and .u64 ((cc 0 s : Nat) : Int) 6148914691236517205 + bits .and .u64 (((cc 0 s : Nat) : Int) / 2) 6148914691236517205) = ((cc 1 s : Nat) : Int) := by
 have e : cc 1 s = (cc 0 s &&& 6148914691236517205) + ((cc 0 s / 2) &&& 6148914691236517205) := c1_eq s
 have h := cc_lt s hs 1
 rw [e] at h ⊢
 exact step_u64 (cc 0 s) 2 6148914691236517205 (cc_lt s hs 0) (by omega) h
theorem round1 (s : Nat) (hs : s < 18446744073709551616) : IntKind.u64.wrap (bits .and .u64 ((cc 1 s : Nat) : Int) 3689348814741910323 + bits .and .u64 (((cc 1 s : Nat) : Int) / 4) 3689348814741910323) = ((cc 2 s : Nat) : Int) := by
 have e : cc 2 s = (cc 1 s &&& 3689348814741910323) + ((cc 1 s / 4) &&& 3689348814741910323) := c2_eq s
 have h := cc_lt s hs 2
 rw [e] at h ⊢
 exact step_u64 (cc 1 s) 4 3689348814741910323 (cc_lt s hs 1) (by omega) h
theorem round2 (s : Nat) (hs : s < 18446744073709551616) : IntKind.u64.wrap (bits .and .u64 ((cc 2 s : Nat) : Int) 1085102592571150095 + bits .and .u64 (((cc 2 s : Nat) : Int) / 16) 1085102592571150095) = ((cc 3 s : Nat) : Int) := by
 have e : cc 3 s = (cc 2 s &&& 1085102592571150095) + ((cc 2 s / 16) &&& 1085102592571150095) := c3_eq s
 have h := cc_lt s hs 3
 rw [e] at h ⊢
 exact step_u64 (cc 2 s) 16 1085102592571150095 (cc_lt s hs 2) (by omega) h
theorem round3 (s : Nat) (hs : s < 18446744073709551616) : IntKind.u64.wrap (bits .and .u64 ((cc 3 s : Nat) : Int) 71777214294589695 + bits .and .u64 (((cc 3 s : Nat) : Int) / 256) 71777214294589695) = ((cc 4 s : Nat) : Int) := by
 have e : cc 4 s = (cc 3 s &&& 71777214294589695) + ((cc 3 s / 256) &&& 71777214294589695) := c4_eq s
 have h := cc_lt s hs 4
 rw [e] at h ⊢
 exact step_u64 (cc 3 s) 256 71777214294589695 (cc_lt s hs 3) (by omega) h
theorem round4 (s : Nat) (hs : s < 18446744073709551616) : IntKind.u64.wrap (bits .and .u64 ((cc 4 s : Nat) : Int) 281470681808895 + bits .and .u64 (((cc 4 s : Nat) : Int) / 65536) 281470681808895) = ((cc 5 s : Nat) : Int) := by
 have e : cc 5 s = (cc 4 s &&& 281470681808895) + ((cc 4 s / 65536) &&& 281470681808895) := c5_eq s
 have h := cc_lt s hs 5
 rw [e] at h ⊢
 exact step_u64 (cc 4 s) 65536 281470681808895 (cc_lt s hs 4) (by omega) h
theorem round5 (s : Nat) (hs : s < 18446744073709551616) : IntKind.u64.wrap (bits .and .u64 ((cc 5 s : Nat) : Int) 4294967295 + bits .and .u64 (((cc 5 s : Nat) : Int) / 4294967296) 4294967295) = ((cc 6 s : Nat) : Int) := by
 have e : cc 6 s = (cc 5 s &&& 4294967295) + ((cc 5 s / 4294967296) &&& 4294967295) := c6_eq s
 have h := cc_lt s hs 6
 rw [e] at h ⊢
 exact step_u64 (cc 5 s) 4294967296 4294967295 (cc_lt s hs 5) (by omega) h
set_option maxRecDepth 100000 in
theorem count_any (s : Nat) (w : World) (hs : s < 18446744073709551616) :
  Calls Tryz.prog 183 #[.int .u64 s] w fun e w' => e = .returned (.int .i64 (pop s)) ∧ Below w.heap.size w w' := by
 go_enter Tryz.func183, Tryz.ntmps183
 go_wp2
 go_loop [0, 9] (fun x i => ∃ k : Nat, k ≤ 6 ∧ i = .int .i64 k ∧ x = .int .u64 (cc k s)) (fun _ i => 6 - (intOf i).toNat)
 case atStart => exact ⟨0, by omega, rfl, rfl⟩
 case round =>
  obtain ⟨k, hk, rfl, rfl⟩ := hrel
  have hcl := cc_lt s hs
  by_cases h0 : k = 0
  ·subst h0
   have ix : ∀ w, (Instr.index 301 (.agg #[.int .u64 6148914691236517205, .int .u64 3689348814741910323, .int .u64 1085102592571150095, .int .u64 71777214294589695, .int .u64 281470681808895, .int .u64 4294967295]) (.int .i64 0)).run Tryz.prog w = .ok (.int .u64 6148914691236517205) w := fun _ => by kernel_rfl
   go_wp2
   go_round
   case rel => exact ⟨1, by omega, rfl, congrArg (Value.int .u64) (round0 s hs)⟩
   case measure => simp [intOf]
  by_cases h1 : k = 1
  ·subst h1
   have ix : ∀ w, (Instr.index 301 (.agg #[.int .u64 6148914691236517205, .int .u64 3689348814741910323, .int .u64 1085102592571150095, .int .u64 71777214294589695, .int .u64 281470681808895, .int .u64 4294967295]) (.int .i64 1)).run Tryz.prog w = .ok (.int .u64 3689348814741910323) w := fun _ => by kernel_rfl
   go_wp2
   go_round
   case rel => exact ⟨2, by omega, rfl, congrArg (Value.int .u64) (round1 s hs)⟩
   case measure => simp [intOf]
  by_cases h2 : k = 2
  ·subst h2
   have ix : ∀ w, (Instr.index 301 (.agg #[.int .u64 6148914691236517205, .int .u64 3689348814741910323, .int .u64 1085102592571150095, .int .u64 71777214294589695, .int .u64 281470681808895, .int .u64 4294967295]) (.int .i64 2)).run Tryz.prog w = .ok (.int .u64 1085102592571150095) w := fun _ => by kernel_rfl
   go_wp2
   go_round
   case rel => exact ⟨3, by omega, rfl, congrArg (Value.int .u64) (round2 s hs)⟩
   case measure => simp [intOf]
  by_cases h3 : k = 3
  ·subst h3
   have ix : ∀ w, (Instr.index 301 (.agg #[.int .u64 6148914691236517205, .int .u64 3689348814741910323, .int .u64 1085102592571150095, .int .u64 71777214294589695, .int .u64 281470681808895, .int .u64 4294967295]) (.int .i64 3)).run Tryz.prog w = .ok (.int .u64 71777214294589695) w := fun _ => by kernel_rfl
   go_wp2
   go_round
   case rel => exact ⟨4, by omega, rfl, congrArg (Value.int .u64) (round3 s hs)⟩
   case measure => simp [intOf]
  by_cases h4 : k = 4
  ·subst h4
   have ix : ∀ w, (Instr.index 301 (.agg #[.int .u64 6148914691236517205, .int .u64 3689348814741910323, .int .u64 1085102592571150095, .int .u64 71777214294589695, .int .u64 281470681808895, .int .u64 4294967295]) (.int .i64 4)).run Tryz.prog w = .ok (.int .u64 281470681808895) w := fun _ => by kernel_rfl
   go_wp2
   go_round
   case rel => exact ⟨5, by omega, rfl, congrArg (Value.int .u64) (round4 s hs)⟩
   case measure => simp [intOf]
  by_cases h5 : k = 5
  ·subst h5
   have ix : ∀ w, (Instr.index 301 (.agg #[.int .u64 6148914691236517205, .int .u64 3689348814741910323, .int .u64 1085102592571150095, .int .u64 71777214294589695, .int .u64 281470681808895, .int .u64 4294967295]) (.int .i64 5)).run Tryz.prog w = .ok (.int .u64 4294967295) w := fun _ => by kernel_rfl
   go_wp2
   go_round
   case rel => exact ⟨6, by omega, rfl, congrArg (Value.int .u64) (round5 s hs)⟩
   case measure => simp [intOf]
  obtain rfl : k = 6 := by omega
  have hp : cc 6 s = pop s := c6_pop s
  have hp64 := pop_le s
  rw [hp]
  clear hp hcl
  go_wp2
  go_ret
  exact ⟨rfl, (Below.refl _ _).alloc (Nat.le_refl _) _⟩
set_option maxRecDepth 100000 in
theorem lowest_any (s : Nat) (w : World) (h0 : 0 < s) (hs : s < 18446744073709551616) :
  Calls Tryz.prog 254 #[.int .u64 s] w fun e w' => e = .returned (.tuple #[.int .i64 (pop (below s)), .bool true]) ∧ Below w.heap.size w w' := by
 have hb : bits .andNot .u64 ((s : Int) - 1) (s : Int) = ((below s : Nat) : Int) := by
  have e : ((s : Int) - 1) = ((s - 1 : Nat) : Int) := by omega
  rw [e, u64_andNot_nat (s - 1) s (by omega) hs]
  rfl
 have hl := below_lt s hs
 have hn : ((s : Int) == 0) = false := by simp; omega
 go_enter Tryz.func254, Tryz.ntmps254
 go_wp2_with (go_at_call 183; refine (count_any _ _ hl).mono ?_; rintro e w' ⟨rfl, hB⟩)
 go_ret2
 exact ⟨rfl, hB⟩
end Go.Proofs.YtoaeficfmcncjaaGreat.Bits
namespace Go.Proofs.YtoaeficfmcncjaaGreat.Bits
open Go.RowKit
open Math
def IntsAt (n₀ : Nat) (W : World) (sv : Value) (zs : List Int) : Prop :=
 ∃ a cap, sv = .slice a zs.length cap ∧ (zs = [] ∨ ∃ b off, a = some ⟨b, off, none⟩ ∧ b < n₀ ∧ ∀ j, j < zs.length → W.cell? ⟨b, off + j, none⟩ = some (.int .i64 (zs[j]?.getD 0)))
theorem IntsAt.below {n₀ : Nat} {A B : World} (h : Below n₀ A B) {sv : Value} {zs : List Int} : IntsAt n₀ A sv zs → IntsAt n₀ B sv zs
 | ⟨a, cap, e, .inl r⟩ => ⟨a, cap, e, .inl r⟩
 | ⟨a, cap, e, .inr ⟨b, off, e2, hb, hc⟩⟩ => ⟨a, cap, e, .inr ⟨b, off, e2, hb, fun j hj => (h.cell (p := ⟨b, off + j, none⟩) hb).trans (hc j hj)⟩⟩
theorem IntsAt.mono {n m : Nat} {A : World} {sv : Value} {zs : List Int} (hn : n ≤ m) : IntsAt n A sv zs → IntsAt m A sv zs
 | ⟨a, cap, e, .inl r⟩ => ⟨a, cap, e, .inl r⟩
 | ⟨a, cap, e, .inr ⟨b, off, e2, hb, hc⟩⟩ => ⟨a, cap, e, .inr ⟨b, off, e2, by omega, hc⟩⟩
def enc (i : Nat) : Value := .int .i64 (i : Int)
set_option maxRecDepth 100000 in
theorem Tryz.info3 : (Tryz.prog.info? 3).map (fun i => (i.zero, i.size, i.bytes)) = some (some (.int .i64 0), 1, 8) := by kernel_rfl
theorem has_nat {s k : Nat} (h : k < 64) : has s (k : Int) = s.testBit k := by
 unfold has; simp; omega
section
set_option maxRecDepth 100000
theorem ints_some (b off cap b' off' cap' : Nat) (zs : List Int) (w : World) (hlen : zs.length ≤ 9223372036854775807)
  (hc : ∀ j, j < zs.length → w.cell? ⟨b, off + j, none⟩ = some (.int .i64 (zs[j]?.getD 0))) (hc' : ∀ j, j < zs.length → w.cell? ⟨b', off' + j, none⟩ = some (.int .i64 (zs[j]?.getD 0))) :
  Calls Tryz.prog 41 #[.slice (some ⟨b, off, none⟩) zs.length cap, .slice (some ⟨b', off', none⟩) zs.length cap'] w fun e w' => e = .returned (.bool true) ∧ ∃ n, w' = w.drewN n := by
 obtain ⟨len, hl⟩ : ∃ len, zs.length = len := ⟨_, rfl⟩
 rw [hl] at hlen hc hc' ⊢
 go_enter Tryz.func41, Tryz.ntmps41
 go_wp2
 go_loopw [13] (fun i wr => ∃ k n : Nat, k ≤ len ∧ i = .int .i64 k ∧ wr = w.drewN n) (fun i _ => len - (intOf i).toNat)
 case atStart => exact ⟨0, 0, Nat.zero_le _, rfl, rfl⟩
 case round =>
  obtain ⟨k, n, hk, rfl, rfl⟩ := hrel
  by_cases hlt : k < len
  ·have hcx := hc k hlt
   have hcx' := hc' k hlt
   clear hc hc'
   go_wp2
   go_quiet (fail)
   go_wp2
   go_roundw
   case rel => exact ⟨k + 1, _, by omega, by go_num, rfl⟩
   case measure => simp [intOf]; omega
  ·obtain rfl : k = len := by omega
   go_wp2
   go_ret
   exact ⟨rfl, n, rfl⟩
theorem ints_none (a a' : Option Addr) (cap cap' : Nat) (w : World) :
  Calls Tryz.prog 41 #[.slice a 0 cap, .slice a' 0 cap'] w fun e w' => e = .returned (.bool true) ∧ ∃ n, w' = w.drewN n := by
 go_enter Tryz.func41, Tryz.ntmps41
 go_wp2
 go_loopw [13] (fun i wr => i = .int .i64 0 ∧ wr = w.drewN 0) (fun _ _ => 0)
 case atStart => exact ⟨rfl, rfl⟩
 case round =>
  obtain ⟨rfl, rfl⟩ := hrel
  go_wp2
  go_ret
  exact ⟨rfl, 0, rfl⟩
theorem ints_any (va vb : Value) (zs : List Int) (w : World) (hlen : zs.length ≤ 9223372036854775807) (ha : IntsAt w.heap.size w va zs) (hb : IntsAt w.heap.size w vb zs) :
  Calls Tryz.prog 41 #[va, vb] w fun e w' => e = .returned (.bool true) ∧ ∃ n, w' = w.drewN n := by
 obtain ⟨a, cap, rfl, h⟩ := ha
 obtain ⟨a', cap', rfl, h'⟩ := hb
 rcases h with rfl | ⟨b, off, rfl, _, hc⟩
 ·exact ints_none a a' cap cap' w
 ·rcases h' with rfl | ⟨b', off', rfl, _, hc'⟩
  ·exact ints_none _ a' cap cap' w
  ·exact ints_some b off cap b' off' cap' zs w hlen hc hc'
end
end Go.Proofs.YtoaeficfmcncjaaGreat.Bits
namespace Go.Proofs.YtoaeficfmcncjaaGreat.Bits
open Go.RowKit Go.Shelf
open Math
attribute [local go_sem] Oper.semAt_some
def upto {α : Type} (f : Nat → α) (k : Nat) : List α := (List.range k).map f
theorem upto_succ {α : Type} (f : Nat → α) (k : Nat) : upto f (k + 1) = upto f k ++ [f k] := by simp [upto, List.range_succ]
theorem upto_length {α : Type} (f : Nat → α) (k : Nat) : (upto f k).length = k := by simp [upto]
theorem upto_all (zs : List Int) : upto (fun j => zs[j]?.getD 0) zs.length = zs := by
 apply List.ext_getElem
 ·simp [upto]
 ·intro i h1 h2
  simp [upto, h2]
theorem upto_take (zs : List Int) {k : Nat} (hk : k ≤ zs.length) : upto (fun j => zs[j]?.getD 0) k = zs.take k := by
 apply List.ext_getElem
 ·simp [upto, hk]
 ·intro i h1 h2
  have : i < zs.length := by simp [upto] at h1; omega
  simp [upto, this]
section
set_option maxRecDepth 100000
set_option maxHeartbeats 2000000 in
theorem values1_in (F : Fence) (n : Nat) (h28 : F.fn 218) (hro : F.round = none) (hn : 1 ≤ n) (l Bs n₀ b off len cap : Nat) (zs : List Int) (hreach : len ≤ 9223372036854775807) (hb : b < n₀) (J Jx : List Int → World → Prop)
  (hY : ∀ pre x W, J pre W → pre.length < len → YieldAt F (n - 1) Tryz.prog l #[.int .i64 x] W fun e W' =>
   (e = .returned (.bool true) ∧ J (pre ++ [x]) W' ∧ Below n₀ W W') ∨ (e = .returned (.bool false) ∧ Jx (pre ++ [x]) W'))
  (W : World) (hBs : W.cell? ⟨Bs, 0, none⟩ = some (.slice (some ⟨b, off, none⟩) len cap)) (hc : ∀ j, j < len → W.cell? ⟨b, off + j, none⟩ = some (.int .i64 (zs[j]?.getD 0))) (h0 : J [] W) :
  CallsIn F n Tryz.prog 218 #[.func (.yield l) #[] #[], .pointer (some ⟨Bs, 0, none⟩)] W fun e W' => (∃ v, e = .returned v) ∧
   ((∃ ys, ys = upto (fun j => zs[j]?.getD 0) len ∧ J ys W') ∨ (∃ pre, (∃ k, k ≤ len ∧ pre = upto (fun j => zs[j]?.getD 0) k) ∧ Jx pre W')) := by
 refine callsIn_of_wp Tryz.func218 rfl h28 ?_ hro
 simp only [Tryz.ntmps218, List.size_toArray, List.length_cons, List.length_nil, Nat.reduceAdd, Nat.reduceSub, Array.replicate_succ, Array.replicate_zero, List.push_toArray, List.append_toArray, List.nil_append, List.cons_append]
 gi_wp2
 gi_loopw [7] (fun i wr => ∃ k : Nat, k ≤ len ∧ i = .int .i64 k ∧ J (upto (fun j => zs[j]?.getD 0) k) wr ∧ Below n₀ W wr)
  (fun i _ => len - (intOf i).toNat)
 case atStart => exact ⟨0, Nat.zero_le _, rfl, h0, Below.refl _ _⟩
 case round =>
  obtain ⟨k, hk, rfl, hJs, hnx⟩ := hrel
  have hcx : k < len → wr.cell? ⟨b, off + k, none⟩ = some (.int .i64 (zs[k]?.getD 0)) := fun h => (hnx.cell (p := ⟨b, off + k, none⟩) hb).trans (hc k h)
  by_cases hlt : k < len
  ·obtain ⟨fn, tmps, assign, body, hy, hR⟩ := hY _ (zs[k]?.getD 0) wr hJs (by rw [upto_length]; exact hlt)
   have hcx' := hcx hlt
   gi_wp2
   refine hR.mono ?_
   rintro e W3 (⟨rfl, hJ3, hk3⟩ | ⟨rfl, hJx3⟩)
   ·gi_wp2
    go_roundw
    case rel => exact ⟨k + 1, by omega, by simp, by rw [upto_succ]; exact hJ3, hnx.trans hk3⟩
    case measure => simp [intOf]; omega
   ·gi_wp2
    refine bodyPost_ret (results_none rfl _ _ _) rfl ?_
    exact ⟨⟨_, rfl⟩, .inr ⟨_, ⟨k + 1, by omega, (upto_succ _ _).symm⟩, hJx3⟩⟩
  ·obtain rfl : k = len := by omega
   gi_wp2
   go_end0
   exact ⟨⟨_, rfl⟩, .inl ⟨_, rfl, hJs⟩⟩
set_option maxHeartbeats 1000000 in
theorem values1_nil_in (F : Fence) (n : Nat) (h28 : F.fn 218) (hro : F.round = none) (l Bs : Nat) (a : Option Addr) (cap : Nat) (J : List Int → World → Prop) (W : World) (hBs : W.cell? ⟨Bs, 0, none⟩ = some (.slice a 0 cap)) (h0 : J [] W) :
  CallsIn F n Tryz.prog 218 #[.func (.yield l) #[] #[], .pointer (some ⟨Bs, 0, none⟩)] W fun e W' => (∃ v, e = .returned v) ∧ J [] W' := by
 refine callsIn_of_wp Tryz.func218 rfl h28 ?_ hro
 simp only [Tryz.ntmps218, List.size_toArray, List.length_cons, List.length_nil, Nat.reduceAdd, Nat.reduceSub, Array.replicate_succ, Array.replicate_zero, List.push_toArray, List.append_toArray, List.nil_append, List.cons_append]
 gi_wp2
 gi_loopw [7] (fun i wr => i = .int .i64 0 ∧ J [] wr) (fun _ _ => 0)
 case atStart => exact ⟨rfl, h0⟩
 case round =>
  obtain ⟨rfl, hJs⟩ := hrel
  gi_wp2
  go_end0
  exact ⟨⟨_, rfl⟩, hJs⟩
set_option maxHeartbeats 1000000 in
theorem values_in (F : Fence) (n : Nat) (h26 : F.fn 168) (hro : F.round = none) (a : Option Addr) (len cap : Nat) (w : World) :
  CallsIn F n Tryz.prog 168 #[.slice a len cap] w fun e w' => e = .returned (.func (.func 218) #[] #[.pointer (some ⟨w.heap.size, 0, none⟩)]) ∧ w' = w.alloc (.cells #[.slice a len cap] 85) := by
 refine callsIn_of_wp Tryz.func168 rfl h26 ?_ hro
 simp only [Tryz.ntmps168, List.size_toArray, List.length_cons, List.length_nil, Nat.reduceAdd, Nat.reduceSub, Array.replicate_succ, Array.replicate_zero, List.push_toArray, List.append_toArray, List.nil_append, List.cons_append]
 gi_wp2
 go_ret
 exact ⟨rfl, rfl⟩
theorem values_stops (F : Fence) (n : Nat) (h28 : F.fn 218) (hro : F.round = none) (hn : 1 ≤ n) (Bs n₀ : Nat) (sv : Value) (zs : List Int) (hreach : zs.length ≤ 9223372036854775807) (w : World) (hBs : Bs < w.heap.size) (hn₀ : n₀ ≤ w.heap.size)
  (hc : w.cell? ⟨Bs, 0, none⟩ = some sv) (hI : IntsAt n₀ w sv zs) :
  SeqStopsK F n Tryz.prog 218 #[.pointer (some ⟨Bs, 0, none⟩)] (fun x : Int => #[Value.int .i64 x]) (Below n₀) (fun ys => ys = zs) (fun pre => pre <+: zs) zs.length w := fun l J Jx W hW _ _ hY h0 => by
 have hc' := (hW.cell (p := ⟨Bs, 0, none⟩) hBs).trans hc
 obtain ⟨a, cap, rfl, rfl | ⟨b, off, rfl, hb, hcs⟩⟩ := hI.below (hW.mono hn₀)
 ·exact (values1_nil_in F n h28 hro l Bs a cap J W hc' h0).mono fun e W' ⟨he, hj⟩ => ⟨he, .inl ⟨_, rfl, hj⟩⟩
 ·refine (values1_in F n h28 hro hn l Bs n₀ b off zs.length cap zs hreach hb J Jx hY W hc' hcs h0).mono ?_
  rintro e W' ⟨he, ⟨ys, rfl, hj⟩ | ⟨pre, ⟨k, hk, rfl⟩, hj⟩⟩
  ·exact ⟨he, .inl ⟨_, upto_all zs, hj⟩⟩
  ·exact ⟨he, .inr ⟨_, by rw [upto_take zs hk]; exact List.take_prefix _ _, hj⟩⟩
set_option maxHeartbeats 2000000 in
theorem of_in (n : Nat) (hn : 3 ≤ n) (a : Option Addr) (len cap : Nat) (zs : List Int) (hreach : zs.length ≤ 9223372036854775807) (w : World) (hI : IntsAt w.heap.size w (.slice a len cap) zs) :
  CallsIn Fence.wide n Tryz.prog 113 #[.slice a len cap] w fun e W' => e = .returned (.int .u64 (ofL zs)) ∧ Below w.heap.size w W' := by
 have h1 : 1 ≤ n := by omega
 have hro : Fence.wide.round = none := rfl
 refine callsIn_of_wp_marks Tryz.func113 rfl trivial ?_ hro
 simp only [Tryz.ntmps113, List.size_toArray, List.length_cons, List.length_nil, Nat.reduceAdd, Nat.reduceSub, Array.replicate_succ, Array.replicate_zero, List.push_toArray, List.append_toArray, List.nil_append, List.cons_append]
 gi_wp2_with (refine ⟨trivial, ?_⟩; gi_at_call 168; refine (values_in Fence.wide (n - 1) trivial hro _ _ _ _).mono ?_; rintro e w' ⟨rfl, rfl⟩)
 have bS := Boxed.new w 23 (.int .u64 0)
 have bN := Boxed.new (w.alloc (.cells #[.int .u64 0] 23)) 85 (.slice a len cap)
 rw [World.size_alloc] at bN
 have hB0 : Below w.heap.size w ((w.alloc (.cells #[.int .u64 0] 23)).alloc (.cells #[.slice a len cap] 85)) := ((Below.refl _ w).alloc (Nat.le_refl _) _).alloc (by simp) _
 refine wpIn_rangeFunc_ownG hro h1 (gf := 218) (lb := #[.pointer (some ⟨w.heap.size + 1, 0, none⟩)]) rfl trivial (enters_of Tryz.func218 (by kernel_rfl) rfl)
  (values_stops Fence.wide (n - 1) trivial hro (by omega) (w.heap.size + 1) w.heap.size _ zs hreach _ (by simp) (by simp; omega) bN.cell (hI.below hB0)) belowK_t (belowK_b (by simp; omega)) (Below.refl _ _) (fun _ => rfl)
  (fun pre W => (W.cell? ⟨w.heap.size, 0, none⟩ = some (.int .u64 (ofL pre)) ∧ W.frozen? ⟨w.heap.size, 0, none⟩ = false) ∧ Below w.heap.size w W)
  (fun _ _ _ => False)
  (OwnFrom.and (Own.from (fun s A B row hs hg hr => ⟨cell_kept hs.1 hg hr, (frozen_kept hs.1 hg hr).trans hs.2⟩) _) (ownFrom_below (Nat.le_refl _) (by simp; omega)))
  (fun _ _ _ _ _ hs _ _ => hs)
  ⟨⟨(bS.alloc _).cell, (bS.alloc _).frozen⟩, hB0⟩
  (fun x => { tmps := #[.slice a len cap, undef, .int .u64 0, .pointer (some ⟨w.heap.size, 0, none⟩), .int .i64 x, .slice a len cap, .func (.func 218) #[] #[.pointer (some ⟨w.heap.size + 1, 0, none⟩)], .int .i64 x, undef, undef, undef, undef], defers := [] }) ?assign ?body ?done ?stop
 case assign =>
  intro l x W K hK
  gi_wp2
  exact hK
 case body =>
  rintro l pre x W ⟨⟨hc, hf⟩, hB⟩ _
  have hlt := ofL_lt pre
  have h2 : 1 ≤ n - 1 - 1 := by omega
  gi_wp2_with (refine ⟨trivial, ?_⟩; gi_at_call 169; refine (CallsIn.inRound l (callsIn_wide.2 (with_any _ _ _ hlt))).mono ?_; rintro e w' ⟨rfl, rfl⟩)
  exact ⟨(KeepsOthers.setCell _ _ _).from _, (Below.refl w.heap.size _).setCell (p := ⟨w.heap.size, 0, none⟩) (Nat.le_refl _) _, ⟨by rw [ofL_snoc]; exact World.cell?_setCell_same' _ _ _ (by rw [hc]; rfl), by rw [World.frozen?_setCell]; exact hf⟩, hB.setCell (p := ⟨w.heap.size, 0, none⟩) (Nat.le_refl _) _⟩
 case done =>
  rintro D ys W hD rfl ⟨⟨hc, _⟩, hB⟩ hK
  gi_wp2
  refine ⟨by simp, .inl ⟨_, _, rfl, run_takeDeferred hK, ?_⟩⟩
  exact ⟨_, results_tmp rfl _ _ _, rfl, hB.trans (belowK_b (w := w) (Nat.le_refl _) W D _ _ (by simp at hD; omega) hK rfl rfl)⟩
 case stop =>
  rintro D c pre W _ _ h _
  exact h.elim
theorem of_any (sv : Value) (zs : List Int) (w : World) (hreach : zs.length ≤ 9223372036854775807) (hI : IntsAt w.heap.size w sv zs) :
  Calls Tryz.prog 113 #[sv] w fun e W' => e = .returned (.int .u64 (ofL zs)) ∧ Below w.heap.size w W' := by
 obtain ⟨a, cap, rfl, _⟩ := id hI
 exact callsIn_wide.1 (of_in 3 (Nat.le_refl _) a zs.length cap zs hreach w hI)
end
theorem grown_of_below {W W' : World} (h : Below W.heap.size W W') : W.grownBy W' none := ⟨h.os, h.tape, h.output, h.size, fun k hk _ => h.block k hk⟩
section
set_option maxRecDepth 100000
set_option maxHeartbeats 400000 in
theorem members1_in (F : Fence) (n : Nat) (h17 : F.fn 254) (h27 : F.fn 253) (hro : F.round = none) (hn : 1 ≤ n) (l Bs n₀ s : Nat) (hs : s < 18446744073709551616) (J Jx : List Nat → World → Prop)
  (hL : ∀ (left : Nat) (w : World), 0 < left → left < 18446744073709551616 → CallsIn F (n - 1) Tryz.prog 254 #[.int .u64 left] w fun e w' => e = .returned (.tuple #[.int .i64 (pop (below left)), .bool true]) ∧ Below w.heap.size w w')
  (W : World) (hJ : AbidesFrom W.heap.size J)
  (hY : ∀ pre x W, J pre W → pre.length < (elems s).length → YieldAt F (n - 1) Tryz.prog l #[.int .i64 ((x : Nat) : Int)] W fun e W' =>
   (e = .returned (.bool true) ∧ J (pre ++ [x]) W' ∧ Below n₀ W W') ∨ (e = .returned (.bool false) ∧ Jx (pre ++ [x]) W'))
  (hBs : W.cell? ⟨Bs, 0, none⟩ = some (.int .u64 s)) (h0 : J [] W) :
  CallsIn F n Tryz.prog 253 #[.func (.yield l) #[] #[], .pointer (some ⟨Bs, 0, none⟩)] W fun e W' => (∃ v, e = .returned v) ∧
   ((∃ ys, ys = elems s ∧ J ys W') ∨ (∃ pre, pre <+: elems s ∧ Jx pre W')) := by
 refine callsIn_of_wp Tryz.func253 rfl h27 ?_ hro
 simp only [Tryz.ntmps253, List.size_toArray, List.length_cons, List.length_nil, Nat.reduceAdd, Nat.reduceSub, Array.replicate_succ, Array.replicate_zero, List.push_toArray, List.append_toArray, List.nil_append, List.cons_append]
 gi_wp2
 gi_loopw [3] (fun x wr => ∃ (left : Nat) (pre : List Nat), left < 18446744073709551616 ∧ x = .int .u64 left ∧ elems s = pre ++ elems left ∧ J pre wr)
  (fun x _ => (intOf x).toNat)
 case atStart => exact ⟨s, [], hs, rfl, rfl, h0⟩
 case round =>
  obtain ⟨left, pre, hl, rfl, he, hJs⟩ := hrel
  by_cases hz : left = 0
  ·subst hz
   gi_wp2
   go_end0
   exact ⟨⟨_, rfl⟩, .inl ⟨pre, by rw [he, elems_zero, List.append_nil], hJs⟩⟩
  ·have hpos : 0 < left := by omega
   have hlow := elems_low left hpos hl
   have hd : bits .and .u64 (left : Int) ((left : Int) - 1) = ((drop1 left : Nat) : Int) := by
    have e : ((left : Int) - 1) = ((left - 1 : Nat) : Int) := by omega
    rw [e, u64_and_nat left (left - 1) hl (by omega)]
    rfl
   have hdl := drop1_lt left hpos
   have HE : Hid (elems s = (pre ++ [pop (below left)]) ++ elems (drop1 left)) := by
    show elems s = (pre ++ [pop (below left)]) ++ elems (drop1 left)
    rw [he, hlow]; simp
   have hplen : pre.length < (elems s).length := by rw [HE.out]; simp
   have hLc := fun w => hL left w hpos hl
   clear hlow he hz hL
   gi_wp2_with (gi_at_call 254; refine (hLc _).mono ?_; clear hLc; rintro e w' ⟨rfl, hB⟩; obtain ⟨fn, tmps, assign, body, hy, hR⟩ := hY pre (pop (below left)) w' (hJ _ _ _ none hJs (grown_of_below hB) (fun r e => by cases e)) hplen)
   refine hR.mono ?_
   rintro e W3 (⟨rfl, hJ3, hk3⟩ | ⟨rfl, hJx3⟩)
   ·gi_wp2
    go_roundw
    case rel => exact ⟨drop1 left, _, by omega, rfl, HE.out, hJ3⟩
    case measure => simp [intOf]; omega
   ·gi_wp2
    refine bodyPost_ret (results_none rfl _ _ _) rfl ?_
    exact ⟨⟨_, rfl⟩, .inr ⟨_, ⟨elems (drop1 left), HE.out.symm⟩, hJx3⟩⟩
set_option maxHeartbeats 1000000 in
theorem members_in (F : Fence) (n : Nat) (h25 : F.fn 209) (hro : F.round = none) (s : Nat) (w : World) :
  CallsIn F n Tryz.prog 209 #[.int .u64 s] w fun e w' => e = .returned (.func (.func 253) #[] #[.pointer (some ⟨w.heap.size, 0, none⟩)]) ∧ w' = w.alloc (.cells #[.int .u64 s] 23) := by
 refine callsIn_of_wp Tryz.func209 rfl h25 ?_ hro
 simp only [Tryz.ntmps209, List.size_toArray, List.length_cons, List.length_nil, Nat.reduceAdd, Nat.reduceSub, Array.replicate_succ, Array.replicate_zero, List.push_toArray, List.append_toArray, List.nil_append, List.cons_append]
 gi_wp2
 go_ret
 exact ⟨rfl, rfl⟩
theorem members_stops (n : Nat) (hn : 1 ≤ n) (Bs n₀ s : Nat) (hs : s < 18446744073709551616) (w : World) (hBs : Bs < w.heap.size) (hc : w.cell? ⟨Bs, 0, none⟩ = some (.int .u64 s)) :
  SeqStopsK Fence.wide n Tryz.prog 253 #[.pointer (some ⟨Bs, 0, none⟩)] (fun x : Nat => #[Value.int .i64 (x : Int)]) (Below n₀) (fun ys => ys = elems s) (fun pre => pre <+: elems s) (elems s).length w := fun l J Jx W hW hJ _ hY h0 =>
 members1_in Fence.wide n trivial trivial rfl hn l Bs n₀ s hs J Jx (fun _ _ h0 h1 => callsIn_wide.2 (lowest_any _ _ h0 h1)) W hJ hY ((hW.cell (p := ⟨Bs, 0, none⟩) hBs).trans hc) h0
set_option maxHeartbeats 2000000 in
theorem list_in (F : Fence) (n : Nat) (h18 : F.fn 183) (h20 : F.fn 152) (h25 : F.fn 209) (h27 : F.fn 253) (hro : F.round = none) (hn : 3 ≤ n) (s : Nat) (w : World)
  (hC : ∀ w : World, CallsIn F (n - 1) Tryz.prog 183 #[.int .u64 s] w fun e w' => e = .returned (.int .i64 (pop s)) ∧ Below w.heap.size w w')
  (hS : ∀ (w : World) (Bs : Nat), Bs < w.heap.size → w.cell? ⟨Bs, 0, none⟩ = some (.int .u64 s) → ∀ n₀, SeqStopsK F (n - 1) Tryz.prog 253 #[.pointer (some ⟨Bs, 0, none⟩)] (fun x : Nat => #[Value.int .i64 (x : Int)]) (Below n₀) (fun ys => ys = elems s) (fun pre => pre <+: elems s) (elems s).length w) :
  CallsIn F n Tryz.prog 152 #[.int .u64 s] w fun e W' => ∃ v, e = .returned v ∧ W'.ownsRow w.heap.size 3 1 v (elems s).length ((elems s).map enc) ∧ Below w.heap.size w W' := by
 have h1 : 1 ≤ n := by omega
 obtain ⟨i0, hi, hz0, hz1, hz2⟩ := info_parts Tryz.info3
 have hp := pop_le s
 have hmk : ∀ w : World, (Instr.makeSlice 85 (.int .i64 0) (.int .i64 (pop s : Int))).run Tryz.prog w = .ok (.slice (some ⟨w.heap.size, 0, none⟩) 0 (pop s)) (w.alloc (.cells (madeCells #[.int .i64 0] (pop s)) 3)) := fun w => by
  have := run_make (P := Tryz.prog) w 85 3 i0 (.int .i64 0) Tryz.underlying85 hi hz0 .i64 .i64 0 (pop s : Int) (Int.le_refl _) (by omega) (by rw [hz2]; omega) (by omega)
  rw [hz1] at this
  simpa [Value.cells] using this
 refine callsIn_of_wp_marks Tryz.func152 rfl h20 ?_ hro
 simp only [Tryz.ntmps152, List.size_toArray, List.length_cons, List.length_nil, Nat.reduceAdd, Nat.reduceSub, Array.replicate_succ, Array.replicate_zero, List.push_toArray, List.append_toArray, List.nil_append, List.cons_append]
 gi_wp2_with (first | (gi_at_call 183; refine (hC _).mono ?_; rintro e w0 ⟨rfl, hB1⟩) | (gi_at_call 209; refine (members_in F (n - 1) h25 hro _ _).mono ?_; rintro e w' ⟨rfl, rfl⟩))
 have hw0 := hB1.size
 have hel : (elems s).length ≤ 64 := by rw [← pop_elems]; exact hp
 have r0 := World.ownsRow_made (e := 3) (size := 1) (base := w.heap.size) w0 (madeCells #[.int .i64 0] (pop s)) (pop s) hw0 (by unfold maxLen; omega) (by simp [size_madeCells])
 have bO := Boxed.new (w0.alloc (.cells (madeCells #[.int .i64 0] (pop s)) 3)) 85 (.slice (some ⟨w0.heap.size, 0, none⟩) 0 (pop s))
 have bN := Boxed.new ((w0.alloc (.cells (madeCells #[.int .i64 0] (pop s)) 3)).alloc (.cells #[.slice (some ⟨w0.heap.size, 0, none⟩) 0 (pop s)] 85)) 23 (.int .u64 s)
 rw [World.size_alloc, World.size_alloc] at bN
 rw [World.size_alloc] at bO
 have hB0 : Below w.heap.size w (((w0.alloc (.cells (madeCells #[.int .i64 0] (pop s)) 3)).alloc (.cells #[.slice (some ⟨w0.heap.size, 0, none⟩) 0 (pop s)] 85)).alloc (.cells #[.int .u64 s] 23)) :=
  ((hB1.alloc hw0 _).alloc (by simp; omega) _).alloc (by simp; omega) _
 have r1 := (r0.alloc (.cells #[.slice (some ⟨w0.heap.size, 0, none⟩) 0 (pop s)] 85)).alloc (.cells #[.int .u64 s] 23)
 have b1 := bO.alloc (.cells #[.int .u64 s] 23)
 clear hmk
 obtain ⟨W0, hW0⟩ : ∃ W0, (((w0.alloc (.cells (madeCells #[.int .i64 0] (pop s)) 3)).alloc (.cells #[.slice (some ⟨w0.heap.size, 0, none⟩) 0 (pop s)] 85)).alloc (.cells #[.int .u64 s] 23)) = W0 := ⟨_, rfl⟩
 have hsz : W0.heap.size = w0.heap.size + 3 := by rw [← hW0]; simp
 rw [hW0] at bN hB0 r1 b1 ⊢
 clear hW0 bO r0
 refine wpIn_rangeFunc_ownG hro h1 (gf := 253) (lb := #[.pointer (some ⟨w0.heap.size + 1 + 1, 0, none⟩)]) rfl h27 (enters_of Tryz.func253 (by kernel_rfl) rfl)
  (hS W0 (w0.heap.size + 1 + 1) (by omega) bN.cell w.heap.size) belowK_t (belowK_b (by omega)) (Below.refl _ _) (fun _ => rfl)
  (fun pre W => (∃ v, Boxed W (w0.heap.size + 1) 85 v ∧ W.ownsRow w.heap.size 3 1 v pre.length (pre.map enc) ∧ True) ∧ Below w.heap.size w W)
  (fun _ _ _ => False)
  (OwnFrom.and (Own.from (holdsRow_own w.heap.size (w0.heap.size + 1) 85 3 1 (fun pre : List Nat => pre.length) (fun pre => pre.map enc) (fun _ _ => True)) _) (ownFrom_below (Nat.le_refl _) (by omega)))
  (fun _ _ _ _ _ hs _ _ => hs)
  ⟨⟨_, b1, r1, trivial⟩, hB0⟩
  (fun x => { tmps := #[.int .u64 s, undef, .slice none 0 0, .pointer (some ⟨w0.heap.size + 1, 0, none⟩), .int .i64 (x : Int), .int .u64 s, .int .i64 (pop s), .slice (some ⟨w0.heap.size, 0, none⟩) 0 (pop s), .int .u64 s, .func (.func 253) #[] #[.pointer (some ⟨w0.heap.size + 1 + 1, 0, none⟩)], .int .i64 (x : Int), undef, undef, undef, undef, undef], defers := [] }) ?assign ?body ?done ?stop
 case assign =>
  intro l x W K hK
  gi_wp2
  exact hK
 case body =>
  rintro l pre x W ⟨⟨v, hv, hrow, _⟩, hB⟩ hlt
  have hc := hv.cell
  gi_wp2_with (gi_at_builtin; refine wpListIn_append_own _ rfl _ _ 85 rfl w.heap.size 3 i0 (.int .i64 0) 1 8 Tryz.underlying85 hi hz0 hz1 hz2 rfl (by decide) _ _ _ rfl (hrow.alloc _) ⟨W.heap.size, 0, none⟩ 1 1 [.int .i64 (x : Int)] rfl rfl (cell_one_new _ _ _) (by simp [Value.oneCell']) (by unfold maxLen; omega) (by omega) (by have := hB.size; simp; omega) ?_; intro v' w1 hown' hgrow _; obtain ⟨g', cap', rfl⟩ := ownsRow_succ hown'; obtain ⟨hv1, hv2, hr2, hk2, hb2⟩ := hv.appended (by decide) hrow hB.size (by omega) hown' hgrow; have hc1 := hv1.cell; have hf1 := hv1.frozen)
  exact ⟨hk2.from _, hb2, ⟨_, hv2, by simpa [enc] using hr2, trivial⟩, hB.trans hb2⟩
 case done =>
  rintro D ys W hD rfl ⟨⟨v, hv, hrow, _⟩, hB⟩ hK
  have hc := hv.cell
  gi_wp2
  refine ⟨by simp, .inl ⟨_, _, rfl, run_takeDeferred hK, ?_⟩⟩
  exact ⟨_, results_tmp rfl _ _ _, v, rfl, ownsRow_putObj hrow _ hK rfl, hB.trans (belowK_b (w := w) (Nat.le_refl _) W D _ _ (by omega) hK rfl rfl)⟩
 case stop =>
  rintro D c pre W _ _ h _
  exact h.elim
theorem list_any (s : Nat) (w : World) (hs : s < 18446744073709551616) :
  Calls Tryz.prog 152 #[.int .u64 s] w fun e W' => ∃ v, e = .returned v ∧ W'.ownsRow w.heap.size 3 1 v (elems s).length ((elems s).map enc) ∧ Below w.heap.size w W' :=
 callsIn_wide.1 (list_in Fence.wide 3 trivial trivial trivial trivial rfl (Nat.le_refl _) s w (fun _ => callsIn_wide.2 (count_any _ _ hs)) (fun w Bs h1 h2 n₀ => members_stops 2 (by omega) Bs n₀ s hs w h1 h2))
end
end Go.Proofs.YtoaeficfmcncjaaGreat.Bits
