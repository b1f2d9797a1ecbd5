/-
  The walk of HotKeeps.
-/
import Derived.Test.YtldeecjocapfgaaHotF
namespace Go.Proofs.Ytldeecjocapfgaa.Hot
open Go.RowKit
open Bits Bits.Math

/-- What a Use keeps, in words of sets. -/
theorem keeps {most need busy m : Nat} (hm : m < 18446744073709551616) (hn : need < 18446744073709551616) (hf : fits most need busy (elems m) = true) :
    (mask (used most need busy (elems m)) &&& need) = need ∧ ((mask (used most need busy (elems m)) &&& busy) &&& m) = (busy &&& m) ∧
    (∀ j, j < 64 → (mask (used most need busy (elems m))).testBit j = true → m.testBit j = true ∨ need.testBit j = true) ∧ (elems (mask (used most need busy (elems m)))).length ≤ most := by
  have g0 := Good.elems m
  have gu := used_good (most := most) (need := need) (busy := busy) g0
  have hb : ∀ j, (mask (used most need busy (elems m))).testBit j = decide (j ∈ used most need busy (elems m)) := mask_bit _ gu.lt
  have small : ∀ (x : Nat), x < 18446744073709551616 → ∀ j, x.testBit j = true → j < 64 := fun x hx j h => by
    apply Classical.byContradiction
    intro hc
    have : x < 2 ^ j := Nat.lt_of_lt_of_le (show x < 2 ^ 64 from hx) (Nat.pow_le_pow_right (by omega) (by omega))
    rw [Nat.testBit_lt_two_pow this] at h
    cases h
  refine ⟨?_, ?_, ?_, ?_⟩
  · apply Nat.eq_of_testBit_eq
    intro j
    rw [Nat.testBit_and, hb]
    cases h : need.testBit j with
    | false => simp
    | true =>
      have : j ∈ used most need busy (elems m) := (mem_used g0 j).2 (.inr ⟨small need hn j h, h⟩)
      simp [this]
  · apply Nat.eq_of_testBit_eq
    intro j
    rw [Nat.testBit_and, Nat.testBit_and, Nat.testBit_and, hb]
    cases h1 : busy.testBit j with
    | false => simp
    | true =>
      cases h2 : m.testBit j with
      | false => simp
      | true =>
        have h3 : j ∈ elems m := (mem_elems m j).2 ⟨small m hm j h2, h2⟩
        have : j ∈ used most need busy (elems m) := (mem_used g0 j).2 (.inl (evict_has _ [] j (.inr ⟨h3, by simp [may, h1]⟩)))
        simp [this]
  · intro j _ h
    rw [hb] at h
    have h' : j ∈ used most need busy (elems m) := by simpa using h
    rcases (mem_used g0 j).1 h' with h1 | h1
    · left
      have := (evict_sub (most := most) (need := need) (busy := busy) (elems m) []).subset h1
      simp at this
      exact ((mem_elems m j).1 this).2
    · exact .inr h1.2
  · rw [← pop_elems, pop_mask gu]
    exact used_len g0 hf

/-- now &^ mask &^ need is nothing. -/
theorem nothing_new {x m need : Nat} (hm : m < 18446744073709551616) (hn : need < 18446744073709551616) (h : ∀ j, j < 64 → x.testBit j = true → m.testBit j = true ∨ need.testBit j = true) :
    (x &&& (18446744073709551615 - m)) &&& (18446744073709551615 - need) = 0 := by
  have nb : ∀ (y : Nat), y < 18446744073709551616 → ∀ j, (18446744073709551615 - y).testBit j = (decide (j < 64) && !y.testBit j) := fun y hy j => by
    have e : 18446744073709551615 - y = 2 ^ 64 - (y + 1) := by omega
    rw [e, Nat.testBit_two_pow_sub_succ (show y < 2 ^ 64 from hy)]
  apply Nat.eq_of_testBit_eq
  intro j
  rw [Nat.testBit_and, Nat.testBit_and, nb m hm, nb need hn]
  simp
  intro h1 h2 h3
  rcases h j h2 h1 with h4 | h4
  · rw [h3] at h4
    cases h4
  · intro _
    exact h4

set_option maxRecDepth 100000 in
set_option maxHeartbeats 1000000 in
/-- where there is no set -/
theorem keeps_none (most : Int) (m need busy : Int) (w : World) (h : most < 1 ∨ 16 < most) :
    Calls Try.prog 4 #[.int .i64 most, .agg #[.int .u64 m, .int .u64 need, .int .u64 busy]] w fun e w' => e = .returned (.bool true) ∧ Below w.heap.size w w' := by
  have hB : Below w.heap.size w (w.alloc (.cells #[.int .u64 m, .int .u64 need, .int .u64 busy] 46)) := (Below.refl _ w).alloc (Nat.le_refl _) _
  have q := fun W => new_bad most W h
  go_enter Try.func4, Try.ntmps4
  go_wp2
  go_quiet (fail)
  go_wp2_with (first
    | (go_at_call 7; refine (q _).mono ?_; rintro e w1 ⟨rfl, rfl⟩)
    | (go_at_call 6; refine (lives_any _).mono ?_; rintro e w2 ⟨rfl, hB2⟩))
  go_ret
  exact ⟨rfl, ((Kept.of_below hB []).trans ((kept_drewN [] _ _).trans (Kept.of_below hB2 []))).below (Nat.le_refl _) (by simp)⟩

set_option maxRecDepth 100000 in
set_option maxHeartbeats 1000000 in
/-- where it does not fit -/
theorem keeps_bad (most m need busy : Nat) (h1 : 1 ≤ most) (h2 : most ≤ 16) (hm : m < 18446744073709551616) (hn : need < 18446744073709551616) (hb : busy < 18446744073709551616) (hf : fits most need busy (elems m) = false) (w : World) :
    Calls Try.prog 4 #[.int .i64 (most : Int), .agg #[.int .u64 (m : Int), .int .u64 (need : Int), .int .u64 (busy : Int)]] w fun e w' => e = .returned (.bool true) ∧ Below w.heap.size w w' := by
  have hB : Below w.heap.size w (w.alloc (.cells #[.int .u64 (m : Int), .int .u64 (need : Int), .int .u64 (busy : Int)] 46)) := (Below.refl _ w).alloc (Nat.le_refl _) _
  have q0 := fun W => new_ok most W h1 h2
  have me := mask_elems m hm
  go_enter Try.func4, Try.ntmps4
  go_wp2
  go_quiet (fail)
  replace hB := (Kept.of_below hB []).trans (kept_drewN [] _ nq)
  generalize (w.alloc (.cells #[.int .u64 (m : Int), .int .u64 (need : Int), .int .u64 (busy : Int)] 46)).drewN nq = W0 at *
  have hS := set_new W0 most h1 h2
  have hK : Kept [W0.heap.size] W0 (W0.alloc (.cells #[.int .i64 (most : Int), .slice none 0 0] 50)) := kept_alloc _ _ _
  go_wp2_with (first
    | (go_at_call 7; refine (q0 _).mono ?_; rintro e w1 ⟨rfl, rfl⟩)
    | (go_at_call 11; refine (load_any _ _ _ _ _ m hm _ hS).mono ?_; rintro e w2 ⟨rfl, ⟨v2, hS2⟩, hK2⟩; clear hS; replace hK := hK.trans hK2)
    | (go_at_call 9; refine (fits_any _ _ _ _ _ need busy hn hb _ hS2).mono ?_; rw [hf]; rintro e w3 ⟨rfl, hB3⟩; replace hS2 := hS2.below hB3; replace hK := hK.trans (Kept.of_below hB3 _))
    | (go_at_call 13; refine (use_bad _ _ _ _ _ need busy hn hb _ hS2 hf).mono ?_; rintro e w4 ⟨rfl, hB4⟩; replace hS2 := hS2.below hB4; replace hK := hK.trans (Kept.of_below hB4 _))
    | (go_at_call 15; refine (mask_any _ _ _ _ _ _ hS2).mono ?_; rw [me]; rintro e w5 ⟨rfl, hB5⟩; replace hK := hK.trans (Kept.of_below hB5 _))
    | (go_at_call 6; refine (lives_any _).mono ?_; rintro e w6 ⟨rfl, hB6⟩; replace hK := hK.trans (Kept.of_below hB6 _)))
  go_ret
  exact ⟨rfl, (hB.below (Nat.le_refl _) (by simp)).trans (hK.below hB.size (by simpa using hB.size))⟩

set_option maxRecDepth 100000 in
set_option maxHeartbeats 2000000 in
/-- where it fits -/
theorem keeps_ok (most m need busy : Nat) (h1 : 1 ≤ most) (h2 : most ≤ 16) (hm : m < 18446744073709551616) (hn : need < 18446744073709551616) (hb : busy < 18446744073709551616) (hf : fits most need busy (elems m) = true) (w : World) :
    Calls Try.prog 4 #[.int .i64 (most : Int), .agg #[.int .u64 (m : Int), .int .u64 (need : Int), .int .u64 (busy : Int)]] w fun e w' => e = .returned (.bool true) ∧ Below w.heap.size w w' := by
  have hB : Below w.heap.size w (w.alloc (.cells #[.int .u64 (m : Int), .int .u64 (need : Int), .int .u64 (busy : Int)] 46)) := (Below.refl _ w).alloc (Nat.le_refl _) _
  have q0 := fun W => new_ok most W h1 h2
  obtain ⟨k1, k2, k3, k4⟩ := keeps hm hn hf
  have hX := mask_lt (used most need busy (elems m))
  have q1 := fun (W : World) p n₀ v h => use_ok p n₀ most v (elems m) need busy hn hb W h hf
  have q2 := fun (W : World) p n₀ v h => mask_any p n₀ most v (used most need busy (elems m)) W h
  generalize used most need busy (elems m) = U at *
  generalize mask U = X at *
  have e1 := u64_and_nat X need hX hn
  rw [k1] at e1
  have e2 := u64_and_nat X busy hX hb
  have e3 := u64_and_nat (X &&& busy) m (and_lt _ _ hX) hm
  rw [k2] at e3
  have e4 := u64_and_nat busy m hb hm
  have e5 := u64_andNot_nat X m hX hm
  have e6 := u64_andNot_nat (X &&& (18446744073709551615 - m)) need (and_lt _ _ hX) hn
  rw [nothing_new hm hn k3] at e6
  have q3 := fun W => refList_any X W hX
  have hl := elems_len X
  have h5 : ((elems X).length : Int) ≤ (most : Int) := by omega
  generalize elems X = E at *
  clear k1 k2 k3 k4
  go_enter Try.func4, Try.ntmps4
  go_wp2
  go_quiet (fail)
  replace hB := (Kept.of_below hB []).trans (kept_drewN [] _ nq)
  generalize (w.alloc (.cells #[.int .u64 (m : Int), .int .u64 (need : Int), .int .u64 (busy : Int)] 46)).drewN nq = W0 at *
  have hS := set_new W0 most h1 h2
  have hK : Kept [W0.heap.size] W0 (W0.alloc (.cells #[.int .i64 (most : Int), .slice none 0 0] 50)) := kept_alloc _ _ _
  go_wp2_with (first
    | (go_at_call 7; refine (q0 _).mono ?_; rintro e w1 ⟨rfl, rfl⟩)
    | (go_at_call 11; refine (load_any _ _ _ _ _ m hm _ hS).mono ?_; rintro e w2 ⟨rfl, ⟨v2, hS2⟩, hK2⟩; clear hS; replace hK := hK.trans hK2)
    | (go_at_call 9; refine (fits_any _ _ _ _ _ need busy hn hb _ hS2).mono ?_; rw [hf]; rintro e w3 ⟨rfl, hB3⟩; replace hS2 := hS2.below hB3; replace hK := hK.trans (Kept.of_below hB3 _))
    | (go_at_call 13; refine (q1 _ _ _ _ hS2).mono ?_; rintro e w4 ⟨rfl, ⟨v4, hS4⟩, hK4⟩; clear hS2; replace hK := hK.trans hK4)
    | (go_at_call 15; refine (q2 _ _ _ _ hS4).mono ?_; rintro e w5 ⟨rfl, hB5⟩; replace hK := hK.trans (Kept.of_below hB5 _))
    | (go_at_call 19; refine (q3 _).mono ?_; rintro e w7 ⟨v7, rfl, hr, hB7⟩; have n7 := nums_of_owns hr (Nat.le_refl _); obtain ⟨a7, cap7, e7, -⟩ := id n7; subst e7; replace hK := hK.trans (Kept.of_below hB7 _); clear hr)
    | (go_at_call 6; refine (lives_any _).mono ?_; rintro e w6 ⟨rfl, hB6⟩; replace hK := hK.trans (Kept.of_below hB6 _)))
  go_ret
  exact ⟨rfl, (hB.below (Nat.le_refl _) (by simp)).trans (hK.below hB.size (by simpa using hB.size))⟩

end Go.Proofs.Ytldeecjocapfgaa.Hot
