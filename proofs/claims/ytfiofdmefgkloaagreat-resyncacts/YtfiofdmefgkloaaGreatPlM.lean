import Derived.Test.YtfiofdmefgkloaaGreatBitsMath
/-
  Plain: what is left of a mask when some numbers were told, and how many of them were left.
-/
namespace Go.Proofs.YtfiofdmefgkloaaGreat.Plan
open Bits.Math

/-- What is left of the mask m when zs were told. -/
def leftN (m : Nat) (zs : List Int) : Nat := m &&& (18446744073709551615 - ofL zs)
theorem comp_bit {x : Nat} (h : x < 18446744073709551616) (j : Nat) : (18446744073709551615 - x).testBit j = (decide (j < 64) && !x.testBit j) := by
  have := Nat.testBit_two_pow_sub_succ (n := 64) h j
  rw [← this]
  congr 1
  omega
theorem left_bit (m : Nat) (zs : List Int) (j : Nat) : (leftN m zs).testBit j = (m.testBit j && (decide (j < 64) && !(ofL zs).testBit j)) := by
  unfold leftN
  rw [Nat.testBit_and, comp_bit (ofL_lt zs)]
theorem leftN_lt (m : Nat) (zs : List Int) (h : m < 18446744073709551616) : leftN m zs < 18446744073709551616 :=
  Nat.lt_of_le_of_lt Nat.and_le_left h
theorem leftN_nil (m : Nat) (h : m < 18446744073709551616) : leftN m [] = m := by
  apply Nat.eq_of_testBit_eq
  intro j
  rw [left_bit]
  by_cases hj : j < 64
  · simp [hj, ofL]
  · have : m.testBit j = false := Nat.testBit_lt_two_pow (Nat.lt_of_lt_of_le (show m < 2 ^ 64 from h) (Nat.pow_le_pow_right (by omega) (by omega)))
    simp [this]
theorem leftN_snoc (m : Nat) (zs : List Int) (z : Int) : leftN m (zs ++ [z]) = without (leftN m zs) z := by
  apply Nat.eq_of_testBit_eq
  intro j
  unfold without
  rw [Nat.testBit_and, left_bit, left_bit, comp_bit (one_lt z), ofL_snoc]
  unfold withN
  rw [Nat.testBit_or]
  cases m.testBit j <;> cases decide (j < 64) <;> cases (ofL zs).testBit j <;> cases (one z).testBit j <;> rfl
/-- What a Have leaves. -/
theorem have_left {s : Nat} {z : Int} (hs : s < 18446744073709551616) (h : has s z = false) : without s z = s := without_false hs h
theorem pop_pow : ∀ k, k < 64 → pop (2 ^ k) = 1 := by decide +kernel
theorem pop_zero : pop 0 = 0 := by decide +kernel
theorem pop_parts {a b : Nat} (h : a &&& b = 0) : pop (a ||| b) = pop a + pop b := by
  have := pop_or_and a b
  rw [h, pop_zero] at this
  omega
theorem pop_without {s : Nat} {z : Int} (hs : s < 18446744073709551616) (h : has s z = true) : pop (without s z) + 1 = pop s := by
  have h' := h
  unfold has at h
  simp only [Bool.and_eq_true, decide_eq_true_eq] at h
  have e1 : pop (one z) = 1 := by rw [one_in h.1.1 h.1.2]; exact pop_pow _ (by omega)
  have e2 : without s z &&& one z = 0 := by
    apply Nat.eq_of_testBit_eq
    intro j
    unfold without
    rw [Nat.testBit_and, Nat.testBit_and, comp_bit (one_lt z), Nat.zero_testBit]
    cases s.testBit j <;> cases decide (j < 64) <;> cases (one z).testBit j <;> rfl
  have e3 : without s z ||| one z = s := by
    apply Nat.eq_of_testBit_eq
    intro j
    unfold without
    rw [Nat.testBit_or, Nat.testBit_and, comp_bit (one_lt z), one_in h.1.1 h.1.2, Nat.testBit_two_pow]
    by_cases e : z.toNat = j
    · subst e
      simp [h.2]
    · by_cases hj : j < 64
      · simp [e, hj]
      · have : s.testBit j = false := Nat.testBit_lt_two_pow (Nat.lt_of_lt_of_le (show s < 2 ^ 64 from hs) (Nat.pow_le_pow_right (by omega) (by omega)))
        simp [e, this]
  have := pop_parts e2
  rw [e3, e1] at this
  omega
/-- What was told and what is left make the mask. -/
theorem pop_left (m : Nat) (zs : List Int) (h : m < 18446744073709551616) : pop (m &&& ofL zs) + pop (leftN m zs) = pop m := by
  have e2 : (m &&& ofL zs) &&& leftN m zs = 0 := by
    apply Nat.eq_of_testBit_eq
    intro j
    rw [Nat.testBit_and, Nat.testBit_and, left_bit, Nat.zero_testBit]
    cases m.testBit j <;> cases decide (j < 64) <;> cases (ofL zs).testBit j <;> rfl
  have e3 : (m &&& ofL zs) ||| leftN m zs = m := by
    apply Nat.eq_of_testBit_eq
    intro j
    rw [Nat.testBit_or, Nat.testBit_and, left_bit]
    by_cases hj : j < 64
    · cases m.testBit j <;> cases (ofL zs).testBit j <;> simp [hj]
    · have : m.testBit j = false := Nat.testBit_lt_two_pow (Nat.lt_of_lt_of_le (show m < 2 ^ 64 from h) (Nat.pow_le_pow_right (by omega) (by omega)))
      simp [this]
  have := pop_parts e2
  rw [e3] at this
  omega
end Go.Proofs.YtfiofdmefgkloaaGreat.Plan

