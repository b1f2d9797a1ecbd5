import Derived.Test.YtfiofdmefgkloaaGreatBitsMath
/-
  Plain facts: how many extents a data area of so many sectors has; the extents of both sets that it has; who gives.
-/
namespace Go.Proofs.YtfiofdmefgkloaaGreat.Role
open Bits.Math

/-- How many extents a data area of z sectors has. -/
def exts (z : Int) : Nat := min (z / 4).toNat 64
theorem exts_le (z : Int) : exts z ≤ 64 := Nat.min_le_right _ _
/-- The extents of both sets that a data area of z sectors has. -/
def uni (a b : Nat) (z : Int) : Nat := (a ||| b) % 2 ^ exts z
theorem uni_lt (a b : Nat) (z : Int) (ha : a < 18446744073709551616) (hb : b < 18446744073709551616) : uni a b z < 18446744073709551616 :=
  Nat.lt_of_le_of_lt (Nat.mod_le _ _) (Nat.or_lt_two_pow (n := 64) ha hb)
theorem and_row (s n : Nat) : s &&& row 0 n = s % 2 ^ n := by
  unfold row
  rw [Nat.pow_zero, Nat.mul_one, Nat.and_two_pow_sub_one_eq_mod]
/-- Is extent e one that a data area of z sectors has? -/
def there (z : Int) (e : Nat) : Bool := decide (4 * (e : Int) + 4 ≤ z)
/-- The members among the first j ones of a list. -/
def among (l : List Nat) (z : Int) (j : Nat) : List Nat := (l.take j).filter (there z)
def uniL (l : List Nat) (z : Int) (j : Nat) : Nat := ofL ((among l z j).map Int.ofNat)
theorem uniL_lt (l : List Nat) (z : Int) (j : Nat) : uniL l z j < 18446744073709551616 := ofL_lt _
theorem uniL_zero (l : List Nat) (z : Int) : uniL l z 0 = 0 := rfl
theorem uniL_true {l : List Nat} {z : Int} {j e : Nat} (h : l[j]? = some e) (ht : 4 * (e : Int) + 4 ≤ z) : withN (uniL l z j) (e : Int) = uniL l z (j + 1) := by
  unfold uniL among
  rw [List.take_add_one, h, List.filter_append, List.map_append]
  have : there z e = true := by simp [there, ht]
  simp only [Option.toList, List.filter_cons, this, List.filter_nil, if_true, List.map_cons, List.map_nil]
  rw [ofL_snoc]
  rfl
theorem uniL_false {l : List Nat} {z : Int} {j e : Nat} (h : l[j]? = some e) (ht : ¬ 4 * (e : Int) + 4 ≤ z) : uniL l z (j + 1) = uniL l z j := by
  unfold uniL among
  rw [List.take_add_one, h, List.filter_append, List.map_append]
  have : there z e = false := by simp [there, ht]
  simp [Option.toList, this]
theorem uniL_all (s : Nat) (z : Int) : uniL (elems s) z (elems s).length = s % 2 ^ exts z := by
  unfold uniL among
  rw [List.take_length]
  apply Nat.eq_of_testBit_eq
  intro j
  have hm : ∀ i ∈ (elems s).filter (there z), i < 64 := fun i hi => elems_lt s i (List.mem_filter.1 hi).1
  unfold ofL
  rw [testBit_foldl j _ 0 hm, Nat.testBit_mod_two_pow, Nat.zero_testBit, Bool.false_or]
  rw [Bool.eq_iff_iff]
  simp only [decide_eq_true_eq, List.mem_filter, Bool.and_eq_true]
  unfold elems lst there exts
  simp only [List.mem_filter, List.mem_range, decide_eq_true_eq]
  constructor
  · rintro ⟨⟨h1, h2⟩, h3⟩
    exact ⟨by omega, h2⟩
  · rintro ⟨h1, h2⟩
    exact ⟨⟨by omega, h2⟩, by omega⟩
/-- Four extents at most. -/
theorem four (s : Nat) : (elems (s % 16)).length ≤ 4 := by
  have h : ∀ y, y < 16 → (elems y).length ≤ 4 := by decide +kernel
  exact h _ (Nat.mod_lt _ (by omega))
theorem uni256 (a b : Nat) (ha : a < 18446744073709551616) (hb : b < 18446744073709551616) : uni a b 256 = a ||| b :=
  Nat.mod_eq_of_lt (Nat.or_lt_two_pow (n := 64) ha hb)
theorem uni0 (a b : Nat) : uni a b 0 = 0 := Nat.mod_one _
theorem uni16 (a b : Nat) : uni a b 16 = (a ||| b) % 16 := rfl
/-- Who gives. -/
def gives (who : Int) (mine theirs : Bool) : Bool := if mine = theirs then decide (who = 0) else mine
end Go.Proofs.YtfiofdmefgkloaaGreat.Role

