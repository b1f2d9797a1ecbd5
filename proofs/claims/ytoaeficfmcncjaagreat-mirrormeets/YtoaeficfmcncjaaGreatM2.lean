/-
 Plain facts of rows of sectors and of sets of the numbers 0 to 63: where two rows meet, which extents a row touches, and that the set of these is one row of bits.
-/
namespace Go.Proofs.YtoaeficfmcncjaaGreat.Span.Math
def one (n : Int) : Nat := if 0 ≤ n ∧ n ≤ 63 then 2 ^ n.toNat else 0
def withN (s : Nat) (n : Int) : Nat := s ||| one n
theorem one_in {n : Int} (h0 : 0 ≤ n) (h : n ≤ 63) : one n = 2 ^ n.toNat := by unfold one; rw [if_pos ⟨h0, h⟩]
theorem one_lt (n : Int) : one n < 18446744073709551616 := by
 unfold one; split
 ·have := Nat.pow_lt_pow_right (a := 2) (by omega) (show n.toNat < 64 by omega); simpa using this
 ·omega
theorem withN_lt (s : Nat) (n : Int) (h : s < 18446744073709551616) : withN s n < 18446744073709551616 := Nat.or_lt_two_pow (n := 64) h (one_lt n)
def ofL (l : List Int) : Nat := l.foldl withN 0
theorem foldl_lt (l : List Int) : ∀ s, s < 18446744073709551616 → l.foldl withN s < 18446744073709551616 := by
 induction l with
 | nil => intro s h; exact h
 | cons x l ih => intro s h; exact ih _ (withN_lt s x h)
theorem ofL_lt (l : List Int) : ofL l < 18446744073709551616 := foldl_lt l 0 (by omega)
theorem testBit_foldl (j : Nat) : ∀ (l : List Nat) (s : Nat), (∀ i ∈ l, i < 64) → ((l.map Int.ofNat).foldl withN s).testBit j = (s.testBit j || decide (j ∈ l)) := by
 intro l
 induction l with
 | nil => intro s _; simp
 | cons x l ih =>
  intro s h
  have hx := h x (by simp)
  rw [List.map_cons, List.foldl_cons, ih _ (fun i hi => h i (by simp [hi]))]
  unfold withN
  rw [one_in (by simp) (by simp; omega)]
  simp only [Int.ofNat_eq_natCast, Int.toNat_natCast, Nat.testBit_or, Nat.testBit_two_pow, List.mem_cons]
  by_cases e : x = j
  ·subst e; simp
  ·have : ¬ j = x := fun h => e h.symm
   simp [e, this]
def row (f n : Nat) : Nat := (2 ^ n - 1) * 2 ^ f
theorem row_lt (f n : Nat) : row f n < 2 ^ (f + n) := by
 unfold row
 have a := Nat.two_pow_pos f
 have b := Nat.two_pow_pos n
 rw [Nat.pow_add, Nat.mul_comm (2 ^ f)]
 exact Nat.mul_lt_mul_of_pos_right (by omega) a
theorem row_lt64 {f n : Nat} (h : f + n ≤ 64) : row f n < 18446744073709551616 :=
 Nat.lt_of_lt_of_le (row_lt f n) (Nat.pow_le_pow_right (n := 2) (by omega) h)
theorem full_div : ∀ n, n < 65 → 18446744073709551615 / 2 ^ (64 - n) = 2 ^ n - 1 := by decide +kernel
theorem testBit_row (f n j : Nat) : (row f n).testBit j = decide (f ≤ j ∧ j < f + n) := by
 unfold row
 rw [Nat.mul_comm, Nat.testBit_two_pow_mul, Nat.testBit_two_pow_sub_one]
 by_cases h : f ≤ j
 ·by_cases g : j < f + n
  ·simp [h, g]; omega
  ·simp [h, g]; omega
 ·simp [h]
def plain (o l : Int) : Bool := decide (0 ≤ o ∧ o ≤ 1073741824 ∧ 0 ≤ l ∧ l ≤ 1073741824)
theorem plain_of {o l : Int} (h : 0 ≤ o ∧ o ≤ 1073741824 ∧ 0 ≤ l ∧ l ≤ 1073741824) : plain o l = true := decide_eq_true h
theorem plain_not {o l : Int} (h : ¬ (0 ≤ o ∧ o ≤ 1073741824 ∧ 0 ≤ l ∧ l ≤ 1073741824)) : plain o l = false := decide_eq_false h
theorem of_plain {o l : Int} (h : plain o l = true) : 0 ≤ o ∧ o ≤ 1073741824 ∧ 0 ≤ l ∧ l ≤ 1073741824 := of_decide_eq_true h
def endN (o l : Int) : Int := if plain o l then o + l else 0
def good (o l n : Int) : Bool := plain o l && decide (1 ≤ l ∧ o + l ≤ n)
def over (o l p m : Int) : Bool := plain o l && (plain p m && decide (max o p < min (o + l) (p + m)))
def mOff (o l p m : Int) : Int := if over o l p m then max o p else 0
def mLen (o l p m : Int) : Int := if over o l p m then min (o + l) (p + m) - max o p else 0
def holds (o l p m : Int) : Bool := over o l p m && (mOff o l p m == p && mLen o l p m == m)
theorem over_comm (o l p m : Int) : over o l p m = over p m o l := by
 unfold over
 rw [Int.max_comm o p, Int.min_comm (o + l) (p + m)]
 cases plain o l <;> cases plain p m <;> simp
theorem over_of_holds {o l p m : Int} (h : holds o l p m = true) : over o l p m = true := by
 unfold holds at h; simp at h; exact h.1
theorem over_plain {o l p m : Int} (h : over o l p m = true) : plain o l = true ∧ plain p m = true ∧ max o p < min (o + l) (p + m) := by
 unfold over at h; simpa using h
theorem over_true {o l p m : Int} (h : plain o l = true) (h' : plain p m = true) (g : max o p < min (o + l) (p + m)) : over o l p m = true := by
 unfold over; simp [h, h', g]
theorem over_false {o l p m : Int} (h : plain o l = false ∨ plain p m = false ∨ min (o + l) (p + m) ≤ max o p) : over o l p m = false := by
 cases e : over o l p m with
 | false => rfl
 | true =>
  obtain ⟨a, b, c⟩ := over_plain e
  rcases h with h | h | h
  ·rw [a] at h; cases h
  ·rw [b] at h; cases h
  ·omega
theorem mOff_true {o l p m : Int} (h : over o l p m = true) : mOff o l p m = max o p := by unfold mOff; rw [if_pos h]
theorem mLen_true {o l p m : Int} (h : over o l p m = true) : mLen o l p m = min (o + l) (p + m) - max o p := by unfold mLen; rw [if_pos h]
theorem mOff_false {o l p m : Int} (h : over o l p m = false) : mOff o l p m = 0 := by unfold mOff; rw [h]; rfl
theorem mLen_false {o l p m : Int} (h : over o l p m = false) : mLen o l p m = 0 := by unfold mLen; rw [h]; rfl
def hit (o l : Int) (e : Nat) : Bool := over o l (4 * e) 4
def hits (o l : Int) (k : Nat) : List Nat := (List.range k).filter (hit o l)
def ext (o l : Int) : Nat := ofL ((hits o l 64).map Int.ofNat)
theorem ext_lt (o l : Int) : ext o l < 18446744073709551616 := ofL_lt _
theorem testBit_ext (o l : Int) (j : Nat) : (ext o l).testBit j = (decide (j < 64) && hit o l j) := by
 unfold ext ofL
 rw [testBit_foldl j _ _ (by intro i hi; simp [hits] at hi; exact hi.1)]
 simp [hits]
theorem hit_iff {o l : Int} {j : Nat} (hj : j < 64) : hit o l j = true ↔ plain o l = true ∧ o < 4 * j + 4 ∧ 4 * (j : Int) < o + l ∧ 0 < l := by
 unfold hit
 constructor
 ·intro h
  obtain ⟨a, b, c⟩ := over_plain h
  have := of_plain a
  exact ⟨a, by omega, by omega, by omega⟩
 ·rintro ⟨a, b, c, d⟩
  have := of_plain a
  exact over_true a (plain_of (by omega)) (by omega)
theorem ext_zero {o l : Int} (h : plain o l = false ∨ l ≤ 0 ∨ 256 ≤ o) : ext o l = 0 := by
 apply Nat.eq_of_testBit_eq
 intro j
 rw [testBit_ext, Nat.zero_testBit]
 by_cases hj : j < 64
 ·cases e : hit o l j with
  | false => simp
  | true =>
   obtain ⟨a, b, c, d⟩ := (hit_iff hj).1 e
   rcases h with h | h | h
   ·rw [a] at h; cases h
   ·omega
   ·omega
 ·simp [hj]
theorem ext_row {o l : Int} (h : plain o l = true) (hl : 1 ≤ l) (ho : o < 256) :
  ext o l = row (o / 4).toNat (min ((o + l - 1) / 4 - o / 4 + 1).toNat (64 - (o / 4).toNat)) := by
 have hp := of_plain h
 apply Nat.eq_of_testBit_eq
 intro j
 rw [testBit_ext, testBit_row]
 by_cases hj : j < 64
 ·have := @hit_iff o l j hj
  cases e : hit o l j with
  | false =>
   rw [e] at this
   simp
   intro h1
   have h3 : ¬ (o < 4 * j + 4 ∧ 4 * (j : Int) < o + l ∧ 0 < l) := fun g => by
    have := this.2 ⟨h, g⟩
    cases this
   omega
  | true =>
   obtain ⟨a, b, c, d⟩ := this.1 e
   simp [hj]
   omega
 ·simp [hj]
  omega
end Go.Proofs.YtoaeficfmcncjaaGreat.Span.Math
