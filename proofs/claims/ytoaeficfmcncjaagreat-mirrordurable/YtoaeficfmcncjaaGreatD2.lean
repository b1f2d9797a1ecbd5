/-
 Plain facts of rows of sectors and of sets of the numbers 0 to 63: where two rows meet, which extents a row touches, and that the set of these is one row of bits.
-/
namespace Go.Proofs.YtoaeficfmcncjaaGreat.Span.Math

theorem and_half (a b : Nat) : (a &&& b) / 2 = (a / 2) &&& (b / 2) := by
 have := Nat.shiftRight_and_distrib (a := a) (b := b) (i := 1)
 simpa [Nat.shiftRight_succ] using this

theorem and_mod2 (a b : Nat) : (a &&& b) % 2 = (a % 2) * (b % 2) := by
 have := Nat.and_mod_two_pow (a := a) (b := b) (n := 1)
 simp at this
 rw [this]
 rcases Nat.mod_two_eq_zero_or_one a with h | h <;> rcases Nat.mod_two_eq_zero_or_one b with h' | h' <;> simp [h, h']

theorem or_half (a b : Nat) : (a ||| b) / 2 = (a / 2) ||| (b / 2) := by
 have := Nat.shiftRight_or_distrib (a := a) (b := b) (i := 1)
 simpa [Nat.shiftRight_succ] using this

theorem or_mod2 (a b : Nat) : (a ||| b) % 2 = max (a % 2) (b % 2) := by
 have := Nat.or_mod_two_pow (a := a) (b := b) (n := 1)
 simp at this
 rw [this]
 rcases Nat.mod_two_eq_zero_or_one a with h | h <;> rcases Nat.mod_two_eq_zero_or_one b with h' | h' <;> simp [h, h']

theorem or_add_and : ∀ m s p, s < 2 ^ m → p < 2 ^ m → (s ||| p) + (s &&& p) = s + p
 | 0, s, p, h1, h2 => by
  have a : s = 0 := by simpa using h1
  have b : p = 0 := by simpa using h2
  subst a b; rfl
 | m + 1, s, p, h1, h2 => by
  have e : 2 ^ (m + 1) = 2 * 2 ^ m := by rw [Nat.pow_succ]; omega
  have ih := or_add_and m (s / 2) (p / 2) (by omega) (by omega)
  rw [← or_half, ← and_half] at ih
  have a := or_mod2 s p
  have b := and_mod2 s p
  rcases Nat.mod_two_eq_zero_or_one s with h | h <;> rcases Nat.mod_two_eq_zero_or_one p with h' | h' <;> rw [h, h'] at a b <;> omega

theorem and_bit (i x : Nat) : x &&& 2 ^ i = x / 2 ^ i % 2 * 2 ^ i := by
 have h : x.testBit i = decide (x / 2 ^ i % 2 = 1) := Nat.testBit_eq_decide_div_mod_eq
 apply Nat.eq_of_testBit_eq
 intro j
 rw [Nat.testBit_and, Nat.testBit_two_pow]
 rcases Nat.mod_two_eq_zero_or_one (x / 2 ^ i) with h' | h'
 ·rw [h']
  simp [h'] at h
  simp
  intro hj e; subst e; rw [h] at hj; cases hj
 ·rw [h', Nat.one_mul, Nat.testBit_two_pow]
  simp [h'] at h
  by_cases e : i = j
  ·subst e; simp [h]
  ·simp [e]

def one (n : Int) : Nat := if 0 ≤ n ∧ n ≤ 63 then 2 ^ n.toNat else 0

def has (s : Nat) (n : Int) : Bool := decide (0 ≤ n ∧ n ≤ 63) && s.testBit n.toNat

def withN (s : Nat) (n : Int) : Nat := s ||| one n

theorem one_in {n : Int} (h0 : 0 ≤ n) (h : n ≤ 63) : one n = 2 ^ n.toNat := by unfold one; rw [if_pos ⟨h0, h⟩]

theorem one_out {n : Int} (h : n < 0 ∨ 63 < n) : one n = 0 := by unfold one; rw [if_neg (by omega)]

theorem one_lt (n : Int) : one n < 18446744073709551616 := by
 unfold one; split
 ·have := Nat.pow_lt_pow_right (a := 2) (by omega) (show n.toNat < 64 by omega); simpa using this
 ·omega

theorem withN_lt (s : Nat) (n : Int) (h : s < 18446744073709551616) : withN s n < 18446744073709551616 := Nat.or_lt_two_pow (n := 64) h (one_lt n)

theorem has_in (s : Nat) {n : Int} (h0 : 0 ≤ n) (h : n ≤ 63) : has s n = decide (s / 2 ^ n.toNat % 2 = 1) := by
 unfold has; rw [Nat.testBit_eq_decide_div_mod_eq]; simp [h0, h]

theorem has_out (s : Nat) {n : Int} (h : n < 0 ∨ 63 < n) : has s n = false := by
 unfold has; simp; intro a b; omega

theorem has_and (s : Nat) (n : Int) : has s n = decide (s &&& one n ≠ 0) := by
 by_cases h : 0 ≤ n ∧ n ≤ 63
 ·rw [has_in s h.1 h.2, one_in h.1 h.2, and_bit]
  have p := Nat.two_pow_pos n.toNat
  rcases Nat.mod_two_eq_zero_or_one (s / 2 ^ n.toNat) with h' | h' <;> simp [h']
 ·rw [has_out s (by omega), one_out (by omega)]; simp

theorem withN_true {s : Nat} {n : Int} (hs : s < 18446744073709551616) (h : has s n = true) : withN s n = s := by
 have e := or_add_and 64 s (one n) hs (one_lt n)
 by_cases g : 0 ≤ n ∧ n ≤ 63
 ·rw [has_in s g.1 g.2] at h
  have h' : s / 2 ^ n.toNat % 2 = 1 := by simpa using h
  have b := and_bit n.toNat s
  rw [h', Nat.one_mul, ← one_in g.1 g.2] at b
  unfold withN; omega
 ·rw [has_out s (by omega)] at h; cases h

theorem withN_false {s : Nat} {n : Int} (hs : s < 18446744073709551616) (h : has s n = false) : withN s n = s + one n := by
 have e := or_add_and 64 s (one n) hs (one_lt n)
 have b : s &&& one n = 0 := by rw [has_and] at h; simpa using h
 unfold withN; omega

def ofL (l : List Int) : Nat := l.foldl withN 0

theorem ofL_snoc (l : List Int) (x : Int) : ofL (l ++ [x]) = withN (ofL l) x := by simp [ofL]

theorem foldl_lt (l : List Int) : ∀ s, s < 18446744073709551616 → l.foldl withN s < 18446744073709551616 := by
 induction l with
 | nil => intro s h; exact h
 | cons x l ih => intro s h; exact ih _ (withN_lt s x h)

theorem ofL_lt (l : List Int) : ofL l < 18446744073709551616 := foldl_lt l 0 (by omega)

theorem testBit_foldl (j : Nat) : ∀ (l : List Nat) (s : Nat), (∀ i ∈ l, i < 64) → ((l.map Int.ofNat).foldl withN s).testBit j = (s.testBit j || decide (j ∈ l)) := by
 intro l
 induction l with
 | nil => intro s _; simp
 | cons x l ih =>
  intro s h
  have hx := h x (by simp)
  rw [List.map_cons, List.foldl_cons, ih _ (fun i hi => h i (by simp [hi]))]
  unfold withN
  rw [one_in (by simp) (by simp; omega)]
  simp only [Int.ofNat_eq_natCast, Int.toNat_natCast, Nat.testBit_or, Nat.testBit_two_pow, List.mem_cons]
  by_cases e : x = j
  ·subst e; simp
  ·have : ¬ j = x := fun h => e h.symm
   simp [e, this]

def row (f n : Nat) : Nat := (2 ^ n - 1) * 2 ^ f


theorem row_lt (f n : Nat) : row f n < 2 ^ (f + n) := by
 unfold row
 have a := Nat.two_pow_pos f
 have b := Nat.two_pow_pos n
 rw [Nat.pow_add, Nat.mul_comm (2 ^ f)]
 exact Nat.mul_lt_mul_of_pos_right (by omega) a

theorem row_lt64 {f n : Nat} (h : f + n ≤ 64) : row f n < 18446744073709551616 :=
 Nat.lt_of_lt_of_le (row_lt f n) (Nat.pow_le_pow_right (n := 2) (by omega) h)

theorem full_div : ∀ n, n < 65 → 18446744073709551615 / 2 ^ (64 - n) = 2 ^ n - 1 := by decide +kernel

theorem testBit_row (f n j : Nat) : (row f n).testBit j = decide (f ≤ j ∧ j < f + n) := by
 unfold row
 rw [Nat.mul_comm, Nat.testBit_two_pow_mul, Nat.testBit_two_pow_sub_one]
 by_cases h : f ≤ j
 ·by_cases g : j < f + n
  ·simp [h, g]; omega
  ·simp [h, g]; omega
 ·simp [h]

def plain (o l : Int) : Bool := decide (0 ≤ o ∧ o ≤ 1073741824 ∧ 0 ≤ l ∧ l ≤ 1073741824)
theorem plain_of {o l : Int} (h : 0 ≤ o ∧ o ≤ 1073741824 ∧ 0 ≤ l ∧ l ≤ 1073741824) : plain o l = true := decide_eq_true h
theorem plain_not {o l : Int} (h : ¬ (0 ≤ o ∧ o ≤ 1073741824 ∧ 0 ≤ l ∧ l ≤ 1073741824)) : plain o l = false := decide_eq_false h
theorem of_plain {o l : Int} (h : plain o l = true) : 0 ≤ o ∧ o ≤ 1073741824 ∧ 0 ≤ l ∧ l ≤ 1073741824 := of_decide_eq_true h

def endN (o l : Int) : Int := if plain o l then o + l else 0
def good (o l n : Int) : Bool := plain o l && decide (1 ≤ l ∧ o + l ≤ n)

def over (o l p m : Int) : Bool := plain o l && (plain p m && decide (max o p < min (o + l) (p + m)))
def mOff (o l p m : Int) : Int := if over o l p m then max o p else 0
def mLen (o l p m : Int) : Int := if over o l p m then min (o + l) (p + m) - max o p else 0
def holds (o l p m : Int) : Bool := over o l p m && (mOff o l p m == p && mLen o l p m == m)

theorem over_comm (o l p m : Int) : over o l p m = over p m o l := by
 unfold over
 rw [Int.max_comm o p, Int.min_comm (o + l) (p + m)]
 cases plain o l <;> cases plain p m <;> simp
theorem over_plain {o l p m : Int} (h : over o l p m = true) : plain o l = true ∧ plain p m = true ∧ max o p < min (o + l) (p + m) := by
 unfold over at h; simpa using h
theorem over_true {o l p m : Int} (h : plain o l = true) (h' : plain p m = true) (g : max o p < min (o + l) (p + m)) : over o l p m = true := by
 unfold over; simp [h, h', g]
theorem over_false {o l p m : Int} (h : plain o l = false ∨ plain p m = false ∨ min (o + l) (p + m) ≤ max o p) : over o l p m = false := by
 cases e : over o l p m with
 | false => rfl
 | true =>
  obtain ⟨a, b, c⟩ := over_plain e
  rcases h with h | h | h
  ·rw [a] at h; cases h
  ·rw [b] at h; cases h
  ·omega
theorem mOff_true {o l p m : Int} (h : over o l p m = true) : mOff o l p m = max o p := by unfold mOff; rw [if_pos h]
theorem mLen_true {o l p m : Int} (h : over o l p m = true) : mLen o l p m = min (o + l) (p + m) - max o p := by unfold mLen; rw [if_pos h]
theorem mOff_false {o l p m : Int} (h : over o l p m = false) : mOff o l p m = 0 := by unfold mOff; rw [h]; rfl
theorem mLen_false {o l p m : Int} (h : over o l p m = false) : mLen o l p m = 0 := by unfold mLen; rw [h]; rfl

def hit (o l : Int) (e : Nat) : Bool := over o l (4 * e) 4
def hits (o l : Int) (k : Nat) : List Nat := (List.range k).filter (hit o l)
def ext (o l : Int) : Nat := ofL ((hits o l 64).map Int.ofNat)

theorem hits_succ (o l : Int) (k : Nat) : hits o l (k + 1) = hits o l k ++ (if hit o l k then [k] else []) := by
 unfold hits
 rw [List.range_succ, List.filter_append]
 cases h : hit o l k <;> simp [h]
theorem hits_len (o l : Int) (k : Nat) : (hits o l k).length ≤ k := by
 have := List.length_filter_le (hit o l) (List.range k)
 simpa [hits] using this
theorem ext_lt (o l : Int) : ext o l < 18446744073709551616 := ofL_lt _
theorem testBit_ext (o l : Int) (j : Nat) : (ext o l).testBit j = (decide (j < 64) && hit o l j) := by
 unfold ext ofL
 rw [testBit_foldl j _ _ (by intro i hi; simp [hits] at hi; exact hi.1)]
 simp [hits]

theorem hit_iff {o l : Int} {j : Nat} (hj : j < 64) : hit o l j = true ↔ plain o l = true ∧ o < 4 * j + 4 ∧ 4 * (j : Int) < o + l ∧ 0 < l := by
 unfold hit
 constructor
 ·intro h
  obtain ⟨a, b, c⟩ := over_plain h
  have := of_plain a
  exact ⟨a, by omega, by omega, by omega⟩
 ·rintro ⟨a, b, c, d⟩
  have := of_plain a
  exact over_true a (plain_of (by omega)) (by omega)

theorem ext_zero {o l : Int} (h : plain o l = false ∨ l ≤ 0 ∨ 256 ≤ o) : ext o l = 0 := by
 apply Nat.eq_of_testBit_eq
 intro j
 rw [testBit_ext, Nat.zero_testBit]
 by_cases hj : j < 64
 ·cases e : hit o l j with
  | false => simp
  | true =>
   obtain ⟨a, b, c, d⟩ := (hit_iff hj).1 e
   rcases h with h | h | h
   ·rw [a] at h; cases h
   ·omega
   ·omega
 ·simp [hj]

theorem ext_row {o l : Int} (h : plain o l = true) (hl : 1 ≤ l) (ho : o < 256) :
  ext o l = row (o / 4).toNat (min ((o + l - 1) / 4 - o / 4 + 1).toNat (64 - (o / 4).toNat)) := by
 have hp := of_plain h
 apply Nat.eq_of_testBit_eq
 intro j
 rw [testBit_ext, testBit_row]
 by_cases hj : j < 64
 ·have := @hit_iff o l j hj
  cases e : hit o l j with
  | false =>
   rw [e] at this
   simp
   intro h1
   have h3 : ¬ (o < 4 * j + 4 ∧ 4 * (j : Int) < o + l ∧ 0 < l) := fun g => by
    have := this.2 ⟨h, g⟩
    cases this
   omega
  | true =>
   obtain ⟨a, b, c, d⟩ := this.1 e
   simp [hj]
   omega
 ·simp [hj]
  omega


end Go.Proofs.YtoaeficfmcncjaaGreat.Span.Math

