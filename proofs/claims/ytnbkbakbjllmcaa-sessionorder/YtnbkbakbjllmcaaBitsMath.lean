/-
  Plain facts on natural numbers below 2^64, read as sets of the numbers 0 to 63: the count by halves is the number of bits; the least bit; the list of bits; a set is made anew from its list.
-/
namespace Go.Proofs.Ytnbkbakbjllmcaa.Bits.Math

/-- The sum of n digits of k bits each. -/
def ds (k : Nat) : Nat → Nat → Nat
  | 0, _ => 0
  | n + 1, x => x % 2 ^ k + ds k n (x / 2 ^ k)

/-- n fields of 2h bits, the lower half of each set. -/
def mask (h : Nat) : Nat → Nat
  | 0 => 0
  | n + 1 => (2 ^ h - 1) + 2 ^ (2 * h) * mask h n

/-- One step of the count. -/
def half (h n x : Nat) : Nat := (x &&& mask h n) + ((x / 2 ^ h) &&& mask h n)










def c1 (x : Nat) : Nat := half 1 32 x
def c2 (x : Nat) : Nat := half 2 16 (c1 x)
def c3 (x : Nat) : Nat := half 4 8 (c2 x)
def c4 (x : Nat) : Nat := half 8 4 (c3 x)
def c5 (x : Nat) : Nat := half 16 2 (c4 x)
def c6 (x : Nat) : Nat := half 32 1 (c5 x)


theorem m1 : mask 1 32 = 6148914691236517205 := by decide +kernel
theorem m2 : mask 2 16 = 3689348814741910323 := by decide +kernel
theorem m3 : mask 4 8 = 1085102592571150095 := by decide +kernel










/-- The bits of x - 1 that x does not have. -/
def below (x : Nat) : Nat := (x - 1) &&& (18446744073709551615 - x)

/-- The same over n bits. -/
def bel (n x : Nat) : Nat := (x - 1) &&& (2 ^ n - 1 - x)






















/-- The set of n alone. -/
def one (n : Int) : Nat := if 0 ≤ n ∧ n ≤ 63 then 2 ^ n.toNat else 0
/-- Is n in the set s? -/
def has (s : Nat) (n : Int) : Bool := decide (0 ≤ n ∧ n ≤ 63) && s.testBit n.toNat
def without (s : Nat) (n : Int) : Nat := s &&& (18446744073709551615 - one n)








/-- The set of n numbers from f on. -/
def row (f n : Nat) : Nat := (2 ^ n - 1) * 2 ^ f

end Go.Proofs.Ytnbkbakbjllmcaa.Bits.Math

