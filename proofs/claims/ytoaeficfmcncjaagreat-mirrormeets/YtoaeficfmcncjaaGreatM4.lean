/-
 Plain facts on natural numbers below 2^64, read as sets of the numbers 0 to 63: the count by halves is the number of bits; the least bit; the list of bits; a set is made anew from its list.
-/
namespace Go.Proofs.YtoaeficfmcncjaaGreat.Bits.Math
def ds (k : Nat) : Nat → Nat → Nat
 | 0, _ => 0
 | n + 1, x => x % 2 ^ k + ds k n (x / 2 ^ k)
def mask (h : Nat) : Nat → Nat
 | 0 => 0
 | n + 1 => (2 ^ h - 1) + 2 ^ (2 * h) * mask h n
def half (h n x : Nat) : Nat := (x &&& mask h n) + ((x / 2 ^ h) &&& mask h n)
theorem mask_mod (h n : Nat) : mask h (n + 1) % 2 ^ (2 * h) = 2 ^ h - 1 := by
 have hp : 2 ^ h - 1 < 2 ^ (2 * h) := by
  have h1 : 2 ^ h ≤ 2 ^ (2 * h) := Nat.pow_le_pow_right (by omega) (by omega)
  have h2 : 0 < 2 ^ h := Nat.two_pow_pos h
  omega
 simp [mask, Nat.add_mul_mod_self_left, Nat.mod_eq_of_lt hp]
theorem mask_div (h n : Nat) : mask h (n + 1) / 2 ^ (2 * h) = mask h n := by
 have hp : 2 ^ h - 1 < 2 ^ (2 * h) := by
  have h1 : 2 ^ h ≤ 2 ^ (2 * h) := Nat.pow_le_pow_right (by omega) (by omega)
  have h2 : 0 < 2 ^ h := Nat.two_pow_pos h
  omega
 simp only [mask]
 rw [Nat.add_mul_div_left _ _ (Nat.two_pow_pos _), Nat.div_eq_of_lt hp, Nat.zero_add]
theorem and_mask_mod (h n x : Nat) : (x &&& mask h (n + 1)) % 2 ^ (2 * h) = x % 2 ^ h := by
 rw [Nat.and_mod_two_pow, mask_mod, Nat.and_two_pow_sub_one_eq_mod, Nat.mod_mod_of_dvd]
 exact Nat.pow_dvd_pow 2 (by omega)
theorem and_mask_div (h n x : Nat) : (x &&& mask h (n + 1)) / 2 ^ (2 * h) = (x / 2 ^ (2 * h)) &&& mask h n := by
 rw [← Nat.shiftRight_eq_div_pow, Nat.shiftRight_and_distrib, Nat.shiftRight_eq_div_pow, Nat.shiftRight_eq_div_pow, mask_div]
theorem add_parts (B a b : Nat) (hB : 0 < B) (h : a % B + b % B < B) : (a + b) % B = a % B + b % B ∧ (a + b) / B = a / B + b / B := by
 have e : a + b = (a % B + b % B) + B * (a / B + b / B) := by
  have h1 := Nat.mod_add_div a B
  have h2 := Nat.mod_add_div b B
  rw [Nat.mul_add]; omega
 constructor
 ·rw [e, Nat.add_mul_mod_self_left, Nat.mod_eq_of_lt h]
 ·rw [e, Nat.add_mul_div_left _ _ hB, Nat.div_eq_of_lt h, Nat.zero_add]
theorem half_succ (h n x : Nat) (h1 : 1 ≤ h) :
  half h (n + 1) x % 2 ^ (2 * h) = x % 2 ^ h + x / 2 ^ h % 2 ^ h ∧ half h (n + 1) x / 2 ^ (2 * h) = half h n (x / 2 ^ (2 * h)) := by
 have hlt : x % 2 ^ h + x / 2 ^ h % 2 ^ h < 2 ^ (2 * h) := by
  have a := Nat.mod_lt x (Nat.two_pow_pos h)
  have b := Nat.mod_lt (x / 2 ^ h) (Nat.two_pow_pos h)
  have e : 2 ^ (2 * h) = 2 ^ h * 2 ^ h := by rw [← Nat.pow_add]; congr 1; omega
  have c : 2 ≤ 2 ^ h := by
   have := Nat.pow_le_pow_right (n := 2) (by omega) h1
   simpa using this
  have d : 2 * 2 ^ h ≤ 2 ^ h * 2 ^ h := Nat.mul_le_mul_right _ c
  omega
 obtain ⟨p, q⟩ := add_parts (2 ^ (2 * h)) (x &&& mask h (n + 1)) ((x / 2 ^ h) &&& mask h (n + 1)) (Nat.two_pow_pos _) (by rw [and_mask_mod, and_mask_mod]; exact hlt)
 constructor
 ·rw [half, p, and_mask_mod, and_mask_mod]
 ·rw [half, q, and_mask_div, and_mask_div, half, Nat.div_div_eq_div_mul, Nat.div_div_eq_div_mul, Nat.mul_comm (2 ^ h)]
theorem half_lt (h : Nat) (h1 : 1 ≤ h) : ∀ n x, half h n x < 2 ^ (2 * h * n)
 | 0, x => by simp [half, mask]
 | n + 1, x => by
  have ih := half_lt h h1 n (x / 2 ^ (2 * h))
  obtain ⟨_, q⟩ := half_succ h n x h1
  rw [← q] at ih
  have e : 2 ^ (2 * h * (n + 1)) = 2 ^ (2 * h * n) * 2 ^ (2 * h) := by rw [← Nat.pow_add]; congr 1
  rw [e]
  exact (Nat.div_lt_iff_lt_mul (Nat.two_pow_pos _)).1 ih
theorem ds_half (h : Nat) (h1 : 1 ≤ h) : ∀ n x, ds (2 * h) n (half h n x) = ds h (2 * n) x
 | 0, x => rfl
 | n + 1, x => by
  have ih := ds_half h h1 n (x / 2 ^ (2 * h))
  obtain ⟨p, q⟩ := half_succ h n x h1
  have e : 2 * (n + 1) = (2 * n + 1) + 1 := by omega
  have e2 : 2 ^ h * 2 ^ h = 2 ^ (2 * h) := by rw [← Nat.pow_add]; congr 1; omega
  rw [e]
  simp only [ds]
  rw [p, q, ih, Nat.div_div_eq_div_mul, e2]
  omega
def pop (x : Nat) : Nat := ds 1 64 x
def c1 (x : Nat) : Nat := half 1 32 x
def c2 (x : Nat) : Nat := half 2 16 (c1 x)
def c3 (x : Nat) : Nat := half 4 8 (c2 x)
def c4 (x : Nat) : Nat := half 8 4 (c3 x)
def c5 (x : Nat) : Nat := half 16 2 (c4 x)
def c6 (x : Nat) : Nat := half 32 1 (c5 x)
theorem c6_pop (x : Nat) : c6 x = pop x := by
 have a1 : ds 2 32 (c1 x) = ds 1 64 x := ds_half 1 (by omega) 32 x
 have a2 : ds 4 16 (c2 x) = ds 2 32 (c1 x) := ds_half 2 (by omega) 16 _
 have a3 : ds 8 8 (c3 x) = ds 4 16 (c2 x) := ds_half 4 (by omega) 8 _
 have a4 : ds 16 4 (c4 x) = ds 8 8 (c3 x) := ds_half 8 (by omega) 4 _
 have a5 : ds 32 2 (c5 x) = ds 16 4 (c4 x) := ds_half 16 (by omega) 2 _
 have a6 : ds 64 1 (c6 x) = ds 32 2 (c5 x) := ds_half 32 (by omega) 1 _
 have lt : c6 x < 2 ^ 64 := half_lt 32 (by omega) 1 _
 have e : ds 64 1 (c6 x) = c6 x := by simp only [ds, Nat.add_zero]; exact Nat.mod_eq_of_lt lt
 unfold pop
 omega
theorem m1 : mask 1 32 = 6148914691236517205 := by decide +kernel
theorem m2 : mask 2 16 = 3689348814741910323 := by decide +kernel
theorem m3 : mask 4 8 = 1085102592571150095 := by decide +kernel
theorem m4 : mask 8 4 = 71777214294589695 := by decide +kernel
theorem m5 : mask 16 2 = 281470681808895 := by decide +kernel
theorem m6 : mask 32 1 = 4294967295 := by decide +kernel
theorem c_lt (x : Nat) : c1 x < 18446744073709551616 ∧ c2 x < 18446744073709551616 ∧ c3 x < 18446744073709551616 ∧ c4 x < 18446744073709551616 ∧ c5 x < 18446744073709551616 ∧ c6 x < 18446744073709551616 :=
 ⟨half_lt 1 (by omega) 32 _, half_lt 2 (by omega) 16 _, half_lt 4 (by omega) 8 _, half_lt 8 (by omega) 4 _, half_lt 16 (by omega) 2 _, half_lt 32 (by omega) 1 _⟩
theorem c1_eq (x : Nat) : c1 x = (x &&& 6148914691236517205) + ((x / 2) &&& 6148914691236517205) := by unfold c1 half; rw [m1]
theorem c2_eq (x : Nat) : c2 x = (c1 x &&& 3689348814741910323) + ((c1 x / 4) &&& 3689348814741910323) := by unfold c2 half; rw [m2]
theorem c3_eq (x : Nat) : c3 x = (c2 x &&& 1085102592571150095) + ((c2 x / 16) &&& 1085102592571150095) := by unfold c3 half; rw [m3]
theorem c4_eq (x : Nat) : c4 x = (c3 x &&& 71777214294589695) + ((c3 x / 256) &&& 71777214294589695) := by unfold c4 half; rw [m4]
theorem c5_eq (x : Nat) : c5 x = (c4 x &&& 281470681808895) + ((c4 x / 65536) &&& 281470681808895) := by unfold c5 half; rw [m5]
theorem c6_eq (x : Nat) : c6 x = (c5 x &&& 4294967295) + ((c5 x / 4294967296) &&& 4294967295) := by unfold c6 half; rw [m6]
def lst (n x : Nat) : List Nat := (List.range n).filter fun i => x.testBit i
theorem lst_succ (n x : Nat) : lst (n + 1) x = (if x % 2 = 1 then [0] else []) ++ (lst n (x / 2)).map (· + 1) := by
 unfold lst
 rw [List.range_succ_eq_map, List.filter_cons, List.filter_map]
 have e : ((fun i => x.testBit i) ∘ Nat.succ) = fun i => (x / 2).testBit i := by
  funext i; simp [Function.comp, Nat.testBit_succ]
 rw [e]
 have h0 : x.testBit 0 = decide (x % 2 = 1) := Nat.testBit_zero x
 by_cases h : x % 2 = 1 <;> simp [h0, h]
theorem ds_lst : ∀ n x, ds 1 n x = (lst n x).length
 | 0, _ => rfl
 | n + 1, x => by
  rw [lst_succ]
  simp only [ds, Nat.pow_one]
  rw [ds_lst n (x / 2)]
  rcases Nat.mod_two_eq_zero_or_one x with h | h <;> simp [h]; omega
def elems (x : Nat) : List Nat := lst 64 x
theorem pop_elems (x : Nat) : pop x = (elems x).length := ds_lst 64 x
theorem elems_lt (x : Nat) : ∀ i ∈ elems x, i < 64 := fun i h => by
 simp [elems, lst] at h; exact h.1
theorem pop_le (x : Nat) : pop x ≤ 64 := by
 rw [pop_elems]
 have := List.length_filter_le (fun i => x.testBit i) (List.range 64)
 simpa [elems, lst] using this
def below (x : Nat) : Nat := (x - 1) &&& (18446744073709551615 - x)
def bel (n x : Nat) : Nat := (x - 1) &&& (2 ^ n - 1 - x)
theorem and_half (a b : Nat) : (a &&& b) / 2 = (a / 2) &&& (b / 2) := by
 have := Nat.shiftRight_and_distrib (a := a) (b := b) (i := 1)
 simpa [Nat.shiftRight_succ] using this
theorem and_mod2 (a b : Nat) : (a &&& b) % 2 = (a % 2) * (b % 2) := by
 have := Nat.and_mod_two_pow (a := a) (b := b) (n := 1)
 simp at this
 rw [this]
 rcases Nat.mod_two_eq_zero_or_one a with h | h <;> rcases Nat.mod_two_eq_zero_or_one b with h' | h' <;> simp [h, h']
theorem zero_of (a : Nat) (h1 : a % 2 = 0) (h2 : a / 2 = 0) : a = 0 := by omega
theorem disj : ∀ m y, y < 2 ^ m → y &&& (2 ^ m - 1 - y) = 0
 | 0, y, h => by
  have : y = 0 := by simpa using h
  subst this; rfl
 | m + 1, y, h => by
  have e : 2 ^ (m + 1) = 2 * 2 ^ m := by rw [Nat.pow_succ]; omega
  have p := Nat.two_pow_pos m
  have ih := disj m (y / 2) (by omega)
  apply zero_of
  ·rw [and_mod2]
   rcases Nat.mod_two_eq_zero_or_one y with h' | h'
   ·simp [h']
   ·have : (2 ^ (m + 1) - 1 - y) % 2 = 0 := by omega
    simp [this]
  ·rw [and_half]
   have : (2 ^ (m + 1) - 1 - y) / 2 = 2 ^ m - 1 - y / 2 := by omega
   rw [this, ih]
theorem ds_zero : ∀ n, ds 1 n 0 = 0
 | 0 => rfl
 | n + 1 => by simp [ds, ds_zero n]
theorem bel_odd (n x : Nat) (h : x % 2 = 1) (hx : x < 2 ^ n) : ds 1 n (bel n x) = 0 := by
 have e : bel n x = 0 := by
  cases n with
  | zero => simp at hx; omega
  | succ m =>
   have e : 2 ^ (m + 1) = 2 * 2 ^ m := by rw [Nat.pow_succ]; omega
   have p := Nat.two_pow_pos m
   unfold bel
   apply zero_of
   ·rw [and_mod2]
    have : (x - 1) % 2 = 0 := by omega
    simp [this]
   ·rw [and_half]
    have a : (2 ^ (m + 1) - 1 - x) / 2 = 2 ^ m - 1 - x / 2 := by omega
    have b : (x - 1) / 2 = x / 2 := by omega
    rw [a, b]
    exact disj m _ (by omega)
 rw [e, ds_zero]
theorem bel_even (n x : Nat) (h : x % 2 = 0) (h0 : 0 < x) (hx : x < 2 ^ (n + 1)) : ds 1 (n + 1) (bel (n + 1) x) = ds 1 n (bel n (x / 2)) + 1 := by
 have e : 2 ^ (n + 1) = 2 * 2 ^ n := by rw [Nat.pow_succ]; omega
 have p := Nat.two_pow_pos n
 have a : bel (n + 1) x / 2 = bel n (x / 2) := by
  unfold bel
  rw [and_half]
  have a : (2 ^ (n + 1) - 1 - x) / 2 = 2 ^ n - 1 - x / 2 := by omega
  have b : (x - 1) / 2 = x / 2 - 1 := by omega
  rw [a, b]
 have b : bel (n + 1) x % 2 = 1 := by
  unfold bel
  rw [and_mod2]
  have a : (2 ^ (n + 1) - 1 - x) % 2 = 1 := by omega
  have b : (x - 1) % 2 = 1 := by omega
  rw [a, b]
 simp only [ds, Nat.pow_one]
 rw [a, b]; omega
def drop1 (x : Nat) : Nat := x &&& (x - 1)
theorem drop1_lt (x : Nat) (h : 0 < x) : drop1 x < x := by
 have : x &&& (x - 1) ≤ x - 1 := Nat.and_le_right
 unfold drop1; omega
theorem lst_low : ∀ n x, 0 < x → x < 2 ^ n → lst n x = ds 1 n (bel n x) :: lst n (drop1 x)
 | 0, x, h0, h => by simp at h; omega
 | n + 1, x, h0, h => by
  have e : 2 ^ (n + 1) = 2 * 2 ^ n := by rw [Nat.pow_succ]; omega
  have dm : drop1 x % 2 = 0 := by
   unfold drop1; rw [and_mod2]
   rcases Nat.mod_two_eq_zero_or_one x with h' | h'
   ·simp [h']
   ·have : (x - 1) % 2 = 0 := by omega
    simp [this]
  rw [lst_succ n x, lst_succ n (drop1 x)]
  rcases Nat.mod_two_eq_zero_or_one x with h' | h'
  ·have dh : drop1 x / 2 = drop1 (x / 2) := by
    unfold drop1; rw [and_half]
    have : (x - 1) / 2 = x / 2 - 1 := by omega
    rw [this]
   rw [bel_even n x h' h0 h, dh, lst_low n (x / 2) (by omega) (by omega)]
   simp [h', dm]
  ·have dh : drop1 x / 2 = x / 2 := by
    unfold drop1; rw [and_half]
    have : (x - 1) / 2 = x / 2 := by omega
    rw [this, Nat.and_self]
   rw [bel_odd (n + 1) x h' h, dh]
   simp [h', dm]
theorem elems_low (x : Nat) (h0 : 0 < x) (h : x < 18446744073709551616) : elems x = pop (below x) :: elems (drop1 x) := lst_low 64 x h0 h
theorem elems_zero : elems 0 = [] := by simp [elems, lst]
theorem below_lt (x : Nat) (h : x < 18446744073709551616) : below x < 18446744073709551616 := by
 have : (x - 1) &&& (18446744073709551615 - x) ≤ x - 1 := Nat.and_le_left
 unfold below; omega
theorem and_bit (i x : Nat) : x &&& 2 ^ i = x / 2 ^ i % 2 * 2 ^ i := by
 have h : x.testBit i = decide (x / 2 ^ i % 2 = 1) := Nat.testBit_eq_decide_div_mod_eq
 apply Nat.eq_of_testBit_eq
 intro j
 rw [Nat.testBit_and, Nat.testBit_two_pow]
 rcases Nat.mod_two_eq_zero_or_one (x / 2 ^ i) with h' | h'
 ·rw [h']
  simp [h'] at h
  simp
  intro hj e; subst e; rw [h] at hj; cases hj
 ·rw [h', Nat.one_mul, Nat.testBit_two_pow]
  simp [h'] at h
  by_cases e : i = j
  ·subst e; simp [h]
  ·simp [e]
def one (n : Int) : Nat := if 0 ≤ n ∧ n ≤ 63 then 2 ^ n.toNat else 0
def has (s : Nat) (n : Int) : Bool := decide (0 ≤ n ∧ n ≤ 63) && s.testBit n.toNat
def withN (s : Nat) (n : Int) : Nat := s ||| one n
theorem one_in {n : Int} (h0 : 0 ≤ n) (h : n ≤ 63) : one n = 2 ^ n.toNat := by unfold one; rw [if_pos ⟨h0, h⟩]
theorem one_out {n : Int} (h : n < 0 ∨ 63 < n) : one n = 0 := by unfold one; rw [if_neg (by omega)]
theorem one_lt (n : Int) : one n < 18446744073709551616 := by
 unfold one; split
 ·have := Nat.pow_lt_pow_right (a := 2) (by omega) (show n.toNat < 64 by omega); simpa using this
 ·omega
theorem withN_lt (s : Nat) (n : Int) (h : s < 18446744073709551616) : withN s n < 18446744073709551616 := Nat.or_lt_two_pow (n := 64) h (one_lt n)
theorem has_in (s : Nat) {n : Int} (h0 : 0 ≤ n) (h : n ≤ 63) : has s n = decide (s / 2 ^ n.toNat % 2 = 1) := by
 unfold has; rw [Nat.testBit_eq_decide_div_mod_eq]; simp [h0, h]
theorem has_out (s : Nat) {n : Int} (h : n < 0 ∨ 63 < n) : has s n = false := by
 unfold has; simp; intro a b; omega
theorem has_and (s : Nat) (n : Int) : has s n = decide (s &&& one n ≠ 0) := by
 by_cases h : 0 ≤ n ∧ n ≤ 63
 ·rw [has_in s h.1 h.2, one_in h.1 h.2, and_bit]
  have p := Nat.two_pow_pos n.toNat
  rcases Nat.mod_two_eq_zero_or_one (s / 2 ^ n.toNat) with h' | h' <;> simp [h']
 ·rw [has_out s (by omega), one_out (by omega)]; simp
def ofL (l : List Int) : Nat := l.foldl withN 0
theorem ofL_snoc (l : List Int) (x : Int) : ofL (l ++ [x]) = withN (ofL l) x := by simp [ofL]
theorem foldl_lt (l : List Int) : ∀ s, s < 18446744073709551616 → l.foldl withN s < 18446744073709551616 := by
 induction l with
 | nil => intro s h; exact h
 | cons x l ih => intro s h; exact ih _ (withN_lt s x h)
theorem ofL_lt (l : List Int) : ofL l < 18446744073709551616 := foldl_lt l 0 (by omega)
theorem testBit_foldl (j : Nat) : ∀ (l : List Nat) (s : Nat), (∀ i ∈ l, i < 64) → ((l.map Int.ofNat).foldl withN s).testBit j = (s.testBit j || decide (j ∈ l)) := by
 intro l
 induction l with
 | nil => intro s _; simp
 | cons x l ih =>
  intro s h
  have hx := h x (by simp)
  rw [List.map_cons, List.foldl_cons, ih _ (fun i hi => h i (by simp [hi]))]
  unfold withN
  rw [one_in (by simp) (by simp; omega)]
  simp only [Int.ofNat_eq_natCast, Int.toNat_natCast, Nat.testBit_or, Nat.testBit_two_pow, List.mem_cons]
  by_cases e : x = j
  ·subst e; simp
  ·have : ¬ j = x := fun h => e h.symm
   simp [e, this]
end Go.Proofs.YtoaeficfmcncjaaGreat.Bits.Math
