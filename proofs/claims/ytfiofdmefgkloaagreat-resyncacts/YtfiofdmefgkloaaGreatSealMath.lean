/-
  Plain facts of layers 2 and 3 that layer 5 stands on: a number's bytes, and the sum of Ethernet.
-/
namespace Go.Proofs.YtfiofdmefgkloaaGreat.Seal
namespace Math

/-- The lowest j bytes of x, the highest first. -/
def be : Nat → Nat → List Nat
  | 0, _ => []
  | j + 1, x => (x / 256 ^ j % 256) :: be j x

/-- The number of some bytes. -/
def val (l : List Nat) : Nat := l.foldl (fun n b => n * 256 + b) 0

theorem be_zero (x : Nat) : be 0 x = [] := rfl
theorem be_succ (j x : Nat) : be (j + 1) x = (x / 256 ^ j % 256) :: be j x := rfl
theorem be_length (j x : Nat) : (be j x).length = j := by
  induction j with
  | zero => rfl
  | succ j ih => simp [be, ih]
theorem be_byte (j x : Nat) : ∀ b ∈ be j x, b < 256 := by
  induction j with
  | zero => simp [be]
  | succ j ih =>
    intro b hb
    rcases List.mem_cons.1 hb with rfl | h
    · exact Nat.mod_lt _ (by omega)
    · exact ih b h

theorem foldl_val (l : List Nat) : ∀ s, l.foldl (fun n b => n * 256 + b) s = s * 256 ^ l.length + val l := by
  induction l with
  | nil => intro s; simp [val]
  | cons b l ih =>
    intro s
    have e : val (b :: l) = b * 256 ^ l.length + val l := by
      unfold val
      rw [List.foldl_cons, ih]
      simp [val]
    rw [List.foldl_cons, ih, e, List.length_cons, Nat.pow_succ, Nat.add_mul]
    rw [show s * (256 ^ l.length * 256) = s * 256 * 256 ^ l.length by rw [Nat.mul_assoc, Nat.mul_comm 256]]
    omega
theorem val_cons (b : Nat) (l : List Nat) : val (b :: l) = b * 256 ^ l.length + val l := by
  have := foldl_val l b
  unfold val at *
  rw [List.foldl_cons]
  simpa using this
theorem val_nil : val [] = 0 := rfl
theorem val_snoc (l : List Nat) (b : Nat) : val (l ++ [b]) = val l * 256 + b := by
  unfold val
  rw [List.foldl_append]
  rfl
theorem val_lt (l : List Nat) (h : ∀ b ∈ l, b < 256) : val l < 256 ^ l.length := by
  induction l with
  | nil => simp [val]
  | cons b l ih =>
    have hb := h b (by simp)
    have hl := ih (fun c hc => h c (by simp [hc]))
    rw [val_cons, List.length_cons, Nat.pow_succ]
    have : (b + 1) * 256 ^ l.length ≤ 256 * 256 ^ l.length := Nat.mul_le_mul_right _ hb
    rw [Nat.add_mul] at this
    omega

theorem val_be (j x : Nat) : val (be j x) = x % 256 ^ j := by
  induction j with
  | zero => simp [be, val, Nat.mod_one]
  | succ j ih =>
    rw [be_succ, val_cons, ih, be_length, Nat.pow_succ, Nat.mod_mul, Nat.mul_comm]
    omega

/-- What stands in a row while it is filled from its end. -/
def fill (k i x : Nat) : List Nat := List.replicate i 0 ++ be (k - i) x
theorem fill_length {k i x : Nat} (h : i ≤ k) : (fill k i x).length = k := by
  simp [fill, be_length]; omega
theorem fill_start (k x : Nat) : fill k k x = List.replicate k 0 := by simp [fill, be]
theorem fill_end (k x : Nat) : fill k 0 x = be k x := by simp [fill]
theorem fill_step {k i x : Nat} (h : i + 1 ≤ k) : (fill k (i + 1) x).set i (x / 256 ^ (k - (i + 1)) % 256) = fill k i x := by
  have e : k - i = (k - (i + 1)) + 1 := by omega
  unfold fill
  rw [e, be_succ, List.replicate_succ', List.append_assoc, List.set_append]
  simp
theorem fill_step_map {α : Type} (f : Nat → α) {k i x : Nat} (h : i + 1 ≤ k) : ((fill k (i + 1) x).map f).set i (f (x / 256 ^ (k - (i + 1)) % 256)) = (fill k i x).map f := by
  rw [← fill_step h, List.map_set]

/-- The same behind some bytes. -/
theorem fill_step_behind {α : Type} (f : Nat → α) (bs : List Nat) {k i x : Nat} (h : i + 1 ≤ k) :
    ((bs ++ fill k (i + 1) x).map f).set (bs.length + i) (f (x / 256 ^ (k - (i + 1)) % 256)) = (bs ++ fill k i x).map f := by
  rw [← fill_step h, ← List.map_set, List.set_append, if_neg (by omega)]
  simp

theorem div_pow_succ (x j : Nat) : x / 256 ^ j / 256 = x / 256 ^ (j + 1) := by
  rw [Nat.pow_succ, Nat.div_div_eq_div_mul]

theorem shift_or (n b : Nat) (h : b < 256) : n * 256 ||| b = n * 256 + b := by
  have := Nat.two_pow_add_eq_or_of_lt (i := 8) h n
  rw [Nat.mul_comm]
  simpa using this.symm

theorem take_val (bs : List Nat) (i : Nat) (h : i < bs.length) : val (bs.take (i + 1)) = val (bs.take i) * 256 + (bs[i]?.getD 0) := by
  rw [List.take_succ_eq_append_getElem h, val_snoc]
  simp [h]
theorem take_lt (bs : List Nat) (i : Nat) (hb : ∀ b ∈ bs, b < 256) (h : i ≤ bs.length) : val (bs.take i) < 256 ^ i := by
  have := val_lt (bs.take i) (fun b hm => hb b (List.mem_of_mem_take hm))
  rw [List.length_take, Nat.min_eq_left h] at this
  exact this
theorem getD_lt (bs : List Nat) (i : Nat) (hb : ∀ b ∈ bs, b < 256) : bs[i]?.getD 0 < 256 := by
  by_cases h : i < bs.length
  · simp [h]; exact hb _ (List.getElem_mem h)
  · simp [List.getElem?_eq_none (Nat.le_of_not_lt h)]

end Math

namespace Crc

/-- One eighth of a step. -/
def half (x : Nat) : Nat := if x % 2 = 1 then (x / 2) ^^^ 3988292384 else x / 2
/-- k of them. -/
def halves : Nat → Nat → Nat
  | 0, x => x
  | k + 1, x => halves k (half x)
/-- A step by a byte. -/
def by8 (x c : Nat) : Nat := halves 8 (x ^^^ c)
/-- A step for each byte. -/
def taken (x : Nat) (bs : List Nat) : Nat := bs.foldl by8 x

theorem xor_div_two (x y : Nat) : (x ^^^ y) / 2 = x / 2 ^^^ y / 2 := by
  have := Nat.shiftRight_xor_distrib (a := x) (b := y) (i := 1)
  simpa [Nat.shiftRight_eq_div_pow] using this
theorem xor_mod_two (x y : Nat) : (x ^^^ y) % 2 = (x % 2 + y % 2) % 2 := by
  have h := Nat.testBit_xor x y 0
  simp only [Nat.testBit_zero] at h
  have hx := Nat.mod_two_eq_zero_or_one x
  have hy := Nat.mod_two_eq_zero_or_one y
  have hz := Nat.mod_two_eq_zero_or_one (x ^^^ y)
  rcases hx with hx | hx <;> rcases hy with hy | hy <;> rcases hz with hz | hz <;> simp [hx, hy, hz] at h ⊢

theorem half_xor (x y : Nat) : half (x ^^^ y) = half x ^^^ half y := by
  unfold half
  rw [xor_mod_two, xor_div_two]
  have hx := Nat.mod_two_eq_zero_or_one x
  have hy := Nat.mod_two_eq_zero_or_one y
  have k : ∀ a b c : Nat, a ^^^ c ^^^ (b ^^^ c) = a ^^^ b := fun a b c => by
    rw [Nat.xor_comm b c, Nat.xor_assoc, ← Nat.xor_assoc c c b, Nat.xor_self, Nat.zero_xor]
  rcases hx with hx | hx <;> rcases hy with hy | hy <;> simp only [hx, hy]
  · simp
  · simp [Nat.xor_assoc]
  · simp [Nat.xor_assoc, Nat.xor_comm 3988292384]
  · simp [k]
theorem half_zero : half 0 = 0 := rfl
theorem half_double (y : Nat) : half (2 * y) = y := by
  unfold half
  rw [if_neg (by omega)]
  omega
theorem half_lt {x : Nat} (h : x < 4294967296) : half x < 4294967296 := by
  unfold half
  split
  · exact Nat.xor_lt_two_pow (n := 32) (by omega) (by omega)
  · omega
theorem half_eq_zero {x : Nat} (h : x < 4294967296) (e : half x = 0) : x = 0 := by
  unfold half at e
  split at e
  · have : x / 2 = 3988292384 := by
      have h2 := congrArg (· ^^^ 3988292384) e
      simpa [Nat.xor_assoc] using h2
    omega
  · omega

theorem halves_xor (k : Nat) : ∀ x y, halves k (x ^^^ y) = halves k x ^^^ halves k y := by
  induction k with
  | zero => intro x y; rfl
  | succ k ih => intro x y; simp only [halves]; rw [half_xor, ih]
theorem halves_zero (k : Nat) : halves k 0 = 0 := by
  induction k with
  | zero => rfl
  | succ k ih => simp only [halves]; rw [half_zero, ih]
theorem halves_lt (k : Nat) : ∀ {x}, x < 4294967296 → halves k x < 4294967296 := by
  induction k with
  | zero => intro x h; exact h
  | succ k ih => intro x h; exact ih (half_lt h)
theorem halves_eq_zero (k : Nat) : ∀ {x}, x < 4294967296 → halves k x = 0 → x = 0 := by
  induction k with
  | zero => intro x _ e; exact e
  | succ k ih => intro x h e; exact half_eq_zero h (ih (half_lt h) e)
theorem halves_add (j : Nat) : ∀ k x, halves (j + k) x = halves k (halves j x) := by
  induction j with
  | zero => intro k x; rw [Nat.zero_add]; rfl
  | succ j ih => intro k x; rw [show j + 1 + k = (j + k) + 1 by omega]; simp only [halves]; exact ih k (half x)
theorem halves_shift (k : Nat) : ∀ y, halves k (2 ^ k * y) = y := by
  induction k with
  | zero => intro y; simp [halves]
  | succ k ih =>
    intro y
    have e : 2 ^ (k + 1) * y = 2 * (2 ^ k * y) := by rw [Nat.pow_succ, Nat.mul_comm (2 ^ k) 2, Nat.mul_assoc]
    simp only [halves]
    rw [e, half_double, ih]
theorem split_xor (k x : Nat) : x = (2 ^ k * (x / 2 ^ k)) ^^^ (x % 2 ^ k) := by
  have h := Nat.two_pow_add_eq_or_of_lt (Nat.mod_lt x (Nat.two_pow_pos k)) (x / 2 ^ k)
  apply Nat.eq_of_testBit_eq
  intro i
  rw [Nat.testBit_xor, Nat.testBit_two_pow_mul, Nat.testBit_mod_two_pow, Nat.testBit_div_two_pow]
  by_cases hi : i < k
  · have : ¬ k ≤ i := by omega
    simp [hi, this]
  · have h1 : k ≤ i := by omega
    have h2 : i - k + k = i := by omega
    simp [hi, h1, h2]
/-- A row of halves at once, by a table of what becomes of the lowest bits. -/
theorem halves_table (k x : Nat) : halves k x = (x / 2 ^ k) ^^^ halves k (x % 2 ^ k) := by
  conv => lhs; rw [split_xor k x]
  rw [halves_xor, halves_shift]

theorem step_lt {x c : Nat} (hx : x < 4294967296) (hc : c < 256) : by8 x c < 4294967296 :=
  halves_lt 8 (Nat.xor_lt_two_pow (n := 32) hx (by omega))
theorem step_xor (x d c : Nat) : by8 (x ^^^ d) c = by8 x c ^^^ halves 8 d := by
  unfold by8
  rw [← halves_xor]
  congr 1
  rw [Nat.xor_assoc, Nat.xor_assoc, Nat.xor_comm d c]
theorem step_byte (x c e : Nat) : by8 x (c ^^^ e) = by8 x c ^^^ halves 8 e := by
  unfold by8
  rw [← halves_xor, Nat.xor_assoc]
theorem run_nil (x : Nat) : taken x [] = x := rfl
theorem run_cons (x b : Nat) (bs : List Nat) : taken x (b :: bs) = taken (by8 x b) bs := rfl
theorem run_append (x : Nat) (as bs : List Nat) : taken x (as ++ bs) = taken (taken x as) bs := by
  unfold taken; rw [List.foldl_append]
theorem run_snoc (x : Nat) (as : List Nat) (b : Nat) : taken x (as ++ [b]) = by8 (taken x as) b := by
  rw [run_append]; rfl
theorem run_lt (bs : List Nat) : ∀ {x}, x < 4294967296 → (∀ b ∈ bs, b < 256) → taken x bs < 4294967296 := by
  induction bs with
  | nil => intro x h _; exact h
  | cons b bs ih =>
    intro x h hb
    exact ih (step_lt h (hb b (by simp))) (fun c hc => hb c (by simp [hc]))
theorem run_xor (bs : List Nat) : ∀ x d, taken (x ^^^ d) bs = taken x bs ^^^ halves (8 * bs.length) d := by
  induction bs with
  | nil => intro x d; rfl
  | cons b bs ih =>
    intro x d
    rw [run_cons, run_cons, step_xor, ih, ← halves_add, List.length_cons]
    rw [show 8 + 8 * bs.length = 8 * (bs.length + 1) by omega]

theorem low_xor (e : Nat) : e = (e % 256) ^^^ (2 ^ 8 * (e / 256)) := by
  have := split_xor 8 e
  rw [Nat.xor_comm]
  exact this
/-- One byte of a burst. -/
theorem step_burst (x d c e : Nat) : by8 (x ^^^ d) (c ^^^ e) = by8 x c ^^^ halves 8 (d ^^^ e) := by
  rw [step_byte, step_xor, halves_xor, Nat.xor_assoc]
theorem halves_low (d e : Nat) : halves 8 (d ^^^ e) = halves 8 (d ^^^ e % 256) ^^^ (e / 256) := by
  conv => lhs; rw [low_xor e, ← Nat.xor_assoc, halves_xor, halves_shift]
/-- Four bytes side by side, turned by e. -/
theorem run_burst (x b0 b1 b2 b3 e : Nat) (he : e < 4294967296) :
    taken x [b0 ^^^ e % 256, b1 ^^^ e / 256 % 256, b2 ^^^ e / 65536 % 256, b3 ^^^ e / 16777216 % 256] = taken x [b0, b1, b2, b3] ^^^ halves 32 e := by
  have a0 : halves 32 e = halves 24 (halves 8 (e % 256) ^^^ e / 256) := by
    rw [show (32 : Nat) = 8 + 24 from rfl, halves_add]
    congr 1
    have := halves_low 0 e
    simpa using this
  have a1 : ∀ d f, halves 24 (d ^^^ f) = halves 16 (halves 8 (d ^^^ f % 256) ^^^ f / 256) := fun d f => by
    rw [show (24 : Nat) = 8 + 16 from rfl, halves_add, halves_low]
  have a2 : ∀ d f, halves 16 (d ^^^ f) = halves 8 (halves 8 (d ^^^ f % 256) ^^^ f / 256) := fun d f => by
    rw [show (16 : Nat) = 8 + 8 from rfl, halves_add, halves_low]
  have d1 : e / 256 / 256 = e / 65536 := by omega
  have d2 : e / 65536 / 256 = e / 16777216 := by omega
  have d3 : e / 16777216 % 256 = e / 16777216 := by omega
  rw [a0, a1, a2, d1, d2, d3]
  simp only [run_cons, run_nil]
  rw [step_byte x b0, step_burst, step_burst, step_burst]
/-- Bytes of which some within four that stand side by side are other ones have another sum. -/
theorem burst (x b0 b1 b2 b3 e : Nat) (as cs : List Nat) (he : e < 4294967296) (h0 : 0 < e) :
    taken x (as ++ [b0 ^^^ e % 256, b1 ^^^ e / 256 % 256, b2 ^^^ e / 65536 % 256, b3 ^^^ e / 16777216 % 256] ++ cs) ≠ taken x (as ++ [b0, b1, b2, b3] ++ cs) := by
  rw [run_append, run_append, run_append, run_append, run_burst _ _ _ _ _ _ he, run_xor]
  generalize taken (taken (taken x as) [b0, b1, b2, b3]) cs = s
  intro h
  have hz : halves (8 * cs.length) (halves 32 e) = 0 := by
    have h2 := congrArg (s ^^^ ·) h
    simpa [← Nat.xor_assoc] using h2
  have := halves_eq_zero _ he (halves_eq_zero _ (halves_lt 32 he) hz)
  omega

end Crc
end Go.Proofs.YtfiofdmefgkloaaGreat.Seal

