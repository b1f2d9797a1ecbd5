/-
 Plain facts of layers 2 and 3 that layer 5 stands on: a number's bytes, and the sum of Ethernet.
-/
namespace Go.Proofs.YtoaeficfmcncjaaGreat.Seal
namespace Math
def be : Nat → Nat → List Nat
 | 0, _ => []
 | j + 1, x => (x / 256 ^ j % 256) :: be j x
def val (l : List Nat) : Nat := l.foldl (fun n b => n * 256 + b) 0
theorem be_succ (j x : Nat) : be (j + 1) x = (x / 256 ^ j % 256) :: be j x := rfl
theorem be_length (j x : Nat) : (be j x).length = j := by
 induction j with
 | zero => rfl
 | succ j ih => simp [be, ih]
theorem be_byte (j x : Nat) : ∀ b ∈ be j x, b < 256 := by
 induction j with
 | zero => simp [be]
 | succ j ih =>
  intro b hb
  rcases List.mem_cons.1 hb with rfl | h
  ·exact Nat.mod_lt _ (by omega)
  ·exact ih b h
theorem foldl_val (l : List Nat) : ∀ s, l.foldl (fun n b => n * 256 + b) s = s * 256 ^ l.length + val l := by
 induction l with
 | nil => intro s; simp [val]
 | cons b l ih =>
  intro s
  have e : val (b :: l) = b * 256 ^ l.length + val l := by
   unfold val
   rw [List.foldl_cons, ih]
   simp [val]
  rw [List.foldl_cons, ih, e, List.length_cons, Nat.pow_succ, Nat.add_mul]
  rw [show s * (256 ^ l.length * 256) = s * 256 * 256 ^ l.length by rw [Nat.mul_assoc, Nat.mul_comm 256]]
  omega
theorem val_cons (b : Nat) (l : List Nat) : val (b :: l) = b * 256 ^ l.length + val l := by
 have := foldl_val l b
 unfold val at *
 rw [List.foldl_cons]
 simpa using this
theorem val_snoc (l : List Nat) (b : Nat) : val (l ++ [b]) = val l * 256 + b := by
 unfold val
 rw [List.foldl_append]
 rfl
theorem val_lt (l : List Nat) (h : ∀ b ∈ l, b < 256) : val l < 256 ^ l.length := by
 induction l with
 | nil => simp [val]
 | cons b l ih =>
  have hb := h b (by simp)
  have hl := ih (fun c hc => h c (by simp [hc]))
  rw [val_cons, List.length_cons, Nat.pow_succ]
  have : (b + 1) * 256 ^ l.length ≤ 256 * 256 ^ l.length := Nat.mul_le_mul_right _ hb
  rw [Nat.add_mul] at this
  omega
def fill (k i x : Nat) : List Nat := List.replicate i 0 ++ be (k - i) x
theorem fill_start (k x : Nat) : fill k k x = List.replicate k 0 := by simp [fill, be]
theorem fill_end (k x : Nat) : fill k 0 x = be k x := by simp [fill]
theorem fill_step {k i x : Nat} (h : i + 1 ≤ k) : (fill k (i + 1) x).set i (x / 256 ^ (k - (i + 1)) % 256) = fill k i x := by
 have e : k - i = (k - (i + 1)) + 1 := by omega
 unfold fill
 rw [e, be_succ, List.replicate_succ', List.append_assoc, List.set_append]
 simp
theorem fill_step_map {α : Type} (f : Nat → α) {k i x : Nat} (h : i + 1 ≤ k) : ((fill k (i + 1) x).map f).set i (f (x / 256 ^ (k - (i + 1)) % 256)) = (fill k i x).map f := by
 rw [← fill_step h, List.map_set]
theorem div_pow_succ (x j : Nat) : x / 256 ^ j / 256 = x / 256 ^ (j + 1) := by
 rw [Nat.pow_succ, Nat.div_div_eq_div_mul]
theorem shift_or (n b : Nat) (h : b < 256) : n * 256 ||| b = n * 256 + b := by
 have := Nat.two_pow_add_eq_or_of_lt (i := 8) h n
 rw [Nat.mul_comm]
 simpa using this.symm
theorem take_val (bs : List Nat) (i : Nat) (h : i < bs.length) : val (bs.take (i + 1)) = val (bs.take i) * 256 + (bs[i]?.getD 0) := by
 rw [List.take_succ_eq_append_getElem h, val_snoc]
 simp [h]
theorem take_lt (bs : List Nat) (i : Nat) (hb : ∀ b ∈ bs, b < 256) (h : i ≤ bs.length) : val (bs.take i) < 256 ^ i := by
 have := val_lt (bs.take i) (fun b hm => hb b (List.mem_of_mem_take hm))
 rw [List.length_take, Nat.min_eq_left h] at this
 exact this
theorem getD_lt (bs : List Nat) (i : Nat) (hb : ∀ b ∈ bs, b < 256) : bs[i]?.getD 0 < 256 := by
 by_cases h : i < bs.length
 ·simp [h]; exact hb _ (List.getElem_mem h)
 ·simp [List.getElem?_eq_none (Nat.le_of_not_lt h)]
end Math
namespace Crc
def half (x : Nat) : Nat := if x % 2 = 1 then (x / 2) ^^^ 3988292384 else x / 2
def halves : Nat → Nat → Nat
 | 0, x => x
 | k + 1, x => halves k (half x)
def by8 (x c : Nat) : Nat := halves 8 (x ^^^ c)
def taken (x : Nat) (bs : List Nat) : Nat := bs.foldl by8 x
theorem xor_div_two (x y : Nat) : (x ^^^ y) / 2 = x / 2 ^^^ y / 2 := by
 have := Nat.shiftRight_xor_distrib (a := x) (b := y) (i := 1)
 simpa [Nat.shiftRight_eq_div_pow] using this
theorem xor_mod_two (x y : Nat) : (x ^^^ y) % 2 = (x % 2 + y % 2) % 2 := by
 have h := Nat.testBit_xor x y 0
 simp only [Nat.testBit_zero] at h
 have hx := Nat.mod_two_eq_zero_or_one x
 have hy := Nat.mod_two_eq_zero_or_one y
 have hz := Nat.mod_two_eq_zero_or_one (x ^^^ y)
 rcases hx with hx | hx <;> rcases hy with hy | hy <;> rcases hz with hz | hz <;> simp [hx, hy, hz] at h ⊢
theorem half_xor (x y : Nat) : half (x ^^^ y) = half x ^^^ half y := by
 unfold half
 rw [xor_mod_two, xor_div_two]
 have hx := Nat.mod_two_eq_zero_or_one x
 have hy := Nat.mod_two_eq_zero_or_one y
 have k : ∀ a b c : Nat, a ^^^ c ^^^ (b ^^^ c) = a ^^^ b := fun a b c => by
  rw [Nat.xor_comm b c, Nat.xor_assoc, ← Nat.xor_assoc c c b, Nat.xor_self, Nat.zero_xor]
 rcases hx with hx | hx <;> rcases hy with hy | hy <;> simp only [hx, hy]
 ·simp
 ·simp [Nat.xor_assoc]
 ·simp [Nat.xor_assoc, Nat.xor_comm 3988292384]
 ·simp [k]
theorem half_double (y : Nat) : half (2 * y) = y := by
 unfold half
 rw [if_neg (by omega)]
 omega
theorem half_lt {x : Nat} (h : x < 4294967296) : half x < 4294967296 := by
 unfold half
 split
 ·exact Nat.xor_lt_two_pow (n := 32) (by omega) (by omega)
 ·omega
theorem halves_xor (k : Nat) : ∀ x y, halves k (x ^^^ y) = halves k x ^^^ halves k y := by
 induction k with
 | zero => intro x y; rfl
 | succ k ih => intro x y; simp only [halves]; rw [half_xor, ih]
theorem halves_lt (k : Nat) : ∀ {x}, x < 4294967296 → halves k x < 4294967296 := by
 induction k with
 | zero => intro x h; exact h
 | succ k ih => intro x h; exact ih (half_lt h)
theorem halves_add (j : Nat) : ∀ k x, halves (j + k) x = halves k (halves j x) := by
 induction j with
 | zero => intro k x; rw [Nat.zero_add]; rfl
 | succ j ih => intro k x; rw [show j + 1 + k = (j + k) + 1 by omega]; simp only [halves]; exact ih k (half x)
theorem halves_shift (k : Nat) : ∀ y, halves k (2 ^ k * y) = y := by
 induction k with
 | zero => intro y; simp [halves]
 | succ k ih =>
  intro y
  have e : 2 ^ (k + 1) * y = 2 * (2 ^ k * y) := by rw [Nat.pow_succ, Nat.mul_comm (2 ^ k) 2, Nat.mul_assoc]
  simp only [halves]
  rw [e, half_double, ih]
theorem split_xor (k x : Nat) : x = (2 ^ k * (x / 2 ^ k)) ^^^ (x % 2 ^ k) := by
 have h := Nat.two_pow_add_eq_or_of_lt (Nat.mod_lt x (Nat.two_pow_pos k)) (x / 2 ^ k)
 apply Nat.eq_of_testBit_eq
 intro i
 rw [Nat.testBit_xor, Nat.testBit_two_pow_mul, Nat.testBit_mod_two_pow, Nat.testBit_div_two_pow]
 by_cases hi : i < k
 ·have : ¬ k ≤ i := by omega
  simp [hi, this]
 ·have h1 : k ≤ i := by omega
  have h2 : i - k + k = i := by omega
  simp [hi, h1, h2]
theorem halves_table (k x : Nat) : halves k x = (x / 2 ^ k) ^^^ halves k (x % 2 ^ k) := by
 conv => lhs; rw [split_xor k x]
 rw [halves_xor, halves_shift]
theorem step_lt {x c : Nat} (hx : x < 4294967296) (hc : c < 256) : by8 x c < 4294967296 :=
 halves_lt 8 (Nat.xor_lt_two_pow (n := 32) hx (by omega))
theorem run_append (x : Nat) (as bs : List Nat) : taken x (as ++ bs) = taken (taken x as) bs := by
 unfold taken; rw [List.foldl_append]
theorem run_snoc (x : Nat) (as : List Nat) (b : Nat) : taken x (as ++ [b]) = by8 (taken x as) b := by
 rw [run_append]; rfl
theorem run_lt (bs : List Nat) : ∀ {x}, x < 4294967296 → (∀ b ∈ bs, b < 256) → taken x bs < 4294967296 := by
 induction bs with
 | nil => intro x h _; exact h
 | cons b bs ih =>
  intro x h hb
  exact ih (step_lt h (hb b (by simp))) (fun c hc => hb c (by simp [hc]))
end Crc
end Go.Proofs.YtoaeficfmcncjaaGreat.Seal
