/-
  Plain facts of layer 2: a number's bytes, the highest first, and the number of some bytes.
-/
namespace Go.Proofs.Ytahfnfpcadjplaa
namespace Math

/-- The lowest j bytes of x, the highest first. -/
def be : Nat → Nat → List Nat
  | 0, _ => []
  | j + 1, x => (x / 256 ^ j % 256) :: be j x

/-- The number of some bytes. -/
def val (l : List Nat) : Nat := l.foldl (fun n b => n * 256 + b) 0

theorem be_zero (x : Nat) : be 0 x = [] := rfl
theorem be_succ (j x : Nat) : be (j + 1) x = (x / 256 ^ j % 256) :: be j x := rfl
theorem be_length (j x : Nat) : (be j x).length = j := by
  induction j with
  | zero => rfl
  | succ j ih => simp [be, ih]
theorem be_byte (j x : Nat) : ∀ b ∈ be j x, b < 256 := by
  induction j with
  | zero => simp [be]
  | succ j ih =>
    intro b hb
    rcases List.mem_cons.1 hb with rfl | h
    · exact Nat.mod_lt _ (by omega)
    · exact ih b h

theorem foldl_val (l : List Nat) : ∀ s, l.foldl (fun n b => n * 256 + b) s = s * 256 ^ l.length + val l := by
  induction l with
  | nil => intro s; simp [val]
  | cons b l ih =>
    intro s
    have e : val (b :: l) = b * 256 ^ l.length + val l := by
      unfold val
      rw [List.foldl_cons, ih]
      simp [val]
    rw [List.foldl_cons, ih, e, List.length_cons, Nat.pow_succ, Nat.add_mul]
    rw [show s * (256 ^ l.length * 256) = s * 256 * 256 ^ l.length by rw [Nat.mul_assoc, Nat.mul_comm 256]]
    omega
theorem val_cons (b : Nat) (l : List Nat) : val (b :: l) = b * 256 ^ l.length + val l := by
  have := foldl_val l b
  unfold val at *
  rw [List.foldl_cons]
  simpa using this
theorem val_nil : val [] = 0 := rfl
theorem val_snoc (l : List Nat) (b : Nat) : val (l ++ [b]) = val l * 256 + b := by
  unfold val
  rw [List.foldl_append]
  rfl
theorem val_lt (l : List Nat) (h : ∀ b ∈ l, b < 256) : val l < 256 ^ l.length := by
  induction l with
  | nil => simp [val]
  | cons b l ih =>
    have hb := h b (by simp)
    have hl := ih (fun c hc => h c (by simp [hc]))
    rw [val_cons, List.length_cons, Nat.pow_succ]
    have : (b + 1) * 256 ^ l.length ≤ 256 * 256 ^ l.length := Nat.mul_le_mul_right _ hb
    rw [Nat.add_mul] at this
    omega

theorem val_be (j x : Nat) : val (be j x) = x % 256 ^ j := by
  induction j with
  | zero => simp [be, val, Nat.mod_one]
  | succ j ih =>
    rw [be_succ, val_cons, ih, be_length, Nat.pow_succ, Nat.mod_mul, Nat.mul_comm]
    omega

/-- What stands in a row while it is filled from its end. -/
def fill (k i x : Nat) : List Nat := List.replicate i 0 ++ be (k - i) x
theorem fill_length {k i x : Nat} (h : i ≤ k) : (fill k i x).length = k := by
  simp [fill, be_length]; omega
theorem fill_start (k x : Nat) : fill k k x = List.replicate k 0 := by simp [fill, be]
theorem fill_end (k x : Nat) : fill k 0 x = be k x := by simp [fill]
theorem fill_step {k i x : Nat} (h : i + 1 ≤ k) : (fill k (i + 1) x).set i (x / 256 ^ (k - (i + 1)) % 256) = fill k i x := by
  have e : k - i = (k - (i + 1)) + 1 := by omega
  unfold fill
  rw [e, be_succ, List.replicate_succ', List.append_assoc, List.set_append]
  simp
theorem fill_step_map {α : Type} (f : Nat → α) {k i x : Nat} (h : i + 1 ≤ k) : ((fill k (i + 1) x).map f).set i (f (x / 256 ^ (k - (i + 1)) % 256)) = (fill k i x).map f := by
  rw [← fill_step h, List.map_set]

/-- The same behind some bytes. -/
theorem fill_step_behind {α : Type} (f : Nat → α) (bs : List Nat) {k i x : Nat} (h : i + 1 ≤ k) :
    ((bs ++ fill k (i + 1) x).map f).set (bs.length + i) (f (x / 256 ^ (k - (i + 1)) % 256)) = (bs ++ fill k i x).map f := by
  rw [← fill_step h, ← List.map_set, List.set_append, if_neg (by omega)]
  simp

theorem div_pow_succ (x j : Nat) : x / 256 ^ j / 256 = x / 256 ^ (j + 1) := by
  rw [Nat.pow_succ, Nat.div_div_eq_div_mul]

theorem shift_or (n b : Nat) (h : b < 256) : n * 256 ||| b = n * 256 + b := by
  have := Nat.two_pow_add_eq_or_of_lt (i := 8) h n
  rw [Nat.mul_comm]
  simpa using this.symm

theorem take_val (bs : List Nat) (i : Nat) (h : i < bs.length) : val (bs.take (i + 1)) = val (bs.take i) * 256 + (bs[i]?.getD 0) := by
  rw [List.take_succ_eq_append_getElem h, val_snoc]
  simp [h]
theorem take_lt (bs : List Nat) (i : Nat) (hb : ∀ b ∈ bs, b < 256) (h : i ≤ bs.length) : val (bs.take i) < 256 ^ i := by
  have := val_lt (bs.take i) (fun b hm => hb b (List.mem_of_mem_take hm))
  rw [List.length_take, Nat.min_eq_left h] at this
  exact this
theorem getD_lt (bs : List Nat) (i : Nat) (hb : ∀ b ∈ bs, b < 256) : bs[i]?.getD 0 < 256 := by
  by_cases h : i < bs.length
  · simp [h]; exact hb _ (List.getElem_mem h)
  · simp [List.getElem?_eq_none (Nat.le_of_not_lt h)]

end Math
end Go.Proofs.Ytahfnfpcadjplaa
