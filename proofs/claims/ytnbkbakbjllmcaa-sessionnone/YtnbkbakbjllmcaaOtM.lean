/-
  Plain facts of layer 19: what was sent and is not acked.
-/
namespace Go.Proofs.Ytnbkbakbjllmcaa.Outbox

/-- What is there: the first one's number, the window, the bodies. -/
structure Ob where
  n : Nat
  w : Nat
  l : List (List Nat)
/-- k numbers from a on. -/
def nums (a k : Nat) : List Nat := List.range' a k
theorem nums_length (a k : Nat) : (nums a k).length = k := by simp [nums]
theorem nums_zero (a : Nat) : nums a 0 = [] := rfl
theorem nums_succ (a k : Nat) : nums a (k + 1) = a :: nums (a + 1) k := rfl
theorem nums_more (a k : Nat) : nums a (k + 1) = nums a k ++ [a + k] := by
  simp [nums, List.range'_concat]
theorem nums_get (a k j : Nat) (h : j < k) : (nums a k)[j]? = some (a + j) := by
  simp [nums, h]
theorem nums_mem {a k x : Nat} : x ∈ nums a k ↔ a ≤ x ∧ x < a + k := by
  simp [nums]
theorem nums_add (a k m : Nat) : nums a (k + m) = nums a k ++ nums (a + k) m := by
  induction m with
  | zero => simp [nums_zero]
  | succ m ih => rw [← Nat.add_assoc, nums_more, ih, nums_more, List.append_assoc, Nat.add_assoc]
/-- Of numbers in a row those beyond m. -/
theorem nums_beyond (a k m : Nat) : (nums a k).filter (fun x => decide (m < x)) = nums (max a (m + 1)) (a + k - max a (m + 1)) := by
  induction k generalizing a with
  | zero =>
    have : a + 0 - max a (m + 1) = 0 := by omega
    rw [this, nums_zero, nums_zero]
    rfl
  | succ k ih =>
    rw [nums_succ, List.filter_cons, ih]
    by_cases h : m < a
    · rw [if_pos (by simpa using h)]
      have e1 : max a (m + 1) = a := by omega
      have e2 : max (a + 1) (m + 1) = a + 1 := by omega
      have e3 : a + (k + 1) - a = k + 1 := by omega
      have e4 : a + 1 + k - (a + 1) = k := by omega
      rw [e1, e2, e3, e4, nums_succ]
    · rw [if_neg (by simpa using h)]
      have e1 : max a (m + 1) = m + 1 := by omega
      have e2 : max (a + 1) (m + 1) = m + 1 := by omega
      have e3 : a + 1 + k - (m + 1) = a + (k + 1) - (m + 1) := by omega
      rw [e1, e2, e3]
/-- How many are on their way. -/
def Ob.way (s : Ob) : Nat := min s.l.length s.w
/-- Nothing is there. -/
def made (w : Nat) : Ob := ⟨1, w, []⟩
def Ob.window (s : Ob) : List Nat := nums s.n s.way
def Ob.full (s : Ob) : Bool := decide (s.w ≤ s.l.length)
def Ob.push (s : Ob) (b : List Nat) : Ob := { s with l := s.l ++ [b] }
def Ob.pushN (s : Ob) : Nat := s.n + s.l.length
def Ob.pushB (s : Ob) : Bool := decide (s.l.length < s.w)
theorem Ob.push_len (s : Ob) (b : List Nat) : (s.push b).l.length = s.l.length + 1 := by simp [Ob.push]
/-- The document's words for whether it may go at once. -/
theorem Ob.pushB_eq (s : Ob) (b : List Nat) : s.pushB = decide ((s.push b).l.length ≤ s.w) := by
  unfold Ob.pushB
  rw [s.push_len b]
  by_cases h : s.l.length < s.w
  · rw [decide_eq_true h, decide_eq_true (by omega)]
  · rw [decide_eq_false h, decide_eq_false (by omega)]
/-- Is it the number of one that is on its way? -/
def Ob.On (s : Ob) (n : Int) : Prop := (s.n : Int) ≤ n ∧ n < ((s.n + s.way : Nat) : Int)
/-- All up to n are there no longer. -/
def Ob.cut (s : Ob) (n : Nat) : Ob := ⟨n + 1, s.w, s.l.drop (n + 1 - s.n)⟩
def Ob.ack (s : Ob) (n : Int) : Ob := if (s.n : Int) ≤ n ∧ n < ((s.n + s.way : Nat) : Int) then s.cut n.toNat else s
/-- What is on its way now, and was not ahead. -/
def Ob.ackL (s : Ob) (n : Int) : List Nat := if (s.n : Int) ≤ n ∧ n < ((s.n + s.way : Nat) : Int) then nums (s.n + s.way) (n.toNat + 1 + (s.cut n.toNat).way - (s.n + s.way)) else []
theorem Ob.ack_in {s : Ob} {n : Int} (h : s.On n) : s.ack n = s.cut n.toNat := if_pos h
theorem Ob.ack_out {s : Ob} {n : Int} (h : ¬ s.On n) : s.ack n = s := if_neg h
theorem Ob.ackL_in {s : Ob} {n : Int} (h : s.On n) : s.ackL n = nums (s.n + s.way) (n.toNat + 1 + (s.cut n.toNat).way - (s.n + s.way)) := if_pos h
theorem Ob.ackL_out {s : Ob} {n : Int} (h : ¬ s.On n) : s.ackL n = [] := if_neg h
theorem Ob.cut_len (s : Ob) (n : Nat) : (s.cut n).l.length = s.l.length - (n + 1 - s.n) := by simp [Ob.cut]
theorem Ob.way_le (s : Ob) : s.way ≤ s.l.length ∧ s.way ≤ s.w := by
  unfold Ob.way
  omega
/-- The end of what is on its way never falls. -/
theorem Ob.end_rises {s : Ob} {n : Nat} (h1 : s.n ≤ n) : s.n + s.way ≤ n + 1 + (s.cut n).way := by
  have h3 := s.cut_len n
  have h4 : (s.cut n).w = s.w := rfl
  unfold Ob.way at *
  omega
/-- The document's way to tell what may go: of the numbers then those beyond the last one ahead. -/
theorem Ob.ackL_filter {s : Ob} {n : Nat} (h2 : n < s.n + s.way) : (s.cut n).window.filter (fun x => decide (s.n + s.way - 1 < x)) = nums (s.n + s.way) (n + 1 + (s.cut n).way - (s.n + s.way)) := by
  unfold Ob.window
  have e0 : (s.cut n).n = n + 1 := rfl
  rw [nums_beyond, e0]
  have e1 : max (n + 1) (s.n + s.way - 1 + 1) = s.n + s.way := by omega
  rw [e1]
/-- One step of the document's loop: the first one is there no longer. -/
theorem Ob.cut_step (s : Ob) (j : Nat) : (s.l.drop j).drop 1 = s.l.drop (j + 1) := by
  rw [List.drop_drop]
/-- The body of a number. -/
def Ob.body (s : Ob) (n : Int) : Option (List Nat) := if (s.n : Int) ≤ n then s.l[(n - s.n).toNat]? else none
theorem Ob.body_in {s : Ob} {n : Int} (j : Nat) (h : n = ((s.n + j : Nat) : Int)) : s.body n = s.l[j]? := by
  unfold Ob.body
  rw [if_pos (by omega)]
  congr 1
  omega
theorem Ob.body_out {s : Ob} {n : Int} (h : n < s.n ∨ ((s.n + s.l.length : Nat) : Int) ≤ n) : s.body n = none := by
  unfold Ob.body
  rcases h with h | h
  · rw [if_neg (by omega)]
  · split
    · exact List.getElem?_eq_none (by omega)
    · rfl
/-- How far the calls have come: what has gone, what is acked, what was pushed. -/
structure Gone (s : Ob) (gone acked pushed : Nat) : Prop where
  first : s.n = acked + 1
  len : acked + s.l.length = pushed
  gone : gone = acked + s.way
theorem gone_made (w : Nat) : Gone (made w) 0 0 0 := ⟨rfl, rfl, by simp [Ob.way, made]⟩
theorem Gone.pushN {s : Ob} {g a p : Nat} (h : Gone s g a p) : s.pushN = p + 1 := by
  have := h.first
  have := h.len
  unfold Ob.pushN
  omega
/-- A push that may go at once. -/
theorem Gone.push_goes {s : Ob} {g a p : Nat} (h : Gone s g a p) (b : List Nat) (hb : s.pushB = true) : Gone (s.push b) (g + 1) a (p + 1) ∧ p + 1 = g + 1 := by
  have h1 := h.first
  have h2 := h.len
  have h3 := h.gone
  have h4 := s.push_len b
  have h5 : (s.push b).w = s.w := rfl
  have h6 : s.l.length < s.w := by simpa [Ob.pushB] using hb
  refine ⟨⟨h1, by omega, ?_⟩, ?_⟩
  · unfold Ob.way at *
    omega
  · unfold Ob.way at *
    omega
theorem Gone.push_waits {s : Ob} {g a p : Nat} (h : Gone s g a p) (b : List Nat) (hb : s.pushB = false) : Gone (s.push b) g a (p + 1) := by
  have h1 := h.first
  have h2 := h.len
  have h3 := h.gone
  have h4 := s.push_len b
  have h5 : (s.push b).w = s.w := rfl
  have h6 : ¬ s.l.length < s.w := by simpa [Ob.pushB] using hb
  refine ⟨h1, by omega, ?_⟩
  unfold Ob.way at *
  omega
/-- What the statement takes for acked is what is on its way. -/
theorem Gone.on {s : Ob} {g a p : Nat} (h : Gone s g a p) (n : Int) : s.On n ↔ (a : Int) < n ∧ n ≤ (g : Int) := by
  have h1 := h.first
  have h3 := h.gone
  unfold Ob.On
  omega
/-- An Acked of what is on its way. -/
theorem Gone.acked {s : Ob} {g a p n : Nat} (h : Gone s g a p) (h1 : a < n) (h2 : n ≤ g) : ∃ k, s.ackL (n : Int) = nums (g + 1) k ∧ Gone (s.ack (n : Int)) (g + k) n p := by
  have on : s.On (n : Int) := (h.on _).2 (by omega)
  have f1 := h.first
  have f2 := h.len
  have f3 := h.gone
  have hr := s.end_rises (n := n) (by omega)
  refine ⟨n + 1 + (s.cut n).way - (s.n + s.way), ?_, ?_⟩
  · rw [Ob.ackL_in on, Int.toNat_natCast]
    congr 1
    omega
  · rw [Ob.ack_in on, Int.toNat_natCast]
    have hl := s.cut_len n
    have hw := s.way_le
    exact ⟨rfl, by omega, by omega⟩
/-- One that is not on its way. -/
theorem Gone.not_acked {s : Ob} {g a p : Nat} {n : Int} (h : Gone s g a p) (hn : ¬ ((a : Int) < n ∧ n ≤ (g : Int))) : s.ackL n = [] ∧ s.ack n = s := by
  have on : ¬ s.On n := fun e => hn ((h.on n).1 e)
  exact ⟨Ob.ackL_out on, Ob.ack_out on⟩
/-- What the statement asks behind each call. -/
theorem Gone.fine {s : Ob} {g a p : Nat} (h : Gone s g a p) : g ≤ a + s.w ∧ g ≤ p ∧ (g < p → g = a + s.w) ∧ s.l.length = p - a := by
  have h2 := h.len
  have h3 := h.gone
  unfold Ob.way at *
  omega
theorem ack_w (s : Ob) (n : Int) : (s.ack n).w = s.w := by
  unfold Ob.ack
  split <;> rfl
theorem push_w (s : Ob) (b : List Nat) : (s.push b).w = s.w := rfl
/-- Numbers stay small. -/
theorem Gone.small {s : Ob} {g a p : Nat} (h : Gone s g a p) : a ≤ p ∧ s.n ≤ p + 1 ∧ g ≤ p := by
  have h1 := h.first
  have h2 := h.len
  have h3 := h.gone
  have := s.way_le
  omega
end Go.Proofs.Ytnbkbakbjllmcaa.Outbox

