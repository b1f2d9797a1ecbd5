/-
  Plain facts of layer 19: what was sent and is not acked.
-/
namespace Go.Proofs.Ytnbkbakbjllmcaa.Outbox

/-- What is there: the first one's number, the window, the bodies. -/
structure Ob where
  n : Nat
  w : Nat
  l : List (List Nat)
/-- k numbers from a on. -/
def nums (a k : Nat) : List Nat := List.range' a k
theorem nums_length (a k : Nat) : (nums a k).length = k := by simp [nums]
theorem nums_more (a k : Nat) : nums a (k + 1) = nums a k ++ [a + k] := by
  simp [nums, List.range'_concat]
theorem nums_mem {a k x : Nat} : x ∈ nums a k ↔ a ≤ x ∧ x < a + k := by
  simp [nums]
/-- How many are on their way. -/
def Ob.way (s : Ob) : Nat := min s.l.length s.w
/-- Nothing is there. -/
def made (w : Nat) : Ob := ⟨1, w, []⟩
def Ob.window (s : Ob) : List Nat := nums s.n s.way
def Ob.push (s : Ob) (b : List Nat) : Ob := { s with l := s.l ++ [b] }
def Ob.pushN (s : Ob) : Nat := s.n + s.l.length
def Ob.pushB (s : Ob) : Bool := decide (s.l.length < s.w)
theorem Ob.push_len (s : Ob) (b : List Nat) : (s.push b).l.length = s.l.length + 1 := by simp [Ob.push]
/-- Is it the number of one that is on its way? -/
def Ob.On (s : Ob) (n : Int) : Prop := (s.n : Int) ≤ n ∧ n < ((s.n + s.way : Nat) : Int)
/-- All up to n are there no longer. -/
def Ob.cut (s : Ob) (n : Nat) : Ob := ⟨n + 1, s.w, s.l.drop (n + 1 - s.n)⟩
def Ob.ack (s : Ob) (n : Int) : Ob := if (s.n : Int) ≤ n ∧ n < ((s.n + s.way : Nat) : Int) then s.cut n.toNat else s
/-- What is on its way now, and was not ahead. -/
def Ob.ackL (s : Ob) (n : Int) : List Nat := if (s.n : Int) ≤ n ∧ n < ((s.n + s.way : Nat) : Int) then nums (s.n + s.way) (n.toNat + 1 + (s.cut n.toNat).way - (s.n + s.way)) else []
theorem Ob.ack_in {s : Ob} {n : Int} (h : s.On n) : s.ack n = s.cut n.toNat := if_pos h
theorem Ob.ack_out {s : Ob} {n : Int} (h : ¬ s.On n) : s.ack n = s := if_neg h
theorem Ob.ackL_in {s : Ob} {n : Int} (h : s.On n) : s.ackL n = nums (s.n + s.way) (n.toNat + 1 + (s.cut n.toNat).way - (s.n + s.way)) := if_pos h
theorem Ob.ackL_out {s : Ob} {n : Int} (h : ¬ s.On n) : s.ackL n = [] := if_neg h
theorem Ob.cut_len (s : Ob) (n : Nat) : (s.cut n).l.length = s.l.length - (n + 1 - s.n) := by simp [Ob.cut]
theorem Ob.way_le (s : Ob) : s.way ≤ s.l.length ∧ s.way ≤ s.w := by
  unfold Ob.way
  omega
/-- The end of what is on its way never falls. -/
theorem Ob.end_rises {s : Ob} {n : Nat} (h1 : s.n ≤ n) : s.n + s.way ≤ n + 1 + (s.cut n).way := by
  have h3 := s.cut_len n
  have h4 : (s.cut n).w = s.w := rfl
  unfold Ob.way at *
  omega
/-- One step of the document's loop: the first one is there no longer. -/
theorem Ob.cut_step (s : Ob) (j : Nat) : (s.l.drop j).drop 1 = s.l.drop (j + 1) := by
  rw [List.drop_drop]
/-- The body of a number. -/
def Ob.body (s : Ob) (n : Int) : Option (List Nat) := if (s.n : Int) ≤ n then s.l[(n - s.n).toNat]? else none
theorem Ob.body_in {s : Ob} {n : Int} (j : Nat) (h : n = ((s.n + j : Nat) : Int)) : s.body n = s.l[j]? := by
  unfold Ob.body
  rw [if_pos (by omega)]
  congr 1
  omega
theorem Ob.body_out {s : Ob} {n : Int} (h : n < s.n ∨ ((s.n + s.l.length : Nat) : Int) ≤ n) : s.body n = none := by
  unfold Ob.body
  rcases h with h | h
  · rw [if_neg (by omega)]
  · split
    · exact List.getElem?_eq_none (by omega)
    · rfl
/-- How far the calls have come: what has gone, what is acked, what was pushed. -/
structure Gone (s : Ob) (gone acked pushed : Nat) : Prop where
  first : s.n = acked + 1
  len : acked + s.l.length = pushed
  gone : gone = acked + s.way
theorem Gone.pushN {s : Ob} {g a p : Nat} (h : Gone s g a p) : s.pushN = p + 1 := by
  have := h.first
  have := h.len
  unfold Ob.pushN
  omega
/-- What the statement takes for acked is what is on its way. -/
theorem Gone.on {s : Ob} {g a p : Nat} (h : Gone s g a p) (n : Int) : s.On n ↔ (a : Int) < n ∧ n ≤ (g : Int) := by
  have h1 := h.first
  have h3 := h.gone
  unfold Ob.On
  omega
/-- An Acked of what is on its way. -/
theorem Gone.acked {s : Ob} {g a p n : Nat} (h : Gone s g a p) (h1 : a < n) (h2 : n ≤ g) : ∃ k, s.ackL (n : Int) = nums (g + 1) k ∧ Gone (s.ack (n : Int)) (g + k) n p := by
  have on : s.On (n : Int) := (h.on _).2 (by omega)
  have f1 := h.first
  have f2 := h.len
  have f3 := h.gone
  have hr := s.end_rises (n := n) (by omega)
  refine ⟨n + 1 + (s.cut n).way - (s.n + s.way), ?_, ?_⟩
  · rw [Ob.ackL_in on, Int.toNat_natCast]
    congr 1
    omega
  · rw [Ob.ack_in on, Int.toNat_natCast]
    have hl := s.cut_len n
    have hw := s.way_le
    exact ⟨rfl, by omega, by omega⟩
theorem ack_w (s : Ob) (n : Int) : (s.ack n).w = s.w := by
  unfold Ob.ack
  split <;> rfl
/-- Numbers stay small. -/
theorem Gone.small {s : Ob} {g a p : Nat} (h : Gone s g a p) : a ≤ p ∧ s.n ≤ p + 1 ∧ g ≤ p := by
  have h1 := h.first
  have h2 := h.len
  have h3 := h.gone
  have := s.way_le
  omega
end Go.Proofs.Ytnbkbakbjllmcaa.Outbox

