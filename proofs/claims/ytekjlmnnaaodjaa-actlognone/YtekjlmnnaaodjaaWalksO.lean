/-
  The walks of the document's disk: keep, Flush, Crash.
-/
import Derived.Test.YtekjlmnnaaodjaaWalksN
namespace Go.Proofs.Ytekjlmnnaaodjaa
open Go.RowKit Go.Maps Go.Shelf
open Math

/-- Behind the first i cells. -/
def midS (s : Dk) (mask i : Nat) : Dk :=
  { s with safe := fun k => if 0 ≤ k ∧ k < (i : Int) then settled s mask k else s.safe k, fresh := fun k => if 0 ≤ k ∧ k < (i : Int) then none else s.fresh k }
theorem midS_start (s : Dk) (mask : Nat) : midS s mask 0 = s := by
  unfold midS
  have e : ∀ k : Int, (0 ≤ k ∧ k < ((0 : Nat) : Int)) = False := fun k => by
    simp only [eq_iff_iff, iff_false]
    omega
  simp only [e, if_false]
theorem valid_midS {s : Dk} (h : Valid s) (mask i : Nat) : Valid (midS s mask i) := by
  refine ⟨h.pos, h.top, fun k x hx => ?_, fun k => ?_, fun k hk => ?_, h.low, h.high⟩
  · simp only [midS] at hx
    split at hx
    · cases hx
    · exact h.fresh k x hx
  · show Sec (if _ then _ else _)
    split
    · exact settled_sec h mask k
    · exact h.safe k
  · show (if _ then _ else _) = _
    split
    · exact settled_out h mask k hk
    · exact h.out k hk
/-- The same as rows. -/
theorem midS_other {s : Dk} {mask i k : Nat} (hk : k ≠ i) : rc (midS s mask (i + 1)) k = rc (midS s mask i) k := by
  have e : ((0 : Int) ≤ (k : Int) ∧ (k : Int) < ((i + 1 : Nat) : Int)) ↔ ((0 : Int) ≤ (k : Int) ∧ (k : Int) < (i : Int)) := by omega
  simp only [rc, midS, e]
theorem midS_at (s : Dk) (mask i : Nat) : rc (midS s mask i) i = rc s i := by
  have e : ¬ ((0 : Int) ≤ (i : Int) ∧ (i : Int) < (i : Int)) := by omega
  simp only [rc, midS, e, if_false]
theorem midS_next (s : Dk) (mask i : Nat) : rc (midS s mask (i + 1)) i = ⟨settled s mask i, nought, false⟩ := by
  have e : ((0 : Int) ≤ (i : Int) ∧ (i : Int) < ((i + 1 : Nat) : Int)) := by omega
  simp only [rc, midS, e, if_true, and_self]
  rfl
theorem midS_none {s : Dk} {mask i : Nat} (h : s.fresh i = none) : rc (midS s mask (i + 1)) = rc (midS s mask i) := by
  funext k
  by_cases e : k = i
  · subst e
    rw [midS_next, midS_at]
    simp [rc, h, settled_none h]
  · exact midS_other e
theorem midS_end (s : Dk) (mask : Nat) : ∀ k, k < s.size → rc (spent s mask) k = rc (midS s mask s.size) k := fun k hk => by
  have e : ((0 : Int) ≤ (k : Int) ∧ (k : Int) < (s.size : Int)) := by omega
  simp only [rc, midS, e, if_true, and_self]
  rfl

section
variable {ops : Array Oper} {rest : List Oper} {o : Oper} {a : Act} {w : World} {Q : Exit → Act → World → Prop}
end

end Go.Proofs.Ytekjlmnnaaodjaa
