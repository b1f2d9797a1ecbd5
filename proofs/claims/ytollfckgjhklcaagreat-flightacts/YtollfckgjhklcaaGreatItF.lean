import Derived.Test.YtollfckgjhklcaaGreatItE
/-
  What is asked of a tree in memory (Spec), whatever it is made of; both trees, alike; the walks of has and bits of twainlaw14.
-/
namespace Go.Proofs.YtollfckgjhklcaaGreat.Itree
open Go.RowKit

theorem kept_youngs {L M : List Nat} {a b c : World} (h : Kept L a b) (k : Kept M b c) (hM : ∀ x ∈ M, x ∈ L ∨ a.heap.size ≤ x) : Kept L a c :=
  ⟨k.os.trans h.os, k.tape.trans h.tape, k.output.trans h.output, Nat.le_trans h.size k.size, fun i hi hL => (k.block i (Nat.lt_of_lt_of_le hi h.size) (fun hm => by
    rcases hM i hm with e | e
    · exact hL e
    · omega)).trans (h.block i hi hL)⟩
/-- How many bits a number has. -/
def bitsN : Nat → Nat
  | 0 => 0
  | n + 1 => bitsN ((n + 1) / 2) + 1
  decreasing_by omega
theorem bitsN_step {m : Nat} (h : 0 < m) : bitsN m = bitsN (m / 2) + 1 := by
  cases m with
  | zero => omega
  | succ m => rw [bitsN]
theorem bitsN_zero : bitsN 0 = 0 := by rw [bitsN]
theorem bitsN_le : ∀ m : Nat, bitsN m ≤ m := fun m => by
  induction m using Nat.strongRecOn with
  | _ m ih =>
    by_cases h : 0 < m
    · rw [bitsN_step h]
      have := ih (m / 2) (by omega)
      omega
    · obtain rfl : m = 0 := by omega
      rw [bitsN_zero]
      exact Nat.le_refl _

end Go.Proofs.YtollfckgjhklcaaGreat.Itree

