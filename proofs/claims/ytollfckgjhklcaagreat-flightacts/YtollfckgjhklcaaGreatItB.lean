import Derived.Test.YtollfckgjhklcaaGreatItA
import Derived.Laws.AppendOwnNone
import Derived.Lib.AppendZeros
import Derived.Lib.SliceRun
import Derived.Test.YtollfckgjhklcaaGreatBits1
/-
  The document's Insert and Delete: rows joined, a row put in its place.
-/
namespace Go.Proofs.YtollfckgjhklcaaGreat.Itree
open Go.RowKit

/-- The cells of a row. -/
def rowC (L : List It) : List Value := L.flatMap It.cells
theorem rowC_append (A B : List It) : rowC (A ++ B) = rowC A ++ rowC B := by simp [rowC]
theorem rowC_length (L : List It) : (rowC L).length = L.length * 3 := by
  induction L with
  | nil => rfl
  | cons x L ih =>
    have : rowC (x :: L) = x.cells ++ rowC L := rfl
    rw [this, List.length_append, ih, List.length_cons]
    simp [It.cells]
    omega
theorem rowC_one (L : List It) : ∀ v ∈ rowC L, v.oneCell' = true := by
  intro v hv
  obtain ⟨x, _, hx⟩ := List.mem_flatMap.1 hv
  simp [It.cells] at hx
  rcases hx with rfl | rfl | rfl <;> rfl
theorem rowC_get (L : List It) (j : Nat) (x : It) (hx : L[j]? = some x) (k : Nat) (v : Value) (hv : x.cells[k]? = some v) : (rowC L)[j * 3 + k]? = some v := by
  have hj : j < L.length := (List.getElem?_eq_some_iff.1 hx).1
  have hk : k < 3 := by
    have := (List.getElem?_eq_some_iff.1 hv).1
    simpa [It.cells] using this
  have e : L = L.take j ++ x :: L.drop (j + 1) := by
    have h1 := List.getElem?_eq_some_iff.1 hx
    conv => lhs; rw [← List.take_append_drop j L, List.drop_eq_getElem_cons hj, h1.2]
  rw [e, rowC_append]
  have hl : (rowC (L.take j)).length = j * 3 := by rw [rowC_length, List.length_take, Nat.min_eq_left (by omega)]
  rw [List.getElem?_append_right (by omega), hl, Nat.add_sub_cancel_left]
  have : rowC (x :: L.drop (j + 1)) = x.cells ++ rowC (L.drop (j + 1)) := rfl
  rw [this, List.getElem?_append_left (by simp [It.cells]; omega)]
  exact hv
/-- Back: what lies at a place of a row of cells. -/
theorem rowC_at (L : List It) (q : Nat) (v : Value) (h : (rowC L)[q]? = some v) : ∃ x, L[q / 3]? = some x ∧ x.cells[q % 3]? = some v := by
  have hq : q < L.length * 3 := by
    have := (List.getElem?_eq_some_iff.1 h).1
    rwa [rowC_length] at this
  have hlt : q / 3 < L.length := by omega
  refine ⟨L[q / 3], List.getElem?_eq_getElem hlt, ?_⟩
  have h3 : q % 3 < (L[q / 3]).cells.length := by show q % 3 < 3; omega
  obtain ⟨u, hu⟩ : ∃ u, (L[q / 3]).cells[q % 3]? = some u := ⟨_, List.getElem?_eq_getElem h3⟩
  have := rowC_get L (q / 3) _ (List.getElem?_eq_getElem hlt) (q % 3) u hu
  rw [show q / 3 * 3 + q % 3 = q by omega, h] at this
  rw [hu]
  exact this.symm ▸ rfl
section
variable {ops : Array Oper} {rest : List Oper} {o : Oper} {a : Act} {w : World} {Q : Exit → Act → World → Prop}
end
theorem kept_grown {w w' : World} {v : Value} {base n : Nat} {e : TypeId} {z k : Nat} {l : List Value} (hown : w.ownsRow base e z v k l) (hg : w.grownBy w' v.ownBlock) (w0 : World) (h0 : Kept [] w0 w) (hb : w0.heap.size ≤ base) (_ : n = base) : Kept [] w0 w' :=
  ⟨hg.os.trans h0.os, hg.tape.trans h0.tape, hg.output.trans h0.output, Nat.le_trans h0.size hg.size, fun j hj _ => (hg.block j (Nat.lt_of_lt_of_le hj h0.size) (fun e => by have := (hown.lt j e.symm).1; omega)).trans (h0.block j hj (by simp))⟩
end Go.Proofs.YtollfckgjhklcaaGreat.Itree

