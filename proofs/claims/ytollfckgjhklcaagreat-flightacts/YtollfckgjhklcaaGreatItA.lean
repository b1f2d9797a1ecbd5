import Derived.Test.YtollfckgjhklcaaGreatBase
import Derived.Test.YtollfckgjhklcaaGreatSpan1
import Derived.Test.YtollfckgjhklcaaGreatItM
/-
  The document's tree in memory: items in a row; the walks of less, place, Insert, Delete, Overlaps and Ids of twainref14.
-/
namespace Go.Proofs.YtollfckgjhklcaaGreat.Itree
open Go.RowKit

/-- An item's cells, and those of a row. -/
def It.cells (x : It) : List Value := [.int .i64 x.o, .int .i64 x.l, .int .i64 x.i]
def It.val (x : It) : Value := .agg #[.int .i64 x.o, .int .i64 x.l, .int .i64 x.i]

/-- Items in a row; ob: its block, where there is one. -/
def ItemsAt (W : World) (v : Value) (ob : Option Nat) (L : List It) : Prop :=
  ∃ a cap, v = .slice a L.length cap ∧ L.length ≤ cap ∧ cap ≤ maxLen ∧ ((a = none ∧ ob = none ∧ cap = 0 ∧ L = []) ∨ ∃ b off, a = some ⟨b, off, none⟩ ∧ ob = some b ∧ b < W.heap.size ∧ ∀ j x, L[j]? = some x → W.rangeAt b (off + j * 3) x.cells)
theorem ItemsAt.kept {K : List Nat} {A B : World} {v : Value} {ob : Option Nat} {L : List It} (h : ItemsAt A v ob L) (hk : Kept K A B) (hb : ∀ b, ob = some b → b ∉ K) : ItemsAt B v ob L := by
  obtain ⟨a, cap, rfl, hc, hm, ⟨h1, h2, h3, h4⟩ | ⟨b, off, h1, h2, h3, h4⟩⟩ := h
  · exact ⟨a, cap, rfl, hc, hm, .inl ⟨h1, h2, h3, h4⟩⟩
  · refine ⟨a, cap, rfl, hc, hm, .inr ⟨b, off, h1, h2, Nat.lt_of_lt_of_le h3 hk.size, fun j x hx i v hv => ?_⟩⟩
    have := h4 j x hx i v hv
    rw [← this]
    have e := hk.block b h3 (hb b h2)
    exact World.cell?_of_block (by exact e)
end Go.Proofs.YtollfckgjhklcaaGreat.Itree

