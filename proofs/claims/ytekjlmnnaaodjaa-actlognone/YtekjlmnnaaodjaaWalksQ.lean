/-
  The walk of the document's New.
-/
import Derived.Test.YtekjlmnnaaodjaaWalksP
namespace Go.Proofs.Ytekjlmnnaaodjaa
open Go.RowKit Go.Maps Go.Shelf
open Math

/-- A cell of noughts, with nothing cached. -/
def zcell : List Value := [.int .u8 0, .int .u8 0, .int .u8 0, .int .u8 0, .int .u8 0, .int .u8 0, .int .u8 0, .int .u8 0, .int .u8 0, .int .u8 0, .int .u8 0, .int .u8 0, .int .u8 0, .int .u8 0, .int .u8 0, .int .u8 0, .int .u8 0, .int .u8 0, .int .u8 0, .int .u8 0, .int .u8 0, .int .u8 0, .int .u8 0, .int .u8 0, .int .u8 0, .int .u8 0, .int .u8 0, .int .u8 0, .int .u8 0, .int .u8 0, .int .u8 0, .int .u8 0, .bool false]
theorem zcell_rc (n i : Nat) : (rc (made n) i).cells = zcell := rfl
theorem zcell_one : ∀ v ∈ zcell, v.oneCell' = true := by
  intro v hv
  simp only [zcell, List.mem_cons, List.not_mem_nil, or_false] at hv
  rcases hv with rfl | rfl | rfl | rfl | rfl | rfl | rfl | rfl | rfl | rfl | rfl | rfl | rfl | rfl | rfl | rfl | rfl | rfl | rfl | rfl | rfl | rfl | rfl | rfl | rfl | rfl | rfl | rfl | rfl | rfl | rfl | rfl | rfl <;> rfl
def flat : Nat → List Value
  | 0 => []
  | k + 1 => flat k ++ zcell
theorem flat_length : ∀ k, (flat k).length = k * 33
  | 0 => rfl
  | k + 1 => by
    rw [flat, List.length_append, flat_length k]
    show k * 33 + 33 = _
    omega
theorem flat_get : ∀ (k i j : Nat), i < k → j < 33 → (flat k)[i * 33 + j]? = zcell[j]?
  | 0, _, _, h, _ => by omega
  | k + 1, i, j, h, hj => by
    rw [flat]
    by_cases e : i < k
    · rw [List.getElem?_append_left (by rw [flat_length]; omega)]
      exact flat_get k i j e hj
    · obtain rfl : i = k := by omega
      rw [List.getElem?_append_right (by rw [flat_length]; omega), flat_length, show i * 33 + j - i * 33 = j by omega]
/-- Cells of a block, as a slice of one element reads them. -/
theorem cell_new (w : World) (cs : List Value) (t : TypeId) : ∀ j u, cs[j]? = some u → (w.alloc (.cells cs.toArray t)).cell? ((⟨w.heap.size, 0, none⟩ : Addr).add j) = some u := fun j u hj => by
  rw [Addr.add_mid, Nat.zero_add, (blk_new w t cs.toArray).cell, List.getElem?_toArray]
  exact hj
theorem ownsRow_kept {A B : World} {base : Nat} {e : TypeId} {size : Nat} {v : Value} {n : Nat} {xs : List Value} {L : List Nat} (h : A.ownsRow base e size v n xs) (hk : Kept L A B) (hL : ∀ k ∈ L, k < base) : B.ownsRow base e size v n xs := by
  obtain ⟨hl, h | ⟨g, cap, cur, e, hg, hc, r⟩⟩ := h
  · exact ⟨hl, .inl h⟩
  · exact ⟨hl, .inr ⟨g, cap, cur, e, hg, (hk.block g (Array.getElem?_eq_some_iff.1 hc).1 (fun hm => by have := hL g hm; omega)).trans hc, r⟩⟩

theorem own_some {W : World} {base : Nat} {e : TypeId} {size : Nat} {v : Value} {n : Nat} {xs : List Value} (h : W.ownsRow base e size v (n + 1) xs) : ∃ g cap, v = .slice (some ⟨g, 0, none⟩) (n + 1) cap := by
  obtain ⟨_, ⟨_, h⟩ | ⟨g, cap, cur, e, _⟩⟩ := h
  · omega
  · exact ⟨g, cap, e⟩

end Go.Proofs.Ytekjlmnnaaodjaa
