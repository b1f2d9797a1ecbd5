/-
  The walk of the document's New.
-/
import Derived.Test.YtekjlmnnaaodjaaGreatWalksP
namespace Go.Proofs.YtekjlmnnaaodjaaGreat
open Go.RowKit Go.Maps Go.Shelf
open Math

/-- A cell of noughts, with nothing cached. -/
def zcell : List Value := [.int .u8 0, .int .u8 0, .int .u8 0, .int .u8 0, .int .u8 0, .int .u8 0, .int .u8 0, .int .u8 0, .int .u8 0, .int .u8 0, .int .u8 0, .int .u8 0, .int .u8 0, .int .u8 0, .int .u8 0, .int .u8 0, .int .u8 0, .int .u8 0, .int .u8 0, .int .u8 0, .int .u8 0, .int .u8 0, .int .u8 0, .int .u8 0, .int .u8 0, .int .u8 0, .int .u8 0, .int .u8 0, .int .u8 0, .int .u8 0, .int .u8 0, .int .u8 0, .bool false]
theorem zcell_rc (n i : Nat) : (rc (made n) i).cells = zcell := rfl
theorem zcell_one : ∀ v ∈ zcell, v.oneCell' = true := by
  intro v hv
  simp only [zcell, List.mem_cons, List.not_mem_nil, or_false] at hv
  rcases hv with rfl | rfl | rfl | rfl | rfl | rfl | rfl | rfl | rfl | rfl | rfl | rfl | rfl | rfl | rfl | rfl | rfl | rfl | rfl | rfl | rfl | rfl | rfl | rfl | rfl | rfl | rfl | rfl | rfl | rfl | rfl | rfl | rfl <;> rfl
def flat : Nat → List Value
  | 0 => []
  | k + 1 => flat k ++ zcell
theorem flat_length : ∀ k, (flat k).length = k * 33
  | 0 => rfl
  | k + 1 => by
    rw [flat, List.length_append, flat_length k]
    show k * 33 + 33 = _
    omega
theorem flat_get : ∀ (k i j : Nat), i < k → j < 33 → (flat k)[i * 33 + j]? = zcell[j]?
  | 0, _, _, h, _ => by omega
  | k + 1, i, j, h, hj => by
    rw [flat]
    by_cases e : i < k
    · rw [List.getElem?_append_left (by rw [flat_length]; omega)]
      exact flat_get k i j e hj
    · obtain rfl : i = k := by omega
      rw [List.getElem?_append_right (by rw [flat_length]; omega), flat_length, show i * 33 + j - i * 33 = j by omega]
set_option maxRecDepth 100000 in
theorem Tryz.info54 : (Tryz.prog.info? 54).map (fun i => (i.zero, i.size, i.bytes)) = some (some (.agg #[.int .u8 0, .int .u8 0, .int .u8 0, .int .u8 0, .int .u8 0, .int .u8 0, .int .u8 0, .int .u8 0, .int .u8 0, .int .u8 0, .int .u8 0, .int .u8 0, .int .u8 0, .int .u8 0, .int .u8 0, .int .u8 0, .int .u8 0, .int .u8 0, .int .u8 0, .int .u8 0, .int .u8 0, .int .u8 0, .int .u8 0, .int .u8 0, .int .u8 0, .int .u8 0, .int .u8 0, .int .u8 0, .int .u8 0, .int .u8 0, .int .u8 0, .int .u8 0, .bool false]), 33, 33) := by kernel_rfl

set_option maxRecDepth 100000 in
theorem refNew_none (k : Int) (h : k < 1 ∨ 1024 < k) (w : World) :
    Calls Tryz.prog 6 #[.int .i64 k] w fun e w' => e = .returned (.tuple #[.pointer none, .int .i64 2]) ∧ w' = w := by
  rcases (show k < 1 ∨ (1 ≤ k ∧ 1024 < k) by omega) with h1 | ⟨h1, h2⟩
  · go_enter Tryz.func6, Tryz.ntmps6
    go_wp2
    go_ret2
    exact ⟨rfl, rfl⟩
  · have k1 : ¬ (k < 1) := by omega
    go_enter Tryz.func6, Tryz.ntmps6
    go_wp2
    go_ret2
    exact ⟨rfl, rfl⟩

/-- Cells of a block, as a slice of one element reads them. -/
theorem cell_new (w : World) (cs : List Value) (t : TypeId) : ∀ j u, cs[j]? = some u → (w.alloc (.cells cs.toArray t)).cell? ((⟨w.heap.size, 0, none⟩ : Addr).add j) = some u := fun j u hj => by
  rw [Addr.add_mid, Nat.zero_add, (blk_new w t cs.toArray).cell, List.getElem?_toArray]
  exact hj
theorem ownsRow_kept {A B : World} {base : Nat} {e : TypeId} {size : Nat} {v : Value} {n : Nat} {xs : List Value} {L : List Nat} (h : A.ownsRow base e size v n xs) (hk : Kept L A B) (hL : ∀ k ∈ L, k < base) : B.ownsRow base e size v n xs := by
  obtain ⟨hl, h | ⟨g, cap, cur, e, hg, hc, r⟩⟩ := h
  · exact ⟨hl, .inl h⟩
  · exact ⟨hl, .inr ⟨g, cap, cur, e, hg, (hk.block g (Array.getElem?_eq_some_iff.1 hc).1 (fun hm => by have := hL g hm; omega)).trans hc, r⟩⟩

theorem own_some {W : World} {base : Nat} {e : TypeId} {size : Nat} {v : Value} {n : Nat} {xs : List Value} (h : W.ownsRow base e size v (n + 1) xs) : ∃ g cap, v = .slice (some ⟨g, 0, none⟩) (n + 1) cap := by
  obtain ⟨_, ⟨_, h⟩ | ⟨g, cap, cur, e, _⟩⟩ := h
  · omega
  · exact ⟨g, cap, e⟩

set_option maxRecDepth 100000 in
set_option maxHeartbeats 4000000 in
/-- New, of a length that a disk has -/
theorem refNew_any (N : Nat) (h1 : 1 ≤ N) (h2 : N ≤ 1024) (w : World) :
    Calls Tryz.prog 6 #[.int .i64 (N : Int)] w fun e w' => ∃ g cap, e = .returned (.tuple #[.pointer (some ⟨w.heap.size, 0, none⟩), .int .i64 0]) ∧ RefAt w' w.heap.size g cap (made N) ∧ w.heap.size ≤ g ∧ Kept [] w w' := by
  have k1 : ¬ ((N : Int) < 1) := by omega
  have k2 : ¬ ((1024 : Int) < (N : Int)) := by omega
  obtain ⟨i0, hi, hz0, hz1, hz2⟩ := info_parts Tryz.info54
  have hb0 : Blk (w.alloc (.cells #[.slice none 0 0, .int .i64 (-1), .bool false, .int .i64 0] 46)) w.heap.size 46 #[.slice none 0 0, .int .i64 (-1), .bool false, .int .i64 0] := blk_new w 46 _
  have hk0 := kept_alloc [] w (.cells #[.slice none 0 0, .int .i64 (-1), .bool false, .int .i64 0] 46)
  go_enter Tryz.func6, Tryz.ntmps6
  go_wp2
  go_loopw [5] (fun i wr => ∃ k : Nat, k ≤ N ∧ i = .int .i64 k ∧ ∃ v, Blk wr w.heap.size 46 #[v, .int .i64 (-1), .bool false, .int .i64 0] ∧ wr.ownsRow (w.heap.size + 1) 54 33 v k (flat k) ∧ Kept [] w wr) (fun i _ => N - (RowKit.intOf i).toNat)
  case atStart => exact ⟨0, by omega, rfl, _, hb0, World.ownsRow_nil _ _ _ _, hk0⟩
  case round =>
    obtain ⟨k, hk, rfl, v, hb, hown, hK⟩ := hrel
    by_cases hlt : k < N
    · have kk : (k : Int) < (N : Int) := by omega
      have hm1 : Hid (N - (k + 1) < N - k) := by show _ < _; omega
      have c0 : wr.cell? ⟨w.heap.size, 0, none⟩ = some v := hb.cell 0
      have hl := hb.lt
      have hb1 := hb.kept (kept_alloc [] wr (.cells #[.int .u8 0, .int .u8 0, .int .u8 0, .int .u8 0, .int .u8 0, .int .u8 0, .int .u8 0, .int .u8 0, .int .u8 0, .int .u8 0, .int .u8 0, .int .u8 0, .int .u8 0, .int .u8 0, .int .u8 0, .int .u8 0, .int .u8 0, .int .u8 0, .int .u8 0, .int .u8 0, .int .u8 0, .int .u8 0, .int .u8 0, .int .u8 0, .int .u8 0, .int .u8 0, .int .u8 0, .int .u8 0, .int .u8 0, .int .u8 0, .int .u8 0, .int .u8 0, .bool false] 54)) (by simp)
      have hown1 := ownsRow_kept hown (kept_alloc [] wr (.cells #[.int .u8 0, .int .u8 0, .int .u8 0, .int .u8 0, .int .u8 0, .int .u8 0, .int .u8 0, .int .u8 0, .int .u8 0, .int .u8 0, .int .u8 0, .int .u8 0, .int .u8 0, .int .u8 0, .int .u8 0, .int .u8 0, .int .u8 0, .int .u8 0, .int .u8 0, .int .u8 0, .int .u8 0, .int .u8 0, .int .u8 0, .int .u8 0, .int .u8 0, .int .u8 0, .int .u8 0, .int .u8 0, .int .u8 0, .int .u8 0, .int .u8 0, .int .u8 0, .bool false] 54)) (by simp)
      have hblk := fun b (e : v.ownBlock = some b) => (hown.lt b e).1
      have H63 : Hid (k + 1 ≤ maxLen) := by show _ ≤ _; unfold maxLen; omega
      have HBY : Hid ((k + 1) * 33 ≤ 140737488355328) := by show _ ≤ _; omega
      have HBS : Hid (w.heap.size + 1 ≤ (wr.alloc (.cells #[.int .u8 0, .int .u8 0, .int .u8 0, .int .u8 0, .int .u8 0, .int .u8 0, .int .u8 0, .int .u8 0, .int .u8 0, .int .u8 0, .int .u8 0, .int .u8 0, .int .u8 0, .int .u8 0, .int .u8 0, .int .u8 0, .int .u8 0, .int .u8 0, .int .u8 0, .int .u8 0, .int .u8 0, .int .u8 0, .int .u8 0, .int .u8 0, .int .u8 0, .int .u8 0, .int .u8 0, .int .u8 0, .int .u8 0, .int .u8 0, .int .u8 0, .int .u8 0, .bool false] 54)).heap.size) := by show _ ≤ _; rw [World.size_alloc]; omega
      have HNW : Hid (∀ j u, zcell[j]? = some u → (wr.alloc (.cells #[.int .u8 0, .int .u8 0, .int .u8 0, .int .u8 0, .int .u8 0, .int .u8 0, .int .u8 0, .int .u8 0, .int .u8 0, .int .u8 0, .int .u8 0, .int .u8 0, .int .u8 0, .int .u8 0, .int .u8 0, .int .u8 0, .int .u8 0, .int .u8 0, .int .u8 0, .int .u8 0, .int .u8 0, .int .u8 0, .int .u8 0, .int .u8 0, .int .u8 0, .int .u8 0, .int .u8 0, .int .u8 0, .int .u8 0, .int .u8 0, .int .u8 0, .int .u8 0, .bool false] 54)).cell? ((⟨wr.heap.size, 0, none⟩ : Addr).add j) = some u) := cell_new wr zcell 54
      clear hb0 hk0 hb hown
      go_wp2_with (first
        | (at_builtin; refine wpList_append_own _ rfl _ _ 44 rfl (w.heap.size + 1) 54 i0 (.agg #[.int .u8 0, .int .u8 0, .int .u8 0, .int .u8 0, .int .u8 0, .int .u8 0, .int .u8 0, .int .u8 0, .int .u8 0, .int .u8 0, .int .u8 0, .int .u8 0, .int .u8 0, .int .u8 0, .int .u8 0, .int .u8 0, .int .u8 0, .int .u8 0, .int .u8 0, .int .u8 0, .int .u8 0, .int .u8 0, .int .u8 0, .int .u8 0, .int .u8 0, .int .u8 0, .int .u8 0, .int .u8 0, .int .u8 0, .int .u8 0, .int .u8 0, .int .u8 0, .bool false]) 33 33 Tryz.underlying44 hi hz0 hz1 hz2 rfl (by decide) v k _ rfl hown1 ⟨wr.heap.size, 0, none⟩ 1 1 zcell rfl rfl HNW.out zcell_one H63.out HBY.out HBS.out ?_; intro v' w9 hown9 hg9 hnil9; have hb9 : Blk w9 w.heap.size 46 #[v, .int .i64 (-1), .bool false, .int .i64 0] := (hg9.block _ hb1.lt (fun e => by have := hblk _ e.symm; omega)).trans hb1; have c9 : w9.cell? ⟨w.heap.size, 0, none⟩ = some v := hb9.cell 0; have f9 := hb9.frozen 0; obtain ⟨g9, cap9, rfl⟩ := own_some hown9))
      go_roundw
      case rel =>
        have hk9 : Kept [] w w9 := Kept.of_own hg9 (base := w.heap.size) (fun b e => by have := hblk b e; omega) (hK.trans (kept_alloc [] _ _)) rfl
        refine ⟨k + 1, by omega, rfl, _, hb9.set 0 _, ?_, hk9.young (kept_set (by simp) _ _ _) (Nat.le_refl _)⟩
        exact ownsRow_kept hown9 (kept_set (L := [w.heap.size]) (g := w.heap.size) (by simp) _ _ _) (by simp)
      case measure => simpa [RowKit.intOf] using hm1.out
    · obtain rfl : k = N := by omega
      clear hb0 hk0
      go_wp2
      go_ret2
      obtain ⟨hl, ⟨_, h0⟩ | ⟨g, cap, cur, rfl, hg, hc, hnc, hcm, hcs, ht⟩⟩ := hown
      · omega
      refine ⟨g, cap, rfl, ⟨⟨hb, ⟨cur.toList, ?_, ?_, ?_⟩, fun i => rc_ok (valid_made k h1 h2) i, hnc, hcm, h2, by simp [made], by simp [made]⟩, valid_made k h1 h2⟩, by omega, hK⟩
      · exact hc
      · show k * 33 ≤ cur.toList.length
        have := Nat.mul_le_mul_right 33 hnc
        simp [hcs]
        omega
      · intro i hi j hj
        show cur.toList[i * 33 + j]? = zcell[j]?
        have hi' : i < k := hi
        rw [← flat_get k i j hi' hj, ← ht, List.getElem?_take_of_lt (by omega)]
end Go.Proofs.YtekjlmnnaaodjaaGreat
