import Derived.Test.YtfiofdmefgkloaaGreatDataN
import Derived.Test.YtfiofdmefgkloaaGreatDisk3
/-
  The walks of DataNone and DataKeeps.
-/
namespace Go.Proofs.YtfiofdmefgkloaaGreat
open Go.RowKit Go.Maps Go.Shelf
open Math

/-- An act's cells, and what lies at each of them. -/
def actCells (k t : Int) (m : Nat) (o l : Int) (v : Value) : Array Value := #[.int .i64 k, .int .i64 t, .int .u64 (m : Int), .int .i64 o, .int .i64 l, v]
/-- What was made since is not of before. -/
theorem Kept.old {a b : World} {d b1 b2 m : Nat} (h : Kept [d, b1, b2] a b) (hd : a.heap.size + m ≤ d ∧ a.heap.size + m ≤ b1 ∧ a.heap.size + m ≤ b2) : Kept [] a b := (Kept.refl [] a).youngs h (by simp; omega)
set_option maxRecDepth 100000 in
/-- New, its blocks named -/
theorem new_ex (n : Nat) (h1 : 1 ≤ n) (h2 : n ≤ 1024) (w : World) :
    Calls Tryz.prog 8 #[.int .i64 (n : Int)] w fun e w' => ∃ d b1 b2, e = .returned (.tuple #[.pointer (some ⟨d, 0, none⟩), .int .i64 0]) ∧ DiskAt w' d b1 b2 (made n) ∧ (w.heap.size ≤ d ∧ w.heap.size ≤ b1 ∧ w.heap.size ≤ b2) ∧ Kept [] w w' :=
  (new_any n h1 h2 w).mono fun e w' ⟨he, hd, hk⟩ => ⟨_, _, _, he, hd, ⟨by omega, by omega, by omega⟩, hk⟩
/-- Parts of a row of bytes. -/
theorem ByteRow.open {lo hi : Nat} {W : World} {a : Option Addr} {len cap : Nat} {bs : List Nat} (h : ByteRow lo hi W (.slice a len cap) bs) (h0 : 1 ≤ len) : ∃ g off, a = some ⟨g, off, none⟩ ∧ len ≤ cap ∧ bs.length = len := by
  obtain ⟨_, a', cap', e, _, h⟩ := h
  injection e with e1 e2 e3
  subst e1 e3
  rcases h with rfl | ⟨g, off, rfl, hc, _⟩
  · simp at e2
    omega
  · exact ⟨g, off, rfl, by omega, e2.symm⟩
theorem ByteRow.len {lo hi : Nat} {W : World} {a : Option Addr} {len cap : Nat} {bs : List Nat} (h : ByteRow lo hi W (.slice a len cap) bs) : len = bs.length := by
  obtain ⟨_, _, _, e, _⟩ := h
  injection e
theorem ByteRow.cut {lo hi : Nat} {W : World} {g off len cap : Nat} {bs : List Nat} (h : ByteRow lo hi W (.slice (some ⟨g, off, none⟩) len cap) bs) (i j : Nat) (hij : i ≤ j) (hj : j ≤ len) (hc : len ≤ cap) : ByteRow lo hi W (.slice (some ⟨g, off + i, none⟩) (j - i) (cap - i)) ((bs.drop i).take (j - i)) := by
  obtain ⟨hb, a', cap', e, _, h⟩ := h
  injection e with e1 e2 e3
  subst e1 e3
  have hl : ((bs.drop i).take (j - i)).length = j - i := by simp; omega
  refine ⟨fun b hm => hb b (List.mem_of_mem_drop (List.mem_of_mem_take hm)), some ⟨g, off + i, none⟩, cap - i, by rw [hl], fun e => (by cases e), ?_⟩
  rcases h with rfl | ⟨g', off', e, hc', h1, h2, hcell⟩
  · left
    simp
  · obtain ⟨rfl, rfl⟩ : g = g' ∧ off = off' := by simpa using e
    right
    refine ⟨g, off + i, rfl, by omega, h1, h2, fun k hk => ?_⟩
    rw [hl] at hk
    rw [Nat.add_assoc, hcell (i + k) (by omega), List.getElem?_take_of_lt hk, List.getElem?_drop]
theorem over_mid {L l : List Nat} {p : Nat} (h : p ≤ L.length) : ((over L p l).drop p).take l.length = l := by
  have e : (L.take p).length = p := by simp; omega
  unfold over
  rw [List.append_assoc, List.drop_append, e, Nat.sub_self, List.drop_zero, List.drop_eq_nil_of_le (by omega), List.nil_append, List.take_append_of_le_length (Nat.le_refl _), List.take_length]
theorem over_front {L l : List Nat} {p : Nat} (h : p ≤ L.length) : (over L p l).take p = L.take p := by
  have e : (L.take p).length = p := by simp; omega
  unfold over
  rw [List.append_assoc, List.take_append_of_le_length (by omega), List.take_of_length_le (by omega)]
theorem over_back {L l : List Nat} {p : Nat} (h : p ≤ L.length) : (over L p l).drop (p + l.length) = L.drop (p + l.length) := by
  have e : (L.take p ++ l).length = p + l.length := by simp; omega
  unfold over
  rw [List.drop_append, e, Nat.sub_self, List.drop_zero, List.drop_eq_nil_of_le (by omega), List.nil_append]
theorem ByteRow.front {lo hi : Nat} {W : World} {g off len cap : Nat} {bs : List Nat} (h : ByteRow lo hi W (.slice (some ⟨g, off, none⟩) len cap) bs) (j : Nat) (hj : j ≤ len) (hc : len ≤ cap) : ByteRow lo hi W (.slice (some ⟨g, off, none⟩) j cap) (bs.take j) := by
  have := h.cut 0 j (Nat.zero_le _) hj hc
  simpa only [Nat.add_zero, Nat.sub_zero, List.drop_zero] using this
theorem ByteRow.nothing {lo hi : Nat} {W : World} (a : Addr) (cap : Nat) : ByteRow lo hi W (.slice (some a) 0 cap) [] := ⟨by simp, some a, cap, rfl, fun e => (by cases e), .inl rfl⟩
end Go.Proofs.YtfiofdmefgkloaaGreat

