/-
  Besides: sectors that are held against each other, structs in a block, what a call may turn, what a flush settles.
-/
import Derived.Test.YtekjlmnnaaodjaaWalksG
namespace Go.Proofs.Ytekjlmnnaaodjaa
open Go.RowKit Go.Maps Go.Shelf
open Math

set_option maxRecDepth 100000 in
theorem eqls_first (b : Nat) (h : b < 256) (w : World) : (binOp .eql 56 (arr (first b)) (arr (first b))).run Try.prog w = .ok (.bool true) w := by
  have := eqls_arr 56 16 Try.underlying56 (first b) (first b) rfl rfl (sec_first b h).2 (sec_first b h).2 w
  simpa using this

set_option maxRecDepth 100000 in
theorem eqls_same (x : List Nat) (hx : Sec x) (w : World) : (binOp .eql 56 (arr x) (arr x)).run Try.prog w = .ok (.bool true) w := by
  have := eqls_arr 56 16 Try.underlying56 x x hx.1 hx.1 hx.2 hx.2 w
  simpa using this
/-- Cells of a block, by their list. -/
theorem Blk.range {W : World} {g : Nat} {t : TypeId} {cs : List Value} (h : Blk W g t cs.toArray) (o : Nat) (l : List Value) (hl : ∀ j v, l[j]? = some v → cs[o + j]? = some v) : W.rangeAt g o l := fun j v hv => by
  rw [h.cell, List.getElem?_toArray]
  exact hl j v hv

theorem mid_of (pre l post : List Value) (o : Nat) (ho : pre.length = o) : ∀ j v, l[j]? = some v → (pre ++ (l ++ post))[o + j]? = some v := fun j v hv => by
  have hj : j < l.length := (List.getElem?_eq_some_iff.1 hv).1
  rw [List.getElem?_append_right (by omega), show o + j - pre.length = j by omega, List.getElem?_append_left hj]
  exact hv

section
variable {ops : Array Oper} {rest : List Oper} {o : Oper} {a : Act} {w : World} {Q : Exit → Act → World → Prop}
set_option maxRecDepth 100000 in
/-- A whole block stored. -/
theorem wpList_store_blk (hgd : o.guard = none) (ty : TypeId) (x y : Operand) (ho : o.op = .store ty x y) (g : Nat) (t : TypeId) (c0 : Array Value) (cs : List Value)
    (hx : a.eval x = .pointer (some ⟨g, 0, none⟩)) (hy : a.eval y = .agg cs.toArray) (h0 : Blk w g t c0) (hl : cs.length = c0.size) (hi : (Try.prog.info? ty).map (·.size) = some cs.length) (h1 : ∀ v ∈ cs, v.oneCell' = true)
    (h : ∀ w', Blk w' g t cs.toArray → Kept [g] w w' → Hid (w'.heap.size = w.heap.size) → wpList Try.prog ops Q rest (a.put o.dst undef) w') : wpList Try.prog ops Q (o :: rest) a w := by
  refine wpList_store_mid hgd ty x y ho g 0 cs.toArray hx hy ?_ (by simpa using hi) (all_oneCell_toArray h1) ?_
  · intro j hj
    rw [Nat.zero_add]
    refine ⟨?_, h0.frozen j⟩
    rw [h0.cell]
    simp at hj
    simp [show j < c0.size by omega]
  · have e : w.setCells g 0 cs = w.setRow g cs.toArray := setCells_row h0 hl h1
    refine h _ ?_ ?_ ?_
    · simp only [] at *
      rw [e]
      exact setRow_heap w g _ _ t _ h0
    · simp only [] at *
      rw [e]
      exact ⟨rfl, rfl, rfl, by simp [World.setRow], fun k _ hk => setRow_other w g k _ (by simpa using hk)⟩
    · simp only [] at *
      rw [e]
      show _ = _
      simp [World.setRow]
end
theorem Kept.young3 {a b c : World} {d e f : Nat} (h : Kept [] a b) (k : Kept [d, e, f] b c) (h1 : a.heap.size ≤ d) (h2 : a.heap.size ≤ e) (h3 : a.heap.size ≤ f) : Kept [] a c :=
  ⟨k.os.trans h.os, k.tape.trans h.tape, k.output.trans h.output, Nat.le_trans h.size k.size, fun i hi _ => (k.block i (Nat.lt_of_lt_of_le hi h.size) (by simp; omega)).trans (h.block i hi (by simp))⟩

theorem settled_none {s : Dk} {mask : Nat} {k : Int} (h : s.fresh k = none) : settled s mask k = s.safe k := by
  unfold settled
  rw [h]

theorem settled_full {s : Dk} {k : Int} {x : List Nat} (h : s.fresh k = some x) : settled s full k = x := by
  unfold settled
  rw [h]
  simp [full_bit]
/-- What was made since may be written, five blocks of it. -/
theorem Kept.young5 {a b c : World} {d e f r g : Nat} (h : Kept [] a b) (k : Kept [d, e, f, r, g] b c) (h1 : a.heap.size ≤ d) (h2 : a.heap.size ≤ e) (h3 : a.heap.size ≤ f) (h4 : a.heap.size ≤ r) (h5 : a.heap.size ≤ g) : Kept [] a c :=
  ⟨k.os.trans h.os, k.tape.trans h.tape, k.output.trans h.output, Nat.le_trans h.size k.size, fun i hi _ => (k.block i (Nat.lt_of_lt_of_le hi h.size) (by simp; omega)).trans (h.block i hi (by simp))⟩
end Go.Proofs.Ytekjlmnnaaodjaa
