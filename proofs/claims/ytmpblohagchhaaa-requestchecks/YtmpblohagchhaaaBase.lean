import Derived.Test.YtmpblohagchhaaaProg
import Derived.WalkKit
import Derived.WalkSpells
import Derived.WalkLawsBesides
import Derived.Laws.BitsAllLaws
import Derived.Laws.StructEq
import Derived.Below
import Derived.LoopTactic
import Derived.WalkSmall
import Derived.RegionTactic
import Derived.Deep.QuietTactic
import Derived.BigQuiet
import Derived.Deep.WholeRow
import Derived.Deep.MidRow
import Derived.Deep.RegionLaw
import Derived.Deep.RegionHeld3
import Derived.Laws.OwnMore
import Derived.Maps.OwnSet
/-
  What stays where it was; a block of cells (what the texts of the disk have too: a seat that has these does without this text).
-/
namespace Go.Proofs.Ytmpblohagchhaaa
open Go.RowKit

/-- Every block but those of L is as it was; new ones may have come. -/
structure Kept (L : List Nat) (w w' : World) : Prop where
  os : w'.os = w.os
  tape : w'.tape = w.tape
  output : w'.output = w.output
  size : w.heap.size ≤ w'.heap.size
  block : ∀ k, k < w.heap.size → k ∉ L → w'.heap[k]? = w.heap[k]?
theorem Kept.refl (L : List Nat) (w : World) : Kept L w w := ⟨rfl, rfl, rfl, Nat.le_refl _, fun _ _ _ => rfl⟩
theorem Kept.trans {L : List Nat} {a b c : World} (h : Kept L a b) (k : Kept L b c) : Kept L a c :=
  ⟨k.os.trans h.os, k.tape.trans h.tape, k.output.trans h.output, Nat.le_trans h.size k.size, fun i hi hL => (k.block i (Nat.lt_of_lt_of_le hi h.size) hL).trans (h.block i hi hL)⟩
theorem Kept.mono {L L' : List Nat} {w w' : World} (h : Kept L w w') (hs : ∀ k ∈ L, k ∈ L') : Kept L' w w' := ⟨h.os, h.tape, h.output, h.size, fun k hk hL => h.block k hk (fun hm => hL (hs k hm))⟩
theorem Kept.of_below {w w' : World} (h : Below w.heap.size w w') (L : List Nat) : Kept L w w' := ⟨h.os, h.tape, h.output, h.size, fun k hk _ => h.block k hk⟩
theorem Kept.below {L : List Nat} {w w' : World} (h : Kept L w w') {n : Nat} (hn : n ≤ w.heap.size) (hL : ∀ k ∈ L, n ≤ k) : Below n w w' :=
  ⟨h.os, h.tape, h.output, h.size, fun k hk => h.block k (by omega) (fun hm => by have := hL k hm; omega)⟩
theorem Kept.of_grown {w w' : World} {b : Nat} (h : w.grownBy w' (some b)) {L : List Nat} (hL : b ∈ L) : Kept L w w' := ⟨h.os, h.tape, h.output, h.size, fun k hk hn => h.block k hk (fun e => by cases e; exact hn hL)⟩
theorem kept_alloc (L : List Nat) (w : World) (o : Obj) : Kept L w (w.alloc o) := Kept.of_below ((Below.refl _ _).alloc (Nat.le_refl _) _) L
theorem kept_drew (L : List Nat) (w : World) : Kept L w w.drew := ⟨rfl, rfl, rfl, Nat.le_refl _, fun _ _ _ => rfl⟩
theorem kept_set {L : List Nat} {g : Nat} (hL : g ∈ L) (w : World) (j : Nat) (u : Value) : Kept L w (w.setCell ⟨g, j, none⟩ u) :=
  ⟨rfl, rfl, rfl, by simp [World.setCell], fun k _ hk => Below.heap_setCell _ _ _ _ (fun e => hk (e ▸ hL))⟩
/-- What was made since may be written. -/
theorem Kept.young {L : List Nat} {a b c : World} {g : Nat} (h : Kept L a b) (k : Kept (g :: L) b c) (hg : a.heap.size ≤ g) : Kept L a c :=
  ⟨k.os.trans h.os, k.tape.trans h.tape, k.output.trans h.output, Nat.le_trans h.size k.size, fun i hi hL => (k.block i (Nat.lt_of_lt_of_le hi h.size) (fun hm => by
    rcases List.mem_cons.1 hm with e | e
    · omega
    · exact hL e)).trans (h.block i hi hL)⟩
/-- A block of cells. -/
def Blk (W : World) (g : Nat) (t : TypeId) (cs : Array Value) : Prop := W.heap[g]? = some (.cells cs t (0, 0))
theorem Blk.lt {W : World} {g : Nat} {t : TypeId} {cs : Array Value} (h : Blk W g t cs) : g < W.heap.size := (Array.getElem?_eq_some_iff.1 h).1
theorem Blk.cell {W : World} {g : Nat} {t : TypeId} {cs : Array Value} (h : Blk W g t cs) (j : Nat) : W.cell? ⟨g, j, none⟩ = cs[j]? := cell_of_row W g j _ t (0, 0) h
theorem Blk.frozen {W : World} {g : Nat} {t : TypeId} {cs : Array Value} (h : Blk W g t cs) (j : Nat) : W.frozen? ⟨g, j, none⟩ = false := by
  unfold Blk at h
  simp [World.frozen?, h]
theorem Blk.kept {L : List Nat} {A B : World} {g : Nat} {t : TypeId} {cs : Array Value} (h : Blk A g t cs) (hK : Kept L A B) (hg : g ∉ L) : Blk B g t cs := (hK.block g h.lt hg).trans h
theorem Blk.set {W : World} {g : Nat} {t : TypeId} {cs : Array Value} (h : Blk W g t cs) (j : Nat) (u : Value) : Blk (W.setCell ⟨g, j, none⟩ u) g t (cs.setIfInBounds j u) := by
  unfold Blk at *
  rw [setCell_eq_setRow W g j _ t (0, 0) _ h, setRow_heap W g _ _ t _ h]
theorem blk_new (w : World) (t : TypeId) (cs : Array Value) : Blk (w.alloc (.cells cs t)) w.heap.size t cs := heap_alloc_last w _

/-- Cells of a block, by their list. -/
theorem Blk.range {W : World} {g : Nat} {t : TypeId} {cs : List Value} (h : Blk W g t cs.toArray) (o : Nat) (l : List Value) (hl : ∀ j v, l[j]? = some v → cs[o + j]? = some v) : W.rangeAt g o l := fun j v hv => by
  rw [h.cell, List.getElem?_toArray]
  exact hl j v hv

theorem mid_of (pre l post : List Value) (o : Nat) (ho : pre.length = o) : ∀ j v, l[j]? = some v → (pre ++ (l ++ post))[o + j]? = some v := fun j v hv => by
  have hj : j < l.length := (List.getElem?_eq_some_iff.1 hv).1
  rw [List.getElem?_append_right (by omega), show o + j - pre.length = j by omega, List.getElem?_append_left hj]
  exact hv

set_option maxRecDepth 100000 in
theorem setCells_row {W : World} {g : Nat} {t : TypeId} {cur : Array Value} {vs : List Value} (hg : W.heap[g]? = some (.cells cur t (0, 0))) (hl : vs.length = cur.size) (h1 : ∀ v ∈ vs, v.oneCell' = true) : W.setCells g 0 vs = W.setRow g vs.toArray := by
  have hin : ∀ j, j < vs.length → (W.cell? ⟨g, 0 + 0 + j, none⟩).isSome = true := fun j hj => by
    rw [cell_of_row W g _ cur t (0, 0) hg]
    simp
    omega
  have hfr : ∀ j, j < vs.length → W.frozen? ⟨g, 0 + 0 + j, none⟩ = false := fun j _ => by simp [World.frozen?, hg]
  have e1 := run_storeCells_cells (P := Try.prog) g 0 vs 0 W hin hfr h1
  have e2 := run_storeCells_at Try.prog g 0 t vs 0 cur W hg (by omega) h1
  rw [e1] at e2
  injection e2 with _ e3
  have e4 : cur.toList.drop (0 + 0 + vs.length) = [] := by apply List.drop_eq_nil_of_le; simp; omega
  rw [e4] at e3
  simpa using e3
section
variable {ops : Array Oper} {rest : List Oper} {o : Oper} {a : Act} {w : World} {Q : Exit → Act → World → Prop}
set_option maxRecDepth 100000 in
/-- A whole block stored. -/
theorem wpList_store_blk (hgd : o.guard = none) (ty : TypeId) (x y : Operand) (ho : o.op = .store ty x y) (g : Nat) (t : TypeId) (c0 : Array Value) (cs : List Value)
    (hx : a.eval x = .pointer (some ⟨g, 0, none⟩)) (hy : a.eval y = .agg cs.toArray) (h0 : Blk w g t c0) (hl : cs.length = c0.size) (hi : (Try.prog.info? ty).map (·.size) = some cs.length) (h1 : ∀ v ∈ cs, v.oneCell' = true)
    (h : ∀ w', Blk w' g t cs.toArray → Kept [g] w w' → Hid (w'.heap.size = w.heap.size) → wpList Try.prog ops Q rest (a.put o.dst undef) w') : wpList Try.prog ops Q (o :: rest) a w := by
  refine wpList_store_mid hgd ty x y ho g 0 cs.toArray hx hy ?_ (by simpa using hi) (all_oneCell_toArray h1) ?_
  · intro j hj
    rw [Nat.zero_add]
    refine ⟨?_, h0.frozen j⟩
    rw [h0.cell]
    simp at hj
    simp [show j < c0.size by omega]
  · have e : w.setCells g 0 cs = w.setRow g cs.toArray := setCells_row h0 hl h1
    refine h _ ?_ ?_ ?_
    · simp only [] at *
      rw [e]
      exact setRow_heap w g _ _ t _ h0
    · simp only [] at *
      rw [e]
      exact ⟨rfl, rfl, rfl, by simp [World.setRow], fun k _ hk => setRow_other w g k _ (by simpa using hk)⟩
    · simp only [] at *
      rw [e]
      show _ = _
      simp [World.setRow]
end
theorem Kept.young3 {a b c : World} {d e f : Nat} (h : Kept [] a b) (k : Kept [d, e, f] b c) (h1 : a.heap.size ≤ d) (h2 : a.heap.size ≤ e) (h3 : a.heap.size ≤ f) : Kept [] a c :=
  ⟨k.os.trans h.os, k.tape.trans h.tape, k.output.trans h.output, Nat.le_trans h.size k.size, fun i hi _ => (k.block i (Nat.lt_of_lt_of_le hi h.size) (by simp; omega)).trans (h.block i hi (by simp))⟩

/-- What was made since may be written, five blocks of it. -/
theorem Kept.young5 {a b c : World} {d e f r g : Nat} (h : Kept [] a b) (k : Kept [d, e, f, r, g] b c) (h1 : a.heap.size ≤ d) (h2 : a.heap.size ≤ e) (h3 : a.heap.size ≤ f) (h4 : a.heap.size ≤ r) (h5 : a.heap.size ≤ g) : Kept [] a c :=
  ⟨k.os.trans h.os, k.tape.trans h.tape, k.output.trans h.output, Nat.le_trans h.size k.size, fun i hi _ => (k.block i (Nat.lt_of_lt_of_le hi h.size) (by simp; omega)).trans (h.block i hi (by simp))⟩
theorem kept_drewN (L : List Nat) (w : World) (n : Nat) : Kept L w (w.drewN n) := ⟨rfl, rfl, rfl, Nat.le_refl _, fun _ _ _ => rfl⟩
end Go.Proofs.Ytmpblohagchhaaa

