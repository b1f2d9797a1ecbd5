/-
  An order in memory: a slice of numbers, and the set that holds it; what stays where it was; the walks of New, made, Mask, Order and Load, the program's and the document's.
-/
import Derived.Test.YtldeecjocapfgaaBitsC
import Derived.Test.YtldeecjocapfgaaHotMath
import Derived.Deep.RegionHeld3
import Derived.Deep.RegionLawGrows
import Derived.Deep.WholeRow
import Derived.Laws.AppendOwnNone
import Derived.Laws.OwnMore
namespace Go.Proofs.Ytldeecjocapfgaa.Hot
open Go.RowKit
open Bits Bits.Math

/-- Every block but those of L is as it was; new ones may have come. -/
structure Kept (L : List Nat) (w w' : World) : Prop where
  os : w'.os = w.os
  tape : w'.tape = w.tape
  output : w'.output = w.output
  size : w.heap.size ≤ w'.heap.size
  block : ∀ k, k < w.heap.size → k ∉ L → w'.heap[k]? = w.heap[k]?
theorem Kept.refl (L : List Nat) (w : World) : Kept L w w := ⟨rfl, rfl, rfl, Nat.le_refl _, fun _ _ _ => rfl⟩
theorem Kept.trans {L : List Nat} {a b c : World} (h : Kept L a b) (k : Kept L b c) : Kept L a c :=
  ⟨k.os.trans h.os, k.tape.trans h.tape, k.output.trans h.output, Nat.le_trans h.size k.size, fun i hi hL => (k.block i (Nat.lt_of_lt_of_le hi h.size) hL).trans (h.block i hi hL)⟩
theorem Kept.mono {L L' : List Nat} {w w' : World} (h : Kept L w w') (hs : ∀ k ∈ L, k ∈ L') : Kept L' w w' := ⟨h.os, h.tape, h.output, h.size, fun k hk hL => h.block k hk (fun hm => hL (hs k hm))⟩
theorem Kept.of_below {w w' : World} (h : Below w.heap.size w w') (L : List Nat) : Kept L w w' := ⟨h.os, h.tape, h.output, h.size, fun k hk _ => h.block k hk⟩
theorem Kept.below {L : List Nat} {w w' : World} (h : Kept L w w') {n : Nat} (hn : n ≤ w.heap.size) (hL : ∀ k ∈ L, n ≤ k) : Below n w w' :=
  ⟨h.os, h.tape, h.output, h.size, fun k hk => h.block k (by omega) (fun hm => by have := hL k hm; omega)⟩
theorem Kept.of_grown {w w' : World} {b : Nat} (h : w.grownBy w' (some b)) {L : List Nat} (hL : b ∈ L) : Kept L w w' := ⟨h.os, h.tape, h.output, h.size, fun k hk hn => h.block k hk (fun e => by cases e; exact hn hL)⟩
theorem Kept.of_grown_none {w w' : World} (h : w.grownBy w' none) (L : List Nat) : Kept L w w' := ⟨h.os, h.tape, h.output, h.size, fun k hk _ => h.block k hk (fun e => by cases e)⟩
theorem kept_alloc (L : List Nat) (w : World) (o : Obj) : Kept L w (w.alloc o) := Kept.of_below ((Below.refl _ _).alloc (Nat.le_refl _) _) L
theorem kept_drew (L : List Nat) (w : World) : Kept L w w.drew := ⟨rfl, rfl, rfl, Nat.le_refl _, fun _ _ _ => rfl⟩
theorem kept_drewN (L : List Nat) (w : World) (n : Nat) : Kept L w (w.drewN n) := ⟨rfl, rfl, rfl, Nat.le_refl _, fun _ _ _ => rfl⟩
theorem kept_set {L : List Nat} {g : Nat} (hL : g ∈ L) (w : World) (j : Nat) (u : Value) : Kept L w (w.setCell ⟨g, j, none⟩ u) :=
  ⟨rfl, rfl, rfl, by simp [World.setCell], fun k _ hk => Below.heap_setCell _ _ _ _ (fun e => hk (e ▸ hL))⟩
/-- What was made since may be written. -/
theorem Kept.young {L : List Nat} {a b c : World} {g : Nat} (h : Kept L a b) (k : Kept (g :: L) b c) (hg : a.heap.size ≤ g) : Kept L a c :=
  ⟨k.os.trans h.os, k.tape.trans h.tape, k.output.trans h.output, Nat.le_trans h.size k.size, fun i hi hL => (k.block i (Nat.lt_of_lt_of_le hi h.size) (fun hm => by
    rcases List.mem_cons.1 hm with e | e
    · omega
    · exact hL e)).trans (h.block i hi hL)⟩

/-- A block's cells. -/
def Blk (W : World) (g : Nat) (t : TypeId) (cs : Array Value) : Prop := W.heap[g]? = some (.cells cs t (0, 0))
theorem Blk.lt {W : World} {g : Nat} {t : TypeId} {cs : Array Value} (h : Blk W g t cs) : g < W.heap.size := (Array.getElem?_eq_some_iff.1 h).1
theorem Blk.cell {W : World} {g : Nat} {t : TypeId} {cs : Array Value} (h : Blk W g t cs) (j : Nat) : W.cell? ⟨g, j, none⟩ = cs[j]? := cell_of_row W g j _ t (0, 0) h
theorem Blk.frozen {W : World} {g : Nat} {t : TypeId} {cs : Array Value} (h : Blk W g t cs) (j : Nat) : W.frozen? ⟨g, j, none⟩ = false := by
  unfold Blk at h
  simp [World.frozen?, h]
theorem Blk.kept {L : List Nat} {A B : World} {g : Nat} {t : TypeId} {cs : Array Value} (h : Blk A g t cs) (hK : Kept L A B) (hg : g ∉ L) : Blk B g t cs := (hK.block g h.lt hg).trans h
theorem Blk.set {W : World} {g : Nat} {t : TypeId} {cs : Array Value} (h : Blk W g t cs) (j : Nat) (u : Value) : Blk (W.setCell ⟨g, j, none⟩ u) g t (cs.setIfInBounds j u) := by
  unfold Blk at *
  rw [setCell_eq_setRow W g j _ t (0, 0) _ h, setRow_heap W g _ _ t _ h]
theorem blk_new (w : World) (t : TypeId) (cs : Array Value) : Blk (w.alloc (.cells cs t)) w.heap.size t cs := heap_alloc_last w _

/-- v is a slice of the numbers l: nil, or in a block from n₀ on. -/
def Nums (n₀ : Nat) (W : World) (v : Value) (l : List Nat) : Prop :=
  ∃ a cap, v = .slice a l.length cap ∧ l.length ≤ cap ∧ ((a = none ∧ cap = 0) ∨ ∃ b off, a = some ⟨b, off, none⟩ ∧ n₀ ≤ b ∧ b < W.heap.size ∧
    ∀ j, j < l.length → W.cell? ⟨b, off + j, none⟩ = some (.int .i64 ((l[j]?.getD 0 : Nat) : Int)))
theorem Nums.nil (n₀ : Nat) (W : World) : Nums n₀ W (.slice none 0 0) [] := ⟨none, 0, rfl, Nat.le_refl _, .inl ⟨rfl, rfl⟩⟩
theorem Nums.kept {L : List Nat} {A B : World} {n₀ : Nat} {v : Value} {l : List Nat} (h : Nums n₀ A v l) (hK : Kept L A B) (hL : ∀ k ∈ L, k < n₀) : Nums n₀ B v l := by
  obtain ⟨a, cap, e, hc, h | ⟨b, off, e2, h0, h1, h2⟩⟩ := h
  · exact ⟨a, cap, e, hc, .inl h⟩
  · refine ⟨a, cap, e, hc, .inr ⟨b, off, e2, h0, Nat.lt_of_lt_of_le h1 hK.size, fun j hj => ?_⟩⟩
    have hb := hK.block b h1 (fun hm => by have := hL b hm; omega)
    exact (World.cell?_of_block (a := ⟨b, off + j, none⟩) hb).trans (h2 j hj)
theorem Nums.mono {n m : Nat} {W : World} {v : Value} {l : List Nat} (h : Nums n W v l) (hm : m ≤ n) : Nums m W v l := by
  obtain ⟨a, cap, e, hc, h | ⟨b, off, e2, h0, h1, h2⟩⟩ := h
  · exact ⟨a, cap, e, hc, .inl h⟩
  · exact ⟨a, cap, e, hc, .inr ⟨b, off, e2, Nat.le_trans hm h0, h1, h2⟩⟩
theorem nat_get (l : List Nat) (j : Nat) : (l.map Int.ofNat)[j]?.getD 0 = ((l[j]?.getD 0 : Nat) : Int) := by
  rw [List.getElem?_map]
  cases l[j]? <;> rfl
theorem Nums.ints {n₀ : Nat} {W : World} {v : Value} {l : List Nat} (h : Nums n₀ W v l) : IntsAt W.heap.size W v (l.map Int.ofNat) := by
  obtain ⟨a, cap, e, hc, ⟨_, h⟩ | ⟨b, off, e2, h0, h1, h2⟩⟩ := h
  · refine ⟨a, cap, by simpa using e, .inl ?_⟩
    have : l = [] := List.eq_nil_of_length_eq_zero (by omega)
    rw [this]
    rfl
  · refine ⟨a, cap, by simpa using e, .inr ⟨b, off, e2, h1, fun j hj => ?_⟩⟩
    rw [h2 j (by simpa using hj), nat_get]
theorem enc_int (l : List Nat) (j : Nat) (h : j < l.length) : (l.map enc)[j]? = some (.int .i64 ((l[j]?.getD 0 : Nat) : Int)) := by simp [h, enc]
theorem enc_one (l : List Nat) : ∀ v ∈ l.map enc, v.oneCell' = true := by
  intro u hu
  simp at hu
  obtain ⟨x, _, rfl⟩ := hu
  rfl
theorem nums_of_owns {W : World} {base n₀ : Nat} {v : Value} {l : List Nat} (h : W.ownsRow base 3 1 v l.length (l.map enc)) (hn : n₀ ≤ base) : Nums n₀ W v l := by
  obtain ⟨_, ⟨rfl, h0⟩ | ⟨g, cap, cur, rfl, hb, hg, h1, h2, h3, h4⟩⟩ := h
  · have : l = [] := List.eq_nil_of_length_eq_zero h0
    subst this
    exact Nums.nil _ _
  · refine ⟨_, cap, rfl, h1, .inr ⟨g, 0, rfl, by omega, (Array.getElem?_eq_some_iff.1 hg).1, fun j hj => ?_⟩⟩
    rw [cell_of_row W g (0 + j) _ 3 (0, 0) hg]
    have e := congrArg (fun t => t[j]?) h4
    simp only [Nat.mul_one] at e
    rw [List.getElem?_take_of_lt hj, enc_int l j hj] at e
    simpa using e

/-- A set in memory: its block p lies below n₀, its order from n₀ on. -/
structure SetAt (W : World) (p n₀ most : Nat) (v : Value) (l : List Nat) : Prop where
  cells : Blk W p 50 #[.int .i64 (most : Int), v]
  low : p < n₀
  high : n₀ ≤ W.heap.size
  nums : Nums n₀ W v l
  good : Good l
  one : 1 ≤ most
  top : most ≤ 16
/-- The document's. -/
structure RefAt (W : World) (p n₀ most : Nat) (v : Value) (l : List Nat) : Prop where
  cells : Blk W p 43 #[v, .int .i64 (most : Int)]
  low : p < n₀
  high : n₀ ≤ W.heap.size
  nums : Nums n₀ W v l
  good : Good l
  one : 1 ≤ most
  top : most ≤ 16
theorem SetAt.kept {L : List Nat} {A B : World} {p n₀ most : Nat} {v : Value} {l : List Nat} (h : SetAt A p n₀ most v l) (hK : Kept L A B) (hp : p ∉ L) (hL : ∀ k ∈ L, k < n₀) : SetAt B p n₀ most v l :=
  ⟨h.cells.kept hK hp, h.low, Nat.le_trans h.high hK.size, h.nums.kept hK hL, h.good, h.one, h.top⟩
theorem RefAt.kept {L : List Nat} {A B : World} {p n₀ most : Nat} {v : Value} {l : List Nat} (h : RefAt A p n₀ most v l) (hK : Kept L A B) (hp : p ∉ L) (hL : ∀ k ∈ L, k < n₀) : RefAt B p n₀ most v l :=
  ⟨h.cells.kept hK hp, h.low, Nat.le_trans h.high hK.size, h.nums.kept hK hL, h.good, h.one, h.top⟩
theorem SetAt.below {A B : World} {p n₀ most : Nat} {v : Value} {l : List Nat} (h : SetAt A p n₀ most v l) (hB : Below A.heap.size A B) : SetAt B p n₀ most v l := h.kept (Kept.of_below hB []) (by simp) (by simp)
theorem RefAt.below {A B : World} {p n₀ most : Nat} {v : Value} {l : List Nat} (h : RefAt A p n₀ most v l) (hB : Below A.heap.size A B) : RefAt B p n₀ most v l := h.kept (Kept.of_below hB []) (by simp) (by simp)
theorem SetAt.cell {W : World} {p n₀ most : Nat} {v : Value} {l : List Nat} (h : SetAt W p n₀ most v l) : W.cell? ⟨p, 0, none⟩ = some (.int .i64 (most : Int)) ∧ W.cell? ⟨p, 1, none⟩ = some v := ⟨h.cells.cell 0, h.cells.cell 1⟩
theorem RefAt.cell {W : World} {p n₀ most : Nat} {v : Value} {l : List Nat} (h : RefAt W p n₀ most v l) : W.cell? ⟨p, 0, none⟩ = some v ∧ W.cell? ⟨p, 1, none⟩ = some (.int .i64 (most : Int)) := ⟨h.cells.cell 0, h.cells.cell 1⟩
/-- Another order is put in. -/
theorem SetAt.put {W : World} {p n₀ most : Nat} {v v' : Value} {l l' : List Nat} (h : SetAt W p n₀ most v l) (hn : Nums n₀ W v' l') (hg : Good l') : SetAt (W.setCell ⟨p, 1, none⟩ v') p n₀ most v' l' :=
  ⟨h.cells.set 1 v', h.low, by simp [World.setCell]; exact h.high, hn.kept (kept_set (L := [p]) (by simp) W 1 v') (by simpa using h.low), hg, h.one, h.top⟩
theorem RefAt.put {W : World} {p n₀ most : Nat} {v v' : Value} {l l' : List Nat} (h : RefAt W p n₀ most v l) (hn : Nums n₀ W v' l') (hg : Good l') : RefAt (W.setCell ⟨p, 0, none⟩ v') p n₀ most v' l' :=
  ⟨h.cells.set 0 v', h.low, by simp [World.setCell]; exact h.high, hn.kept (kept_set (L := [p]) (by simp) W 0 v') (by simpa using h.low), hg, h.one, h.top⟩

set_option maxRecDepth 100000 in
/-- New -/
theorem new_ok (most : Nat) (w : World) (h1 : 1 ≤ most) (h2 : most ≤ 16) :
    Calls Try.prog 7 #[.int .i64 (most : Int)] w fun e w' => e = .returned (.tuple #[.pointer (some ⟨w.heap.size, 0, none⟩), .int .i64 0]) ∧ w' = w.alloc (.cells #[.int .i64 (most : Int), .slice none 0 0] 50) := by
  go_enter Try.func7, Try.ntmps7
  go_wp2
  all_goals first | omega | (go_ret2; exact ⟨rfl, rfl⟩)
set_option maxRecDepth 100000 in
theorem new_bad (most : Int) (w : World) (h : most < 1 ∨ 16 < most) :
    Calls Try.prog 7 #[.int .i64 most] w fun e w' => e = .returned (.tuple #[.pointer none, .int .i64 2]) ∧ w' = w := by
  by_cases h1 : most < 1
  · go_enter Try.func7, Try.ntmps7
    go_wp2
    all_goals first | omega | (go_ret2; exact ⟨rfl, rfl⟩)
  · have h2 : 16 < most := by omega
    go_enter Try.func7, Try.ntmps7
    go_wp2
    all_goals first | omega | (go_ret2; exact ⟨rfl, rfl⟩)
set_option maxRecDepth 100000 in
/-- The document's New -/
theorem rnew_ok (most : Nat) (w : World) (h1 : 1 ≤ most) (h2 : most ≤ 16) :
    Calls Try.prog 8 #[.int .i64 (most : Int)] w fun e w' => e = .returned (.tuple #[.pointer (some ⟨w.heap.size, 0, none⟩), .int .i64 0]) ∧ w' = w.alloc (.cells #[.slice none 0 0, .int .i64 (most : Int)] 43) := by
  go_enter Try.func8, Try.ntmps8
  go_wp2
  all_goals first | omega | (go_ret2; exact ⟨rfl, rfl⟩)
set_option maxRecDepth 100000 in
theorem rnew_bad (most : Int) (w : World) (h : most < 1 ∨ 16 < most) :
    Calls Try.prog 8 #[.int .i64 most] w fun e w' => e = .returned (.tuple #[.pointer none, .int .i64 2]) ∧ w' = w := by
  by_cases h1 : most < 1
  · go_enter Try.func8, Try.ntmps8
    go_wp2
    all_goals first | omega | (go_ret2; exact ⟨rfl, rfl⟩)
  · have h2 : 16 < most := by omega
    go_enter Try.func8, Try.ntmps8
    go_wp2
    all_goals first | omega | (go_ret2; exact ⟨rfl, rfl⟩)
set_option maxRecDepth 100000 in
/-- made -/
theorem made_any (p n₀ most : Nat) (v : Value) (l : List Nat) (w : World) (h : SetAt w p n₀ most v l) :
    Calls Try.prog 20 #[.pointer (some ⟨p, 0, none⟩)] w fun e w' => e = .returned (.bool true) ∧ w' = w := by
  have c0 := h.cell.1
  have hp := h.one
  go_enter Try.func20, Try.ntmps20
  go_wp2
  go_ret
  exact ⟨by simp; omega, rfl⟩
set_option maxRecDepth 100000 in
theorem made_nil (w : World) : Calls Try.prog 20 #[.pointer none] w fun e w' => e = .returned (.bool false) ∧ w' = w := by
  go_enter Try.func20, Try.ntmps20
  go_wp2
  go_ret
  exact ⟨rfl, rfl⟩
set_option maxRecDepth 100000 in
theorem made_zero (p : Nat) (w : World) (h : w.cell? ⟨p, 0, none⟩ = some (.int .i64 0)) : Calls Try.prog 20 #[.pointer (some ⟨p, 0, none⟩)] w fun e w' => e = .returned (.bool false) ∧ w' = w := by
  go_enter Try.func20, Try.ntmps20
  go_wp2
  go_ret
  exact ⟨rfl, rfl⟩
set_option maxRecDepth 100000 in
/-- Mask -/
theorem mask_any (p n₀ most : Nat) (v : Value) (l : List Nat) (w : World) (h : SetAt w p n₀ most v l) :
    Calls Try.prog 15 #[.pointer (some ⟨p, 0, none⟩)] w fun e w' => e = .returned (.int .u64 (mask l)) ∧ Below w.heap.size w w' := by
  have c1 := h.cell.2
  have q := made_any p n₀ most v l w h
  have hl := h.good.len
  have o := of_any v (l.map Int.ofNat) w (by simp; omega) h.nums.ints
  go_enter Try.func15, Try.ntmps15
  go_wp2_with (first | (go_at_call 20; refine q.mono ?_; rintro e w ⟨rfl, rfl⟩) | (go_at_call 32; refine o.mono ?_; rintro e w' ⟨rfl, hB⟩))
  go_ret
  exact ⟨rfl, hB⟩
set_option maxRecDepth 100000 in
/-- The document's Mask -/
theorem rmask_any (p n₀ most : Nat) (v : Value) (l : List Nat) (w : World) (h : RefAt w p n₀ most v l) :
    Calls Try.prog 16 #[.pointer (some ⟨p, 0, none⟩)] w fun e w' => e = .returned (.int .u64 (mask l)) ∧ w' = w := by
  have c1 := h.cell.1
  have hl := h.good.len
  have o := refOf_any v (l.map Int.ofNat) w (by simp; omega) h.nums.ints
  go_enter Try.func16, Try.ntmps16
  go_wp2_with (first | (go_at_call 33; refine o.mono ?_; rintro e w ⟨rfl, rfl⟩))
  go_ret
  exact ⟨rfl, rfl⟩
set_option maxRecDepth 100000 in
/-- Load -/
theorem load_any (p n₀ most : Nat) (v : Value) (l : List Nat) (m : Nat) (hm : m < 18446744073709551616) (w : World) (h : SetAt w p n₀ most v l) :
    Calls Try.prog 11 #[.pointer (some ⟨p, 0, none⟩), .int .u64 (m : Int)] w fun e w' => e = .returned (.tuple #[]) ∧ (∃ v', SetAt w' p n₀ most v' (elems m)) ∧ Kept [p] w w' := by
  have q := made_any p n₀ most v l w h
  have o := list_any m w hm
  go_enter Try.func11, Try.ntmps11
  go_wp2_with (first | (go_at_call 20; refine q.mono ?_; rintro e w ⟨rfl, rfl⟩) | (go_at_call 23; refine o.mono ?_; rintro e w1 ⟨v1, rfl, hr, hB⟩; have n1 := nums_of_owns hr h.high; obtain ⟨a1, cap1, e1, -⟩ := id n1; subst e1; have h1 := h.below hB; have f1 := h1.cells.frozen 1; have c1 := h1.cell.2))
  go_end0
  exact ⟨rfl, ⟨_, h1.put n1 (Good.elems m)⟩, (Kept.of_below hB [p]).trans (kept_set (by simp) _ _ _)⟩
set_option maxRecDepth 100000 in
/-- The document's Load -/
theorem rload_any (p n₀ most : Nat) (v : Value) (l : List Nat) (m : Nat) (hm : m < 18446744073709551616) (w : World) (h : RefAt w p n₀ most v l) :
    Calls Try.prog 12 #[.pointer (some ⟨p, 0, none⟩), .int .u64 (m : Int)] w fun e w' => e = .returned (.tuple #[]) ∧ (∃ v', RefAt w' p n₀ most v' (elems m)) ∧ Kept [p] w w' := by
  have o := refList_any m w hm
  go_enter Try.func12, Try.ntmps12
  go_wp2_with (first | (go_at_call 19; refine o.mono ?_; rintro e w1 ⟨v1, rfl, hr, hB⟩; have n1 := nums_of_owns hr h.high; obtain ⟨a1, cap1, e1, -⟩ := id n1; subst e1; have h1 := h.below hB; have f1 := h1.cells.frozen 0; have c1 := h1.cell.1))
  go_end0
  exact ⟨rfl, ⟨_, h1.put n1 (Good.elems m)⟩, (Kept.of_below hB [p]).trans (kept_set (by simp) _ _ _)⟩

end Go.Proofs.Ytldeecjocapfgaa.Hot
