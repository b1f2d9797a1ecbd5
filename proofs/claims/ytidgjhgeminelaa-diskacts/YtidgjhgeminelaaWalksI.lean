/-
  What a play of DiskKeeps begins with, and the acts of a play, in memory.
-/
import Derived.Test.YtidgjhgeminelaaWalksH
namespace Go.Proofs.Ytidgjhgeminelaa
open Go.RowKit Go.Maps Go.Shelf
open Math

/-- An act. -/
structure Ac where
  kind : Int
  at_ : Int
  s : List Nat
  mask : Nat
structure Ac.Ok (a : Ac) : Prop where
  k0 : -9223372036854775808 ≤ a.kind
  k1 : a.kind ≤ 9223372036854775807
  a0 : -9223372036854775808 ≤ a.at_
  a1 : a.at_ ≤ 9223372036854775807
  sec : Sec a.s
  m : a.mask < 18446744073709551616
def Ac.cells (a : Ac) : List Value := .int .i64 a.kind :: .int .i64 a.at_ :: (a.s.map enc ++ [.int .u64 (a.mask : Int)])
/-- What a play of DiskKeeps begins with: its cells. -/
def keptCells (at_ : Int) (x : List Nat) (mask : Nat) : List Value := .int .i64 at_ :: (x.map enc ++ [.int .u64 (mask : Int)])

/-- The acts of a slice, in a block below n₀ where there is one. -/
def ActsAt (n₀ : Nat) (W : World) (a : Option Addr) (len cap : Nat) (acts : List Ac) : Prop :=
  acts.length = len ∧ (∀ x ∈ acts, x.Ok) ∧ (a = none → cap = 0) ∧ (acts = [] ∨ ∃ b off, a = some ⟨b, off, none⟩ ∧ len ≤ cap ∧ b < n₀ ∧ ∀ j x, acts[j]? = some x → W.rangeAt b (off + j * 19) x.cells)
theorem ActsAt.below {n₀ : Nat} {A B : World} (h : Below n₀ A B) {a : Option Addr} {len cap : Nat} {acts : List Ac} : ActsAt n₀ A a len cap acts → ActsAt n₀ B a len cap acts
  | ⟨h1, h2, h3, .inl r⟩ => ⟨h1, h2, h3, .inl r⟩
  | ⟨h1, h2, h3, .inr ⟨b, off, e, hl, hb, hc⟩⟩ => ⟨h1, h2, h3, .inr ⟨b, off, e, hl, hb, fun j x hx i v hv => (h.cell (p := ⟨b, off + j * 19 + i, none⟩) hb).trans (hc j x hx i v hv)⟩⟩

theorem Try.size35 : (Try.prog.info? 35).map (·.size) = some 19 := by kernel_rfl
theorem Try.size42 : (Try.prog.info? 42).map (·.size) = some 18 := by kernel_rfl
theorem keptCells_length (k : Int) (x : List Nat) (m : Nat) (hx : Sec x) : (keptCells k x m).length = 18 := by simp [keptCells, hx.1]
theorem Ac.cells_length (a : Ac) (h : a.Ok) : a.cells.length = 19 := by simp [Ac.cells, h.sec.1]

/-- Cells of a block, by their list. -/
theorem Blk.range {W : World} {g : Nat} {t : TypeId} {cs : List Value} (h : Blk W g t cs.toArray) (o : Nat) (l : List Value) (hl : ∀ j v, l[j]? = some v → cs[o + j]? = some v) : W.rangeAt g o l := fun j v hv => by
  rw [h.cell, List.getElem?_toArray]
  exact hl j v hv
theorem mid_of (pre l post : List Value) (o : Nat) (ho : pre.length = o) : ∀ j v, l[j]? = some v → (pre ++ (l ++ post))[o + j]? = some v := fun j v hv => by
  have hj : j < l.length := (List.getElem?_eq_some_iff.1 hv).1
  rw [List.getElem?_append_right (by omega), show o + j - pre.length = j by omega, List.getElem?_append_left hj]
  exact hv
theorem kept_range {W : World} {g : Nat} {k : Int} {x : List Nat} {m : Nat} (h : Blk W g 42 (keptCells k x m).toArray) (hx : Sec x) :
    W.cell? ⟨g, 0, none⟩ = some (.int .i64 k) ∧ W.rangeAt g 1 (x.map enc) ∧ W.cell? ⟨g, 17, none⟩ = some (.int .u64 (m : Int)) := by
  refine ⟨by rw [h.cell]; rfl, h.range 1 _ (mid_of [_] (x.map enc) [_] 1 rfl), ?_⟩
  rw [h.cell, List.getElem?_toArray]
  show (([.int .i64 k] ++ (x.map enc)) ++ [.int .u64 (m : Int)])[17]? = _
  rw [List.getElem?_append_right (by simp [hx.1])]
  simp [hx.1]
theorem act_range {W : World} {g : Nat} {a : Ac} (h : Blk W g 35 a.cells.toArray) (ha : a.Ok) :
    W.cell? ⟨g, 0, none⟩ = some (.int .i64 a.kind) ∧ W.cell? ⟨g, 1, none⟩ = some (.int .i64 a.at_) ∧ W.rangeAt g 2 (a.s.map enc) ∧ W.cell? ⟨g, 18, none⟩ = some (.int .u64 (a.mask : Int)) := by
  refine ⟨by rw [h.cell]; rfl, by rw [h.cell]; rfl, h.range 2 _ (mid_of [_, _] (a.s.map enc) [_] 2 rfl), ?_⟩
  rw [h.cell, List.getElem?_toArray]
  show (([.int .i64 a.kind, .int .i64 a.at_] ++ (a.s.map enc)) ++ [.int .u64 (a.mask : Int)])[18]? = _
  rw [List.getElem?_append_right (by simp [ha.sec.1])]
  simp [ha.sec.1]

theorem one_cell_act (a : Ac) : ∀ v ∈ a.cells, v.oneCell' = true := by
  intro v hv
  simp only [Ac.cells, List.mem_cons, List.mem_append, List.mem_map, List.not_mem_nil, or_false] at hv
  rcases hv with rfl | rfl | ⟨x, _, rfl⟩ | rfl <;> rfl

section
variable {ops : Array Oper} {rest : List Oper} {o : Oper} {a : Act} {w : World} {Q : Exit → Act → World → Prop}
/-- A whole block stored. -/
theorem wpList_store_blk (hgd : o.guard = none) (ty : TypeId) (x y : Operand) (ho : o.op = .store ty x y) (g : Nat) (t : TypeId) (c0 : Array Value) (cs : List Value)
    (hx : a.eval x = .pointer (some ⟨g, 0, none⟩)) (hy : a.eval y = .agg cs.toArray) (h0 : Blk w g t c0) (hl : cs.length = c0.size) (hi : (Try.prog.info? ty).map (·.size) = some cs.length) (h1 : ∀ v ∈ cs, v.oneCell' = true)
    (h : ∀ w', Blk w' g t cs.toArray → Kept [g] w w' → Hid (w'.heap.size = w.heap.size) → wpList Try.prog ops Q rest (a.put o.dst undef) w') : wpList Try.prog ops Q (o :: rest) a w := by
  refine wpList_store_mid hgd ty x y ho g 0 cs.toArray hx hy ?_ (by simpa using hi) (all_oneCell_toArray h1) ?_
  · intro j hj
    rw [Nat.zero_add]
    refine ⟨?_, h0.frozen j⟩
    rw [h0.cell]
    simp at hj
    simp [show j < c0.size by omega]
  · have e : w.setCells g 0 cs = w.setRow g cs.toArray := setCells_row h0 hl h1
    refine h _ ?_ ?_ ?_
    · simp only [] at *
      rw [e]
      exact setRow_heap w g _ _ t _ h0
    · simp only [] at *
      rw [e]
      exact ⟨rfl, rfl, rfl, by simp [World.setRow], fun k _ hk => setRow_other w g k _ (by simpa using hk)⟩
    · simp only [] at *
      rw [e]
      show _ = _
      simp [World.setRow]
end
end Go.Proofs.Ytidgjhgeminelaa
