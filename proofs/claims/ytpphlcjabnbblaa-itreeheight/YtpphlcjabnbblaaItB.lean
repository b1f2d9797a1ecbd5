import Derived.Test.YtpphlcjabnbblaaItA
import Derived.Laws.AppendOwnNone
import Derived.Lib.AppendZeros
import Derived.Lib.SliceRun
import Derived.Test.YtpphlcjabnbblaaBits1
/-
  The document's Insert and Delete: rows joined, a row put in its place.
-/
namespace Go.Proofs.Ytpphlcjabnbblaa.Itree
open Go.RowKit

set_option maxRecDepth 100000 in
/-- Two items, compared -/
theorem eql_item (x y : It) (w : World) : (binOp .eql 66 x.val y.val).run Try.prog w = .ok (.bool (decide (x = y))) w := by
  have h1 : Try.prog.underlying 66 = some (.struct (Try.prog.fieldsOf 66)) := by kernel_rfl
  have h2 : Try.prog.stoodInHeld 66 = false := by kernel_rfl
  have h3 : Try.prog.underlying 24 = some (.struct (Try.prog.fieldsOf 24)) := by kernel_rfl
  have h4 : Try.prog.stoodInHeld 24 = false := by kernel_rfl
  unfold It.val
  rw [run_eql_struct, run_equalIn_agg w 9999 66 _ _ h1 h2]
  simp [Program.fieldsOf, Try.underlying66, Try.underlying24, go_sem, h4]
  have e := It.eq_iff x y
  by_cases a1 : x.o = y.o <;> by_cases a2 : x.l = y.l <;> by_cases a3 : x.i = y.i <;> simp [a1, a2, a3] at e ⊢ <;> simp [e]
set_option maxRecDepth 100000 in
theorem neq_item (x y : It) (w : World) : (binOp .neq 66 x.val y.val).run Try.prog w = .ok (.bool (!decide (x = y))) w := by
  have e := eql_item x y w
  unfold It.val at *
  rw [run_eql_struct] at e
  rw [run_neq_struct]
  cases h : (Op.equalIn 10000 66 (.agg #[.int .i64 x.o, .int .i64 x.l, .int .i64 x.i]) (.agg #[.int .i64 y.o, .int .i64 y.l, .int .i64 y.i])).run Try.prog w with
  | ok b w' =>
    rw [h] at e
    simp at e
    rw [← e.1, ← e.2]
    simp
  | halt x w' =>
    rw [h] at e
    simp [Result.andThen] at e

/-- The cells of a row. -/
def rowC (L : List It) : List Value := L.flatMap It.cells
theorem rowC_append (A B : List It) : rowC (A ++ B) = rowC A ++ rowC B := by simp [rowC]
theorem rowC_length (L : List It) : (rowC L).length = L.length * 3 := by
  induction L with
  | nil => rfl
  | cons x L ih =>
    have : rowC (x :: L) = x.cells ++ rowC L := rfl
    rw [this, List.length_append, ih, List.length_cons]
    simp [It.cells]
    omega
theorem rowC_one (L : List It) : ∀ v ∈ rowC L, v.oneCell' = true := by
  intro v hv
  obtain ⟨x, _, hx⟩ := List.mem_flatMap.1 hv
  simp [It.cells] at hx
  rcases hx with rfl | rfl | rfl <;> rfl
theorem rowC_get (L : List It) (j : Nat) (x : It) (hx : L[j]? = some x) (k : Nat) (v : Value) (hv : x.cells[k]? = some v) : (rowC L)[j * 3 + k]? = some v := by
  have hj : j < L.length := (List.getElem?_eq_some_iff.1 hx).1
  have hk : k < 3 := by
    have := (List.getElem?_eq_some_iff.1 hv).1
    simpa [It.cells] using this
  have e : L = L.take j ++ x :: L.drop (j + 1) := by
    have h1 := List.getElem?_eq_some_iff.1 hx
    conv => lhs; rw [← List.take_append_drop j L, List.drop_eq_getElem_cons hj, h1.2]
  rw [e, rowC_append]
  have hl : (rowC (L.take j)).length = j * 3 := by rw [rowC_length, List.length_take, Nat.min_eq_left (by omega)]
  rw [List.getElem?_append_right (by omega), hl, Nat.add_sub_cancel_left]
  have : rowC (x :: L.drop (j + 1)) = x.cells ++ rowC (L.drop (j + 1)) := rfl
  rw [this, List.getElem?_append_left (by simp [It.cells]; omega)]
  exact hv
/-- Back: what lies at a place of a row of cells. -/
theorem rowC_at (L : List It) (q : Nat) (v : Value) (h : (rowC L)[q]? = some v) : ∃ x, L[q / 3]? = some x ∧ x.cells[q % 3]? = some v := by
  have hq : q < L.length * 3 := by
    have := (List.getElem?_eq_some_iff.1 h).1
    rwa [rowC_length] at this
  have hlt : q / 3 < L.length := by omega
  refine ⟨L[q / 3], List.getElem?_eq_getElem hlt, ?_⟩
  have h3 : q % 3 < (L[q / 3]).cells.length := by show q % 3 < 3; omega
  obtain ⟨u, hu⟩ : ∃ u, (L[q / 3]).cells[q % 3]? = some u := ⟨_, List.getElem?_eq_getElem h3⟩
  have := rowC_get L (q / 3) _ (List.getElem?_eq_getElem hlt) (q % 3) u hu
  rw [show q / 3 * 3 + q % 3 = q by omega, h] at this
  rw [hu]
  exact this.symm ▸ rfl
/-- What a call makes. -/
theorem items_of_owns {W : World} {base : Nat} {v : Value} {L : List It} (h : W.ownsRow base 66 3 v L.length (rowC L)) : ItemsAt W v v.ownBlock L := by
  obtain ⟨_, ⟨rfl, h0⟩ | ⟨g, cap, cur, rfl, hb, hg, h1, h2, h3, h4⟩⟩ := h
  · have : L = [] := List.eq_nil_of_length_eq_zero h0
    subst this
    exact ⟨none, 0, rfl, Nat.le_refl _, by unfold maxLen; omega, .inl ⟨rfl, rfl, rfl, rfl⟩⟩
  · refine ⟨_, cap, rfl, h1, h2, .inr ⟨g, 0, rfl, rfl, (Array.getElem?_eq_some_iff.1 hg).1, fun j x hx k u hu => ?_⟩⟩
    have hj : j < L.length := (List.getElem?_eq_some_iff.1 hx).1
    have hk : k < 3 := by
      have := (List.getElem?_eq_some_iff.1 hu).1
      simpa [It.cells] using this
    rw [cell_of_row W g (0 + j * 3 + k) _ 66 (0, 0) hg]
    have e := rowC_get L j x hx k u hu
    rw [← h4, List.getElem?_take_of_lt (by omega)] at e
    simpa using e
set_option maxRecDepth 100000 in
theorem Try.info66 : (Try.prog.info? 66).map (fun i => (i.zero, i.size, i.bytes)) = some (some (.agg #[.int .i64 0, .int .i64 0, .int .i64 0]), 3, 24) := by kernel_rfl
section
variable {ops : Array Oper} {rest : List Oper} {o : Oper} {a : Act} {w : World} {Q : Exit → Act → World → Prop}
set_option maxRecDepth 100000 in
/-- Items appended to a row that the call itself has made. -/
theorem wpList_append_items (hgd : o.guard = none) (s x : Operand) (ho : o.op = .call { callee := .builtin .append, args := #[s, x], argTypes := #[29, 29] })
    (base : Nat) (v u : Value) (ob : Option Nat) (L K : List It) (hs : a.eval s = v) (hown : w.ownsRow base 66 3 v L.length (rowC L)) (hx : a.eval x = u) (hu : ItemsAt w u ob K) (hlen : L.length + K.length ≤ 2000000) (hb : base ≤ w.heap.size)
    (h : ∀ v' w', w'.ownsRow base 66 3 v' (L ++ K).length (rowC (L ++ K)) → w.grownBy w' v.ownBlock → wpList Try.prog ops Q rest (a.put o.dst v') w') : wpList Try.prog ops Q (o :: rest) a w := by
  obtain ⟨i0, hi, hz0, hz1, hz2⟩ := info_parts Try.info66
  obtain ⟨ao, cap, rfl, hc, hm, ⟨rfl, rfl, rfl, rfl⟩ | ⟨b, off, rfl, rfl, hbl, hcs⟩⟩ := hu
  · refine wpList_append_own_none hgd s x 29 ho base 66 i0 3 Try.underlying29 hi v L.length (rowC L) hs hown hx ?_
    exact h v w (by simpa using hown) ⟨rfl, rfl, rfl, Nat.le_refl _, fun _ _ _ => rfl⟩
  · refine wpList_append_own _ hgd s x 29 ho base 66 i0 (.agg #[.int .i64 0, .int .i64 0, .int .i64 0]) 3 24 Try.underlying29 hi hz0 hz1 hz2 rfl (by decide) v L.length (rowC L) hs hown ⟨b, off, none⟩ K.length cap (rowC K) hx (rowC_length K) ?_ (rowC_one K) (by unfold maxLen; omega) (by omega) hb ?_
    · intro q u hu
      obtain ⟨y, hy, hyv⟩ := rowC_at K q u hu
      have := hcs (q / 3) y hy (q % 3) u hyv
      rw [show (⟨b, off, none⟩ : Addr).add q = ⟨b, off + q / 3 * 3 + q % 3, none⟩ by unfold Addr.add; split <;> simp_all <;> omega]
      exact this
    · intro v' w' h3 h4 _
      rw [← List.length_append, ← rowC_append] at h3
      exact h v' w' h3 h4
end
theorem kept_grown {w w' : World} {v : Value} {base n : Nat} {e : TypeId} {z k : Nat} {l : List Value} (hown : w.ownsRow base e z v k l) (hg : w.grownBy w' v.ownBlock) (w0 : World) (h0 : Kept [] w0 w) (hb : w0.heap.size ≤ base) (_ : n = base) : Kept [] w0 w' :=
  ⟨hg.os.trans h0.os, hg.tape.trans h0.tape, hg.output.trans h0.output, Nat.le_trans h0.size hg.size, fun j hj _ => (hg.block j (Nat.lt_of_lt_of_le hj h0.size) (fun e => by have := (hown.lt j e.symm).1; omega)).trans (h0.block j hj (by simp))⟩
end Go.Proofs.Ytpphlcjabnbblaa.Itree

