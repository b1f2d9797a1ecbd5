import Derived.Test.YtpphlcjabnbblaaRows
import Derived.Test.YtpphlcjabnbblaaItI
import Derived.ProofKit
import Derived.OpenShut
import Derived.ShutString
import Derived.ChangeOld
import Derived.Deep.Slices
import Derived.Lib.SmallJoins
/-
  What comes in, as it reads: a span, an act, the acts of a slice, what a play of ItreeFinds begins with.
-/
namespace Go.Proofs.Ytpphlcjabnbblaa.Itree
open Go.ChangeShapes Go.WideShapes Go.ChangeAt Go.RowKit

theorem cut_step (cs : List Value) (o n : Nat) (p r : List Value) (h : (cs.drop o).take n = p) (hr : cs.drop (o + n) = r) : cs.drop o = p ++ r := by
  rw [← h, ← hr, ← List.drop_drop, List.take_append_drop]
theorem cut_last (cs : List Value) (o n : Nat) (p : List Value) (h : (cs.drop o).take n = p) (hl : cs.length = o + n) : cs.drop o = p := by
  rw [← h, List.take_of_length_le]
  rw [List.length_drop]
  omega
set_option maxRecDepth 100000 in
theorem cells3 : Try.prog.cellsOf 3 = 1 := by kernel_rfl
set_option maxRecDepth 100000 in
theorem cells4 : Try.prog.cellsOf 4 = 1 := by kernel_rfl
set_option maxRecDepth 100000 in
theorem cells24 : Try.prog.cellsOf 24 = 2 := by kernel_rfl
set_option maxRecDepth 100000 in
theorem cells33 : Try.prog.cellsOf 33 = 4 := by kernel_rfl
set_option maxRecDepth 100000 in
theorem cells45 : Try.prog.cellsOf 45 = 4 := by kernel_rfl
section
variable {H : Type} {enc : TypeId × Value → H} {W : World} {base : Nat} {spare : Nat → Bool} {held : Bool} {fuel : Nat} {x : DataW H × List MemPlace}
set_option maxRecDepth 100000 in
theorem int_cell {t : TypeId} {q : IntKind} (ht : Try.prog.underlying t = some (.int q)) {cs : List Value} (h : DataW.trod enc Try.prog W base spare held fuel t cs = some x) : ∃ n, cs = [.int q n] ∧ (Lit.int q n).wf = true := by
  obtain ⟨n, hn, -, wn⟩ := DataW.trod_int ht h
  exact ⟨n, hn, wn⟩
set_option maxRecDepth 100000 in
/-- A span's cells. -/
theorem span_cells {cs : List Value} (h : DataW.trod enc Try.prog W base spare held fuel 24 cs = some x) : ∃ o l : Int, cs = [.int .i64 o, .int .i64 l] ∧ (-9223372036854775808 ≤ o ∧ o ≤ 9223372036854775807) ∧ (-9223372036854775808 ≤ l ∧ l ≤ 9223372036854775807) := by
  obtain ⟨xs, n, _, _, hl, hlen, hf⟩ := DataW.trod_struct Try.underlying24 h
  have h0 : DataW.trod enc Try.prog W base spare held n 3 ((cs.drop 0).take (Try.prog.cellsOf 3)) = xs[0]? := hf 0 _ rfl
  rw [cells3] at h0
  have h1 : DataW.trod enc Try.prog W base spare held n 3 ((cs.drop 1).take (Try.prog.cellsOf 3)) = xs[1]? := hf 1 _ rfl
  rw [cells3] at h1
  match xs, hlen with
  | [y0, y1], _ =>
    simp only [List.getElem?_cons_zero, List.getElem?_cons_succ] at h0 h1
    obtain ⟨n0, e0, w0⟩ := int_cell Try.underlying3 h0
    have b0 := bounds_i64 w0
    obtain ⟨n1, e1, w1⟩ := int_cell Try.underlying3 h1
    have b1 := bounds_i64 w1
    refine ⟨n0, n1, ?_, ⟨b0.1, b0.2⟩, ⟨b1.1, b1.2⟩⟩
    have hc : cs.drop 0 = _ := (cut_step cs 0 1 _ _ e0 (cut_last cs 1 1 _ e1 (hl.trans cells24)))
    rw [List.drop_zero] at hc
    rw [hc]
    rfl
set_option maxRecDepth 100000 in
/-- An act's cells. -/
theorem Sa.of_cells {cs : List Value} (h : DataW.trod enc Try.prog W base spare held fuel 33 cs = some x) : ∃ a : Sa, cs = a.cells ∧ a.Ok := by
  obtain ⟨xs, n, _, _, hl, hlen, hf⟩ := DataW.trod_struct Try.underlying33 h
  have h0 : DataW.trod enc Try.prog W base spare held n 4 ((cs.drop 0).take (Try.prog.cellsOf 4)) = xs[0]? := hf 0 _ rfl
  rw [cells4] at h0
  have h1 : DataW.trod enc Try.prog W base spare held n 24 ((cs.drop 1).take (Try.prog.cellsOf 24)) = xs[1]? := hf 1 _ rfl
  rw [cells24] at h1
  have h2 : DataW.trod enc Try.prog W base spare held n 3 ((cs.drop 3).take (Try.prog.cellsOf 3)) = xs[2]? := hf 2 _ rfl
  rw [cells3] at h2
  match xs, hlen with
  | [y0, y1, y2], _ =>
    simp only [List.getElem?_cons_zero, List.getElem?_cons_succ] at h0 h1 h2
    obtain ⟨b, e0, -⟩ := DataW.trod_bool Try.underlying4 h0
    obtain ⟨o, l, e1, b1, b2⟩ := span_cells h1
    obtain ⟨n2, e2, w2⟩ := int_cell Try.underlying3 h2
    have b3 := bounds_i64 w2
    refine ⟨⟨b, ⟨o, l, n2⟩⟩, ?_, ⟨⟨b1.1, b1.2, b2.1, b2.2, b3.1, b3.2⟩⟩⟩
    have hc : cs.drop 0 = _ := (cut_step cs 0 1 _ _ e0 (cut_step cs 1 2 _ _ e1 (cut_last cs 3 1 _ e2 (hl.trans cells33))))
    rw [List.drop_zero] at hc
    rw [hc]
    rfl
set_option maxRecDepth 100000 in
/-- What a play of ItreeFinds begins with. -/
theorem one_cells {cs : List Value} (h : DataW.trod enc Try.prog W base spare held fuel 45 cs = some x) : ∃ (y : It) (a : Int), cs = [.int .i64 y.o, .int .i64 y.l, .int .i64 a, .int .i64 y.i] ∧ y.Ok ∧ (-9223372036854775808 ≤ a ∧ a ≤ 9223372036854775807) := by
  obtain ⟨xs, n, _, _, hl, hlen, hf⟩ := DataW.trod_struct Try.underlying45 h
  have h0 : DataW.trod enc Try.prog W base spare held n 24 ((cs.drop 0).take (Try.prog.cellsOf 24)) = xs[0]? := hf 0 _ rfl
  rw [cells24] at h0
  have h1 : DataW.trod enc Try.prog W base spare held n 3 ((cs.drop 2).take (Try.prog.cellsOf 3)) = xs[1]? := hf 1 _ rfl
  rw [cells3] at h1
  have h2 : DataW.trod enc Try.prog W base spare held n 3 ((cs.drop 3).take (Try.prog.cellsOf 3)) = xs[2]? := hf 2 _ rfl
  rw [cells3] at h2
  match xs, hlen with
  | [y0, y1, y2], _ =>
    simp only [List.getElem?_cons_zero, List.getElem?_cons_succ] at h0 h1 h2
    obtain ⟨o, l, e0, b1, b2⟩ := span_cells h0
    obtain ⟨n1, e1, w1⟩ := int_cell Try.underlying3 h1
    have b3 := bounds_i64 w1
    obtain ⟨n2, e2, w2⟩ := int_cell Try.underlying3 h2
    have b4 := bounds_i64 w2
    refine ⟨⟨o, l, n2⟩, n1, ?_, ⟨b1.1, b1.2, b2.1, b2.2, b4.1, b4.2⟩, ⟨b3.1, b3.2⟩⟩
    have hc : cs.drop 0 = _ := (cut_step cs 0 2 _ _ e0 (cut_step cs 2 1 _ _ e1 (cut_last cs 3 1 _ e2 (hl.trans cells45))))
    rw [List.drop_zero] at hc
    rw [hc]
    rfl
end
set_option maxRecDepth 100000 in
/-- A span that came in by value. -/
theorem span_in {H : Type} {enc : TypeId × Value → H} {W : World} {r : Reach} {b0 base : Nat} {spare : Nat → Bool} {held : Bool} {v : Value} {d : DataW H} {p : List MemPlace} (hv : Value.okWide Try.prog W r b0 24 v) (h : DataW.Trod enc Try.prog W base spare held 24 v d p) :
    ∃ o l : Int, v = .agg #[.int .i64 o, .int .i64 l] ∧ (It.mk o l 0).Ok := by
  obtain ⟨cs, rfl, hsz⟩ := okWide_struct Try.underlying24 hv
  obtain ⟨fuel, hf⟩ := h
  obtain ⟨o, l, hc, b1, b2⟩ := span_cells hf
  refine ⟨o, l, ?_, ⟨b1.1, b1.2, b2.1, b2.2, by simp only []; omega, by simp only []; omega⟩⟩
  congr 1
  have hc' : cs.toList = [.int .i64 o, .int .i64 l] := by simpa [Value.cells] using hc
  rw [← Array.toArray_toList (xs := cs), hc']
set_option maxRecDepth 100000 in
theorem one_in {H : Type} {enc : TypeId × Value → H} {W : World} {r : Reach} {b0 base : Nat} {spare : Nat → Bool} {held : Bool} {v : Value} {d : DataW H} {p : List MemPlace} (hv : Value.okWide Try.prog W r b0 45 v) (h : DataW.Trod enc Try.prog W base spare held 45 v d p) :
    ∃ (y : It) (a : Int), v = .agg #[.int .i64 y.o, .int .i64 y.l, .int .i64 a, .int .i64 y.i] ∧ y.Ok ∧ (-9223372036854775808 ≤ a ∧ a ≤ 9223372036854775807) := by
  obtain ⟨cs, rfl, hsz⟩ := okWide_struct Try.underlying45 hv
  obtain ⟨fuel, hf⟩ := h
  obtain ⟨y, a, hc, h1, h2⟩ := one_cells hf
  refine ⟨y, a, ?_, h1, h2⟩
  congr 1
  have hc' : cs.toList = [.int .i64 y.o, .int .i64 y.l, .int .i64 a, .int .i64 y.i] := by simpa [Value.cells] using hc
  rw [← Array.toArray_toList (xs := cs), hc']
set_option maxRecDepth 100000 in
/-- An act that came in by value. -/
theorem act_in {H : Type} {enc : TypeId × Value → H} {W : World} {r : Reach} {b0 base : Nat} {spare : Nat → Bool} {held : Bool} {v : Value} {d : DataW H} {p : List MemPlace} (hv : Value.okWide Try.prog W r b0 33 v) (h : DataW.Trod enc Try.prog W base spare held 33 v d p) :
    ∃ a : Sa, v = .agg #[.bool a.del, .int .i64 a.x.o, .int .i64 a.x.l, .int .i64 a.x.i] ∧ a.Ok := by
  obtain ⟨cs, rfl, hsz⟩ := okWide_struct Try.underlying33 hv
  obtain ⟨fuel, hf⟩ := h
  obtain ⟨a, hc, h1⟩ := Sa.of_cells hf
  refine ⟨a, ?_, h1⟩
  congr 1
  have hc' : cs.toList = a.cells := by simpa [Value.cells] using hc
  rw [← Array.toArray_toList (xs := cs), hc']
  rfl

set_option maxRecDepth 100000 in
/-- The acts of a slice that came in. -/
theorem acts_in {H : Type} {enc : TypeId × Value → H} {W : World} {base : Nat} {spare : Nat → Bool} {held : Bool} {a : Option Addr} {len cap : Nat} {d : DataW H} {p : List MemPlace} (h : DataW.Trod enc Try.prog W base spare held 22 (.slice a len cap) d p) :
    len ≤ 9223372036854775807 ∧ ∃ acts, ActsAt W.heap.size W a len cap acts := by
  obtain ⟨fuel, hf⟩ := h
  rcases Go.Deep.open_slice Try.underlying22 hf with ⟨hcs, _⟩ | ⟨ad, l, c, m, n, D, Pl, hcs, _, hlc, hmax, hm, _, hel⟩
  · simp [Value.cells] at hcs
    obtain ⟨rfl, rfl, rfl⟩ := hcs
    exact ⟨by omega, [], rfl, by simp, .inl rfl⟩
  · simp [Value.cells] at hcs
    obtain ⟨rfl, rfl, rfl⟩ := hcs
    unfold maxLen at hmax
    refine ⟨by omega, ?_⟩
    have hlm : len ≤ m := by rw [hm]; split <;> omega
    have hex : ∀ i, i < len → ∃ x : Sa, x.Ok ∧ ∀ j v, x.cells[j]? = some v → W.cell? ((ad.add (i * 4)).add j) = some v := fun i hi => by
      obtain ⟨cs', hc1, hc2⟩ := hel i (by omega)
      rw [cells33] at hc1
      obtain ⟨x, rfl, hok⟩ := Sa.of_cells hc2
      refine ⟨x, hok, fun j v hv => ?_⟩
      obtain ⟨_, hlen, hcell⟩ := World.cells?_some hc1
      have hj : j < 4 := by
        have := (List.getElem?_eq_some_iff.1 hv).1
        omega
      rw [hcell j hj]
      exact hv
    have hall : ∀ n, n ≤ len → ∃ acts : List Sa, acts.length = n ∧ ∀ i x, acts[i]? = some x → x.Ok ∧ ∀ j v, x.cells[j]? = some v → W.cell? ((ad.add (i * 4)).add j) = some v := fun n => by
      induction n with
      | zero => exact fun _ => ⟨[], rfl, fun i x hx => by simp at hx⟩
      | succ n ih =>
        intro hn
        obtain ⟨acts, hl, hx⟩ := ih (by omega)
        obtain ⟨y, hy⟩ := hex n (by omega)
        refine ⟨acts ++ [y], by simp [hl], fun i x hi => ?_⟩
        by_cases hin : i < acts.length
        · rw [List.getElem?_append_left hin] at hi
          exact hx i x hi
        · have hlt := (List.getElem?_eq_some_iff.1 hi).1
          simp at hlt
          obtain rfl : i = n := by omega
          rw [List.getElem?_append_right (by omega), hl, Nat.sub_self] at hi
          simp at hi
          subst hi
          exact hy
    obtain ⟨acts, hl, hx⟩ := hall len (Nat.le_refl _)
    refine ⟨acts, hl, fun x hm => ?_, ?_⟩
    · obtain ⟨i, hi⟩ := List.getElem?_of_mem hm
      exact (hx i x hi).1
    · by_cases h0 : len = 0
      · left
        exact List.eq_nil_of_length_eq_zero (hl.trans h0)
      · right
        obtain ⟨y, hy⟩ : ∃ y, acts[0]? = some y := ⟨_, List.getElem?_eq_getElem (by omega)⟩
        have hc0 := (hx 0 y hy).2 0 _ rfl
        obtain ⟨b, off, spot⟩ := ad
        have hspot : spot = none := by simpa [Addr.add] using World.cell?_spot hc0
        subst hspot
        have hc0' : W.cell? ⟨b, off + 0 * 4 + 0, none⟩ = some (.bool y.del) := by rw [← hc0, Go.WideShapes.add_plain, Go.WideShapes.add_plain]
        refine ⟨b, off, rfl, hlc, World.block_lt_of_cell? W _ hc0', fun j x hj i v hv => ?_⟩
        have := (hx j x hj).2 i v hv
        rwa [Go.WideShapes.add_plain, Go.WideShapes.add_plain] at this
end Go.Proofs.Ytpphlcjabnbblaa.Itree

