/-
  What comes in, as it reads: own writes.
-/
import Derived.Test.YthlnhmdeoapoeaaRows
import Derived.Test.YthlnhmdeoapoeaaClA
import Derived.ProofKit
import Derived.OpenShut
import Derived.ShutString
import Derived.ChangeOld
import Derived.ChangeSlices
import Derived.Deep.Slices
import Derived.Lib.SmallJoins
namespace Go.Proofs.Ythlnhmdeoapoeaa.Clash
open Go.ChangeShapes Go.WideShapes Go.ChangeAt Go.RowKit

theorem cut_step (cs : List Value) (o n : Nat) (p r : List Value) (h : (cs.drop o).take n = p) (hr : cs.drop (o + n) = r) : cs.drop o = p ++ r := by
  rw [← h, ← hr, ← List.drop_drop, List.take_append_drop]
theorem cut_last (cs : List Value) (o n : Nat) (p : List Value) (h : (cs.drop o).take n = p) (hl : cs.length = o + n) : cs.drop o = p := by
  rw [← h, List.take_of_length_le]
  rw [List.length_drop]
  omega
set_option maxRecDepth 100000 in
theorem cells3 : Try.prog.cellsOf 3 = 1 := by kernel_rfl
set_option maxRecDepth 100000 in
theorem cellsS : Try.prog.cellsOf 24 = 2 := by kernel_rfl
set_option maxRecDepth 100000 in
theorem cellsO : Try.prog.cellsOf 66 = 3 := by kernel_rfl
set_option maxRecDepth 100000 in
theorem cells4 : Try.prog.cellsOf 4 = 1 := by kernel_rfl
section
variable {H : Type} {enc : TypeId × Value → H} {W : World} {base : Nat} {spare : Nat → Bool} {held : Bool} {fuel : Nat} {x : DataW H × List MemPlace}
set_option maxRecDepth 100000 in
theorem int_cell {t : TypeId} {q : IntKind} (ht : Try.prog.underlying t = some (.int q)) {cs : List Value} (h : DataW.trod enc Try.prog W base spare held fuel t cs = some x) : ∃ n, cs = [.int q n] ∧ (Lit.int q n).wf = true := by
  obtain ⟨n, hn, -, wn⟩ := DataW.trod_int ht h
  exact ⟨n, hn, wn⟩
set_option maxRecDepth 100000 in
/-- A span's cells. -/
theorem span_cells {cs : List Value} (h : DataW.trod enc Try.prog W base spare held fuel 24 cs = some x) : ∃ o l : Int, cs = [.int .i64 o, .int .i64 l] := by
  obtain ⟨xs, n, _, _, hl, hlen, hf⟩ := DataW.trod_struct Try.underlying24 h
  have h0 : DataW.trod enc Try.prog W base spare held n 3 ((cs.drop 0).take (Try.prog.cellsOf 3)) = xs[0]? := hf 0 _ rfl
  rw [cells3] at h0
  have h1 : DataW.trod enc Try.prog W base spare held n 3 ((cs.drop 1).take (Try.prog.cellsOf 3)) = xs[1]? := hf 1 _ rfl
  rw [cells3] at h1
  match xs, hlen with
  | [y0, y1], _ =>
    simp only [List.getElem?_cons_zero, List.getElem?_cons_succ] at h0 h1
    obtain ⟨n0, e0, w0⟩ := int_cell Try.underlying3 h0
    obtain ⟨n1, e1, w1⟩ := int_cell Try.underlying3 h1
    refine ⟨n0, n1, ?_⟩
    have hc : cs.drop 0 = _ := (cut_step cs 0 1 _ _ e0 (cut_last cs 1 1 _ e1 (hl.trans cellsS)))
    rw [List.drop_zero] at hc
    exact hc
set_option maxRecDepth 100000 in
/-- An own write's cells. -/
theorem own_cells {cs : List Value} (h : DataW.trod enc Try.prog W base spare held fuel 66 cs = some x) : ∃ y : Ow, cs = y.cells := by
  obtain ⟨xs, n, _, _, hl, hlen, hf⟩ := DataW.trod_struct Try.underlying66 h
  have h0 : DataW.trod enc Try.prog W base spare held n 24 ((cs.drop 0).take (Try.prog.cellsOf 24)) = xs[0]? := hf 0 _ rfl
  have h1 : DataW.trod enc Try.prog W base spare held n 4 ((cs.drop 2).take (Try.prog.cellsOf 4)) = xs[1]? := hf 1 _ rfl
  rw [cells4] at h1
  rw [cellsS] at h0
  match xs, hlen with
  | [y0, y1], _ =>
    simp only [List.getElem?_cons_zero, List.getElem?_cons_succ] at h0 h1
    obtain ⟨o, l, e0⟩ := span_cells h0
    obtain ⟨b, e1, -⟩ := DataW.trod_bool Try.underlying4 h1
    refine ⟨⟨o, l, b⟩, ?_⟩
    have hc : cs.drop 0 = _ := cut_step cs 0 2 _ _ e0 (cut_last cs 2 1 _ e1 (hl.trans cellsO))
    rw [List.drop_zero] at hc
    rw [hc]
    rfl
set_option maxRecDepth 100000 in
/-- Items that came in. -/
theorem ows_cells {cs : List Value} (h : DataW.trod enc Try.prog W base spare held fuel 33 cs = some x) : ∃ a len cap L, cs = [.slice a len cap] ∧ len ≤ 9223372036854775807 ∧ OwsAt W a len cap L := by
  rcases Go.Deep.open_slice Try.underlying33 h with ⟨hcs, _⟩ | ⟨ad, len, cap, m, n, D, Pl, hcs, _, hlc, hmax, hm, _, hel⟩
  · exact ⟨none, 0, 0, [], hcs, by omega, ows_nil W⟩
  · unfold maxLen at hmax
    have hlm : len ≤ m := by rw [hm]; split <;> omega
    have hex : ∀ i, i < len → ∃ x : Ow, ∀ j v, x.cells[j]? = some v → W.cell? ((ad.add (i * 3)).add j) = some v := fun i hi => by
      obtain ⟨cs', hc1, hc2⟩ := hel i (by omega)
      rw [cellsO] at hc1
      obtain ⟨y, rfl⟩ := own_cells hc2
      refine ⟨y, fun j v hv => ?_⟩
      obtain ⟨_, hlen, hcell⟩ := World.cells?_some hc1
      have hj : j < 3 := by
        have := (List.getElem?_eq_some_iff.1 hv).1
        exact this
      rw [hcell j hj]
      exact hv
    have hall : ∀ n, n ≤ len → ∃ L : List Ow, L.length = n ∧ ∀ i x, L[i]? = some x → ∀ j v, x.cells[j]? = some v → W.cell? ((ad.add (i * 3)).add j) = some v := fun n => by
      induction n with
      | zero => exact fun _ => ⟨[], rfl, fun i x hx => by simp at hx⟩
      | succ n ih =>
        intro hn
        obtain ⟨L, hl, hx⟩ := ih (by omega)
        obtain ⟨y, hy⟩ := hex n (by omega)
        refine ⟨L ++ [y], by simp [hl], fun i x hi => ?_⟩
        by_cases hin : i < L.length
        · rw [List.getElem?_append_left hin] at hi
          exact hx i x hi
        · have hlt := (List.getElem?_eq_some_iff.1 hi).1
          simp at hlt
          obtain rfl : i = n := by omega
          rw [List.getElem?_append_right (by omega), hl, Nat.sub_self] at hi
          simp at hi
          subst hi
          exact hy
    obtain ⟨L, hl, hx⟩ := hall len (Nat.le_refl _)
    refine ⟨some ad, len, cap, L, hcs, by omega, hl, hlc, ?_⟩
    by_cases h0 : len = 0
    · exact .inl h0
    · right
      obtain ⟨y, hy⟩ : ∃ y, L[0]? = some y := ⟨_, List.getElem?_eq_getElem (by omega)⟩
      have hc0 := hx 0 y hy 0 _ rfl
      obtain ⟨b, off, sp⟩ := ad
      have hsp : sp = none := by simpa [Addr.add] using World.cell?_spot hc0
      subst hsp
      have hc0' : W.cell? ⟨b, off + 0 * 3 + 0, none⟩ = some (.int .i64 y.o) := by rw [← hc0, Go.WideShapes.add_plain, Go.WideShapes.add_plain]
      refine ⟨b, off, rfl, World.block_lt_of_cell? W _ hc0', fun j x hj i v hv => ?_⟩
      have := hx j x hj i v hv
      rwa [Go.WideShapes.add_plain, Go.WideShapes.add_plain] at this
end
set_option maxRecDepth 100000 in
/-- Items in a slice that came in. -/
theorem ows_in {H : Type} {enc : TypeId × Value → H} {W : World} {base : Nat} {spare : Nat → Bool} {held : Bool} {a : Option Addr} {len cap : Nat} {d : DataW H} {p : List MemPlace} (h : DataW.Trod enc Try.prog W base spare held 33 (.slice a len cap) d p) :
    len ≤ 9223372036854775807 ∧ ∃ L, OwsAt W a len cap L := by
  obtain ⟨fuel, hf⟩ := h
  obtain ⟨sa, l, c, L, hc, hl, hr⟩ := ows_cells hf
  simp [Value.cells] at hc
  obtain ⟨rfl, rfl, rfl⟩ := hc
  exact ⟨hl, L, hr⟩
end Go.Proofs.Ythlnhmdeoapoeaa.Clash
