/-
  What comes in, as it reads: the acts of a slice.
-/
import Derived.Test.YtgddpfcnngglaaaDataD
import Derived.Test.YtgddpfcnngglaaaDataC
namespace Go.Proofs.Ytgddpfcnngglaaa
open Math
open Go.ChangeShapes Go.WideShapes Go.ChangeAt Go.RowKit

set_option maxRecDepth 100000 in
/-- The acts of a slice that came in. -/
theorem das_in {H : Type} {enc : TypeId × Value → H} {W : World} {base : Nat} {spare : Nat → Bool} {held : Bool} {a : Option Addr} {len cap : Nat} {d : DataW H} {p : List MemPlace} (h : DataW.Trod enc Try.prog W base spare held 22 (.slice a len cap) d p) :
    len ≤ 9223372036854775807 ∧ ∃ acts, DasAt W.heap.size W a len cap acts := by
  obtain ⟨fuel, hf⟩ := h
  rcases Go.Deep.open_slice Try.underlying22 hf with ⟨hcs, _⟩ | ⟨ad, l, c, m, n, D, Pl, hcs, _, hlc, hmax, hm, _, hel⟩
  · simp [Value.cells] at hcs
    obtain ⟨rfl, rfl, rfl⟩ := hcs
    exact ⟨by omega, [], rfl, by simp, .inl rfl⟩
  · simp [Value.cells] at hcs
    obtain ⟨rfl, rfl, rfl⟩ := hcs
    unfold maxLen at hmax
    refine ⟨by omega, ?_⟩
    have hlm : len ≤ m := by rw [hm]; split <;> omega
    have hex : ∀ i, i < len → ∃ x : Da, x.Ok W.heap.size W ∧ ∀ j v, x.cells[j]? = some v → W.cell? ((ad.add (i * 6)).add j) = some v := fun i hi => by
      obtain ⟨cs', hc1, hc2⟩ := hel i (by omega)
      rw [cellsA] at hc1
      obtain ⟨k, t, mm, o, l', sa, len', cap', bs, rfl, hok, hr⟩ := act_cells hc2
      refine ⟨⟨k, t, mm, o, l', sa, len', cap', bs⟩, ⟨hok.1.1, hok.1.2, hok.2.1, hok.2.2, hr⟩, fun j v hv => ?_⟩
      obtain ⟨_, hlen, hcell⟩ := World.cells?_some hc1
      have hj : j < 6 := by
        have := (List.getElem?_eq_some_iff.1 hv).1
        exact this
      rw [hcell j hj]
      exact hv
    have hall : ∀ n, n ≤ len → ∃ acts : List Da, acts.length = n ∧ ∀ i x, acts[i]? = some x → x.Ok W.heap.size W ∧ ∀ j v, x.cells[j]? = some v → W.cell? ((ad.add (i * 6)).add j) = some v := fun n => by
      induction n with
      | zero => exact fun _ => ⟨[], rfl, fun i x hx => by simp at hx⟩
      | succ n ih =>
        intro hn
        obtain ⟨acts, hl, hx⟩ := ih (by omega)
        obtain ⟨y, hy⟩ := hex n (by omega)
        refine ⟨acts ++ [y], by simp [hl], fun i x hi => ?_⟩
        by_cases hin : i < acts.length
        · rw [List.getElem?_append_left hin] at hi
          exact hx i x hi
        · have hlt := (List.getElem?_eq_some_iff.1 hi).1
          simp at hlt
          obtain rfl : i = n := by omega
          rw [List.getElem?_append_right (by omega), hl, Nat.sub_self] at hi
          simp at hi
          subst hi
          exact hy
    obtain ⟨acts, hl, hx⟩ := hall len (Nat.le_refl _)
    refine ⟨acts, hl, fun x hm => ?_, ?_⟩
    · obtain ⟨i, hi⟩ := List.getElem?_of_mem hm
      exact (hx i x hi).1
    · by_cases h0 : len = 0
      · left
        exact List.eq_nil_of_length_eq_zero (hl.trans h0)
      · right
        obtain ⟨y, hy⟩ : ∃ y, acts[0]? = some y := ⟨_, List.getElem?_eq_getElem (by omega)⟩
        have hc0 := (hx 0 y hy).2 0 _ rfl
        obtain ⟨b, off, sp⟩ := ad
        have hsp : sp = none := by simpa [Addr.add] using World.cell?_spot hc0
        subst hsp
        have hc0' : W.cell? ⟨b, off + 0 * 6 + 0, none⟩ = some (.int .i64 y.k) := by rw [← hc0, Go.WideShapes.add_plain, Go.WideShapes.add_plain]
        refine ⟨b, off, rfl, hlc, World.block_lt_of_cell? W _ hc0', fun j x hj i v hv => ?_⟩
        have := (hx j x hj).2 i v hv
        rwa [Go.WideShapes.add_plain, Go.WideShapes.add_plain] at this
end Go.Proofs.Ytgddpfcnngglaaa
