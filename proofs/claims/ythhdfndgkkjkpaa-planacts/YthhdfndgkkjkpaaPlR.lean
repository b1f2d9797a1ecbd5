/-
  What comes in, as it reads: numbers.
-/
import Derived.Test.YthhdfndgkkjkpaaRows
import Derived.Test.YthhdfndgkkjkpaaBits1
import Derived.ProofKit
import Derived.OpenShut
import Derived.ShutString
import Derived.ChangeOld
import Derived.ChangeSlices
import Derived.Deep.Slices
import Derived.Lib.SmallJoins
import Derived.SizedLaws
namespace Go.Proofs.Ythhdfndgkkjkpaa.Plan
open Go.ChangeShapes Go.WideShapes Go.ChangeAt Go.RowKit

set_option maxRecDepth 100000 in
theorem cells3 : Try.prog.cellsOf 3 = 1 := by kernel_rfl
set_option maxRecDepth 100000 in
/-- Numbers that came in. -/
theorem ints_in {H : Type} {enc : TypeId × Value → H} {W : World} {base : Nat} {spare : Nat → Bool} {held : Bool} {a : Option Addr} {len cap : Nat} {d : DataW H} {p : List MemPlace} (h : DataW.Trod enc Try.prog W base spare held 23 (.slice a len cap) d p) :
    ∃ zs, Bits.IntsAt W.heap.size W (.slice a len cap) zs := by
  obtain ⟨fuel, hf⟩ := h
  rcases open_ints Try.underlying23 Try.underlying3 cells3 hf with ⟨hcs, _⟩ | ⟨x, l, c, zs, hcs, _, hl, hm, hz, _, hcell, _⟩
  · simp [Value.cells] at hcs
    obtain ⟨rfl, rfl, rfl⟩ := hcs
    exact ⟨[], none, 0, rfl, .inl rfl⟩
  · simp [Value.cells] at hcs
    obtain ⟨rfl, rfl, rfl⟩ := hcs
    have hzl : len ≤ zs.length := by rw [hz]; split <;> omega
    have htl : (zs.take len).length = len := by simp; omega
    refine ⟨zs.take len, some x, cap, by rw [htl], ?_⟩
    by_cases h0 : len = 0
    · exact .inl (by rw [h0, List.take_zero])
    · right
      have hc0 := hcell 0 (by omega)
      obtain ⟨b, off, sp⟩ := x
      have hsp : sp = none := by simpa [Addr.add] using World.cell?_spot hc0
      subst hsp
      refine ⟨b, off, rfl, World.block_lt_of_cell? W ⟨b, off, none⟩ (by have := hc0; simpa [Addr.add] using this), fun j hj => ?_⟩
      rw [htl] at hj
      have hjz : j < zs.length := by omega
      have := hcell j hjz
      rw [Go.WideShapes.add_plain] at this
      rw [this]
      simp [hj, hjz]
end Go.Proofs.Ythhdfndgkkjkpaa.Plan
