/-
  What comes in, as it reads: bytes, packets.
-/
import Derived.Test.YtnbkbakbjllmcaaRows
import Derived.Test.YtnbkbakbjllmcaaWrA
import Derived.ProofKit
import Derived.OpenShut
import Derived.ShutString
import Derived.ChangeOld
import Derived.ChangeSlices
import Derived.Deep.Slices
import Derived.Lib.SmallJoins
namespace Go.Proofs.Ytnbkbakbjllmcaa.Wire
open Go.ChangeShapes Go.WideShapes Go.ChangeAt Go.RowKit

theorem byte_of {n : Int} (h : (Lit.int .u8 n).wf = true) : 0 ≤ n ∧ n < 256 := by
  have := bounds_u8 h
  omega
theorem cut_step (cs : List Value) (o n : Nat) (p r : List Value) (h : (cs.drop o).take n = p) (hr : cs.drop (o + n) = r) : cs.drop o = p ++ r := by
  rw [← h, ← hr, ← List.drop_drop, List.take_append_drop]
theorem cut_last (cs : List Value) (o n : Nat) (p : List Value) (h : (cs.drop o).take n = p) (hl : cs.length = o + n) : cs.drop o = p := by
  rw [← h, List.take_of_length_le]
  rw [List.length_drop]
  omega
set_option maxRecDepth 100000 in
theorem cells3 : Try.prog.cellsOf 3 = 1 := by kernel_rfl
set_option maxRecDepth 100000 in
theorem cells5 : Try.prog.cellsOf 5 = 1 := by kernel_rfl
set_option maxRecDepth 100000 in
theorem cellsB : Try.prog.cellsOf 34 = 1 := by kernel_rfl
section
variable {H : Type} {enc : TypeId × Value → H} {W : World} {base : Nat} {spare : Nat → Bool} {held : Bool} {fuel : Nat} {x : DataW H × List MemPlace}
set_option maxRecDepth 100000 in
theorem int_cell {t : TypeId} {q : IntKind} (ht : Try.prog.underlying t = some (.int q)) {cs : List Value} (h : DataW.trod enc Try.prog W base spare held fuel t cs = some x) : ∃ n, cs = [.int q n] ∧ (Lit.int q n).wf = true := by
  obtain ⟨n, hn, -, wn⟩ := DataW.trod_int ht h
  exact ⟨n, hn, wn⟩
set_option maxRecDepth 100000 in
/-- Bytes that came in. -/
theorem bytes_cell {cs : List Value} (h : DataW.trod enc Try.prog W base spare held fuel 34 cs = some x) : ∃ sa len cap bs, cs = [.slice sa len cap] ∧ len ≤ 9223372036854775807 ∧ ByteRow 0 W.heap.size W (.slice sa len cap) bs := by
  rcases open_ints Try.underlying34 Try.underlying5 cells5 h with ⟨hcs, _⟩ | ⟨a, len, cap, zs, hcs, _, hl, hm, hz, _, hcell, hwz⟩
  · exact ⟨none, 0, 0, [], hcs, by omega, byteRow_nil _ _ _⟩
  · unfold maxLen at hm
    have hzl : len ≤ zs.length := by rw [hz]; split <;> omega
    have hbl : ((zs.take len).map Int.toNat).length = len := by simp; omega
    refine ⟨some a, len, cap, (zs.take len).map Int.toNat, hcs, by omega, ?_, some a, cap, by rw [hbl], fun e => (by cases e), ?_⟩
    · intro b hb
      obtain ⟨n, hn, rfl⟩ := List.mem_map.1 hb
      have := byte_of (hwz n (List.mem_of_mem_take hn))
      omega
    · by_cases h0 : len = 0
      · left
        subst h0
        simp
      · right
        have hc0 := hcell 0 (by omega)
        obtain ⟨b, off, sp⟩ := a
        have hsp : sp = none := by simpa [Addr.add] using World.cell?_spot hc0
        subst hsp
        rw [hbl]
        refine ⟨b, off, rfl, by omega, Nat.zero_le _, ?_, fun j hj => ?_⟩
        · exact World.block_lt_of_cell? W ⟨b, off, none⟩ (by have := hc0; simpa [Addr.add] using this)
        · have hjz : j < zs.length := by omega
          have := hcell j hjz
          rw [Go.WideShapes.add_plain] at this
          rw [this]
          have hb := byte_of (hwz (zs[j]) (List.getElem_mem hjz))
          simp [hj, hjz]
          omega
end
end Go.Proofs.Ytnbkbakbjllmcaa.Wire
