/-
  What comes in, as it reads: settings, requests.
-/
import Derived.Test.YtmpblohagchhaaaRows
import Derived.Test.YtmpblohagchhaaaRqF
import Derived.ProofKit
import Derived.OpenShut
import Derived.ShutString
import Derived.ChangeOld
import Derived.ChangeSlices
import Derived.Deep.Slices
import Derived.Lib.SmallJoins
namespace Go.Proofs.Ytmpblohagchhaaa.Request
open Go.ChangeShapes Go.WideShapes Go.ChangeAt Go.RowKit

theorem byte_of {n : Int} (h : (Lit.int .u8 n).wf = true) : 0 ≤ n ∧ n < 256 := by
  have := bounds_u8 h
  omega
theorem cut_step (cs : List Value) (o n : Nat) (p r : List Value) (h : (cs.drop o).take n = p) (hr : cs.drop (o + n) = r) : cs.drop o = p ++ r := by
  rw [← h, ← hr, ← List.drop_drop, List.take_append_drop]
theorem cut_last (cs : List Value) (o n : Nat) (p : List Value) (h : (cs.drop o).take n = p) (hl : cs.length = o + n) : cs.drop o = p := by
  rw [← h, List.take_of_length_le]
  rw [List.length_drop]
  omega
set_option maxRecDepth 100000 in
theorem cells3 : Try.prog.cellsOf 3 = 1 := by kernel_rfl
set_option maxRecDepth 100000 in
theorem cells5 : Try.prog.cellsOf 5 = 1 := by kernel_rfl
set_option maxRecDepth 100000 in
theorem cellsB : Try.prog.cellsOf 26 = 1 := by kernel_rfl
set_option maxRecDepth 100000 in
theorem cellsS : Try.prog.cellsOf 25 = 2 := by kernel_rfl
set_option maxRecDepth 100000 in
theorem cellsQ : Try.prog.cellsOf 28 = 4 := by kernel_rfl
set_option maxRecDepth 100000 in
theorem cellsC : Try.prog.cellsOf 23 = 5 := by kernel_rfl
section
variable {H : Type} {enc : TypeId × Value → H} {W : World} {base : Nat} {spare : Nat → Bool} {held : Bool} {fuel : Nat} {x : DataW H × List MemPlace}
set_option maxRecDepth 100000 in
theorem int_cell {t : TypeId} {q : IntKind} (ht : Try.prog.underlying t = some (.int q)) {cs : List Value} (h : DataW.trod enc Try.prog W base spare held fuel t cs = some x) : ∃ n, cs = [.int q n] ∧ (Lit.int q n).wf = true := by
  obtain ⟨n, hn, -, wn⟩ := DataW.trod_int ht h
  exact ⟨n, hn, wn⟩
set_option maxRecDepth 100000 in
/-- A span's cells. -/
theorem span_cells {cs : List Value} (h : DataW.trod enc Try.prog W base spare held fuel 25 cs = some x) : ∃ o l : Int, cs = [.int .i64 o, .int .i64 l] ∧ (Lit.int .i64 o).wf = true ∧ (Lit.int .i64 l).wf = true := by
  obtain ⟨xs, n, _, _, hl, hlen, hf⟩ := DataW.trod_struct Try.underlying25 h
  have h0 : DataW.trod enc Try.prog W base spare held n 3 ((cs.drop 0).take (Try.prog.cellsOf 3)) = xs[0]? := hf 0 _ rfl
  rw [cells3] at h0
  have h1 : DataW.trod enc Try.prog W base spare held n 3 ((cs.drop 1).take (Try.prog.cellsOf 3)) = xs[1]? := hf 1 _ rfl
  rw [cells3] at h1
  match xs, hlen with
  | [y0, y1], _ =>
    simp only [List.getElem?_cons_zero, List.getElem?_cons_succ] at h0 h1
    obtain ⟨n0, e0, w0⟩ := int_cell Try.underlying3 h0
    obtain ⟨n1, e1, w1⟩ := int_cell Try.underlying3 h1
    refine ⟨n0, n1, ?_, w0, w1⟩
    have hc : cs.drop 0 = _ := (cut_step cs 0 1 _ _ e0 (cut_last cs 1 1 _ e1 (hl.trans cellsS)))
    rw [List.drop_zero] at hc
    exact hc
set_option maxRecDepth 100000 in
/-- Bytes that came in. -/
theorem bytes_cell {cs : List Value} (h : DataW.trod enc Try.prog W base spare held fuel 26 cs = some x) : ∃ sa len cap bs, cs = [.slice sa len cap] ∧ len ≤ 9223372036854775807 ∧ ByteRow 0 W.heap.size W (.slice sa len cap) bs := by
  rcases open_ints Try.underlying26 Try.underlying5 cells5 h with ⟨hcs, _⟩ | ⟨a, len, cap, zs, hcs, _, hl, hm, hz, _, hcell, hwz⟩
  · exact ⟨none, 0, 0, [], hcs, by omega, byteRow_nil _ _ _⟩
  · unfold maxLen at hm
    have hzl : len ≤ zs.length := by rw [hz]; split <;> omega
    have hbl : ((zs.take len).map Int.toNat).length = len := by simp; omega
    refine ⟨some a, len, cap, (zs.take len).map Int.toNat, hcs, by omega, ?_, some a, cap, by rw [hbl], fun e => (by cases e), ?_⟩
    · intro b hb
      obtain ⟨n, hn, rfl⟩ := List.mem_map.1 hb
      have := byte_of (hwz n (List.mem_of_mem_take hn))
      omega
    · by_cases h0 : len = 0
      · left
        subst h0
        simp
      · right
        have hc0 := hcell 0 (by omega)
        obtain ⟨b, off, sp⟩ := a
        have hsp : sp = none := by simpa [Addr.add] using World.cell?_spot hc0
        subst hsp
        rw [hbl]
        refine ⟨b, off, rfl, by omega, Nat.zero_le _, ?_, fun j hj => ?_⟩
        · exact World.block_lt_of_cell? W ⟨b, off, none⟩ (by have := hc0; simpa [Addr.add] using this)
        · have hjz : j < zs.length := by omega
          have := hcell j hjz
          rw [Go.WideShapes.add_plain] at this
          rw [this]
          have hb := byte_of (hwz (zs[j]) (List.getElem_mem hjz))
          simp [hj, hjz]
          omega
set_option maxRecDepth 100000 in
/-- A request's cells. -/
theorem req_cells {cs : List Value} (h : DataW.trod enc Try.prog W base spare held fuel 28 cs = some x) : ∃ y : Qv, cs = [.int .i64 y.k, .int .i64 y.o, .int .i64 y.l, .slice y.sa y.len y.cap] ∧ y.len ≤ 9223372036854775807 ∧ y.At 0 W.heap.size W := by
  obtain ⟨xs, n, _, _, hl, hlen, hf⟩ := DataW.trod_struct Try.underlying28 h
  have h0 : DataW.trod enc Try.prog W base spare held n 3 ((cs.drop 0).take (Try.prog.cellsOf 3)) = xs[0]? := hf 0 _ rfl
  have h1 : DataW.trod enc Try.prog W base spare held n 25 ((cs.drop 1).take (Try.prog.cellsOf 25)) = xs[1]? := hf 1 _ rfl
  have h2 : DataW.trod enc Try.prog W base spare held n 26 ((cs.drop 3).take (Try.prog.cellsOf 26)) = xs[2]? := hf 2 _ rfl
  rw [cells3] at h0
  rw [cellsS] at h1
  rw [cellsB] at h2
  match xs, hlen with
  | [y0, y1, y2], _ =>
    simp only [List.getElem?_cons_zero, List.getElem?_cons_succ] at h0 h1 h2
    obtain ⟨n0, e0, w0⟩ := int_cell Try.underlying3 h0
    obtain ⟨o, l, e1, _, _⟩ := span_cells h1
    obtain ⟨sa, len, cap, bs, e2, hlen, hr⟩ := bytes_cell h2
    refine ⟨⟨n0, o, l, sa, len, cap, bs⟩, ?_, hlen, hr⟩
    have hc : cs.drop 0 = _ := cut_step cs 0 1 _ _ e0 (cut_step cs 1 2 _ _ e1 (cut_last cs 3 1 _ e2 (hl.trans cellsQ)))
    rw [List.drop_zero] at hc
    rw [hc]
    rfl
set_option maxRecDepth 100000 in
/-- The settings' cells. -/
theorem cfg_cells {cs : List Value} (h : DataW.trod enc Try.prog W base spare held fuel 23 cs = some x) : ∃ z h t n p : Int, cs = [.int .i64 z, .int .i64 h, .int .i64 t, .int .i64 n, .int .i64 p] ∧ -9223372036854775808 ≤ z ∧ z ≤ 9223372036854775807 := by
  obtain ⟨xs, m, _, _, hl, hlen, hf⟩ := DataW.trod_struct Try.underlying23 h
  have h0 : DataW.trod enc Try.prog W base spare held m 3 ((cs.drop 0).take (Try.prog.cellsOf 3)) = xs[0]? := hf 0 _ rfl
  have h1 : DataW.trod enc Try.prog W base spare held m 3 ((cs.drop 1).take (Try.prog.cellsOf 3)) = xs[1]? := hf 1 _ rfl
  have h2 : DataW.trod enc Try.prog W base spare held m 3 ((cs.drop 2).take (Try.prog.cellsOf 3)) = xs[2]? := hf 2 _ rfl
  have h3 : DataW.trod enc Try.prog W base spare held m 3 ((cs.drop 3).take (Try.prog.cellsOf 3)) = xs[3]? := hf 3 _ rfl
  have h4 : DataW.trod enc Try.prog W base spare held m 3 ((cs.drop 4).take (Try.prog.cellsOf 3)) = xs[4]? := hf 4 _ rfl
  rw [cells3] at h0 h1 h2 h3 h4
  match xs, hlen with
  | [y0, y1, y2, y3, y4], _ =>
    simp only [List.getElem?_cons_zero, List.getElem?_cons_succ] at h0 h1 h2 h3 h4
    obtain ⟨n0, e0, w0⟩ := int_cell Try.underlying3 h0
    obtain ⟨n1, e1, w1⟩ := int_cell Try.underlying3 h1
    obtain ⟨n2, e2, w2⟩ := int_cell Try.underlying3 h2
    obtain ⟨n3, e3, w3⟩ := int_cell Try.underlying3 h3
    obtain ⟨n4, e4, w4⟩ := int_cell Try.underlying3 h4
    have b0 := bounds_i64 w0
    refine ⟨n0, n1, n2, n3, n4, ?_, b0.1, b0.2⟩
    have hc : cs.drop 0 = _ := cut_step cs 0 1 _ _ e0 (cut_step cs 1 1 _ _ e1 (cut_step cs 2 1 _ _ e2 (cut_step cs 3 1 _ _ e3 (cut_last cs 4 1 _ e4 (hl.trans cellsC)))))
    rw [List.drop_zero] at hc
    exact hc
end
set_option maxRecDepth 100000 in
/-- Settings that came in by value. -/
theorem cfg_in {H : Type} {enc : TypeId × Value → H} {W : World} {r : Reach} {b0 base : Nat} {spare : Nat → Bool} {held : Bool} {v : Value} {d : DataW H} {p : List MemPlace} (hv : Value.okWide Try.prog W r b0 23 v) (h : DataW.Trod enc Try.prog W base spare held 23 v d p) :
    ∃ z h t n q : Int, v = .agg #[.int .i64 z, .int .i64 h, .int .i64 t, .int .i64 n, .int .i64 q] ∧ -9223372036854775808 ≤ z ∧ z ≤ 9223372036854775807 := by
  obtain ⟨cs, rfl, hsz⟩ := okWide_struct Try.underlying23 hv
  obtain ⟨fuel, hf⟩ := h
  obtain ⟨z, h, t, n, q, hc, hz0, hz1⟩ := cfg_cells hf
  refine ⟨z, h, t, n, q, ?_, hz0, hz1⟩
  congr 1
  have hc' : cs.toList = [.int .i64 z, .int .i64 h, .int .i64 t, .int .i64 n, .int .i64 q] := by simpa [Value.cells] using hc
  rw [← Array.toArray_toList (xs := cs), hc']
set_option maxRecDepth 100000 in
/-- A request that came in by value. -/
theorem req_in {H : Type} {enc : TypeId × Value → H} {W : World} {r : Reach} {b0 base : Nat} {spare : Nat → Bool} {held : Bool} {v : Value} {d : DataW H} {p : List MemPlace} (hv : Value.okWide Try.prog W r b0 28 v) (h : DataW.Trod enc Try.prog W base spare held 28 v d p) :
    ∃ y : Qv, v = y.val ∧ y.At 0 W.heap.size W := by
  obtain ⟨cs, rfl, hsz⟩ := okWide_struct Try.underlying28 hv
  obtain ⟨fuel, hf⟩ := h
  obtain ⟨y, hc, _, hA⟩ := req_cells hf
  refine ⟨y, ?_, hA⟩
  unfold Qv.val
  congr 1
  have hc' : cs.toList = y.cells := by simpa [Value.cells, Qv.cells] using hc
  rw [← Array.toArray_toList (xs := cs), hc']
  rfl
end Go.Proofs.Ytmpblohagchhaaa.Request
