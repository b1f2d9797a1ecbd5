/-
  What comes in, as it reads: an act of SessionNone.
-/
import Derived.Test.YtnbkbakbjllmcaaSsG
import Derived.Test.YtnbkbakbjllmcaaWrR
namespace Go.Proofs.Ytnbkbakbjllmcaa.Session
open Go.ChangeShapes Go.WideShapes Go.ChangeAt Go.RowKit
open Wire (Pv)

set_option maxRecDepth 100000 in
theorem cellsAct : Try.prog.cellsOf 49 = 8 := by kernel_rfl
def actCells (k : Int) (sa : Option Addr) (len cap : Nat) (x : Pv) : List Value := [.int .i64 k, .slice sa len cap, .int .u32 (x.f : Int), .int .u32 (x.t : Int), .int .i64 x.k, .int .i64 x.s, .int .i64 x.a, .slice x.sa x.len x.cap]
section
variable {H : Type} {enc : TypeId × Value → H} {W : World} {base : Nat} {spare : Nat → Bool} {held : Bool} {fuel : Nat} {x : DataW H × List MemPlace}
set_option maxRecDepth 100000 in
theorem act_cells {cs : List Value} (h : DataW.trod enc Try.prog W base spare held fuel 49 cs = some x) : ∃ (k : Int) (sa : Option Addr) (len cap : Nat) (y : Pv), cs = actCells k sa len cap y ∧ len ≤ 9223372036854775807 ∧ y.len ≤ 9223372036854775807 ∧ y.At 0 W.heap.size W := by
  obtain ⟨xs, n, _, _, hl, hlen, hf⟩ := DataW.trod_struct Try.underlying49 h
  have h0 : DataW.trod enc Try.prog W base spare held n 3 ((cs.drop 0).take (Try.prog.cellsOf 3)) = xs[0]? := hf 0 _ rfl
  have h1 : DataW.trod enc Try.prog W base spare held n 34 ((cs.drop 1).take (Try.prog.cellsOf 34)) = xs[1]? := hf 1 _ rfl
  have h2 : DataW.trod enc Try.prog W base spare held n 47 ((cs.drop 2).take (Try.prog.cellsOf 47)) = xs[2]? := hf 2 _ rfl
  rw [Wire.cells3] at h0
  rw [Wire.cellsB] at h1
  rw [Wire.cellsM] at h2
  match xs, hlen with
  | [y0, y1, y2], _ =>
    simp only [List.getElem?_cons_zero, List.getElem?_cons_succ] at h0 h1 h2
    obtain ⟨n0, e0, w0⟩ := Wire.int_cell Try.underlying3 h0
    obtain ⟨sa, len, cap, bs, e1, hlen, hr⟩ := Wire.bytes_cell h1
    obtain ⟨y, e2, hyl, hyA⟩ := Wire.msg_cells h2
    refine ⟨n0, sa, len, cap, y, ?_, hlen, hyl, hyA⟩
    have hc : cs.drop 0 = _ := Wire.cut_step cs 0 1 _ _ e0 (Wire.cut_step cs 1 1 _ _ e1 (Wire.cut_last cs 2 6 _ e2 (hl.trans cellsAct)))
    rw [List.drop_zero] at hc
    rw [hc]
    rfl
end
set_option maxRecDepth 100000 in
/-- An act that came in by value. -/
theorem act_in {H : Type} {enc : TypeId × Value → H} {W : World} {r : Reach} {b0 base : Nat} {spare : Nat → Bool} {held : Bool} {v : Value} {d : DataW H} {p : List MemPlace} (hv : Value.okWide Try.prog W r b0 49 v) (h : DataW.Trod enc Try.prog W base spare held 49 v d p) :
    ∃ (k : Int) (sa : Option Addr) (len cap : Nat) (y : Pv), v = .agg (actCells k sa len cap y).toArray ∧ len ≤ 9223372036854775807 ∧ y.len ≤ 9223372036854775807 ∧ y.At 0 W.heap.size W := by
  obtain ⟨cs, rfl, hsz⟩ := okWide_struct Try.underlying49 hv
  obtain ⟨fuel, hf⟩ := h
  obtain ⟨k, sa, len, cap, y, hc, h1, h2, h3⟩ := act_cells hf
  refine ⟨k, sa, len, cap, y, ?_, h1, h2, h3⟩
  congr 1
  have hc' : cs.toList = actCells k sa len cap y := by simpa [Value.cells] using hc
  rw [← Array.toArray_toList (xs := cs), hc']
end Go.Proofs.Ytnbkbakbjllmcaa.Session
