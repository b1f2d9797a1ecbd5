/-
  What comes in, as it reads.
-/
import Derived.Test.YtkiggeldgecooaaRows
import Derived.Test.YtkiggeldgecooaaRoM
import Derived.ProofKit
import Derived.OpenShut
import Derived.ShutString
import Derived.ChangeOld
import Derived.Deep.Slices
import Derived.Lib.SmallJoins
namespace Go.Proofs.Ytkiggeldgecooaa.Role
open Go.ChangeShapes Go.WideShapes Go.ChangeAt Go.RowKit

/-- What a play begins with. -/
structure Mt where
  who : Int
  mine : Bool
  theirs : Bool
  a : Nat
  b : Nat
  z : Int
structure Mt.Ok (a : Mt) : Prop where
  who0 : -9223372036854775808 ≤ a.who
  who1 : a.who ≤ 9223372036854775807
  a_ : a.a < 18446744073709551616
  b_ : a.b < 18446744073709551616
  z0 : -9223372036854775808 ≤ a.z
  z1 : a.z ≤ 9223372036854775807
  known : True
def Mt.cells (a : Mt) : List Value := .int .i64 a.who :: .bool a.mine :: .bool a.theirs :: .int .u64 (a.a : Int) :: .int .u64 (a.b : Int) :: .int .i64 a.z :: []
theorem Try.size24 : (Try.prog.info? 24).map (·.size) = some 6 := by kernel_rfl
theorem Mt.cells_length (a : Mt) (_ : a.Ok) : a.cells.length = 6 := by simp [Mt.cells]
/-- What a play begins with. -/
structure Bt where
  a : Bool
  b : Bool
  x : Nat
  y : Nat
structure Bt.Ok (a : Bt) : Prop where
  x_ : a.x < 18446744073709551616
  y_ : a.y < 18446744073709551616
  known : True
def Bt.cells (a : Bt) : List Value := .bool a.a :: .bool a.b :: .int .u64 (a.x : Int) :: .int .u64 (a.y : Int) :: []
theorem Try.size31 : (Try.prog.info? 31).map (·.size) = some 4 := by kernel_rfl
theorem Bt.cells_length (a : Bt) (_ : a.Ok) : a.cells.length = 4 := by simp [Bt.cells]
theorem cut_step (cs : List Value) (o n : Nat) (p r : List Value) (h : (cs.drop o).take n = p) (hr : cs.drop (o + n) = r) : cs.drop o = p ++ r := by
  rw [← h, ← hr, ← List.drop_drop, List.take_append_drop]
theorem cut_last (cs : List Value) (o n : Nat) (p : List Value) (h : (cs.drop o).take n = p) (hl : cs.length = o + n) : cs.drop o = p := by
  rw [← h, List.take_of_length_le]
  rw [List.length_drop]
  omega
theorem cells3 : Try.prog.cellsOf 3 = 1 := by kernel_rfl
theorem cells4 : Try.prog.cellsOf 4 = 1 := by kernel_rfl
theorem cells22 : Try.prog.cellsOf 22 = 1 := by kernel_rfl
theorem cells24 : Try.prog.cellsOf 24 = 6 := by kernel_rfl
section
variable {H : Type} {enc : TypeId × Value → H} {W : World} {base : Nat} {spare : Nat → Bool} {held : Bool} {fuel : Nat} {x : DataW H × List MemPlace}
theorem int_cell {t : TypeId} {q : IntKind} (ht : Try.prog.underlying t = some (.int q)) {cs : List Value} (h : DataW.trod enc Try.prog W base spare held fuel t cs = some x) : ∃ n, cs = [.int q n] ∧ (Lit.int q n).wf = true := by
  obtain ⟨n, hn, -, wn⟩ := DataW.trod_int ht h
  exact ⟨n, hn, wn⟩
theorem bool_cell {t : TypeId} (ht : Try.prog.underlying t = some .bool) {cs : List Value} (h : DataW.trod enc Try.prog W base spare held fuel t cs = some x) : ∃ b, cs = [.bool b] := by
  obtain ⟨b, hb, -⟩ := DataW.trod_bool ht h
  exact ⟨b, hb⟩
/-- Its cells. -/
theorem Mt.of_cells {cs : List Value} (h : DataW.trod enc Try.prog W base spare held fuel 24 cs = some x) : ∃ a : Mt, cs = a.cells ∧ a.Ok := by
  obtain ⟨xs, n, _, _, hl, hlen, hf⟩ := DataW.trod_struct Try.underlying24 h
  have h0 : DataW.trod enc Try.prog W base spare held n 3 ((cs.drop 0).take (Try.prog.cellsOf 3)) = xs[0]? := hf 0 _ rfl
  rw [cells3] at h0
  have h1 : DataW.trod enc Try.prog W base spare held n 4 ((cs.drop 1).take (Try.prog.cellsOf 4)) = xs[1]? := hf 1 _ rfl
  rw [cells4] at h1
  have h2 : DataW.trod enc Try.prog W base spare held n 4 ((cs.drop 2).take (Try.prog.cellsOf 4)) = xs[2]? := hf 2 _ rfl
  rw [cells4] at h2
  have h3 : DataW.trod enc Try.prog W base spare held n 22 ((cs.drop 3).take (Try.prog.cellsOf 22)) = xs[3]? := hf 3 _ rfl
  rw [cells22] at h3
  have h4 : DataW.trod enc Try.prog W base spare held n 22 ((cs.drop 4).take (Try.prog.cellsOf 22)) = xs[4]? := hf 4 _ rfl
  rw [cells22] at h4
  have h5 : DataW.trod enc Try.prog W base spare held n 3 ((cs.drop 5).take (Try.prog.cellsOf 3)) = xs[5]? := hf 5 _ rfl
  rw [cells3] at h5
  match xs, hlen with
  | [y0, y1, y2, y3, y4, y5], _ =>
    simp only [List.getElem?_cons_zero, List.getElem?_cons_succ] at h0 h1 h2 h3 h4 h5
    obtain ⟨n0, e0, w0⟩ := int_cell Try.underlying3 h0
    have b0 := bounds_i64 w0
    obtain ⟨s1, e1⟩ := bool_cell Try.underlying4 h1
    obtain ⟨s2, e2⟩ := bool_cell Try.underlying4 h2
    obtain ⟨n3, e3, w3⟩ := int_cell Try.underlying22 h3
    have b3 := bounds_u64 w3
    obtain ⟨n4, e4, w4⟩ := int_cell Try.underlying22 h4
    have b4 := bounds_u64 w4
    obtain ⟨n5, e5, w5⟩ := int_cell Try.underlying3 h5
    have b5 := bounds_i64 w5
    refine ⟨⟨n0, s1, s2, n3.toNat, n4.toNat, n5⟩, ?_, ⟨b0.1, b0.2, by simp only []; omega, by simp only []; omega, b5.1, b5.2, trivial⟩⟩
    have hc : cs.drop 0 = _ := (cut_step cs 0 1 _ _ e0 (cut_step cs 1 1 _ _ e1 (cut_step cs 2 1 _ _ e2 (cut_step cs 3 1 _ _ e3 (cut_step cs 4 1 _ _ e4 (cut_last cs 5 1 _ e5 (hl.trans cells24)))))))
    rw [List.drop_zero] at hc
    rw [hc, Mt.cells]
    simp only [List.cons_append, List.nil_append]
    rw [Int.toNat_of_nonneg b3.1, Int.toNat_of_nonneg b4.1]
end

set_option maxRecDepth 100000 in
/-- It came in by value. -/
theorem meet_in {H : Type} {enc : TypeId × Value → H} {W : World} {r : Reach} {b0 base : Nat} {spare : Nat → Bool} {held : Bool} {v : Value} {d : DataW H} {p : List MemPlace} (hv : Value.okWide Try.prog W r b0 24 v) (h : DataW.Trod enc Try.prog W base spare held 24 v d p) :
    ∃ a : Mt, v = .agg #[.int .i64 a.who, .bool a.mine, .bool a.theirs, .int .u64 (a.a : Int), .int .u64 (a.b : Int), .int .i64 a.z] ∧ a.Ok := by
  obtain ⟨cs, rfl, hsz⟩ := okWide_struct Try.underlying24 hv
  obtain ⟨fuel, hf⟩ := h
  obtain ⟨a, hc, hok⟩ := Mt.of_cells hf
  refine ⟨a, ?_, hok⟩
  congr 1
  have hc' : cs.toList = a.cells := by simpa [Value.cells] using hc
  rw [← Array.toArray_toList (xs := cs), hc']
  rfl
theorem cells31 : Try.prog.cellsOf 31 = 4 := by kernel_rfl
section
variable {H : Type} {enc : TypeId × Value → H} {W : World} {base : Nat} {spare : Nat → Bool} {held : Bool} {fuel : Nat} {x : DataW H × List MemPlace}
/-- Its cells. -/
theorem Bt.of_cells {cs : List Value} (h : DataW.trod enc Try.prog W base spare held fuel 31 cs = some x) : ∃ a : Bt, cs = a.cells ∧ a.Ok := by
  obtain ⟨xs, n, _, _, hl, hlen, hf⟩ := DataW.trod_struct Try.underlying31 h
  have h0 : DataW.trod enc Try.prog W base spare held n 4 ((cs.drop 0).take (Try.prog.cellsOf 4)) = xs[0]? := hf 0 _ rfl
  rw [cells4] at h0
  have h1 : DataW.trod enc Try.prog W base spare held n 4 ((cs.drop 1).take (Try.prog.cellsOf 4)) = xs[1]? := hf 1 _ rfl
  rw [cells4] at h1
  have h2 : DataW.trod enc Try.prog W base spare held n 22 ((cs.drop 2).take (Try.prog.cellsOf 22)) = xs[2]? := hf 2 _ rfl
  rw [cells22] at h2
  have h3 : DataW.trod enc Try.prog W base spare held n 22 ((cs.drop 3).take (Try.prog.cellsOf 22)) = xs[3]? := hf 3 _ rfl
  rw [cells22] at h3
  match xs, hlen with
  | [y0, y1, y2, y3], _ =>
    simp only [List.getElem?_cons_zero, List.getElem?_cons_succ] at h0 h1 h2 h3
    obtain ⟨s0, e0⟩ := bool_cell Try.underlying4 h0
    obtain ⟨s1, e1⟩ := bool_cell Try.underlying4 h1
    obtain ⟨n2, e2, w2⟩ := int_cell Try.underlying22 h2
    have b2 := bounds_u64 w2
    obtain ⟨n3, e3, w3⟩ := int_cell Try.underlying22 h3
    have b3 := bounds_u64 w3
    refine ⟨⟨s0, s1, n2.toNat, n3.toNat⟩, ?_, ⟨by simp only []; omega, by simp only []; omega, trivial⟩⟩
    have hc : cs.drop 0 = _ := (cut_step cs 0 1 _ _ e0 (cut_step cs 1 1 _ _ e1 (cut_step cs 2 1 _ _ e2 (cut_last cs 3 1 _ e3 (hl.trans cells31)))))
    rw [List.drop_zero] at hc
    rw [hc, Bt.cells]
    simp only [List.cons_append, List.nil_append]
    rw [Int.toNat_of_nonneg b2.1, Int.toNat_of_nonneg b3.1]
end

set_option maxRecDepth 100000 in
/-- It came in by value. -/
theorem both_in {H : Type} {enc : TypeId × Value → H} {W : World} {r : Reach} {b0 base : Nat} {spare : Nat → Bool} {held : Bool} {v : Value} {d : DataW H} {p : List MemPlace} (hv : Value.okWide Try.prog W r b0 31 v) (h : DataW.Trod enc Try.prog W base spare held 31 v d p) :
    ∃ a : Bt, v = .agg #[.bool a.a, .bool a.b, .int .u64 (a.x : Int), .int .u64 (a.y : Int)] ∧ a.Ok := by
  obtain ⟨cs, rfl, hsz⟩ := okWide_struct Try.underlying31 hv
  obtain ⟨fuel, hf⟩ := h
  obtain ⟨a, hc, hok⟩ := Bt.of_cells hf
  refine ⟨a, ?_, hok⟩
  congr 1
  have hc' : cs.toList = a.cells := by simpa [Value.cells] using hc
  rw [← Array.toArray_toList (xs := cs), hc']
  rfl
end Go.Proofs.Ytkiggeldgecooaa.Role
