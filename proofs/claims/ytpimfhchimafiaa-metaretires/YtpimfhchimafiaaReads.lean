/-
  What comes in, as it reads: an act, the acts of a slice.
-/
import Derived.Test.YtpimfhchimafiaaRows
import Derived.Test.YtpimfhchimafiaaMetaS
import Derived.ProofKit
import Derived.OpenShut
import Derived.ShutString
import Derived.ChangeOld
import Derived.Deep.Slices
import Derived.Lib.SmallJoins
namespace Go.Proofs.Ytpimfhchimafiaa
open Math
open Go.ChangeShapes Go.WideShapes Go.ChangeAt Go.RowKit

/-- What a play begins with. -/
structure Po where
  hot : Nat
  was : Nat
  more : Nat
  k : Int
  spare : Nat
structure Po.Ok (a : Po) : Prop where
  hot_ : a.hot < 18446744073709551616
  was_ : a.was < 18446744073709551616
  more_ : a.more < 18446744073709551616
  k0 : -9223372036854775808 ≤ a.k
  k1 : a.k ≤ 9223372036854775807
  spare_ : a.spare < 18446744073709551616
  known : True
def Po.cells (a : Po) : List Value := .int .u64 (a.hot : Int) :: .int .u64 (a.was : Int) :: .int .u64 (a.more : Int) :: .int .i64 a.k :: .int .u64 (a.spare : Int) :: []
theorem Try.size24 : (Try.prog.info? 24).map (·.size) = some 5 := by kernel_rfl
theorem Po.cells_length (a : Po) (_ : a.Ok) : a.cells.length = 5 := by simp [Po.cells]
theorem byte_of {n : Int} (h : (Lit.int .u8 n).wf = true) : 0 ≤ n ∧ n < 256 := by
  have := bounds_u8 h
  omega
/-- Cells that are bytes. -/
theorem bytes_of_cells : ∀ (cs : List Value), (∀ v ∈ cs, ∃ n : Nat, v = Ytpimfhchimafiaa.enc n ∧ n < 256) → ∃ s : List Nat, cs = s.map Ytpimfhchimafiaa.enc ∧ ∀ c ∈ s, c < 256
  | [], _ => ⟨[], rfl, by simp⟩
  | v :: cs, h => by
    obtain ⟨n, hv, hn⟩ := h v (by simp)
    obtain ⟨s, hs, hb⟩ := bytes_of_cells cs (fun u hu => h u (by simp [hu]))
    refine ⟨n :: s, by rw [List.map_cons, ← hs, ← hv], fun c hc => ?_⟩
    rcases List.mem_cons.1 hc with rfl | h1
    · exact hn
    · exact hb c h1
theorem cut_step (cs : List Value) (o n : Nat) (p r : List Value) (h : (cs.drop o).take n = p) (hr : cs.drop (o + n) = r) : cs.drop o = p ++ r := by
  rw [← h, ← hr, ← List.drop_drop, List.take_append_drop]
theorem cut_last (cs : List Value) (o n : Nat) (p : List Value) (h : (cs.drop o).take n = p) (hl : cs.length = o + n) : cs.drop o = p := by
  rw [← h, List.take_of_length_le]
  rw [List.length_drop]
  omega
theorem cells3 : Try.prog.cellsOf 3 = 1 := by kernel_rfl
theorem cells22 : Try.prog.cellsOf 22 = 1 := by kernel_rfl
theorem cells24 : Try.prog.cellsOf 24 = 5 := by kernel_rfl
section
variable {H : Type} {enc : TypeId × Value → H} {W : World} {base : Nat} {spare : Nat → Bool} {held : Bool} {fuel : Nat} {x : DataW H × List MemPlace}
theorem int_cell {t : TypeId} {q : IntKind} (ht : Try.prog.underlying t = some (.int q)) {cs : List Value} (h : DataW.trod enc Try.prog W base spare held fuel t cs = some x) : ∃ n, cs = [.int q n] ∧ (Lit.int q n).wf = true := by
  obtain ⟨n, hn, -, wn⟩ := DataW.trod_int ht h
  exact ⟨n, hn, wn⟩
/-- An act's cells. -/
theorem Po.of_cells {cs : List Value} (h : DataW.trod enc Try.prog W base spare held fuel 24 cs = some x) : ∃ a : Po, cs = a.cells ∧ a.Ok := by
  obtain ⟨xs, n, _, _, hl, hlen, hf⟩ := DataW.trod_struct Try.underlying24 h
  have h0 : DataW.trod enc Try.prog W base spare held n 22 ((cs.drop 0).take (Try.prog.cellsOf 22)) = xs[0]? := hf 0 _ rfl
  rw [cells22] at h0
  have h1 : DataW.trod enc Try.prog W base spare held n 22 ((cs.drop 1).take (Try.prog.cellsOf 22)) = xs[1]? := hf 1 _ rfl
  rw [cells22] at h1
  have h2 : DataW.trod enc Try.prog W base spare held n 22 ((cs.drop 2).take (Try.prog.cellsOf 22)) = xs[2]? := hf 2 _ rfl
  rw [cells22] at h2
  have h3 : DataW.trod enc Try.prog W base spare held n 3 ((cs.drop 3).take (Try.prog.cellsOf 3)) = xs[3]? := hf 3 _ rfl
  rw [cells3] at h3
  have h4 : DataW.trod enc Try.prog W base spare held n 22 ((cs.drop 4).take (Try.prog.cellsOf 22)) = xs[4]? := hf 4 _ rfl
  rw [cells22] at h4
  match xs, hlen with
  | [y0, y1, y2, y3, y4], _ =>
    simp only [List.getElem?_cons_zero, List.getElem?_cons_succ] at h0 h1 h2 h3 h4
    obtain ⟨n0, e0, w0⟩ := int_cell Try.underlying22 h0
    have b0 := bounds_u64 w0
    obtain ⟨n1, e1, w1⟩ := int_cell Try.underlying22 h1
    have b1 := bounds_u64 w1
    obtain ⟨n2, e2, w2⟩ := int_cell Try.underlying22 h2
    have b2 := bounds_u64 w2
    obtain ⟨n3, e3, w3⟩ := int_cell Try.underlying3 h3
    have b3 := bounds_i64 w3
    obtain ⟨n4, e4, w4⟩ := int_cell Try.underlying22 h4
    have b4 := bounds_u64 w4
    refine ⟨⟨n0.toNat, n1.toNat, n2.toNat, n3, n4.toNat⟩, ?_, ⟨by simp only []; omega, by simp only []; omega, by simp only []; omega, b3.1, b3.2, by simp only []; omega, trivial⟩⟩
    have hc : cs.drop 0 = _ := (cut_step cs 0 1 _ _ e0 (cut_step cs 1 1 _ _ e1 (cut_step cs 2 1 _ _ e2 (cut_step cs 3 1 _ _ e3 (cut_last cs 4 1 _ e4 (hl.trans cells24))))))
    rw [List.drop_zero] at hc
    rw [hc, Po.cells]
    simp only [List.cons_append, List.nil_append]
    rw [Int.toNat_of_nonneg b0.1, Int.toNat_of_nonneg b1.1, Int.toNat_of_nonneg b2.1, Int.toNat_of_nonneg b4.1]
end

set_option maxRecDepth 100000 in
/-- It came in by value. -/
theorem point_in {H : Type} {enc : TypeId × Value → H} {W : World} {r : Reach} {b0 base : Nat} {spare : Nat → Bool} {held : Bool} {v : Value} {d : DataW H} {p : List MemPlace} (hv : Value.okWide Try.prog W r b0 24 v) (h : DataW.Trod enc Try.prog W base spare held 24 v d p) :
    ∃ a : Po, v = .agg #[.int .u64 (a.hot : Int), .int .u64 (a.was : Int), .int .u64 (a.more : Int), .int .i64 a.k, .int .u64 (a.spare : Int)] ∧ a.Ok := by
  obtain ⟨cs, rfl, hsz⟩ := okWide_struct Try.underlying24 hv
  obtain ⟨fuel, hf⟩ := h
  obtain ⟨a, hc, hok⟩ := Po.of_cells hf
  refine ⟨a, ?_, hok⟩
  congr 1
  have hc' : cs.toList = a.cells := by simpa [Value.cells] using hc
  rw [← Array.toArray_toList (xs := cs), hc']
  rfl
end Go.Proofs.Ytpimfhchimafiaa
