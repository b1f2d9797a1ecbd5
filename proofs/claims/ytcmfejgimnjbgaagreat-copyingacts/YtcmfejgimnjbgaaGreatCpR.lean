/-
  What comes in, as it reads: an act, the acts of a slice.
-/
import Derived.Test.YtcmfejgimnjbgaaGreatCpH
import Derived.Test.YtcmfejgimnjbgaaGreatPkR
namespace Go.Proofs.YtcmfejgimnjbgaaGreat.Copying
open Math
open Pack (Mv Ms mv0 good)
open Go.ChangeShapes Go.WideShapes Go.ChangeAt Go.RowKit

set_option maxRecDepth 100000 in
theorem cellsA : Tryz.prog.cellsOf 36 = 9 := by kernel_rfl
section
variable {H : Type} {enc : TypeId × Value → H} {W : World} {base : Nat} {spare : Nat → Bool} {held : Bool} {fuel : Nat} {x : DataW H × List MemPlace}
set_option maxRecDepth 100000 in
/-- An act's cells. -/
theorem act_cells {cs : List Value} (h : DataW.trod enc Tryz.prog W base spare held fuel 36 cs = some x) : ∃ a : Ac, cs = a.cells ∧ a.Ok W.heap.size W := by
  obtain ⟨xs, n, _, _, hl, hlen, hf⟩ := DataW.trod_struct Tryz.underlying36 h
  have h0 : DataW.trod enc Tryz.prog W base spare held n 3 ((cs.drop 0).take (Tryz.prog.cellsOf 3)) = xs[0]? := hf 0 _ rfl
  have h1 : DataW.trod enc Tryz.prog W base spare held n 3 ((cs.drop 1).take (Tryz.prog.cellsOf 3)) = xs[1]? := hf 1 _ rfl
  have h2 : DataW.trod enc Tryz.prog W base spare held n 31 ((cs.drop 2).take (Tryz.prog.cellsOf 31)) = xs[2]? := hf 2 _ rfl
  have h3 : DataW.trod enc Tryz.prog W base spare held n 34 ((cs.drop 3).take (Tryz.prog.cellsOf 34)) = xs[3]? := hf 3 _ rfl
  rw [Pack.cells3] at h0 h1
  rw [Pack.cellsU] at h2
  rw [Pack.cellsM] at h3
  match xs, hlen with
  | [y0, y1, y2, y3], _ =>
    simp only [List.getElem?_cons_zero, List.getElem?_cons_succ] at h0 h1 h2 h3
    obtain ⟨n0, e0, w0⟩ := Pack.int_cell Tryz.underlying3 h0
    obtain ⟨n1, e1, w1⟩ := Pack.int_cell Tryz.underlying3 h1
    obtain ⟨n2, e2, w2⟩ := Pack.int_cell Tryz.underlying31 h2
    obtain ⟨y, e3, hyl, hyA⟩ := Pack.msg_cells h3
    have b1 := bounds_i64 w1
    have b2 := bounds_u64 w2
    refine ⟨⟨n0, n1, n2.toNat, y⟩, ?_, ⟨b1.1, b1.2, by show n2.toNat < _; omega, hyl, hyA⟩⟩
    have hc : cs.drop 0 = _ := Pack.cut_step cs 0 1 _ _ e0 (Pack.cut_step cs 1 1 _ _ e1 (Pack.cut_step cs 2 1 _ _ e2 (Pack.cut_last cs 3 6 _ e3 (hl.trans cellsA))))
    rw [List.drop_zero] at hc
    rw [hc]
    show _ = [_, _, Value.int .u64 ((n2.toNat : Nat) : Int), _, _, _, _, _, _]
    rw [Int.toNat_of_nonneg b2.1]
    rfl
end
set_option maxRecDepth 100000 in
/-- An act that came in by value. -/
theorem act_in {H : Type} {enc : TypeId × Value → H} {W : World} {r : Reach} {b0 base : Nat} {spare : Nat → Bool} {held : Bool} {v : Value} {d : DataW H} {p : List MemPlace} (hv : Value.okWide Tryz.prog W r b0 36 v) (h : DataW.Trod enc Tryz.prog W base spare held 36 v d p) :
    ∃ a : Ac, v = .agg a.cells.toArray ∧ a.Ok W.heap.size W := by
  obtain ⟨cs, rfl, hsz⟩ := okWide_struct Tryz.underlying36 hv
  obtain ⟨fuel, hf⟩ := h
  obtain ⟨a, hc, hA⟩ := act_cells hf
  refine ⟨a, ?_, hA⟩
  congr 1
  have hc' : cs.toList = a.cells := by simpa [Value.cells] using hc
  rw [← Array.toArray_toList (xs := cs), hc']
/-- The acts lie in a slice. -/
def AcsAt (n : Nat) (W : World) (a : Option Addr) (len cap : Nat) (acts : List Ac) : Prop :=
  acts.length = len ∧ (∀ x ∈ acts, x.Ok n W) ∧ (acts = [] ∨ ∃ b off, a = some ⟨b, off, none⟩ ∧ len ≤ cap ∧ b < n ∧ ∀ j x, acts[j]? = some x → ∀ i v, x.cells[i]? = some v → W.cell? ⟨b, off + j * 9 + i, none⟩ = some v)
theorem AcsAt.kept {n : Nat} {L : List Nat} {A B : World} {a : Option Addr} {len cap : Nat} {acts : List Ac} (h : AcsAt n A a len cap acts) (hn : n ≤ A.heap.size) (hK : Kept L A B) (hL : ∀ k ∈ L, n ≤ k) : AcsAt n B a len cap acts := by
  obtain ⟨h1, h2, h3⟩ := h
  refine ⟨h1, fun x hx => ?_, ?_⟩
  · have := h2 x hx
    exact ⟨this.t0, this.t1, this.m0, this.len0, this.row.kept hn hK (fun k hk => .inr (hL k hk))⟩
  · rcases h3 with h3 | ⟨b, off, e, hl, hb, hc⟩
    · exact .inl h3
    · refine .inr ⟨b, off, e, hl, hb, fun j x hx i v hv => ?_⟩
      rw [World.cell?_of_block (w := A) (w' := B) (hK.block b (by omega) (fun hm => by have := hL b hm; omega))]
      exact hc j x hx i v hv
set_option maxRecDepth 100000 in
/-- The acts of a slice that came in. -/
theorem acs_in {H : Type} {enc : TypeId × Value → H} {W : World} {base : Nat} {spare : Nat → Bool} {held : Bool} {a : Option Addr} {len cap : Nat} {d : DataW H} {p : List MemPlace} (h : DataW.Trod enc Tryz.prog W base spare held 22 (.slice a len cap) d p) :
    len ≤ 9223372036854775807 ∧ ∃ acts, AcsAt W.heap.size W a len cap acts := by
  obtain ⟨fuel, hf⟩ := h
  rcases Go.Deep.open_slice Tryz.underlying22 hf with ⟨hcs, _⟩ | ⟨ad, l, c, m, n, D, Pl, hcs, _, hlc, hmax, hm, _, hel⟩
  · simp [Value.cells] at hcs
    obtain ⟨rfl, rfl, rfl⟩ := hcs
    exact ⟨by omega, [], rfl, by simp, .inl rfl⟩
  · simp [Value.cells] at hcs
    obtain ⟨rfl, rfl, rfl⟩ := hcs
    unfold maxLen at hmax
    refine ⟨by omega, ?_⟩
    have hlm : len ≤ m := by rw [hm]; split <;> omega
    have hex : ∀ i, i < len → ∃ x : Ac, x.Ok W.heap.size W ∧ ∀ j v, x.cells[j]? = some v → W.cell? ((ad.add (i * 9)).add j) = some v := fun i hi => by
      obtain ⟨cs', hc1, hc2⟩ := hel i (by omega)
      rw [cellsA] at hc1
      obtain ⟨x, rfl, hok⟩ := act_cells hc2
      refine ⟨x, hok, fun j v hv => ?_⟩
      obtain ⟨_, hlen, hcell⟩ := World.cells?_some hc1
      have hj : j < 9 := by
        have := (List.getElem?_eq_some_iff.1 hv).1
        exact this
      rw [hcell j hj]
      exact hv
    have hall : ∀ n, n ≤ len → ∃ acts : List Ac, acts.length = n ∧ ∀ i x, acts[i]? = some x → x.Ok W.heap.size W ∧ ∀ j v, x.cells[j]? = some v → W.cell? ((ad.add (i * 9)).add j) = some v := fun n => by
      induction n with
      | zero => exact fun _ => ⟨[], rfl, fun i x hx => by simp at hx⟩
      | succ n ih =>
        intro hn
        obtain ⟨acts, hl, hx⟩ := ih (by omega)
        obtain ⟨y, hy⟩ := hex n (by omega)
        refine ⟨acts ++ [y], by simp [hl], fun i x hi => ?_⟩
        by_cases hin : i < acts.length
        · rw [List.getElem?_append_left hin] at hi
          exact hx i x hi
        · have hlt := (List.getElem?_eq_some_iff.1 hi).1
          simp at hlt
          obtain rfl : i = n := by omega
          rw [List.getElem?_append_right (by omega), hl, Nat.sub_self] at hi
          simp at hi
          subst hi
          exact hy
    obtain ⟨acts, hl, hx⟩ := hall len (Nat.le_refl _)
    refine ⟨acts, hl, fun x hm => ?_, ?_⟩
    · obtain ⟨i, hi⟩ := List.getElem?_of_mem hm
      exact (hx i x hi).1
    · by_cases h0 : len = 0
      · left
        exact List.eq_nil_of_length_eq_zero (hl.trans h0)
      · right
        obtain ⟨y, hy⟩ : ∃ y, acts[0]? = some y := ⟨_, List.getElem?_eq_getElem (by omega)⟩
        have hc0 := (hx 0 y hy).2 0 _ rfl
        obtain ⟨b, off, sp⟩ := ad
        have hsp : sp = none := by simpa [Addr.add] using World.cell?_spot hc0
        subst hsp
        have hc0' : W.cell? ⟨b, off + 0 * 9 + 0, none⟩ = some (.int .i64 y.k) := by rw [← hc0, Go.WideShapes.add_plain, Go.WideShapes.add_plain]
        refine ⟨b, off, rfl, hlc, World.block_lt_of_cell? W _ hc0', fun j x hj i v hv => ?_⟩
        have := (hx j x hj).2 i v hv
        rwa [Go.WideShapes.add_plain, Go.WideShapes.add_plain] at this
end Go.Proofs.YtcmfejgimnjbgaaGreat.Copying
