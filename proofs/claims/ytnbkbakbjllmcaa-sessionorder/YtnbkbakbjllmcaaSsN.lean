/-
  What comes in, as it reads: what a net does.
-/
import Derived.Test.YtnbkbakbjllmcaaSsJ
import Derived.Test.YtnbkbakbjllmcaaWrR
namespace Go.Proofs.Ytnbkbakbjllmcaa.Session
open Go.ChangeShapes Go.WideShapes Go.ChangeAt Go.RowKit
open Outbox (Bv)

set_option maxRecDepth 100000 in
theorem cellsNet : Try.prog.cellsOf 36 = 4 := by kernel_rfl
section
variable {H : Type} {enc : TypeId × Value → H} {W : World} {base : Nat} {spare : Nat → Bool} {held : Bool} {fuel : Nat} {x : DataW H × List MemPlace}
set_option maxRecDepth 100000 in
/-- A deed's cells. -/
theorem net_cells {cs : List Value} (h : DataW.trod enc Try.prog W base spare held fuel 36 cs = some x) : ∃ t : Nt, cs = t.cells ∧ Wire.ByteRow 0 W.heap.size W (.slice t.x.sa t.x.len t.x.cap) t.x.bs ∧ t.x.len ≤ 9223372036854775807 := by
  obtain ⟨xs, n, _, _, hl, hlen, hf⟩ := DataW.trod_struct Try.underlying36 h
  have h0 : DataW.trod enc Try.prog W base spare held n 3 ((cs.drop 0).take (Try.prog.cellsOf 3)) = xs[0]? := hf 0 _ rfl
  have h1 : DataW.trod enc Try.prog W base spare held n 3 ((cs.drop 1).take (Try.prog.cellsOf 3)) = xs[1]? := hf 1 _ rfl
  have h2 : DataW.trod enc Try.prog W base spare held n 3 ((cs.drop 2).take (Try.prog.cellsOf 3)) = xs[2]? := hf 2 _ rfl
  have h3 : DataW.trod enc Try.prog W base spare held n 34 ((cs.drop 3).take (Try.prog.cellsOf 34)) = xs[3]? := hf 3 _ rfl
  rw [Wire.cells3] at h0 h1 h2
  rw [Wire.cellsB] at h3
  match xs, hlen with
  | [y0, y1, y2, y3], _ =>
    simp only [List.getElem?_cons_zero, List.getElem?_cons_succ] at h0 h1 h2 h3
    obtain ⟨n0, e0, _⟩ := Wire.int_cell Try.underlying3 h0
    obtain ⟨n1, e1, _⟩ := Wire.int_cell Try.underlying3 h1
    obtain ⟨n2, e2, _⟩ := Wire.int_cell Try.underlying3 h2
    obtain ⟨sa, len, cap, bs, e3, hlen, hr⟩ := Wire.bytes_cell h3
    refine ⟨⟨n0, n1, n2, ⟨sa, len, cap, bs⟩⟩, ?_, hr, hlen⟩
    have hc : cs.drop 0 = _ := Wire.cut_step cs 0 1 _ _ e0 (Wire.cut_step cs 1 1 _ _ e1 (Wire.cut_step cs 2 1 _ _ e2 (Wire.cut_last cs 3 1 _ e3 (hl.trans cellsNet))))
    rw [List.drop_zero] at hc
    rw [hc]
    rfl
end
set_option maxRecDepth 100000 in
/-- The deeds of a slice that came in. -/
theorem nets_in {H : Type} {enc : TypeId × Value → H} {W : World} {base : Nat} {spare : Nat → Bool} {held : Bool} {a : Option Addr} {len cap : Nat} {d : DataW H} {p : List MemPlace} (h : DataW.Trod enc Try.prog W base spare held 22 (.slice a len cap) d p) :
    ∃ nets, NetsAt W.heap.size W a len cap nets := by
  obtain ⟨fuel, hf⟩ := h
  rcases Go.Deep.open_slice Try.underlying22 hf with ⟨hcs, _⟩ | ⟨ad, l, c, m, n, D, Pl, hcs, _, hlc, hmax, hm, hx, hel⟩
  · simp [Value.cells] at hcs
    obtain ⟨rfl, rfl, rfl⟩ := hcs
    exact ⟨[], rfl, by simp, .inl rfl⟩
  · simp [Value.cells] at hcs
    obtain ⟨rfl, rfl, rfl⟩ := hcs
    have hlm : len ≤ m := by rw [hm]; split <;> omega
    have hex : ∀ i, i < len → ∃ x : Nt, (Wire.ByteRow 0 W.heap.size W (.slice x.x.sa x.x.len x.x.cap) x.x.bs ∧ x.x.len ≤ 9223372036854775807) ∧ ∀ j v, x.cells[j]? = some v → W.cell? ((ad.add (i * 4)).add j) = some v := fun i hi => by
      obtain ⟨cs', hc1, hc2⟩ := hel i (by omega)
      rw [cellsNet] at hc1
      obtain ⟨y, rfl, hok⟩ := net_cells hc2
      refine ⟨y, hok, fun j v hv => ?_⟩
      obtain ⟨_, hlen, hcell⟩ := World.cells?_some hc1
      have hj : j < 4 := by
        have := (List.getElem?_eq_some_iff.1 hv).1
        exact this
      rw [hcell j hj]
      exact hv
    have hall : ∀ n, n ≤ len → ∃ nets : List Nt, nets.length = n ∧ ∀ i x, nets[i]? = some x → (Wire.ByteRow 0 W.heap.size W (.slice x.x.sa x.x.len x.x.cap) x.x.bs ∧ x.x.len ≤ 9223372036854775807) ∧ ∀ j v, x.cells[j]? = some v → W.cell? ((ad.add (i * 4)).add j) = some v := fun n => by
      induction n with
      | zero => exact fun _ => ⟨[], rfl, fun i x hx => by simp at hx⟩
      | succ n ih =>
        intro hn
        obtain ⟨acts, hl, hx⟩ := ih (by omega)
        obtain ⟨y, hy⟩ := hex n (by omega)
        refine ⟨acts ++ [y], by simp [hl], fun i x hi => ?_⟩
        by_cases hin : i < acts.length
        · rw [List.getElem?_append_left hin] at hi
          exact hx i x hi
        · have hlt := (List.getElem?_eq_some_iff.1 hi).1
          simp at hlt
          obtain rfl : i = n := by omega
          rw [List.getElem?_append_right (by omega), hl, Nat.sub_self] at hi
          simp at hi
          subst hi
          exact hy
    obtain ⟨nets, hl, hx⟩ := hall len (Nat.le_refl _)
    refine ⟨nets, hl, fun x hm => ?_, ?_⟩
    · obtain ⟨i, hi⟩ := List.getElem?_of_mem hm
      exact (hx i x hi).1
    · by_cases h0 : len = 0
      · left
        exact List.eq_nil_of_length_eq_zero (hl.trans h0)
      · right
        obtain ⟨y, hy⟩ : ∃ y, nets[0]? = some y := ⟨_, List.getElem?_eq_getElem (by omega)⟩
        have hc0 := (hx 0 y hy).2 0 _ rfl
        obtain ⟨b, off, sp⟩ := ad
        have hsp : sp = none := by simpa [Addr.add] using World.cell?_spot hc0
        subst hsp
        have hc0' : W.cell? ⟨b, off + 0 * 4 + 0, none⟩ = some (.int .i64 y.k) := by rw [← hc0, Go.WideShapes.add_plain, Go.WideShapes.add_plain]
        refine ⟨b, off, rfl, hlc, World.block_lt_of_cell? W _ hc0', fun j x hj i v hv => ?_⟩
        have := (hx j x hj).2 i v hv
        rwa [Go.WideShapes.add_plain, Go.WideShapes.add_plain] at this
end Go.Proofs.Ytnbkbakbjllmcaa.Session
