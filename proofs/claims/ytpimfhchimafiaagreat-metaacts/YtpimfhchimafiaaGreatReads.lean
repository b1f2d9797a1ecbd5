/-
  What comes in, as it reads: an act, the acts of a slice.
-/
import Derived.Test.YtpimfhchimafiaaGreatRows
import Derived.Test.YtpimfhchimafiaaGreatMetaD
import Derived.ProofKit
import Derived.OpenShut
import Derived.ShutString
import Derived.ChangeOld
import Derived.Deep.Slices
import Derived.Lib.SmallJoins
namespace Go.Proofs.YtpimfhchimafiaaGreat
open Math
open Go.ChangeShapes Go.WideShapes Go.ChangeAt Go.RowKit

theorem byte_of {n : Int} (h : (Lit.int .u8 n).wf = true) : 0 ≤ n ∧ n < 256 := by
  have := bounds_u8 h
  omega
/-- Cells that are bytes. -/
theorem bytes_of_cells : ∀ (cs : List Value), (∀ v ∈ cs, ∃ n : Nat, v = YtpimfhchimafiaaGreat.enc n ∧ n < 256) → ∃ s : List Nat, cs = s.map YtpimfhchimafiaaGreat.enc ∧ ∀ c ∈ s, c < 256
  | [], _ => ⟨[], rfl, by simp⟩
  | v :: cs, h => by
    obtain ⟨n, hv, hn⟩ := h v (by simp)
    obtain ⟨s, hs, hb⟩ := bytes_of_cells cs (fun u hu => h u (by simp [hu]))
    refine ⟨n :: s, by rw [List.map_cons, ← hs, ← hv], fun c hc => ?_⟩
    rcases List.mem_cons.1 hc with rfl | h1
    · exact hn
    · exact hb c h1
theorem cut_step (cs : List Value) (o n : Nat) (p r : List Value) (h : (cs.drop o).take n = p) (hr : cs.drop (o + n) = r) : cs.drop o = p ++ r := by
  rw [← h, ← hr, ← List.drop_drop, List.take_append_drop]
theorem cut_last (cs : List Value) (o n : Nat) (p : List Value) (h : (cs.drop o).take n = p) (hl : cs.length = o + n) : cs.drop o = p := by
  rw [← h, List.take_of_length_le]
  rw [List.length_drop]
  omega
theorem cells3 : Tryz.prog.cellsOf 3 = 1 := by kernel_rfl
theorem cells31 : Tryz.prog.cellsOf 31 = 1 := by kernel_rfl
theorem cells33 : Tryz.prog.cellsOf 33 = 3 := by kernel_rfl
section
variable {H : Type} {enc : TypeId × Value → H} {W : World} {base : Nat} {spare : Nat → Bool} {held : Bool} {fuel : Nat} {x : DataW H × List MemPlace}
theorem int_cell {t : TypeId} {q : IntKind} (ht : Tryz.prog.underlying t = some (.int q)) {cs : List Value} (h : DataW.trod enc Tryz.prog W base spare held fuel t cs = some x) : ∃ n, cs = [.int q n] ∧ (Lit.int q n).wf = true := by
  obtain ⟨n, hn, -, wn⟩ := DataW.trod_int ht h
  exact ⟨n, hn, wn⟩
/-- An act's cells. -/
theorem Sa.of_cells {cs : List Value} (h : DataW.trod enc Tryz.prog W base spare held fuel 33 cs = some x) : ∃ a : Sa, cs = a.cells ∧ a.Ok := by
  obtain ⟨xs, n, _, _, hl, hlen, hf⟩ := DataW.trod_struct Tryz.underlying33 h
  have h0 : DataW.trod enc Tryz.prog W base spare held n 3 ((cs.drop 0).take (Tryz.prog.cellsOf 3)) = xs[0]? := hf 0 _ rfl
  rw [cells3] at h0
  have h1 : DataW.trod enc Tryz.prog W base spare held n 3 ((cs.drop 1).take (Tryz.prog.cellsOf 3)) = xs[1]? := hf 1 _ rfl
  rw [cells3] at h1
  have h2 : DataW.trod enc Tryz.prog W base spare held n 31 ((cs.drop 2).take (Tryz.prog.cellsOf 31)) = xs[2]? := hf 2 _ rfl
  rw [cells31] at h2
  match xs, hlen with
  | [y0, y1, y2], _ =>
    simp only [List.getElem?_cons_zero, List.getElem?_cons_succ] at h0 h1 h2
    obtain ⟨n0, e0, w0⟩ := int_cell Tryz.underlying3 h0
    have b0 := bounds_i64 w0
    obtain ⟨n1, e1, w1⟩ := int_cell Tryz.underlying3 h1
    have b1 := bounds_i64 w1
    obtain ⟨n2, e2, w2⟩ := int_cell Tryz.underlying31 h2
    have b2 := bounds_u64 w2
    refine ⟨⟨n0, n1, n2.toNat⟩, ?_, ⟨b0.1, b0.2, b1.1, b1.2, by simp only []; omega, trivial⟩⟩
    have hc : cs.drop 0 = _ := (cut_step cs 0 1 _ _ e0 (cut_step cs 1 1 _ _ e1 (cut_last cs 2 1 _ e2 (hl.trans cells33))))
    rw [List.drop_zero] at hc
    rw [hc, Sa.cells]
    simp only [List.cons_append, List.nil_append]
    rw [Int.toNat_of_nonneg b2.1]
end

/-- The acts of a slice that came in. -/
theorem acts_in {H : Type} {enc : TypeId × Value → H} {W : World} {base : Nat} {spare : Nat → Bool} {held : Bool} {a : Option Addr} {len cap : Nat} {d : DataW H} {p : List MemPlace} (h : DataW.Trod enc Tryz.prog W base spare held 22 (.slice a len cap) d p) :
    len ≤ 9223372036854775807 ∧ ∃ acts, ActsAt W.heap.size W a len cap acts := by
  obtain ⟨fuel, hf⟩ := h
  rcases Go.Deep.open_slice Tryz.underlying22 hf with ⟨hcs, _⟩ | ⟨ad, l, c, m, n, D, Pl, hcs, _, hlc, hmax, hm, _, hel⟩
  · simp [Value.cells] at hcs
    obtain ⟨rfl, rfl, rfl⟩ := hcs
    exact ⟨by omega, [], rfl, by simp, .inl rfl⟩
  · simp [Value.cells] at hcs
    obtain ⟨rfl, rfl, rfl⟩ := hcs
    unfold maxLen at hmax
    refine ⟨by omega, ?_⟩
    have hlm : len ≤ m := by rw [hm]; split <;> omega
    have hex : ∀ i, i < len → ∃ x : Sa, x.Ok ∧ ∀ j v, x.cells[j]? = some v → W.cell? ((ad.add (i * 3)).add j) = some v := fun i hi => by
      obtain ⟨cs', hc1, hc2⟩ := hel i (by omega)
      rw [cells33] at hc1
      obtain ⟨x, rfl, hok⟩ := Sa.of_cells hc2
      refine ⟨x, hok, fun j v hv => ?_⟩
      obtain ⟨_, hlen, hcell⟩ := World.cells?_some hc1
      have hj : j < 3 := by
        have := (List.getElem?_eq_some_iff.1 hv).1
        omega
      rw [hcell j hj]
      exact hv
    have hall : ∀ n, n ≤ len → ∃ acts : List Sa, acts.length = n ∧ ∀ i x, acts[i]? = some x → x.Ok ∧ ∀ j v, x.cells[j]? = some v → W.cell? ((ad.add (i * 3)).add j) = some v := fun n => by
      induction n with
      | zero => exact fun _ => ⟨[], rfl, fun i x hx => by simp at hx⟩
      | succ n ih =>
        intro hn
        obtain ⟨acts, hl, hx⟩ := ih (by omega)
        obtain ⟨y, hy⟩ := hex n (by omega)
        refine ⟨acts ++ [y], by simp [hl], fun i x hi => ?_⟩
        by_cases hin : i < acts.length
        · rw [List.getElem?_append_left hin] at hi
          exact hx i x hi
        · have hlt := (List.getElem?_eq_some_iff.1 hi).1
          simp at hlt
          obtain rfl : i = n := by omega
          rw [List.getElem?_append_right (by omega), hl, Nat.sub_self] at hi
          simp at hi
          subst hi
          exact hy
    obtain ⟨acts, hl, hx⟩ := hall len (Nat.le_refl _)
    refine ⟨acts, hl, fun x hm => ?_, ?_⟩
    · obtain ⟨i, hi⟩ := List.getElem?_of_mem hm
      exact (hx i x hi).1
    · by_cases h0 : len = 0
      · left
        exact List.eq_nil_of_length_eq_zero (hl.trans h0)
      · right
        obtain ⟨y, hy⟩ : ∃ y, acts[0]? = some y := ⟨_, List.getElem?_eq_getElem (by omega)⟩
        have hc0 := (hx 0 y hy).2 0 _ rfl
        obtain ⟨b, off, spot⟩ := ad
        have hspot : spot = none := by simpa [Addr.add] using World.cell?_spot hc0
        subst hspot
        have hc0' : W.cell? ⟨b, off + 0 * 3 + 0, none⟩ = some (.int .i64 y.kind) := by rw [← hc0, Go.WideShapes.add_plain, Go.WideShapes.add_plain]
        refine ⟨b, off, rfl, hlc, World.block_lt_of_cell? W _ hc0', fun j x hj i v hv => ?_⟩
        have := (hx j x hj).2 i v hv
        rwa [Go.WideShapes.add_plain, Go.WideShapes.add_plain] at this
end Go.Proofs.YtpimfhchimafiaaGreat
