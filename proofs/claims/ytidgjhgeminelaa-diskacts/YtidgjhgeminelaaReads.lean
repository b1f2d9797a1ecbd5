/-
  What comes in, as it reads: a sector, an act, the acts of a slice, what a play of DiskKeeps begins with.
-/
import Derived.Test.YtidgjhgeminelaaRows
import Derived.Test.YtidgjhgeminelaaWalksI
import Derived.ProofKit
import Derived.OpenShut
import Derived.ShutString
import Derived.ChangeOld
import Derived.Deep.Slices
import Derived.Lib.SmallJoins
namespace Go.Proofs.Ytidgjhgeminelaa
open Math
open Go.ChangeShapes Go.WideShapes Go.ChangeAt Go.RowKit

theorem byte_of {n : Int} (h : (Lit.int .u8 n).wf = true) : 0 ≤ n ∧ n < 256 := by
  have := bounds_u8 h
  omega
/-- Cells that are bytes. -/
theorem bytes_of_cells : ∀ (cs : List Value), (∀ v ∈ cs, ∃ n : Nat, v = Ytidgjhgeminelaa.enc n ∧ n < 256) → ∃ s : List Nat, cs = s.map Ytidgjhgeminelaa.enc ∧ ∀ c ∈ s, c < 256
  | [], _ => ⟨[], rfl, by simp⟩
  | v :: cs, h => by
    obtain ⟨n, hv, hn⟩ := h v (by simp)
    obtain ⟨s, hs, hb⟩ := bytes_of_cells cs (fun u hu => h u (by simp [hu]))
    refine ⟨n :: s, by rw [List.map_cons, ← hs, ← hv], fun c hc => ?_⟩
    rcases List.mem_cons.1 hc with rfl | h1
    · exact hn
    · exact hb c h1

theorem cells3 : Try.prog.cellsOf 3 = 1 := by kernel_rfl
theorem cells32 : Try.prog.cellsOf 32 = 16 := by kernel_rfl
theorem cells33 : Try.prog.cellsOf 33 = 1 := by kernel_rfl
theorem cells35 : Try.prog.cellsOf 35 = 19 := by kernel_rfl
theorem cells42 : Try.prog.cellsOf 42 = 18 := by kernel_rfl
section
variable {H : Type} {enc : TypeId × Value → H} {W : World} {base : Nat} {spare : Nat → Bool} {held : Bool} {fuel : Nat} {x : DataW H × List MemPlace}
/-- A sector's cells. -/
theorem sector_cells {cs : List Value} (h : DataW.trod enc Try.prog W base spare held fuel 32 cs = some x) : ∃ s : List Nat, cs = s.map Ytidgjhgeminelaa.enc ∧ Sec s := by
  obtain ⟨xs, m, -, -, hcl, hxl, hx⟩ := DataW.trod_array Try.underlying32 h
  have h16 : cs.length = 16 := hcl.trans cells32
  have e5 : Try.prog.cellsOf 5 = 1 := by kernel_rfl
  obtain ⟨s, hs, hb⟩ := bytes_of_cells cs (fun u hu => by
    obtain ⟨i, hi, rfl⟩ := List.mem_iff_getElem.1 hu
    have hi' : i < 16 := by omega
    have ht := hx i hi'
    rw [List.getElem?_eq_getElem (by omega)] at ht
    obtain ⟨n, hn, -, wn⟩ := DataW.trod_int Try.underlying5 ht
    have hb := byte_of wn
    refine ⟨n.toNat, ?_, by omega⟩
    have hd : (cs.drop i).take 1 = [cs[i]] := by
      rw [List.drop_eq_getElem_cons hi]
      rfl
    rw [e5, Nat.mul_one, hd] at hn
    have hn3 : cs[i] = Value.int .u8 n := by simpa using hn
    have en : n = ((n.toNat : Nat) : Int) := by omega
    rw [hn3]
    exact congrArg (Value.int .u8) en)
  refine ⟨s, hs, ?_, hb⟩
  have := congrArg List.length hs
  rw [List.length_map] at this
  omega
theorem cut3 (cs : List Value) (n m : Nat) (v w : Value) (l : List Value) (h0 : (cs.drop 0).take 1 = [v]) (h1 : (cs.drop 1).take n = l) (h2 : (cs.drop m).take 1 = [w]) (hm : m = n + 1) (hl : cs.length = n + 2) : cs = v :: (l ++ [w]) := by
  subst hm
  cases cs with
  | nil => simp at hl
  | cons c cs =>
    simp at h0 h1 h2 hl
    subst h0
    congr 1
    rw [← List.take_append_drop n cs, h1]
    congr 1
    rw [List.take_of_length_le (by simp; omega)] at h2
    exact h2
theorem cut4 (cs : List Value) (n m : Nat) (v u w : Value) (l : List Value) (h0 : (cs.drop 0).take 1 = [v]) (h1 : (cs.drop 1).take 1 = [u]) (h2 : (cs.drop 2).take n = l) (h3 : (cs.drop m).take 1 = [w]) (hm : m = n + 2) (hl : cs.length = n + 3) : cs = v :: u :: (l ++ [w]) := by
  cases cs with
  | nil => simp at hl
  | cons c cs =>
    simp at h0
    subst h0
    rw [cut3 cs n (n + 1) u w l (by simpa using h1) (by simpa using h2) (by subst hm; simpa using h3) rfl (by simp at hl; omega)]
theorem int_cell {t : TypeId} {q : IntKind} (ht : Try.prog.underlying t = some (.int q)) {cs : List Value} (h : DataW.trod enc Try.prog W base spare held fuel t cs = some x) : ∃ n, cs = [.int q n] ∧ (Lit.int q n).wf = true := by
  obtain ⟨n, hn, -, wn⟩ := DataW.trod_int ht h
  exact ⟨n, hn, wn⟩
/-- An act's cells. -/
theorem act_cells {cs : List Value} (h : DataW.trod enc Try.prog W base spare held fuel 35 cs = some x) : ∃ a : Ac, cs = a.cells ∧ a.Ok := by
  obtain ⟨y0, y1, y2, y3, n, -, hl, h0, h1, h2, h3⟩ := Go.Joins.trod_struct4 Try.underlying35 h
  simp only [cells3, cells32, cells33] at h0 h1 h2 h3
  obtain ⟨k, ek, wk⟩ := int_cell Try.underlying3 h0
  obtain ⟨i, ei, wi⟩ := int_cell Try.underlying3 h1
  obtain ⟨s, es, hs⟩ := sector_cells h2
  obtain ⟨m, em, wm⟩ := int_cell Try.underlying33 h3
  have b1 := bounds_i64 wk
  have b2 := bounds_i64 wi
  have b3 := bounds_u64 wm
  refine ⟨⟨k, i, s, m.toNat⟩, ?_, ⟨b1.1, b1.2, b2.1, b2.2, hs, by simp only []; omega⟩⟩
  have := cut4 cs 16 18 _ _ _ _ ek ei es em rfl (hl.trans cells35)
  rw [this, Ac.cells]
  simp only []
  rw [Int.toNat_of_nonneg b3.1]
/-- What a play of DiskKeeps begins with: its cells. -/
theorem kept_cells {cs : List Value} (h : DataW.trod enc Try.prog W base spare held fuel 42 cs = some x) : ∃ (k : Int) (s : List Nat) (m : Nat), cs = keptCells k s m ∧ (-9223372036854775808 ≤ k ∧ k ≤ 9223372036854775807) ∧ Sec s ∧ m < 18446744073709551616 := by
  obtain ⟨y0, y1, y2, n, -, hl, h0, h1, h2⟩ := Go.Deep.trod_struct3 Try.underlying42 h
  simp only [cells3, cells32, cells33] at h0 h1 h2
  obtain ⟨k, ek, wk⟩ := int_cell Try.underlying3 h0
  obtain ⟨s, es, hs⟩ := sector_cells h1
  obtain ⟨m, em, wm⟩ := int_cell Try.underlying33 h2
  have b1 := bounds_i64 wk
  have b3 := bounds_u64 wm
  refine ⟨k, s, m.toNat, ?_, b1, hs, by omega⟩
  have := cut3 cs 16 17 _ _ _ ek es em rfl (hl.trans cells42)
  rw [this, keptCells]
  rw [Int.toNat_of_nonneg b3.1]
end

/-- An act that came in by value. -/
theorem act_in {H : Type} {enc : TypeId × Value → H} {W : World} {r : Reach} {b0 base : Nat} {spare : Nat → Bool} {held : Bool} {v : Value} {d : DataW H} {p : List MemPlace} (hv : Value.okWide Try.prog W r b0 35 v) (h : DataW.Trod enc Try.prog W base spare held 35 v d p) :
    ∃ a : Ac, v = .agg a.cells.toArray ∧ a.Ok := by
  obtain ⟨cs, rfl, hsz⟩ := okWide_struct Try.underlying35 hv
  obtain ⟨fuel, hf⟩ := h
  obtain ⟨a, ha, hok⟩ := act_cells hf
  refine ⟨a, ?_, hok⟩
  have : cs.toList = a.cells := by simpa [Value.cells] using ha
  rw [← this]
theorem kept_in {H : Type} {enc : TypeId × Value → H} {W : World} {r : Reach} {b0 base : Nat} {spare : Nat → Bool} {held : Bool} {v : Value} {d : DataW H} {p : List MemPlace} (hv : Value.okWide Try.prog W r b0 42 v) (h : DataW.Trod enc Try.prog W base spare held 42 v d p) :
    ∃ (k : Int) (s : List Nat) (m : Nat), v = .agg (keptCells k s m).toArray ∧ (-9223372036854775808 ≤ k ∧ k ≤ 9223372036854775807) ∧ Sec s ∧ m < 18446744073709551616 := by
  obtain ⟨cs, rfl, hsz⟩ := okWide_struct Try.underlying42 hv
  obtain ⟨fuel, hf⟩ := h
  obtain ⟨k, s, m, ha, r⟩ := kept_cells hf
  refine ⟨k, s, m, ?_, r⟩
  have : cs.toList = keptCells k s m := by simpa [Value.cells] using ha
  rw [← this]
/-- The acts of a slice that came in. -/
theorem acts_in {H : Type} {enc : TypeId × Value → H} {W : World} {base : Nat} {spare : Nat → Bool} {held : Bool} {a : Option Addr} {len cap : Nat} {d : DataW H} {p : List MemPlace} (h : DataW.Trod enc Try.prog W base spare held 22 (.slice a len cap) d p) :
    len ≤ 9223372036854775807 ∧ ∃ acts, ActsAt W.heap.size W a len cap acts := by
  obtain ⟨fuel, hf⟩ := h
  rcases Go.Deep.open_slice Try.underlying22 hf with ⟨hcs, _⟩ | ⟨ad, l, c, m, n, D, Pl, hcs, _, hlc, hmax, hm, _, hel⟩
  · simp [Value.cells] at hcs
    obtain ⟨rfl, rfl, rfl⟩ := hcs
    exact ⟨by omega, [], rfl, by simp, fun _ => rfl, .inl rfl⟩
  · simp [Value.cells] at hcs
    obtain ⟨rfl, rfl, rfl⟩ := hcs
    unfold maxLen at hmax
    refine ⟨by omega, ?_⟩
    have hlm : len ≤ m := by rw [hm]; split <;> omega
    have hex : ∀ i, i < len → ∃ x : Ac, x.Ok ∧ ∀ j v, x.cells[j]? = some v → W.cell? ((ad.add (i * 19)).add j) = some v := fun i hi => by
      obtain ⟨cs', hc1, hc2⟩ := hel i (by omega)
      rw [cells35] at hc1
      obtain ⟨x, rfl, hok⟩ := act_cells hc2
      refine ⟨x, hok, fun j v hv => ?_⟩
      obtain ⟨_, hlen, hcell⟩ := World.cells?_some hc1
      have hj : j < 19 := by
        have := (List.getElem?_eq_some_iff.1 hv).1
        omega
      rw [hcell j hj]
      exact hv
    have hall : ∀ n, n ≤ len → ∃ acts : List Ac, acts.length = n ∧ ∀ i x, acts[i]? = some x → x.Ok ∧ ∀ j v, x.cells[j]? = some v → W.cell? ((ad.add (i * 19)).add j) = some v := fun n => by
      induction n with
      | zero => exact fun _ => ⟨[], rfl, fun i x hx => by simp at hx⟩
      | succ n ih =>
        intro hn
        obtain ⟨acts, hl, hx⟩ := ih (by omega)
        obtain ⟨y, hy⟩ := hex n (by omega)
        refine ⟨acts ++ [y], by simp [hl], fun i x hi => ?_⟩
        by_cases hin : i < acts.length
        · rw [List.getElem?_append_left hin] at hi
          exact hx i x hi
        · have hlt := (List.getElem?_eq_some_iff.1 hi).1
          simp at hlt
          obtain rfl : i = n := by omega
          rw [List.getElem?_append_right (by omega), hl, Nat.sub_self] at hi
          simp at hi
          subst hi
          exact hy
    obtain ⟨acts, hl, hx⟩ := hall len (Nat.le_refl _)
    refine ⟨acts, hl, fun x hm => ?_, fun e => (by cases e), ?_⟩
    · obtain ⟨i, hi⟩ := List.getElem?_of_mem hm
      exact (hx i x hi).1
    · by_cases h0 : len = 0
      · left
        exact List.eq_nil_of_length_eq_zero (hl.trans h0)
      · right
        obtain ⟨y, hy⟩ : ∃ y, acts[0]? = some y := ⟨_, List.getElem?_eq_getElem (by omega)⟩
        have hc0 := (hx 0 y hy).2 0 _ rfl
        obtain ⟨b, off, spot⟩ := ad
        have hspot : spot = none := by simpa [Addr.add] using World.cell?_spot hc0
        subst hspot
        have hc0' : W.cell? ⟨b, off + 0 * 19 + 0, none⟩ = some (.int .i64 y.kind) := by rw [← hc0, Go.WideShapes.add_plain, Go.WideShapes.add_plain]
        refine ⟨b, off, rfl, hlc, World.block_lt_of_cell? W _ hc0', fun j x hj i v hv => ?_⟩
        have := (hx j x hj).2 i v hv
        rwa [Go.WideShapes.add_plain, Go.WideShapes.add_plain] at this
end Go.Proofs.Ytidgjhgeminelaa
