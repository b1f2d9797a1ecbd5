/-
  What comes in, as it reads: acts.
-/
import Derived.Test.YthlnhmdeoapoeaaRows
import Derived.Test.YthlnhmdeoapoeaaLtX
import Derived.Test.YthlnhmdeoapoeaaClR
import Derived.ProofKit
import Derived.OpenShut
import Derived.ShutString
import Derived.ChangeOld
import Derived.ChangeSlices
import Derived.Deep.Slices
import Derived.Lib.SmallJoins
import Derived.SizedLaws
namespace Go.Proofs.Ythlnhmdeoapoeaa.Later
open Go.ChangeShapes Go.WideShapes Go.ChangeAt Go.RowKit

theorem byte_of {n : Int} (h : (Lit.int .u8 n).wf = true) : 0 ≤ n ∧ n < 256 := by
  have := bounds_u8 h
  omega
open Clash (cut_step cut_last cells3 cells4 ows_cells)
open Clash (cellsS)
set_option maxRecDepth 100000 in
theorem cellsW : Try.prog.cellsOf 33 = 1 := by kernel_rfl
set_option maxRecDepth 100000 in
theorem cells5 : Try.prog.cellsOf 5 = 1 := by kernel_rfl
set_option maxRecDepth 100000 in
theorem cellsB : Try.prog.cellsOf 32 = 1 := by kernel_rfl
set_option maxRecDepth 100000 in
theorem cellsA : Try.prog.cellsOf 35 = 6 := by kernel_rfl
set_option maxRecDepth 100000 in
theorem bytes5 : Try.prog.bytesOf 5 = 1 := by kernel_rfl
section
variable {H : Type} {enc : TypeId × Value → H} {W : World} {base : Nat} {spare : Nat → Bool} {held : Bool} {fuel : Nat} {x : DataW H × List MemPlace}
theorem weights_all {P : Program} {e : TypeId} {d : DataW H} {n : Nat} : ∀ {l : List (DataW H)}, d ∈ l → n ∈ d.weights P e → n ∈ DataW.weightsAll P e l
  | y :: r, hm, hn => by
    simp only [DataW.weightsAll, List.mem_append]
    rcases List.mem_cons.1 hm with e | e
    · subst e
      exact .inl hn
    · exact .inr (weights_all e hn)
set_option maxRecDepth 100000 in
/-- Bytes that came in; no more than the reading weighs. -/
theorem bytes_cell {cs : List Value} (h : DataW.trod enc Try.prog W base spare held fuel 32 cs = some x) : ∃ sa len cap bs, cs = [.slice sa len cap] ∧ len ≤ 9223372036854775807 ∧ ByteRow W.heap.size W (.slice sa len cap) bs ∧ ∀ B, (∀ n ∈ x.1.weights Try.prog 32, n ≤ B) → bs.length ≤ B := by
  rcases open_ints Try.underlying32 Try.underlying5 cells5 h with ⟨hcs, _⟩ | ⟨a, len, cap, zs, hcs, _, hl, hm, hz, hx, hcell, hwz⟩
  · exact ⟨none, 0, 0, [], hcs, by omega, byteRow_nil _ _, fun B _ => Nat.zero_le _⟩
  · unfold maxLen at hm
    have hzl : len ≤ zs.length := by rw [hz]; split <;> omega
    have hbl : ((zs.take len).map Int.toNat).length = len := by simp; omega
    refine ⟨some a, len, cap, (zs.take len).map Int.toNat, hcs, by omega, ⟨?_, some a, cap, by rw [hbl], fun e => (by cases e), ?_⟩, fun B hB => ?_⟩
    · intro b hb
      obtain ⟨n, hn, rfl⟩ := List.mem_map.1 hb
      have := byte_of (hwz n (List.mem_of_mem_take hn))
      omega
    · by_cases h0 : len = 0
      · left
        subst h0
        simp
      · right
        have hc0 := hcell 0 (by omega)
        obtain ⟨b, off, sp⟩ := a
        have hsp : sp = none := by simpa [Addr.add] using World.cell?_spot hc0
        subst hsp
        rw [hbl]
        refine ⟨b, off, rfl, by omega, ?_, fun j hj => ?_⟩
        · exact World.block_lt_of_cell? W ⟨b, off, none⟩ (by have := hc0; simpa [Addr.add] using this)
        · have hjz : j < zs.length := by omega
          have := hcell j hjz
          rw [Go.WideShapes.add_plain] at this
          rw [this]
          have hb := byte_of (hwz (zs[j]) (List.getElem_mem hjz))
          simp [hj, hjz]
          omega
    · have hw := hB (((lits .u8 (zs.take len) : List (DataW H)).length + (lits .u8 (zs.drop len) : List (DataW H)).length) * Try.prog.bytesOf 5) (by rw [hx]; simp [DataW.weights, Try.underlying32])
      rw [bytes5] at hw
      simp only [lits, List.length_map, List.length_take, List.length_drop] at hw
      rw [hbl]
      omega
set_option maxRecDepth 100000 in
/-- An act's cells. -/
theorem act_cells {cs : List Value} (h : DataW.trod enc Try.prog W base spare held fuel 35 cs = some x) : ∃ a : Ac, cs = a.cells ∧ a.Ok W.heap.size W ∧ ∀ B, (∀ n ∈ x.1.weights Try.prog 35, n ≤ B) → a.bs.length ≤ B := by
  obtain ⟨xs, n, _, hx, hl, hlen, hf⟩ := DataW.trod_struct Try.underlying35 h
  have h0 : DataW.trod enc Try.prog W base spare held n 4 ((cs.drop 0).take (Try.prog.cellsOf 4)) = xs[0]? := hf 0 _ rfl
  have h1 : DataW.trod enc Try.prog W base spare held n 3 ((cs.drop 1).take (Try.prog.cellsOf 3)) = xs[1]? := hf 1 _ rfl
  have h2 : DataW.trod enc Try.prog W base spare held n 24 ((cs.drop 2).take (Try.prog.cellsOf 24)) = xs[2]? := hf 2 _ rfl
  have h3 : DataW.trod enc Try.prog W base spare held n 32 ((cs.drop 4).take (Try.prog.cellsOf 32)) = xs[3]? := hf 3 _ rfl
  have h4 : DataW.trod enc Try.prog W base spare held n 33 ((cs.drop 5).take (Try.prog.cellsOf 33)) = xs[4]? := hf 4 _ rfl
  rw [cells4] at h0
  rw [cells3] at h1
  rw [cellsS] at h2
  rw [cellsB] at h3
  rw [cellsW] at h4
  match xs, hlen, hx with
  | [y0, y1, y2, y3, y4], _, hx =>
    simp only [List.getElem?_cons_zero, List.getElem?_cons_succ] at h0 h1 h2 h3 h4
    obtain ⟨nx, e0, -⟩ := DataW.trod_bool Try.underlying4 h0
    obtain ⟨id, e1, _⟩ := Clash.int_cell Try.underlying3 h1
    obtain ⟨o, l, e2⟩ := Clash.span_cells h2
    obtain ⟨sa, len, cap, bs, e3, hlen, hr, hB⟩ := bytes_cell h3
    obtain ⟨oa, olen, ocap, O, e4, holen, hO⟩ := ows_cells h4
    refine ⟨⟨nx, id, o, l, sa, len, cap, bs, oa, olen, ocap, O⟩, ?_, ⟨hlen, holen, hr, hO⟩, fun B hw => hB B (fun m hm => hw m ?_)⟩
    · have hc : cs.drop 0 = _ := cut_step cs 0 1 _ _ e0 (cut_step cs 1 1 _ _ e1 (cut_step cs 2 2 _ _ e2 (cut_step cs 4 1 _ _ e3 (cut_last cs 5 1 _ e4 (hl.trans cellsA)))))
      rw [List.drop_zero] at hc
      rw [hc]
      rfl
    · rw [hx]
      have hu : Try.prog.underlying 35 = _ := Try.underlying35
      simp only [DataW.weights, hu, List.map_cons, List.map_nil, DataW.weightsEach, List.mem_append]
      exact .inr (.inr (.inr (.inl hm)))
end
set_option maxRecDepth 100000 in
/-- An act that came in by value. -/
theorem act_in {H : Type} {enc : TypeId × Value → H} {W : World} {r : Reach} {b0 base : Nat} {spare : Nat → Bool} {held : Bool} {v : Value} {d : DataW H} {p : List MemPlace} (hv : Value.okWide Try.prog W r b0 35 v) (h : DataW.Trod enc Try.prog W base spare held 35 v d p) :
    ∃ a : Ac, v = .agg #[.bool a.nx, .int .i64 a.id, .int .i64 a.o, .int .i64 a.l, .slice a.sa a.len a.cap, .slice a.oa a.olen a.ocap] := by
  obtain ⟨cs, rfl, hsz⟩ := okWide_struct Try.underlying35 hv
  obtain ⟨fuel, hf⟩ := h
  obtain ⟨a, hc, _⟩ := act_cells hf
  refine ⟨a, ?_⟩
  congr 1
  have hc' : cs.toList = a.cells := by simpa [Value.cells] using hc
  rw [← Array.toArray_toList (xs := cs), hc']
  rfl
set_option maxRecDepth 100000 in
/-- The acts of a slice that came in. -/
theorem acs_in {H : Type} {enc : TypeId × Value → H} {W : World} {base : Nat} {spare : Nat → Bool} {held : Bool} {a : Option Addr} {len cap : Nat} {d : DataW H} {p : List MemPlace} (h : DataW.Trod enc Try.prog W base spare held 22 (.slice a len cap) d p) :
    len ≤ 9223372036854775807 ∧ ∃ acts, AcsAt W.heap.size W a len cap acts ∧ ∀ B, (∀ n ∈ d.weights Try.prog 22, n ≤ B) → ∀ x ∈ acts, x.bs.length ≤ B := by
  obtain ⟨fuel, hf⟩ := h
  rcases Go.Deep.open_slice Try.underlying22 hf with ⟨hcs, _⟩ | ⟨ad, l, c, m, n, D, Pl, hcs, _, hlc, hmax, hm, hx, hel⟩
  · simp [Value.cells] at hcs
    obtain ⟨rfl, rfl, rfl⟩ := hcs
    exact ⟨by omega, [], ⟨rfl, by simp, .inl rfl⟩, by simp⟩
  · simp [Value.cells] at hcs
    obtain ⟨rfl, rfl, rfl⟩ := hcs
    unfold maxLen at hmax
    refine ⟨by omega, ?_⟩
    have hlm : len ≤ m := by rw [hm]; split <;> omega
    have hex : ∀ i, i < len → ∃ x : Ac, (x.Ok W.heap.size W ∧ ∀ B, (∀ n ∈ d.weights Try.prog 22, n ≤ B) → x.bs.length ≤ B) ∧ ∀ j v, x.cells[j]? = some v → W.cell? ((ad.add (i * 6)).add j) = some v := fun i hi => by
      obtain ⟨cs', hc1, hc2⟩ := hel i (by omega)
      rw [cellsA] at hc1
      obtain ⟨y, rfl, hok, hB⟩ := act_cells hc2
      refine ⟨y, ⟨hok, fun B hw => hB B (fun k hk => hw k ?_)⟩, fun j v hv => ?_⟩
      · have hd : d = .slice ((List.range len).map D) ((List.range (m - len)).map fun j => D (len + j)) := congrArg Prod.fst hx
        have hu : Try.prog.underlying 22 = _ := Try.underlying22
        rw [hd]
        simp only [DataW.weights, hu, List.mem_cons, List.mem_append]
        exact .inr (.inl (weights_all (List.mem_map.2 ⟨i, by simpa using hi, rfl⟩) hk))
      · obtain ⟨_, hlen, hcell⟩ := World.cells?_some hc1
        have hj : j < 6 := by
          have := (List.getElem?_eq_some_iff.1 hv).1
          exact this
        rw [hcell j hj]
        exact hv
    have hall : ∀ n, n ≤ len → ∃ acts : List Ac, acts.length = n ∧ ∀ i x, acts[i]? = some x → (x.Ok W.heap.size W ∧ ∀ B, (∀ n ∈ d.weights Try.prog 22, n ≤ B) → x.bs.length ≤ B) ∧ ∀ j v, x.cells[j]? = some v → W.cell? ((ad.add (i * 6)).add j) = some v := fun n => by
      induction n with
      | zero => exact fun _ => ⟨[], rfl, fun i x hx => by simp at hx⟩
      | succ n ih =>
        intro hn
        obtain ⟨acts, hl, hx⟩ := ih (by omega)
        obtain ⟨y, hy⟩ := hex n (by omega)
        refine ⟨acts ++ [y], by simp [hl], fun i x hi => ?_⟩
        by_cases hin : i < acts.length
        · rw [List.getElem?_append_left hin] at hi
          exact hx i x hi
        · have hlt := (List.getElem?_eq_some_iff.1 hi).1
          simp at hlt
          obtain rfl : i = n := by omega
          rw [List.getElem?_append_right (by omega), hl, Nat.sub_self] at hi
          simp at hi
          subst hi
          exact hy
    obtain ⟨acts, hl, hx⟩ := hall len (Nat.le_refl _)
    refine ⟨acts, ⟨hl, fun x hm => ?_, ?_⟩, fun B hB x hm => ?_⟩
    · obtain ⟨i, hi⟩ := List.getElem?_of_mem hm
      exact (hx i x hi).1.1
    · by_cases h0 : len = 0
      · left
        exact List.eq_nil_of_length_eq_zero (hl.trans h0)
      · right
        obtain ⟨y, hy⟩ : ∃ y, acts[0]? = some y := ⟨_, List.getElem?_eq_getElem (by omega)⟩
        have hc0 := (hx 0 y hy).2 0 _ rfl
        obtain ⟨b, off, sp⟩ := ad
        have hsp : sp = none := by simpa [Addr.add] using World.cell?_spot hc0
        subst hsp
        have hc0' : W.cell? ⟨b, off + 0 * 6 + 0, none⟩ = some (.bool y.nx) := by rw [← hc0, Go.WideShapes.add_plain, Go.WideShapes.add_plain]
        refine ⟨b, off, rfl, hlc, World.block_lt_of_cell? W _ hc0', fun j x hj i v hv => ?_⟩
        have := (hx j x hj).2 i v hv
        rwa [Go.WideShapes.add_plain, Go.WideShapes.add_plain] at this
    · obtain ⟨i, hi⟩ := List.getElem?_of_mem hm
      exact (hx i x hi).1.2 B hB
end Go.Proofs.Ythlnhmdeoapoeaa.Later
