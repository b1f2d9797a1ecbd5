import Derived.Test.YtnbkbakbjllmcaaWrA
import Derived.Deep.Cut
import Derived.Deep.RegionHeld3
/-
  The walks of the reader and of read.
-/
namespace Go.Proofs.Ytnbkbakbjllmcaa.Wire
open Go.RowKit
open Seal (enc ret_bool ret_int)
open Seal.Math

/-- A reader in its block. -/
structure RAt (lo hi g : Nat) (v : Value) (l : List Nat) (W : World) : Prop where
  blk : Blk W g 106 #[v]
  row : ByteRow lo hi W v l
  hg : hi ≤ g
theorem RAt.top {lo hi g : Nat} {v : Value} {l : List Nat} {W : World} (h : RAt lo hi g v l W) : hi ≤ W.heap.size := Nat.le_trans h.hg (Nat.le_of_lt h.blk.lt)
theorem RAt.cell {lo hi g : Nat} {v : Value} {l : List Nat} {W : World} (t : RAt lo hi g v l W) : W.cell? ⟨g, 0, none⟩ = some v := (Blk.cell t.blk 0).trans rfl
theorem RAt.put {lo hi g : Nat} {v v' : Value} {l l' : List Nat} {A B : World} (t : RAt lo hi g v l A) (hr : ByteRow lo hi A v' l') (hb : Blk B g 106 #[v']) (hk : Kept [g] A B) : RAt lo hi g v' l' B := by
  have h1 := t.hg
  exact ⟨hb, hr.kept t.top hk (by simp; omega), t.hg⟩
theorem RAt.kept {L : List Nat} {lo hi g : Nat} {v : Value} {l : List Nat} {A B : World} (t : RAt lo hi g v l A) (hk : Kept L A B) (hL : ∀ k ∈ L, k ≠ g ∧ hi ≤ k) : RAt lo hi g v l B :=
  ⟨t.blk.kept hk (fun hm => (hL g hm).1 rfl), t.row.kept t.top hk (fun k hm => .inr (hL k hm).2), t.hg⟩
set_option maxRecDepth 100000 in
/-- reader.four -/
theorem rfour_any (lo hi g : Nat) (v : Value) (l : List Nat) (w : World) (h : RAt lo hi g v l w) (h4 : 4 ≤ l.length) (hlen : l.length ≤ 1000) :
    Calls Try.prog 63 #[.pointer (some ⟨g, 0, none⟩)] w fun e w' => e = .returned (.int .u32 (val (l.take 4) : Nat)) ∧ (∃ v', RAt lo hi g v' (l.drop 4) w') ∧ Kept [g] w w' := by
  have hc := h.cell
  have q := Seal.get32_any _ v l w (by omega) (h.row.at h.top)
  rw [Seal.getv_in (by omega)] at q
  replace h4 : Hid (4 ≤ l.length) := h4
  replace h : Hid (RAt lo hi g v l w) := h
  generalize val (l.take 4) = n at *
  generalize Seal.getB 4 l = b at *
  clear hlen
  go_enter Try.func63, Try.ntmps63
  go_wp2_with (first
    | (go_at_call 78; refine q.mono ?_; rintro e w ⟨rfl, rfl⟩)
    | (refine wpList_drop rfl _ _ rfl lo hi _ _ _ 4 rfl rfl h.out.row h4.out ?_; intro sa6 z6 cap6 hr6)
    | (refine wpList_store_cell rfl 34 _ _ rfl g 0 106 _ (.slice sa6 z6 cap6) rfl rfl h.out.blk (by simp) Try.sizeB rfl ?_; intro w3 hb3 hk3))
  go_ret
  exact ⟨rfl, ⟨_, h.out.put hr6 hb3 hk3⟩, hk3⟩
theorem row_first {lo hi : Nat} {W : World} {v : Value} {l : List Nat} (h : ByteRow lo hi W v l) (h1 : 1 ≤ l.length) : ∃ g off cap, v = .slice (some ⟨g, off, none⟩) l.length cap ∧ W.cell? ⟨g, off, none⟩ = some (.int .u8 ((l[0]?.getD 0 : Nat) : Int)) := by
  obtain ⟨_, a, cap, rfl, _⟩ := id h
  obtain ⟨g, off, rfl, _, hc⟩ := h.cell 0 (by omega)
  exact ⟨g, off, cap, rfl, hc⟩
set_option maxRecDepth 100000 in
/-- reader.one -/
theorem rone_any (lo hi g : Nat) (v : Value) (l : List Nat) (w : World) (h : RAt lo hi g v l w) (h4 : 1 ≤ l.length) :
    Calls Try.prog 64 #[.pointer (some ⟨g, 0, none⟩)] w fun e w' => e = .returned (.int .i64 (l[0]?.getD 0 : Nat)) ∧ (∃ v', RAt lo hi g v' (l.drop 1) w') ∧ Kept [g] w w' := by
  have hc := h.cell
  have hb : (l[0]?.getD 0 : Nat) < 256 := getD_lt l 0 h.row.1
  obtain ⟨g1, off, cap, rfl, hc1⟩ := row_first h.row h4
  have hp : 0 < l.length := h4
  replace h4 : Hid (1 ≤ l.length) := h4
  replace h : Hid (RAt lo hi g (.slice (some ⟨g1, off, none⟩) l.length cap) l w) := h
  generalize l[0]?.getD 0 = n at *
  obtain ⟨z, hz⟩ : ∃ z, l.length = z := ⟨_, rfl⟩
  rw [hz] at hp hc h
  replace hz : Hid (l.length = z) := hz
  go_enter Try.func64, Try.ntmps64
  go_wp2_with (first
    | (refine wpList_drop rfl _ _ rfl lo hi _ _ _ 1 rfl rfl h.out.row h4.out ?_; intro sa6 z6 cap6 hr6)
    | (refine wpList_store_cell rfl 34 _ _ rfl g 0 106 _ (.slice sa6 z6 cap6) rfl rfl h.out.blk (by simp) Try.sizeB rfl ?_; intro w3 hb3 hk3))
  go_ret
  exact ⟨ret_int (by first | rfl | go_num), ⟨_, h.out.put hr6 hb3 hk3⟩, hk3⟩
set_option maxRecDepth 100000 in
/-- b[2:19:19] -/
theorem row_head {lo hi : Nat} {W : World} {v : Value} {bs : List Nat} (h : ByteRow lo hi W v bs) (hn : 19 ≤ bs.length) :
    ∃ sa, (∀ w, (Instr.sliceAt 34 v (some (.int .i64 2)) (some (.int .i64 19)) (some (.int .i64 19))).run Try.prog w = .ok (.slice sa 17 17) w) ∧ ByteRow lo hi W (.slice sa 17 17) ((bs.drop 2).take 17) := by
  obtain ⟨hb, ad, cap, rfl, hz, hrow⟩ := h
  rcases hrow with rfl | ⟨g, off, rfl, hc, h1, h2, h3⟩
  · simp at hn
  · have hdl : ((bs.drop 2).take 17).length = 17 := by simp; omega
    refine ⟨some ⟨g, off + 2, none⟩, fun w => ?_, fun b hm => hb b (List.mem_of_mem_drop (List.mem_of_mem_take hm)), some ⟨g, off + 2, none⟩, 17, by rw [hdl], fun e => (by cases e), ?_⟩
    · rw [run_sliceAt_slice _ _ _ _ _ _ Try.elemB, run_slice_lhm _ _ _ _ _ Try.elemB _ _ _ _ _ _ (by omega) (by omega) (by omega) (by omega), Try.elemZ]
      simp [Result.andThen, sliced, Addr.add]
    · right
      refine ⟨g, off + 2, rfl, by omega, h1, h2, fun j hj => ?_⟩
      rw [hdl] at hj
      rw [Nat.add_assoc, h3 (2 + j) (by omega), List.getElem?_take_of_lt hj, List.getElem?_drop]
end Go.Proofs.Ytnbkbakbjllmcaa.Wire

