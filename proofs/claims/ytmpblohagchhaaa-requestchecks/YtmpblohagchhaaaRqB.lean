/-
  Good, the program's and the document's.
-/
import Derived.Test.YtmpblohagchhaaaRqA
namespace Go.Proofs.Ytmpblohagchhaaa.Request
open Go.RowKit
open Span (ret_bool ret_int)

/-- The settings' limits, each kept or not. -/
def lims (z h t n p : Int) : List Bool := [lim z 4 256 4, lim h 3 16 1, lim t 1 16 1, lim n 1 64 1, lim p 2 100 1]
theorem cgood_lims (z h t n p : Int) : cgood z h t n p = (lims z h t n p).all id := by
  simp [cgood, lims]
theorem all_bad {L : List Bool} {k : Nat} (h : L[k]? = some false) : L.all id = false := by
  rw [List.all_eq_false]
  exact ⟨false, List.mem_of_getElem? h, by simp⟩
theorem all_step {L : List Bool} {k : Nat} (h : L[k]? = some true) (hA : (L.take k).all id = true) : (L.take (k + 1)).all id = true := by
  rw [List.take_add_one, h, List.all_append, hA]
  rfl
set_option maxRecDepth 100000 in
set_option maxHeartbeats 1000000 in
/-- Good -/
theorem good_any (z h t n p : Int) (h0 : -9223372036854775808 ≤ z) (h1 : z ≤ 9223372036854775807) (w : World) : Calls Try.prog 6 #[.agg #[.int .i64 z, .int .i64 h, .int .i64 t, .int .i64 n, .int .i64 p]] w fun e w' => e = .returned (.bool (cgood z h t n p)) ∧ Kept [] w w' := by
  have q0 := fun w => kept4 z 4 256 h0 h1 (by omega) w
  have q1 := fun w => kept1 h 3 16 w
  have q2 := fun w => kept1 t 1 16 w
  have q3 := fun w => kept1 n 1 64 w
  have q4 := fun w => kept1 p 2 100 w
  have ql := fun w => limits_any z h t n p w
  rw [cgood_lims]
  obtain ⟨G, hG⟩ : ∃ G, (lims z h t n p).all id = G := ⟨_, rfl⟩
  have hL : Hid (lims z h t n p = [lim z 4 256 4, lim h 3 16 1, lim t 1 16 1, lim n 1 64 1, lim p 2 100 1]) := rfl
  rw [hG]
  replace hG : Hid ((lims z h t n p).all id = G) := hG
  generalize lims z h t n p = L at *
  generalize lim z 4 256 4 = b0 at *
  generalize lim h 3 16 1 = b1 at *
  generalize lim t 1 16 1 = b2 at *
  generalize lim n 1 64 1 = b3 at *
  generalize lim p 2 100 1 = b4 at *
  have k1 := kept_alloc [] w (.cells #[.int .i64 z, .int .i64 h, .int .i64 t, .int .i64 n, .int .i64 p] 23)
  clear h0 h1
  go_enter Try.func6, Try.ntmps6
  go_wp2_with (go_at_call 16; refine (ql _).mono ?_; rintro e w1 ⟨rfl, hk1⟩; replace k1 := k1.trans hk1; clear hk1 ql)
  go_loopw [7] (fun i wr => ∃ k : Nat, k ≤ 5 ∧ i = .int .i64 k ∧ Kept [] w wr ∧ Hid ((L.take k).all id = true)) (fun i _ => 5 - (RowKit.intOf i).toNat)
  case atStart => exact ⟨0, by omega, rfl, k1, rfl⟩
  case round =>
    obtain ⟨k, hk, rfl, hw, hA⟩ := hrel
    by_cases hlt : k < 5
    · have hc : k = 0 ∨ k = 1 ∨ k = 2 ∨ k = 3 ∨ k = 4 := by omega
      clear hlt hk k1
      rcases hc with rfl | rfl | rfl | rfl | rfl
      · have kb := kept_alloc [] wr (.cells #[.int .i64 z, .int .i64 4, .int .i64 256, .int .i64 4] 43)
        have ix : ∀ w, (Instr.index 44 (.agg #[.int .i64 z, .int .i64 4, .int .i64 256, .int .i64 4, .int .i64 h, .int .i64 3, .int .i64 16, .int .i64 1, .int .i64 t, .int .i64 1, .int .i64 16, .int .i64 1, .int .i64 n, .int .i64 1, .int .i64 64, .int .i64 1, .int .i64 p, .int .i64 2, .int .i64 100, .int .i64 1]) (.int .i64 0)).run Try.prog w = .ok (.agg #[.int .i64 z, .int .i64 4, .int .i64 256, .int .i64 4]) w := fun _ => by kernel_rfl
        cases b0 with
        | true =>
          go_wp2_with (go_at_call 17; refine (q0 _).mono ?_; rintro e w2 ⟨rfl, hk2⟩)
          go_roundw
          case rel => exact ⟨1, by omega, by go_num, (hw.trans kb).trans hk2, all_step (k := 0) (by rw [hL.out]; rfl) hA.out⟩
          case measure => simp [RowKit.intOf]
        | false =>
          have hf : Hid (G = false) := by show _ = _; rw [← hG.out]; exact all_bad (k := 0) (by rw [hL.out]; rfl)
          go_wp2_with (go_at_call 17; refine (q0 _).mono ?_; rintro e w2 ⟨rfl, hk2⟩)
          go_ret
          exact ⟨ret_bool hf.out.symm, (hw.trans kb).trans hk2⟩
      · have kb := kept_alloc [] wr (.cells #[.int .i64 h, .int .i64 3, .int .i64 16, .int .i64 1] 43)
        have ix : ∀ w, (Instr.index 44 (.agg #[.int .i64 z, .int .i64 4, .int .i64 256, .int .i64 4, .int .i64 h, .int .i64 3, .int .i64 16, .int .i64 1, .int .i64 t, .int .i64 1, .int .i64 16, .int .i64 1, .int .i64 n, .int .i64 1, .int .i64 64, .int .i64 1, .int .i64 p, .int .i64 2, .int .i64 100, .int .i64 1]) (.int .i64 1)).run Try.prog w = .ok (.agg #[.int .i64 h, .int .i64 3, .int .i64 16, .int .i64 1]) w := fun _ => by kernel_rfl
        cases b1 with
        | true =>
          go_wp2_with (go_at_call 17; refine (q1 _).mono ?_; rintro e w2 ⟨rfl, hk2⟩)
          go_roundw
          case rel => exact ⟨2, by omega, by go_num, (hw.trans kb).trans hk2, all_step (k := 1) (by rw [hL.out]; rfl) hA.out⟩
          case measure => simp [RowKit.intOf]
        | false =>
          have hf : Hid (G = false) := by show _ = _; rw [← hG.out]; exact all_bad (k := 1) (by rw [hL.out]; rfl)
          go_wp2_with (go_at_call 17; refine (q1 _).mono ?_; rintro e w2 ⟨rfl, hk2⟩)
          go_ret
          exact ⟨ret_bool hf.out.symm, (hw.trans kb).trans hk2⟩
      · have kb := kept_alloc [] wr (.cells #[.int .i64 t, .int .i64 1, .int .i64 16, .int .i64 1] 43)
        have ix : ∀ w, (Instr.index 44 (.agg #[.int .i64 z, .int .i64 4, .int .i64 256, .int .i64 4, .int .i64 h, .int .i64 3, .int .i64 16, .int .i64 1, .int .i64 t, .int .i64 1, .int .i64 16, .int .i64 1, .int .i64 n, .int .i64 1, .int .i64 64, .int .i64 1, .int .i64 p, .int .i64 2, .int .i64 100, .int .i64 1]) (.int .i64 2)).run Try.prog w = .ok (.agg #[.int .i64 t, .int .i64 1, .int .i64 16, .int .i64 1]) w := fun _ => by kernel_rfl
        cases b2 with
        | true =>
          go_wp2_with (go_at_call 17; refine (q2 _).mono ?_; rintro e w2 ⟨rfl, hk2⟩)
          go_roundw
          case rel => exact ⟨3, by omega, by go_num, (hw.trans kb).trans hk2, all_step (k := 2) (by rw [hL.out]; rfl) hA.out⟩
          case measure => simp [RowKit.intOf]
        | false =>
          have hf : Hid (G = false) := by show _ = _; rw [← hG.out]; exact all_bad (k := 2) (by rw [hL.out]; rfl)
          go_wp2_with (go_at_call 17; refine (q2 _).mono ?_; rintro e w2 ⟨rfl, hk2⟩)
          go_ret
          exact ⟨ret_bool hf.out.symm, (hw.trans kb).trans hk2⟩
      · have kb := kept_alloc [] wr (.cells #[.int .i64 n, .int .i64 1, .int .i64 64, .int .i64 1] 43)
        have ix : ∀ w, (Instr.index 44 (.agg #[.int .i64 z, .int .i64 4, .int .i64 256, .int .i64 4, .int .i64 h, .int .i64 3, .int .i64 16, .int .i64 1, .int .i64 t, .int .i64 1, .int .i64 16, .int .i64 1, .int .i64 n, .int .i64 1, .int .i64 64, .int .i64 1, .int .i64 p, .int .i64 2, .int .i64 100, .int .i64 1]) (.int .i64 3)).run Try.prog w = .ok (.agg #[.int .i64 n, .int .i64 1, .int .i64 64, .int .i64 1]) w := fun _ => by kernel_rfl
        cases b3 with
        | true =>
          go_wp2_with (go_at_call 17; refine (q3 _).mono ?_; rintro e w2 ⟨rfl, hk2⟩)
          go_roundw
          case rel => exact ⟨4, by omega, by go_num, (hw.trans kb).trans hk2, all_step (k := 3) (by rw [hL.out]; rfl) hA.out⟩
          case measure => simp [RowKit.intOf]
        | false =>
          have hf : Hid (G = false) := by show _ = _; rw [← hG.out]; exact all_bad (k := 3) (by rw [hL.out]; rfl)
          go_wp2_with (go_at_call 17; refine (q3 _).mono ?_; rintro e w2 ⟨rfl, hk2⟩)
          go_ret
          exact ⟨ret_bool hf.out.symm, (hw.trans kb).trans hk2⟩
      · have kb := kept_alloc [] wr (.cells #[.int .i64 p, .int .i64 2, .int .i64 100, .int .i64 1] 43)
        have ix : ∀ w, (Instr.index 44 (.agg #[.int .i64 z, .int .i64 4, .int .i64 256, .int .i64 4, .int .i64 h, .int .i64 3, .int .i64 16, .int .i64 1, .int .i64 t, .int .i64 1, .int .i64 16, .int .i64 1, .int .i64 n, .int .i64 1, .int .i64 64, .int .i64 1, .int .i64 p, .int .i64 2, .int .i64 100, .int .i64 1]) (.int .i64 4)).run Try.prog w = .ok (.agg #[.int .i64 p, .int .i64 2, .int .i64 100, .int .i64 1]) w := fun _ => by kernel_rfl
        cases b4 with
        | true =>
          go_wp2_with (go_at_call 17; refine (q4 _).mono ?_; rintro e w2 ⟨rfl, hk2⟩)
          go_roundw
          case rel => exact ⟨5, by omega, by go_num, (hw.trans kb).trans hk2, all_step (k := 4) (by rw [hL.out]; rfl) hA.out⟩
          case measure => simp [RowKit.intOf]
        | false =>
          have hf : Hid (G = false) := by show _ = _; rw [← hG.out]; exact all_bad (k := 4) (by rw [hL.out]; rfl)
          go_wp2_with (go_at_call 17; refine (q4 _).mono ?_; rintro e w2 ⟨rfl, hk2⟩)
          go_ret
          exact ⟨ret_bool hf.out.symm, (hw.trans kb).trans hk2⟩
    · obtain rfl : k = 5 := by omega
      have hf : Hid (G = true) := by
        show _ = _
        rw [← hG.out, ← hA.out, List.take_of_length_le]
        rw [hL.out]
        simp
      go_wp2
      go_ret
      exact ⟨ret_bool hf.out.symm, hw⟩
end Go.Proofs.Ytmpblohagchhaaa.Request
