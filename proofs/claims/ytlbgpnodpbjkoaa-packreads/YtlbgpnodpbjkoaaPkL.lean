/-
  The walks of the document's Name, and of lives.
-/
import Derived.Test.YtlbgpnodpbjkoaaPkG
import Derived.Test.YtlbgpnodpbjkoaaPkI
namespace Go.Proofs.Ytlbgpnodpbjkoaa.Pack
open Go.RowKit
open Seal (enc ret_bool ret_int)
open Seal.Math

set_option maxRecDepth 100000 in
set_option maxHeartbeats 4000000 in
/-- twainref17.Name -/
theorem refName_any (k : Int) (w : World) : Calls Try.prog 13 #[.int .i64 k] w fun e w' => e = .returned (.string (wordOf k)) ∧ Kept [] w w' := by
  by_cases h : 1 ≤ k ∧ k ≤ 8
  · have hk : k = 1 ∨ k = 2 ∨ k = 3 ∨ k = 4 ∨ k = 5 ∨ k = 6 ∨ k = 7 ∨ k = 8 := by omega
    clear h
    rcases hk with rfl | rfl | rfl | rfl | rfl | rfl | rfl | rfl
    all_goals
      go_enter Try.func13, Try.ntmps13
      go_wp2_with fail
      go_ret
      exact ⟨rfl, kept_alloc [] _ _⟩
  · have e : Hid (wordOf k = { data := #[117, 110, 107, 110, 111, 119, 110] }) := by
      show _ = _
      unfold wordOf isKind
      rw [decide_eq_false h]
      rfl
    generalize wordOf k = nm at *
    by_cases h1 : k < 1
    · go_enter Try.func13, Try.ntmps13
      go_wp2_with fail
      go_ret
      exact ⟨by rw [e.out]; rfl, kept_alloc [] _ _⟩
    · have h8 : 8 < k := by omega
      go_enter Try.func13, Try.ntmps13
      go_wp2_with fail
      go_ret
      exact ⟨by rw [e.out]; rfl, kept_alloc [] _ _⟩
theorem bytes_end : bytesL ⟨8, 0, 0, 0, false, []⟩ = [8] := by
  rw [bytesL_in ((fine8 rfl).2 ⟨rfl, rfl, rfl, rfl, rfl⟩)]
  rfl
theorem parse_nine : parseE [9] = 9 := (parse_bad (k := 9) (l := []) (by decide) (by decide) (by rw [bytesL_out (not_fine_kind (by right; decide))]; simp)).2
theorem word_have : wordOf 7 = { data := #[104, 97, 118, 101] } := rfl
set_option maxRecDepth 100000 in
set_option maxHeartbeats 4000000 in
/-- lives -/
theorem lives_any (w : World) : Calls Try.prog 7 #[] w fun e w' => e = .returned (.bool true) ∧ Kept [] w w' := by
  have hk0 := kept_alloc [] w (.cells #[.int .u8 9] 5)
  have hr0 := one_rowC w 9 9 rfl (by decide)
  have q1 := parse_any _ [9] _ _ _ hr0 (by simp) (by simp)
  rw [parse_nine] at q1
  have q2 : ∀ W : World, Calls Try.prog 10 #[.agg #[.int .i64 8, .int .i64 0, .int .i64 0, .int .u64 0, .bool false, .slice none 0 0]] W fun e w' => ∃ sa cap, e = .returned (.slice sa 1 cap) ∧ Own w' W.heap.size (.slice sa 1 cap) [8] ∧ Kept [] W w' := fun W => by
    have := bytes_any ⟨8, 0, 0, 0, false, none, 0, 0, []⟩ 0 0 W ⟨byteRow_nil _ _ _, by show (0 : Nat) < _; decide, by show _ ≤ (0 : Int); decide, by show (0 : Int) ≤ _; decide⟩ (Nat.zero_le _) (by show (0 : Nat) ≤ _; decide)
    simp only [Mv.ms, bytes_end] at this
    exact this
  have q3 : ∀ W : World, Calls Try.prog 12 #[.int .i64 7] W fun e w' => e = .returned (.string { data := #[104, 97, 118, 101] }) ∧ Kept [] W w' := fun W => name_any 7 W
  have ht : txt [8] = { data := #[8] } := rfl
  go_enter Try.func7, Try.ntmps7
  go_wp2_with (first
    | (go_at_call 14; refine q1.mono ?_; rintro e w1 ⟨y, rfl, -, -, hk1⟩; clear q1)
    | (go_at_call 10; refine (q2 _).mono ?_; rintro e w2 ⟨sa2, cap2, rfl, hR2, hk2⟩; have cv := conv_txt hR2.byteRow; rw [ht] at cv; clear hR2)
    | (go_at_call 12; refine (q3 _).mono ?_; rintro e w3 ⟨rfl, hk3⟩))
  go_ret
  exact ⟨rfl, ((hk0.trans hk1).trans (kept_alloc [] _ _)).trans (hk2.trans hk3)⟩
end Go.Proofs.Ytlbgpnodpbjkoaa.Pack
