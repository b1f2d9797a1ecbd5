/-
  Numbers that came in; the walk of PlanOver.
-/
import Derived.Test.YthhdfndgkkjkpaaPlB
namespace Go.Proofs.Ythhdfndgkkjkpaa.Plan
open Go.RowKit
open Bits Bits.Math

theorem ints_kept {n : Nat} {A B : World} {v : Value} {zs : List Int} (h : IntsAt n A v zs) (hk : Kept [] A B) (hn : n ≤ A.heap.size) : IntsAt n B v zs := h.below (hk.below hn (by simp))
theorem ints_len {n : Nat} {W : World} {a : Option Addr} {len cap : Nat} {zs : List Int} (h : IntsAt n W (.slice a len cap) zs) : zs.length = len := by
  obtain ⟨_, _, e, _⟩ := h
  injection e with e1 e2 e3
  exact e2.symm
theorem ints_at {n : Nat} {W : World} {a : Option Addr} {len cap : Nat} {zs : List Int} (h : IntsAt n W (.slice a len cap) zs) {j : Nat} (hj : j < len) : ∃ b off z, a = some ⟨b, off, none⟩ ∧ W.cell? ⟨b, off + j, none⟩ = some (.int .i64 z) ∧ zs.take (j + 1) = zs.take j ++ [z] := by
  have hl := ints_len h
  obtain ⟨a', cap', e, h⟩ := h
  injection e with e1 e2 e3
  subst e1
  rcases h with rfl | ⟨b, off, rfl, _, hc⟩
  · simp at hl
    omega
  · have hj' : j < zs.length := by omega
    refine ⟨b, off, zs[j], rfl, ?_, ?_⟩
    · rw [hc j hj', List.getElem?_eq_getElem hj']
      rfl
    · rw [List.take_succ_eq_append_getElem hj']
set_option maxRecDepth 100000 in
set_option maxHeartbeats 1000000 in
/-- PlanOver -/
theorem over_play (m : Nat) (hm : m < 18446744073709551616) (a : Option Addr) (len cap : Nat) (zs : List Int) (hl : len ≤ 200) (w : World) (hz : IntsAt w.heap.size w (.slice a len cap) zs) :
    Calls Try.prog 4 #[.int .u64 (m : Int), .slice a len cap] w fun e w' => e = .returned (.bool true) ∧ Kept [] w w' := by
  have i0 : ¬ ((200 : Int) < (len : Int)) := by omega
  have hlen : Hid (zs.length = len) := ints_len hz
  have qn := new_any m hm w
  replace hz : Hid (IntsAt w.heap.size w (.slice a len cap) zs) := hz
  go_enter Try.func4, Try.ntmps4
  go_wp2_with (go_at_call 7; refine qn.mono ?_; rintro e w1 ⟨rfl, h1, hs1, hk1⟩; clear qn)
  go_loopw [18, 6] (fun i v wr => ∃ j k : Nat, j ≤ len ∧ k ≤ j ∧ i = .int .i64 j ∧ v = .int .i64 k ∧ PlAt wr w.heap.size m (leftN m (zs.take j)) ∧ k + pop (leftN m (zs.take j)) = pop m ∧ Kept [] w wr) (fun i _ _ => len - (RowKit.intOf i).toNat)
  case atStart => exact ⟨0, 0, by omega, by omega, rfl, rfl, by rw [List.take_zero, leftN_nil m hm]; exact h1, by rw [List.take_zero, leftN_nil m hm, Nat.zero_add], hk1⟩
  case round =>
    clear h1 hk1 hs1
    obtain ⟨j, k, hj, hkj, rfl, rfl, hP, hpop, hk⟩ := hrel
    by_cases hlt : j < len
    · obtain ⟨b, off, z, rfl, c1, hzj⟩ := ints_at (ints_kept hz.out hk (Nat.le_refl _)) hlt
      have hL : leftN m (zs.take (j + 1)) = without (leftN m (zs.take j)) z := by rw [hzj, leftN_snoc]
      have i1 : (j : Int) < (len : Int) := by omega
      have hm1 : Hid (len - (j + 1) < len - j) := by show _ < _; omega
      have q1 := have_any z wr hP
      have hs := hP.2.2
      rw [← hL] at q1
      cases ht : has (leftN m (zs.take j)) z with
      | false =>
        have hp2 : Hid (k + pop (leftN m (zs.take (j + 1))) = pop m) := by show _ = _; rw [hL, without_false hs ht]; exact hpop
        rw [ht] at q1
        clear ht hL hzj hpop hP hs
        go_wp2_with (first
          | (go_at_call 8; refine q1.mono ?_; rintro e w2 ⟨rfl, h2, hk2⟩; clear q1))
        go_roundw
        case rel => exact ⟨j + 1, k, by omega, by omega, by go_num, rfl, h2, hp2.out, hk.young hk2 (Nat.le_refl _)⟩
        case measure => simpa [RowKit.intOf] using hm1.out
      | true =>
        have hp2 : Hid (k + 1 + pop (leftN m (zs.take (j + 1))) = pop m) := by show _ = _; rw [hL]; have := pop_without hs ht; omega
        rw [ht] at q1
        clear ht hL hzj hpop hP hs
        go_wp2_with (first
          | (go_at_call 8; refine q1.mono ?_; rintro e w2 ⟨rfl, h2, hk2⟩; clear q1))
        go_roundw
        case rel => exact ⟨j + 1, k + 1, by omega, by omega, by go_num, by go_num, h2, hp2.out, hk.young hk2 (Nat.le_refl _)⟩
        case measure => simpa [RowKit.intOf] using hm1.out
    · obtain rfl : j = len := by omega
      rw [show zs.take j = zs from by rw [← hlen.out]; exact List.take_length] at hP hpop
      have hIz := ints_kept hz.out hk (Nat.le_refl _)
      have qo := refOf_any (.slice a j cap) zs wr (by rw [hlen.out]; omega) (hIz.mono hk.size)
      have hp := pop_left m zs hm
      have hlt64 := ofL_lt zs
      have eN := u64_andNot_nat m (ofL zs) hm hlt64
      have eA := u64_and_nat m (ofL zs) hm hlt64
      rw [show m &&& (18446744073709551615 - ofL zs) = leftN m zs from rfl] at eN
      have hkp : Hid ((elems (m &&& ofL zs)).length = k) := by show _ = _; rw [← pop_elems]; omega
      have qL := refList_any (m &&& ofL zs) wr (Nat.lt_of_le_of_lt Nat.and_le_left hm)
      have q1 := over_any wr hP
      have q2 := left_any wr hP
      have q := fun W => lives_any W
      clear hp hpop hP hIz hz
      generalize leftN m zs = L at *
      generalize m &&& ofL zs = M at *
      by_cases h0 : L = 0
      · subst h0
        rw [show decide (0 = 0) = true from rfl] at q1
        go_wp2_with (first
          | (go_at_call 15; refine qo.mono ?_; rintro e wr ⟨rfl, rfl⟩)
          | (go_at_call 11; refine q1.mono ?_; rintro e wr ⟨rfl, rfl⟩)
          | (go_at_call 10; refine q2.mono ?_; rintro e wr ⟨rfl, rfl⟩)
          | (go_at_call 14; refine qL.mono ?_; rintro e w3 ⟨v, rfl, hrow, hB⟩; obtain ⟨la, lc, rfl, -⟩ := intsAt_of_owns hrow; rw [List.length_map, hkp.out])
          | (go_at_call 6; refine (q _).mono ?_; rintro e w4 ⟨rfl, hk4⟩))
        go_ret
        exact ⟨rfl, (hk.trans (Kept.of_below hB [])).trans hk4⟩
      · have i3 : (((L : Nat) : Int) == 0) = false := by simp; omega
        rw [show decide (L = 0) = false from decide_eq_false h0] at q1
        clear h0
        go_wp2_with (first
          | (go_at_call 15; refine qo.mono ?_; rintro e wr ⟨rfl, rfl⟩)
          | (go_at_call 11; refine q1.mono ?_; rintro e wr ⟨rfl, rfl⟩)
          | (go_at_call 10; refine q2.mono ?_; rintro e wr ⟨rfl, rfl⟩)
          | (go_at_call 14; refine qL.mono ?_; rintro e w3 ⟨v, rfl, hrow, hB⟩; obtain ⟨la, lc, rfl, -⟩ := intsAt_of_owns hrow; rw [List.length_map, hkp.out])
          | (go_at_call 6; refine (q _).mono ?_; rintro e w4 ⟨rfl, hk4⟩))
        go_ret
        exact ⟨rfl, (hk.trans (Kept.of_below hB [])).trans hk4⟩
end Go.Proofs.Ythhdfndgkkjkpaa.Plan
