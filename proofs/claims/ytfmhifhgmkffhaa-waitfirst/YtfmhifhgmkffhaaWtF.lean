/-
  abs, meets, lives.
-/
import Derived.Test.YtfmhifhgmkffhaaWtE
namespace Go.Proofs.Ytfmhifhgmkffhaa.Wait
open Go.RowKit

set_option maxRecDepth 100000 in
set_option maxHeartbeats 1000000 in
/-- abs -/
theorem abs_any (n : Int) (w : World) :
    Calls Try.prog 11 #[.int .i64 n] w fun e w' => ∃ A, e = .returned (.int .i64 A) ∧ 0 ≤ A ∧ w' = w := by
  by_cases h : n < 0
  · have hb : -3 < Int.tmod n 3 ∧ Int.tmod n 3 ≤ 0 := by
      have a2 := Int.tmod_lt_of_pos (-n) (b := 3) (by omega)
      have a3 : 0 ≤ Int.tmod (-n) 3 := Int.tmod_nonneg 3 (by omega)
      rw [Int.neg_tmod] at a2 a3
      omega
    have hc : Hid (Int.tmod n 3 ≤ 0) := hb.2
    go_enter Try.func11, Try.ntmps11
    go_wp2_with fail
    go_ret
    exact ⟨_, rfl, by have := hc.out; omega, rfl⟩
  · have h' : Hid (0 ≤ n) := by show _ ≤ _; omega
    go_enter Try.func11, Try.ntmps11
    go_wp2_with fail
    go_ret
    exact ⟨_, rfl, h'.out, rfl⟩
theorem meets_not {o l p m : Int} (h : ¬ (0 ≤ o ∧ o ≤ 1073741824 ∧ 0 ≤ l ∧ l ≤ 1073741824 ∧ 0 ≤ p ∧ p ≤ 1073741824 ∧ 0 ≤ m ∧ m ≤ 1073741824 ∧ 0 < l ∧ 0 < m ∧ o < p + m ∧ p < o + l)) : meetsB o l p m = false := by
  cases e : meetsB o l p m with
  | false => rfl
  | true =>
    refine absurd ?_ h
    unfold meetsB at e
    simp only [Bool.and_eq_true, decide_eq_true_eq] at e
    obtain ⟨e1, e2, e3, e4, e5, e6⟩ := e
    have := Span.Math.of_plain e1
    have := Span.Math.of_plain e2
    omega
theorem meets_yes {o l p m : Int} (h : 0 ≤ o ∧ o ≤ 1073741824 ∧ 0 ≤ l ∧ l ≤ 1073741824 ∧ 0 ≤ p ∧ p ≤ 1073741824 ∧ 0 ≤ m ∧ m ≤ 1073741824 ∧ 0 < l ∧ 0 < m ∧ o < p + m ∧ p < o + l) : meetsB o l p m = true := by
  unfold meetsB
  rw [Span.Math.plain_of (by omega), Span.Math.plain_of (by omega)]
  simp [h]
set_option maxRecDepth 100000 in
set_option maxHeartbeats 4000000 in
/-- meets -/
theorem meets_any (o l p m : Int) (w : World) :
    Calls Try.prog 12 #[.agg #[.int .i64 o, .int .i64 l], .agg #[.int .i64 p, .int .i64 m]] w fun e w' => e = .returned (.bool (meetsB o l p m)) ∧ Kept [] w w' := by
  have k1 := kept_alloc [] w (.cells #[.int .i64 o, .int .i64 l] 37)
  have k2 := kept_alloc [] (w.alloc (.cells #[.int .i64 o, .int .i64 l] 37)) (.cells #[.int .i64 p, .int .i64 m] 37)
  have hk := k1.trans k2
  clear k1 k2
  by_cases a1 : o < 0
  · rw [meets_not (by omega)]
    go_enter Try.func12, Try.ntmps12
    go_wp2_with fail
    go_ret
    exact ⟨rfl, hk⟩
  by_cases a2 : 1073741824 < o
  · rw [meets_not (by omega)]
    go_enter Try.func12, Try.ntmps12
    go_wp2_with fail
    go_ret
    exact ⟨rfl, hk⟩
  by_cases a3 : l < 0
  · rw [meets_not (by omega)]
    go_enter Try.func12, Try.ntmps12
    go_wp2_with fail
    go_ret
    exact ⟨rfl, hk⟩
  by_cases a4 : 1073741824 < l
  · rw [meets_not (by omega)]
    go_enter Try.func12, Try.ntmps12
    go_wp2_with fail
    go_ret
    exact ⟨rfl, hk⟩
  by_cases a5 : p < 0
  · rw [meets_not (by omega)]
    go_enter Try.func12, Try.ntmps12
    go_wp2_with fail
    go_ret
    exact ⟨rfl, hk⟩
  by_cases a6 : 1073741824 < p
  · rw [meets_not (by omega)]
    go_enter Try.func12, Try.ntmps12
    go_wp2_with fail
    go_ret
    exact ⟨rfl, hk⟩
  by_cases a7 : m < 0
  · rw [meets_not (by omega)]
    go_enter Try.func12, Try.ntmps12
    go_wp2_with fail
    go_ret
    exact ⟨rfl, hk⟩
  by_cases a8 : 1073741824 < m
  · rw [meets_not (by omega)]
    go_enter Try.func12, Try.ntmps12
    go_wp2_with fail
    go_ret
    exact ⟨rfl, hk⟩
  by_cases b1 : 0 < l
  · by_cases b2 : 0 < m
    · by_cases b3 : o < p + m
      · by_cases b4 : p < o + l
        · rw [meets_yes (by omega)]
          go_enter Try.func12, Try.ntmps12
          go_wp2_with fail
          go_ret
          exact ⟨rfl, hk⟩
        · rw [meets_not (by omega)]
          go_enter Try.func12, Try.ntmps12
          go_wp2_with fail
          go_ret
          exact ⟨rfl, hk⟩
      · rw [meets_not (by omega)]
        go_enter Try.func12, Try.ntmps12
        go_wp2_with fail
        go_ret
        exact ⟨rfl, hk⟩
    · rw [meets_not (by omega)]
      go_enter Try.func12, Try.ntmps12
      go_wp2_with fail
      go_ret
      exact ⟨rfl, hk⟩
  · rw [meets_not (by omega)]
    go_enter Try.func12, Try.ntmps12
    go_wp2_with fail
    go_ret
    exact ⟨rfl, hk⟩

def three : List It := [⟨1, 1, 0, 2⟩, ⟨2, 0, 1, 1⟩, ⟨3, 0, 2, 1⟩]
set_option maxRecDepth 100000 in
set_option maxHeartbeats 1000000 in
/-- lives -/
theorem lives_any (w : World) : Calls Try.prog 5 #[] w fun e w' => e = .returned (.bool true) ∧ Kept [] w w' := by
  have kA := kept_alloc [] w (.cells #[.int .i64 1, .int .i64 1, .int .i64 0, .int .i64 2, .int .i64 2, .int .i64 0, .int .i64 1, .int .i64 1, .int .i64 3, .int .i64 0, .int .i64 2, .int .i64 1] 39)
  have hB := blk_new w 39 #[.int .i64 1, .int .i64 1, .int .i64 0, .int .i64 2, .int .i64 2, .int .i64 0, .int .i64 1, .int .i64 1, .int .i64 3, .int .i64 0, .int .i64 2, .int .i64 1]
  have hL : Lies (w.alloc (.cells #[.int .i64 1, .int .i64 1, .int .i64 0, .int .i64 2, .int .i64 2, .int .i64 0, .int .i64 1, .int .i64 1, .int .i64 3, .int .i64 0, .int .i64 2, .int .i64 1] 39)) w.heap.size three := by
    refine ⟨_, hB, fun j x hx i v hv => ?_⟩
    have e := itC_get three j x hx i v hv
    have : (#[.int .i64 1, .int .i64 1, .int .i64 0, .int .i64 2, .int .i64 2, .int .i64 0, .int .i64 1, .int .i64 1, .int .i64 3, .int .i64 0, .int .i64 2, .int .i64 1] : Array Value) = (itC three).toArray := rfl
    rw [this]
    simpa using e
  have q := fun W (k : Kept [] (w.alloc (.cells #[.int .i64 1, .int .i64 1, .int .i64 0, .int .i64 2, .int .i64 2, .int .i64 0, .int .i64 1, .int .i64 1, .int .i64 3, .int .i64 0, .int .i64 2, .int .i64 1] 39)) W) i => may_any i (some ⟨w.heap.size, 0, none⟩) none none 3 3 0 0 0 0 three [] [] (by omega) (by omega) (by omega) W ((hL.kept k).its (cap := 3) (Nat.le_refl _)) (its_nil _) (sps_nil _)
  have q0 := fun W k => q W k 0
  have q1 := fun W k => q W k 1
  have q2 := fun W k => q W k 2
  rw [show mayZ three [] [] 0 = true from rfl] at q0
  rw [show mayZ three [] [] 1 = false from rfl] at q1
  rw [show mayZ three [] [] 2 = true from rfl] at q2
  clear q hL hB
  go_enter Try.func5, Try.ntmps5
  go_wp2_with (first
    | (go_at_call 7; refine (q0 _ (Kept.refl _ _)).mono ?_; rintro e w1 ⟨rfl, hk1⟩; clear q0)
    | (go_at_call 7; refine (q1 _ hk1).mono ?_; rintro e w2 ⟨rfl, hk2⟩; clear q1)
    | (go_at_call 7; refine (q2 _ (hk1.trans hk2)).mono ?_; rintro e w3 ⟨rfl, hk3⟩; clear q2))
  go_ret
  exact ⟨rfl, ((kA.trans hk1).trans hk2).trans hk3⟩
end Go.Proofs.Ytfmhifhgmkffhaa.Wait
