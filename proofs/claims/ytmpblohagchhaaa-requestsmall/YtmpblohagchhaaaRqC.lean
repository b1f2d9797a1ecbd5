/-
  The document's Good; a kind's word, the program's and the document's; fits, mayBe and Check.
-/
import Derived.Test.YtmpblohagchhaaaRqB
namespace Go.Proofs.Ytmpblohagchhaaa.Request
open Go.RowKit
open Span (ret_bool ret_int)

theorem cgood_iff (z h t n p : Int) : cgood z h t n p = true ↔ 4 ≤ z ∧ z ≤ 256 ∧ z % 4 = 0 ∧ 3 ≤ h ∧ h ≤ 16 ∧ 1 ≤ t ∧ t ≤ 16 ∧ 1 ≤ n ∧ n ≤ 64 ∧ 2 ≤ p ∧ p ≤ 100 := by
  simp only [cgood, lim, Bool.and_eq_true, decide_eq_true_iff]
  omega
theorem cgood_not {z h t n p : Int} (g : ¬ (4 ≤ z ∧ z ≤ 256 ∧ z % 4 = 0 ∧ 3 ≤ h ∧ h ≤ 16 ∧ 1 ≤ t ∧ t ≤ 16 ∧ 1 ≤ n ∧ n ≤ 64 ∧ 2 ≤ p ∧ p ≤ 100)) : cgood z h t n p = false := by
  rw [Bool.eq_false_iff]
  exact fun e => g ((cgood_iff z h t n p).1 e)
set_option maxRecDepth 100000 in
set_option maxHeartbeats 1000000 in
/-- the document's Good -/
theorem rgood_any (z h t n p : Int) (h0 : -9223372036854775808 ≤ z) (h1 : z ≤ 9223372036854775807) (w : World) : Calls Try.prog 7 #[.agg #[.int .i64 z, .int .i64 h, .int .i64 t, .int .i64 n, .int .i64 p]] w fun e w' => e = .returned (.bool (cgood z h t n p)) ∧ Kept [] w w' := by
  obtain ⟨G, hG⟩ : ∃ G, cgood z h t n p = G := ⟨_, rfl⟩
  rw [hG]
  replace hG : Hid (cgood z h t n p = G) := hG
  have hk := kept_alloc [] w (.cells #[.int .i64 z, .int .i64 h, .int .i64 t, .int .i64 n, .int .i64 p] 23)
  by_cases c0 : 4 ≤ z
  · by_cases c1 : z ≤ 256
    · by_cases c2 : z % 4 = 0
      · by_cases c3 : 3 ≤ h
        · by_cases c4 : h ≤ 16
          · by_cases c5 : 1 ≤ t
            · by_cases c6 : t ≤ 16
              · by_cases c7 : 1 ≤ n
                · by_cases c8 : n ≤ 64
                  · by_cases c9 : 2 ≤ p
                    · by_cases c10 : p ≤ 100
                      · have hf : Hid (G = true) := by show _ = _; rw [← hG.out]; exact (cgood_iff _ _ _ _ _).2 (by omega)
                        go_enter Try.func7, Try.ntmps7
                        go_wp2_with fail
                        go_ret
                        exact ⟨ret_bool hf.out.symm, hk⟩
                      · have hf : Hid (G = false) := by show _ = _; rw [← hG.out]; exact cgood_not (by omega)
                        go_enter Try.func7, Try.ntmps7
                        go_wp2_with fail
                        go_ret
                        exact ⟨ret_bool hf.out.symm, hk⟩
                    · have hf : Hid (G = false) := by show _ = _; rw [← hG.out]; exact cgood_not (by omega)
                      go_enter Try.func7, Try.ntmps7
                      go_wp2_with fail
                      go_ret
                      exact ⟨ret_bool hf.out.symm, hk⟩
                  · have hf : Hid (G = false) := by show _ = _; rw [← hG.out]; exact cgood_not (by omega)
                    go_enter Try.func7, Try.ntmps7
                    go_wp2_with fail
                    go_ret
                    exact ⟨ret_bool hf.out.symm, hk⟩
                · have hf : Hid (G = false) := by show _ = _; rw [← hG.out]; exact cgood_not (by omega)
                  go_enter Try.func7, Try.ntmps7
                  go_wp2_with fail
                  go_ret
                  exact ⟨ret_bool hf.out.symm, hk⟩
              · have hf : Hid (G = false) := by show _ = _; rw [← hG.out]; exact cgood_not (by omega)
                go_enter Try.func7, Try.ntmps7
                go_wp2_with fail
                go_ret
                exact ⟨ret_bool hf.out.symm, hk⟩
            · have hf : Hid (G = false) := by show _ = _; rw [← hG.out]; exact cgood_not (by omega)
              go_enter Try.func7, Try.ntmps7
              go_wp2_with fail
              go_ret
              exact ⟨ret_bool hf.out.symm, hk⟩
          · have hf : Hid (G = false) := by show _ = _; rw [← hG.out]; exact cgood_not (by omega)
            go_enter Try.func7, Try.ntmps7
            go_wp2_with fail
            go_ret
            exact ⟨ret_bool hf.out.symm, hk⟩
        · have hf : Hid (G = false) := by show _ = _; rw [← hG.out]; exact cgood_not (by omega)
          go_enter Try.func7, Try.ntmps7
          go_wp2_with fail
          go_ret
          exact ⟨ret_bool hf.out.symm, hk⟩
      · have hf : Hid (G = false) := by show _ = _; rw [← hG.out]; exact cgood_not (by omega)
        have c2b : (z % 4 == 0) = false := by simp; omega
        go_enter Try.func7, Try.ntmps7
        go_wp2_with fail
        go_ret
        exact ⟨ret_bool hf.out.symm, hk⟩
    · have hf : Hid (G = false) := by show _ = _; rw [← hG.out]; exact cgood_not (by omega)
      go_enter Try.func7, Try.ntmps7
      go_wp2_with fail
      go_ret
      exact ⟨ret_bool hf.out.symm, hk⟩
  · have hf : Hid (G = false) := by show _ = _; rw [← hG.out]; exact cgood_not (by omega)
    go_enter Try.func7, Try.ntmps7
    go_wp2_with fail
    go_ret
    exact ⟨ret_bool hf.out.symm, hk⟩
end Go.Proofs.Ytmpblohagchhaaa.Request
