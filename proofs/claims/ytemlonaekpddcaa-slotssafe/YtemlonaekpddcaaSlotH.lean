/-
  The walk of SlotsSafe.
-/
import Derived.Test.YtemlonaekpddcaaSlotF
namespace Go.Proofs.Ytemlonaekpddcaa
open Go.RowKit Go.Maps Go.Shelf
open Math

/-- Words in a slice. -/
def WordsAt (W : World) (a : Option Addr) (len cap : Nat) (ws : List Nat) : Prop :=
  ws.length = len ∧ (∀ y ∈ ws, y < 18446744073709551616) ∧ (ws = [] ∨ ∃ b off, a = some ⟨b, off, none⟩ ∧ len ≤ cap ∧ b < W.heap.size ∧ ∀ j y : Nat, ws[j]? = some y → W.cell? ⟨b, off + j, none⟩ = some (.int .u64 (y : Int)))
theorem cell_kept {A B : World} {b o : Nat} (h : Kept [] A B) (hb : b < A.heap.size) : B.cell? ⟨b, o, none⟩ = A.cell? ⟨b, o, none⟩ := by
  have := h.block b hb (by simp)
  simp only [World.cell?, this]
theorem WordsAt.kept {A B : World} {a : Option Addr} {len cap : Nat} {ws : List Nat} (h : WordsAt A a len cap ws) (hk : Kept [] A B) : WordsAt B a len cap ws := by
  obtain ⟨h1, h2, h3⟩ := h
  refine ⟨h1, h2, ?_⟩
  rcases h3 with h3 | ⟨b, off, ha, hc, hb, hcell⟩
  · exact .inl h3
  · exact .inr ⟨b, off, ha, hc, Nat.lt_of_lt_of_le hb hk.size, fun j y hy => (cell_kept hk hb).trans (hcell j y hy)⟩

set_option maxRecDepth 100000 in
set_option maxHeartbeats 1000000 in
/-- SlotsSafe, of what is too long -/
theorem safe_early (a0 : Option Addr) (len cap : Nat) (r k : Int) (mask : Nat) (hlen : len ≤ 9223372036854775807) (w : World) (hno : r < 2 ∨ 8 < r ∨ 30 < len ∨ k < 0 ∨ 100 < k) :
    Calls Try.prog 5 #[.slice a0 len cap, .agg #[.int .i64 r, .int .i64 k, .int .u64 (mask : Int)]] w fun e w' => e = .returned (.bool true) ∧ Kept [] w w' := by
  have q3 := lives_any
  have hk0 := kept_alloc [] w (.cells #[.int .i64 r, .int .i64 k, .int .u64 (mask : Int)] 57)
  rcases (show r < 2 ∨ (¬ (r < 2) ∧ 8 < r) ∨ (¬ (r < 2) ∧ ¬ (8 < r) ∧ (30 : Int) < (len : Int)) ∨ (¬ (r < 2) ∧ ¬ (8 < r) ∧ ¬ ((30 : Int) < (len : Int)) ∧ k < 0) ∨ (¬ (r < 2) ∧ ¬ (8 < r) ∧ ¬ ((30 : Int) < (len : Int)) ∧ ¬ (k < 0) ∧ 100 < k) by omega) with g1 | ⟨g1, g2⟩ | ⟨g1, g2, g3⟩ | ⟨g1, g2, g3, g4⟩ | ⟨g1, g2, g3, g4, g5⟩
  all_goals clear hno
  · go_enter Try.func5, Try.ntmps5
    go_wp2_with fail
    go_quiet (fail)
    replace hk0 := hk0.trans (kept_drewN [] _ nq)
    go_wp2_with (first
      | (go_at_call 7; refine (q3 _).mono ?_; rintro e w3 ⟨rfl, hk3⟩))
    go_ret
    exact ⟨rfl, hk0.trans hk3⟩
  · go_enter Try.func5, Try.ntmps5
    go_wp2_with fail
    go_quiet (fail)
    replace hk0 := hk0.trans (kept_drewN [] _ nq)
    go_wp2_with (first
      | (go_at_call 7; refine (q3 _).mono ?_; rintro e w3 ⟨rfl, hk3⟩))
    go_ret
    exact ⟨rfl, hk0.trans hk3⟩
  · go_enter Try.func5, Try.ntmps5
    go_wp2_with fail
    go_quiet (fail)
    replace hk0 := hk0.trans (kept_drewN [] _ nq)
    go_wp2_with (first
      | (go_at_call 7; refine (q3 _).mono ?_; rintro e w3 ⟨rfl, hk3⟩))
    go_ret
    exact ⟨rfl, hk0.trans hk3⟩
  · go_enter Try.func5, Try.ntmps5
    go_wp2_with fail
    go_quiet (fail)
    replace hk0 := hk0.trans (kept_drewN [] _ nq)
    go_wp2_with (first
      | (go_at_call 7; refine (q3 _).mono ?_; rintro e w3 ⟨rfl, hk3⟩))
    go_ret
    exact ⟨rfl, hk0.trans hk3⟩
  · go_enter Try.func5, Try.ntmps5
    go_wp2_with fail
    go_quiet (fail)
    replace hk0 := hk0.trans (kept_drewN [] _ nq)
    go_wp2_with (first
      | (go_at_call 7; refine (q3 _).mono ?_; rintro e w3 ⟨rfl, hk3⟩))
    go_ret
    exact ⟨rfl, hk0.trans hk3⟩
end Go.Proofs.Ytemlonaekpddcaa
