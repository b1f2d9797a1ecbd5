/-
  The acts of SlotsActs, as they lie in a slice and in a block; plays that are too long, and of a length that no disk has.
-/
import Derived.Test.YtemlonaekpddcaaSlotF
namespace Go.Proofs.Ytemlonaekpddcaa
open Go.RowKit Go.Maps Go.Shelf
open Math

/-- An act. -/
structure Sa where
  kind : Int
  at_ : Int
  word : Nat
  mask : Nat
  s : List Nat
structure Sa.Ok (a : Sa) : Prop where
  k0 : -9223372036854775808 ≤ a.kind
  k1 : a.kind ≤ 9223372036854775807
  a0 : -9223372036854775808 ≤ a.at_
  a1 : a.at_ ≤ 9223372036854775807
  w : a.word < 18446744073709551616
  m : a.mask < 18446744073709551616
  sec : Sec a.s
def Sa.cells (a : Sa) : List Value := .int .i64 a.kind :: .int .i64 a.at_ :: .int .u64 (a.word : Int) :: .int .u64 (a.mask : Int) :: a.s.map enc
/-- The acts of a slice, in a block below n₀ where there is one. -/
def ActsAt (n₀ : Nat) (W : World) (a : Option Addr) (len cap : Nat) (acts : List Sa) : Prop :=
  acts.length = len ∧ (∀ x ∈ acts, x.Ok) ∧ (acts = [] ∨ ∃ b off, a = some ⟨b, off, none⟩ ∧ len ≤ cap ∧ b < n₀ ∧ ∀ j x, acts[j]? = some x → W.rangeAt b (off + j * 20) x.cells)
theorem ActsAt.below {n₀ : Nat} {A B : World} (h : Below n₀ A B) {a : Option Addr} {len cap : Nat} {acts : List Sa} : ActsAt n₀ A a len cap acts → ActsAt n₀ B a len cap acts
  | ⟨h1, h2, .inl r⟩ => ⟨h1, h2, .inl r⟩
  | ⟨h1, h2, .inr ⟨b, off, e, hl, hb, hc⟩⟩ => ⟨h1, h2, .inr ⟨b, off, e, hl, hb, fun j x hx i v hv => (h.cell (p := ⟨b, off + j * 20 + i, none⟩) hb).trans (hc j x hx i v hv)⟩⟩
theorem Try.size37 : (Try.prog.info? 37).map (·.size) = some 20 := by kernel_rfl
theorem Sa.cells_length (a : Sa) (h : a.Ok) : a.cells.length = 20 := by simp [Sa.cells, h.sec.1]
theorem act_range {W : World} {g : Nat} {a : Sa} (h : Blk W g 37 a.cells.toArray) :
    W.cell? ⟨g, 0, none⟩ = some (.int .i64 a.kind) ∧ W.cell? ⟨g, 1, none⟩ = some (.int .i64 a.at_) ∧ W.cell? ⟨g, 2, none⟩ = some (.int .u64 (a.word : Int)) ∧ W.cell? ⟨g, 3, none⟩ = some (.int .u64 (a.mask : Int)) ∧ W.rangeAt g 4 (a.s.map enc) := by
  refine ⟨by rw [h.cell]; rfl, by rw [h.cell]; rfl, by rw [h.cell]; rfl, by rw [h.cell]; rfl, h.range 4 _ (fun j v hv => ?_)⟩
  have := mid_of [.int .i64 a.kind, .int .i64 a.at_, .int .u64 (a.word : Int), .int .u64 (a.mask : Int)] (a.s.map enc) [] 4 rfl j v hv
  rwa [List.append_nil] at this
theorem one_cell_act (a : Sa) : ∀ v ∈ a.cells, v.oneCell' = true := by
  intro v hv
  simp only [Sa.cells, List.mem_cons, List.mem_map] at hv
  rcases hv with rfl | rfl | rfl | rfl | ⟨x, _, rfl⟩ <;> rfl

set_option maxRecDepth 100000 in
set_option maxHeartbeats 1000000 in
/-- SlotsActs, of what is too long -/
theorem acts_early (a0 : Option Addr) (len cap : Nat) (n base z : Int) (hlen : len ≤ 9223372036854775807) (w : World) (hno : 40 < n ∨ 50 < len) :
    Calls Try.prog 3 #[.slice a0 len cap, .agg #[.int .i64 n, .int .i64 base, .int .i64 z]] w fun e w' => e = .returned (.bool true) ∧ Kept [] w w' := by
  have q3 := lives_any
  have hk0 := kept_alloc [] w (.cells #[.int .i64 n, .int .i64 base, .int .i64 z] 24)
  rcases (show 40 < n ∨ (¬ (40 < n) ∧ (50 : Int) < (len : Int)) by omega) with g1 | ⟨g1, g2⟩
  · clear hno
    go_enter Try.func3, Try.ntmps3
    go_wp2_with fail
    go_quiet (fail)
    replace hk0 := hk0.trans (kept_drewN [] _ nq)
    go_wp2_with (first
      | (go_at_call 7; refine (q3 _).mono ?_; rintro e w3 ⟨rfl, hk3⟩))
    go_ret
    exact ⟨rfl, hk0.trans hk3⟩
  · clear hno
    go_enter Try.func3, Try.ntmps3
    go_wp2_with fail
    go_quiet (fail)
    replace hk0 := hk0.trans (kept_drewN [] _ nq)
    go_wp2_with (first
      | (go_at_call 7; refine (q3 _).mono ?_; rintro e w3 ⟨rfl, hk3⟩))
    go_ret
    exact ⟨rfl, hk0.trans hk3⟩

set_option maxRecDepth 100000 in
set_option maxHeartbeats 1000000 in
/-- SlotsActs, of a length that no disk has -/
theorem acts_none (a0 : Option Addr) (len cap : Nat) (n base z : Int) (hlen : len ≤ 50) (w : World) (hno : n < 1) :
    Calls Try.prog 3 #[.slice a0 len cap, .agg #[.int .i64 n, .int .i64 base, .int .i64 z]] w fun e w' => e = .returned (.bool true) ∧ Kept [] w w' := by
  have q3 := lives_any
  have q8 := fun W => new_none n (.inl hno) W
  have q9 := fun W => refNew_none n (.inl hno) W
  have hk0 := kept_alloc [] w (.cells #[.int .i64 n, .int .i64 base, .int .i64 z] 24)
  have g1 : ¬ (40 < n) := by omega
  have g2 : ¬ ((50 : Int) < (len : Int)) := by omega
  go_enter Try.func3, Try.ntmps3
  go_wp2_with fail
  go_quiet (fail)
  replace hk0 := hk0.trans (kept_drewN [] _ nq)
  generalize (w.alloc (.cells #[.int .i64 n, .int .i64 base, .int .i64 z] 24)).drewN nq = W0 at *
  go_wp2_with (first
    | (go_at_call 8; refine (q8 _).mono ?_; rintro e w1 ⟨rfl, rfl⟩)
    | (go_at_call 9; refine (q9 _).mono ?_; rintro e w2 ⟨rfl, rfl⟩)
    | (go_at_call 7; refine (q3 _).mono ?_; rintro e w3 ⟨rfl, hk3⟩))
  go_ret
  exact ⟨rfl, hk0.trans hk3⟩
end Go.Proofs.Ytemlonaekpddcaa
