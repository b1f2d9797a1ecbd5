/-
  The walks of slots.Place, isRing, holds, find and home.
-/
import Derived.Test.YtekjlmnnaaodjaaRing
namespace Go.Proofs.Ytekjlmnnaaodjaa
open Go.RowKit Go.Maps Go.Shelf
open Math

set_option maxRecDepth 100000 in
theorem record_any (n y : Nat) (w : World) (hn : n < 4294967296) (hy : y < 18446744073709551616) :
    Calls Try.prog 26 #[.int .u32 n, .int .u64 y] w fun e w' => e = .returned (arr (record n y)) ∧ Kept [] w w' :=
  (Seal.record_any n y w hn hy).mono (fun _ _ ⟨he, hb⟩ => ⟨he, Kept.of_below hb []⟩)
set_option maxRecDepth 100000 in
theorem open_any (x : List Nat) (w : World) (hx : Sec x) :
    Calls Try.prog 42 #[arr x] w fun e w' => (∃ b, e = .returned (.tuple #[.int .u32 (num x : Nat), .int .u64 (word x : Nat), .bool b])) ∧ Kept [] w w' :=
  (Seal.open_any x w hx.1 hx.2).mono (fun _ _ ⟨he, hb⟩ => ⟨⟨_, he⟩, Kept.of_below hb []⟩)
set_option maxRecDepth 100000 in
theorem Try.size64 : (Try.prog.info? 64).map (·.size) = some 3 := by kernel_rfl
set_option maxRecDepth 100000 in
theorem isRing_any (r : Int) (w : World) : Calls Try.prog 30 #[.int .i64 r] w fun e w' => e = .returned (.bool (decide (2 ≤ r) && decide (r ≤ 8))) ∧ w' = w := by
  go_enter Try.func30, Try.ntmps30
  go_wp2
  all_goals go_ret
  all_goals exact ⟨by simp <;> omega, rfl⟩

set_option maxRecDepth 100000 in
/-- Place -/
theorem place_any (n : Nat) (hn : n < 4294967296) (base r : Int) (w : World) : Calls Try.prog 25 #[.int .u32 n, .int .i64 base, .int .i64 r] w fun e w' => e = .returned (.int .i64 (placeOf n base r)) ∧ w' = w := by
  have q := isRing_any r w
  by_cases h12 : 2 ≤ r ∧ r ≤ 8
  · obtain ⟨h1, h2⟩ := h12
    rw [decide_eq_true h1, decide_eq_true h2] at q
    by_cases h34 : 0 ≤ base ∧ base ≤ 1024
    · obtain ⟨h3, h4⟩ := h34
      have e0 : placeOf n base r = base + (n : Int) % r := by simp [placeOf, isRing, h1, h2, h3, h4]
      have k1 : ¬ (base < 0) := by omega
      have k2 : ¬ (1024 < base) := by omega
      have hm1 : 0 ≤ (n : Int) % r := Int.emod_nonneg _ (by omega)
      have hm2 : (n : Int) % r < r := Int.emod_lt_of_pos _ (by omega)
      rw [e0]
      clear e0
      go_enter Try.func25, Try.ntmps25
      go_wp2_with (first
        | (go_at_call 30; refine q.mono ?_; rintro e w ⟨rfl, rfl⟩))
      go_ret
      exact ⟨rfl, rfl⟩
    · have e0 : placeOf n base r = 0 := by
        rw [placeOf, if_neg]
        simp only [isRing, Bool.and_eq_true, decide_eq_true_eq]
        omega
      rw [e0]
      clear e0
      rcases (show base < 0 ∨ (¬ (base < 0) ∧ 1024 < base) by omega) with k1 | ⟨k1, k2⟩
      · go_enter Try.func25, Try.ntmps25
        go_wp2_with (first
          | (go_at_call 30; refine q.mono ?_; rintro e w ⟨rfl, rfl⟩))
        go_ret
        exact ⟨rfl, rfl⟩
      · go_enter Try.func25, Try.ntmps25
        go_wp2_with (first
          | (go_at_call 30; refine q.mono ?_; rintro e w ⟨rfl, rfl⟩))
        go_ret
        exact ⟨rfl, rfl⟩
  · have e0 : placeOf n base r = 0 := by
      rw [placeOf, if_neg]
      simp only [isRing, Bool.and_eq_true, decide_eq_true_eq]
      omega
    have e1 : (decide (2 ≤ r) && decide (r ≤ 8)) = false := by simp; omega
    rw [e0]
    rw [e1] at q
    clear e0 e1
    go_enter Try.func25, Try.ntmps25
    go_wp2_with (first
      | (go_at_call 30; refine q.mono ?_; rintro e w ⟨rfl, rfl⟩))
    go_ret
    exact ⟨rfl, rfl⟩

set_option maxRecDepth 100000 in
/-- holds -/
theorem holds_any (d b1 b2 : Nat) (s : Dk) (base r : Int) (w : World) (h : DiskAt w d b1 b2 s) :
    Calls Try.prog 22 #[.pointer (some ⟨d, 0, none⟩), .int .i64 base, .int .i64 r] w fun e w' => e = .returned (.bool (hasRing s base r)) ∧ w' = w := by
  have q := isRing_any r w
  have q2 := size_any d b1 b2 s w h
  have v1 := h.valid.pos
  have v2 := h.valid.top
  by_cases h12 : 2 ≤ r ∧ r ≤ 8
  · obtain ⟨h1, h2⟩ := h12
    rw [decide_eq_true h1, decide_eq_true h2] at q
    by_cases h3 : 0 ≤ base
    · by_cases h4 : base ≤ (s.size : Int) - r
      · have e0 : hasRing s base r = true := by simp [hasRing]; omega
        rw [e0]
        clear e0 h
        go_enter Try.func22, Try.ntmps22
        go_wp2_with (first
          | (go_at_call 30; refine q.mono ?_; rintro e w ⟨rfl, rfl⟩)
          | (go_at_call 31; refine q2.mono ?_; rintro e w ⟨rfl, rfl⟩))
        go_ret
        exact ⟨rfl, rfl⟩
      · have e0 : hasRing s base r = false := by simp [hasRing]; omega
        rw [e0]
        clear e0 h
        go_enter Try.func22, Try.ntmps22
        go_wp2_with (first
          | (go_at_call 30; refine q.mono ?_; rintro e w ⟨rfl, rfl⟩)
          | (go_at_call 31; refine q2.mono ?_; rintro e w ⟨rfl, rfl⟩))
        go_ret
        exact ⟨by simp; omega, rfl⟩
    · have e0 : hasRing s base r = false := by simp [hasRing]; omega
      rw [e0]
      clear e0 h
      go_enter Try.func22, Try.ntmps22
      go_wp2_with (first
        | (go_at_call 30; refine q.mono ?_; rintro e w ⟨rfl, rfl⟩)
        | (go_at_call 31; refine q2.mono ?_; rintro e w ⟨rfl, rfl⟩))
      go_ret
      exact ⟨rfl, rfl⟩
  · have e0 : hasRing s base r = false := by simp [hasRing]; omega
    have e1 : (decide (2 ≤ r) && decide (r ≤ 8)) = false := by simp; omega
    rw [e0]
    rw [e1] at q
    clear e0 e1 h
    go_enter Try.func22, Try.ntmps22
    go_wp2_with (first
      | (go_at_call 30; refine q.mono ?_; rintro e w ⟨rfl, rfl⟩))
    go_ret
    exact ⟨rfl, rfl⟩

set_option maxRecDepth 100000 in
set_option maxHeartbeats 1000000 in
/-- find -/
theorem sfind_any (d b1 b2 : Nat) (s : Dk) (k : Int) (h0 : -9223372036854775808 ≤ k) (h1 : k ≤ 9223372036854775807) (w : World) (h : DiskAt w d b1 b2 s) :
    Calls Try.prog 32 #[.pointer (some ⟨d, 0, none⟩), .int .i64 k] w fun e w' => e = .returned (.agg #[.int .u32 (num (readL s k) : Nat), .int .u64 (word (readL s k) : Nat), .int .i64 k]) ∧ Kept [] w w' := by
  have hx := sec_read h.valid k
  have hA := h.kept (kept_alloc [] w (.cells #[.int .u32 0, .int .u64 0, .int .i64 0] 64)) (by simp) (by simp) (by simp)
  have q1 := read_any d b1 b2 s k h0 h1 _ hA
  have q2 := fun W => open_any (readL s k) W hx
  have hk0 := kept_alloc [] w (.cells #[.int .u32 0, .int .u64 0, .int .i64 0] 64)
  have hB0 : Blk (w.alloc (.cells #[.int .u32 0, .int .u64 0, .int .i64 0] 64)) w.heap.size 64 #[.int .u32 0, .int .u64 0, .int .i64 0] := blk_new w 64 _
  have hN : ∀ W : World, Arr (W.alloc (.cells #[.int .u8 0, .int .u8 0, .int .u8 0, .int .u8 0, .int .u8 0, .int .u8 0, .int .u8 0, .int .u8 0, .int .u8 0, .int .u8 0, .int .u8 0, .int .u8 0, .int .u8 0, .int .u8 0, .int .u8 0, .int .u8 0] 56)) W.heap.size 56 nought := fun W => arr_new W 56 nought
  simp only [arr] at q1 q2
  generalize readL s k = x at *
  generalize readE s k = ee at *
  go_enter Try.func32, Try.ntmps32
  go_wp2_with (first
    | (go_at_call 41; refine q1.mono ?_; rintro e w1 ⟨rfl, hk1⟩; have hB1 := hB0.kept hk1 (by simp))
    | (refine wpList_store_arr rfl 56 _ _ rfl w1.heap.size 56 _ x rfl rfl (hN w1) hx.1 (by rw [hx.1]; exact Try.size56) ?_; intro w2 hA2 hk2 hz2; replace hz2 : Hid _ := hz2; have hk02 : Kept [] _ w2 := (hk1.trans (kept_alloc [] w1 (.cells #[.int .u8 0, .int .u8 0, .int .u8 0, .int .u8 0, .int .u8 0, .int .u8 0, .int .u8 0, .int .u8 0, .int .u8 0, .int .u8 0, .int .u8 0, .int .u8 0, .int .u8 0, .int .u8 0, .int .u8 0, .int .u8 0] 56))).young hk2 hk1.size; have hB2 := hB0.kept hk02 (by simp))
    | refine wpList_load_arr rfl 56 _ rfl w1.heap.size 56 x rfl hA2 16 5 Try.underlying56 (by rw [hx.1]; exact Try.size56) ?_
    | (go_at_call 42; refine (q2 _).mono ?_; rintro e w3 ⟨⟨b, rfl⟩, hk3⟩; have hB3 := hB2.kept hk3 (by simp))
    | (refine wpList_store_blk rfl 64 _ _ rfl w.heap.size 64 _ [.int .u32 (num x : Nat), .int .u64 (word x : Nat), .int .i64 k] rfl rfl hB3 rfl Try.size64 (by simp [Value.oneCell']) ?_; intro w4 hB4 hk4 hz4))
  have hB5 : w4.heap[w.heap.size]? = some (.cells #[.int .u32 (num x : Nat), .int .u64 (word x : Nat), .int .i64 k] 64 (0, 0)) := hB4
  refine bodyPost_ret (v := .agg #[.int .u32 (num x : Nat), .int .u64 (word x : Nat), .int .i64 k]) (results_cell_row rfl _ _ w.heap.size 64 _ (0, 0) _ rfl hB5 Try.underlying64 rfl Try.size64) rfl ?_
  exact ⟨rfl, ((hk0.trans hk02).trans hk3).young hk4 (Nat.le_refl _)⟩
end Go.Proofs.Ytekjlmnnaaodjaa
