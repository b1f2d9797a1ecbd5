/-
  lives; the walk of ResyncNone.
-/
import Derived.Test.YtfiofdmefgkloaaGreatReF
import Derived.Test.YtfiofdmefgkloaaGreatDataK
namespace Go.Proofs.YtfiofdmefgkloaaGreat.Resync
open Go.RowKit
open Math Copying
open Pack (Mv Ms mv0 good)
open Bits.Math (has without elems)

/-- A Greet in memory. -/
def greetV (m : Nat) (s : Bool) : Mv := ⟨1, 0, 0, m, s, none, 0, 0, []⟩
theorem greet_ok (m : Nat) (s : Bool) : greetB (greetV m s).ms = true := by
  have hf : Pack.Fine (greetV m s).ms := by
    unfold Pack.Fine greetV Mv.ms
    simp
  show (decide ((1 : Int) = 1) && good (greetV m s).ms) = true
  rw [Pack.good_in hf]
  rfl
theorem greet_at (m : Nat) (s : Bool) (hm : m < 18446744073709551616) (lo hi : Nat) (W : World) : (greetV m s).At lo hi W := ⟨Pack.byteRow_nil lo hi W, hm, (by show _ ≤ (0 : Int); decide), (by show (0 : Int) ≤ _; decide)⟩
set_option maxRecDepth 100000 in
theorem lives_ret : retE (made 16) 0 = 0 := by kernel_rfl
theorem map_one {P : List Mv} {m : Ms} (h : P.map Mv.ms = [m]) : ∃ v, P = [v] ∧ v.ms = m := by
  match P, h with
  | [v], h => exact ⟨v, rfl, by simpa using h⟩
set_option maxRecDepth 100000 in
set_option maxHeartbeats 4000000 in
/-- lives -/
theorem lives_any (w : World) : Calls Tryz.prog 7 #[] w fun e w' => e = .returned (.bool true) ∧ Kept [] w w' := by
  have qa := new_ex 16 (by omega) (by omega) w
  have qb : ∀ (d b1 b2 : Nat) (W : World), DiskAt W d b1 b2 (made 16) → Calls Tryz.prog 10 #[.pointer (some ⟨d, 0, none⟩), .int .i64 0, .int .i64 8, .agg #[.int .i64 1, .int .i64 0, .int .i64 0, .int .u64 0, .bool false, .slice none 0 0], .agg #[.int .i64 1, .int .i64 0, .int .i64 0, .int .u64 0, .bool false, .slice none 0 0]] W fun e w' => ∃ o pl sa n cap P lo, e = .returned (.tuple #[.pointer (some ⟨o, 0, none⟩), .slice sa n cap, .int .i64 0]) ∧ ReAt w' o pl d b1 b2 ⟨retS (made 16) 0, true, 0, true⟩ ∧ (W.heap.size ≤ o ∧ W.heap.size ≤ pl ∧ o < lo ∧ pl < lo ∧ W.heap.size ≤ lo ∧ lo ≤ w'.heap.size) ∧ MRow lo w' (.slice sa n cap) P ∧ P.map Mv.ms = [endM] ∧ (∀ v ∈ P, v.At lo w'.heap.size w') ∧ Kept [d, b1, b2] W w' :=
    fun d b1 b2 W hD => begin_go d b1 b2 (made 16) 0 8 (greetV 0 false) (greetV 0 false) rfl (by show (0 : Nat) ≤ _; omega) rfl (by show (0 : Nat) ≤ _; omega) (by show (0 : Nat) < _; omega) (by show (0 : Nat) < _; omega) (by omega) (by omega) (greet_ok 0 false) (greet_ok 0 false) (.inl rfl) (by decide) lives_ret (fun _ e he => absurd (mem_elems (z := 0).1 he).2 (by rw [Nat.zero_testBit]; decide)) W hD
  generalize retS (made 16) 0 = t at *
  generalize made 16 = s0 at *
  have qs := source_any
  have qo := over_any
  generalize retS (made 16) 0 = t at *
  generalize made 16 = s0 at *
  go_enter Tryz.func7, Tryz.ntmps7
  go_wp2_with (first
    | (go_at_call 8; refine qa.mono ?_; clear qa; rintro e w1 ⟨d, b1, b2, rfl, hD1, hdl, hk1⟩; have hz1 := zero_new w1)
    | (refine wpList_store_blk rfl 26 _ _ rfl w1.heap.size 26 _ [.int .i64 1, .int .i64 0, .int .i64 0, .int .u64 0, .bool false, .slice none 0 0] rfl rfl hz1 rfl Pack.Tryz.sizeM (by simp [Value.oneCell']) ?_; intro w2 hB2 hk2 hz2; have hk12 : Kept [] w1 w2 := (kept_alloc [] w1 _).young hk2 (Nat.le_refl _); have hD2 := hD1.kept hk12 (by simp) (by simp) (by simp); have x0 := hB2.cell 0; have x1 := hB2.cell 1; have x2 := hB2.cell 2; have x3 := hB2.cell 3; have x4 := hB2.cell 4; have x5 := hB2.cell 5; simp at x0 x1 x2 x3 x4 x5)
    | (go_at_call 10; refine (qb d b1 b2 _ hD2).mono ?_; clear qb; rintro e w3 ⟨o, pl, sa, n, cap, P, lo, rfl, hR, hlo, hr, hms, hmem, hk3⟩; obtain ⟨v, rfl, hv⟩ := map_one hms; obtain ⟨hn, hc1, hc2⟩ := hr.len; obtain ⟨g, rfl, hgl, hrg⟩ := hr.at 0 v rfl; have hn1 : n = 1 := hn; subst hn1; have y0 : w3.cell? ⟨g, 0, none⟩ = some (.int .i64 8) := (hrg 0 (.int .i64 v.k) rfl).trans (by rw [show v.k = v.ms.k from rfl, hv]; rfl); unfold maxLen at hc2; clear hv hmem hrg hms hn hr; replace hlo : Hid _ := hlo)
    | (go_at_call 19; refine (qs _ _ _ _ _ _ _ hR).mono ?_; rintro e w3 ⟨rfl, rfl⟩)
    | (go_at_call 20; refine (qo _ _ _ _ _ _ _ hR).mono ?_; rintro e w3 ⟨rfl, rfl⟩))
  go_ret
  have hlo1 := hk1.size
  exact ⟨rfl, (hk1.trans hk12).young3 hk3 (by have := hk1.size; omega) (by have := hk1.size; omega) (by have := hk1.size; omega)⟩
set_option maxRecDepth 100000 in
set_option maxHeartbeats 1000000 in
/-- ResyncNone, of what is let go -/
theorem none_early (x : Mv) (w : World) (hl : x.len ≤ 9223372036854775807) (h : 200 < x.len) : Calls Tryz.prog 6 #[x.val] w fun e w' => e = .returned (.bool true) ∧ Kept [] w w' := by
  obtain ⟨W0, hW0, hX, hk0, hz⟩ := boxed w x
  have q := lives_any
  obtain ⟨a0, a1, a2, a3, a4, a5⟩ := hX.six
  have g : (200 : Int) < (x.len : Int) := by omega
  clear hX h
  unfold Mv.val
  go_enter Tryz.func6, Tryz.ntmps6
  go_wp2_with (go_at_call 7; refine (q _).mono ?_; rintro e w3 ⟨rfl, hk3⟩)
  go_ret
  exact ⟨rfl, hk0.trans hk3⟩
set_option maxRecDepth 100000 in
set_option maxHeartbeats 8000000 in
/-- ResyncNone, of a message -/
theorem none_play (x : Mv) (w : World) (h : x.len ≤ 200) : Calls Tryz.prog 6 #[x.val] w fun e w' => e = .returned (.bool true) ∧ Kept [] w w' := by
  obtain ⟨W0, hW0, hX, hk0, hz⟩ := boxed w x
  have q := lives_any
  have qt := fun p W (h : NoRe W p) => take_none p x W h
  have qs := fun p W (h : NoRe W p) => source_none p W h
  have qo := fun p W (h : NoRe W p) => over_none p W h
  have ql := fun p W (h : NoRe W p) => left_none p W h
  have qb : ∀ W : World, Calls Tryz.prog 10 #[.pointer none, .int .i64 0, .int .i64 16, .agg #[.int .i64 1, .int .i64 0, .int .i64 0, .int .u64 0, .bool false, .slice none 0 0], .agg #[.int .i64 1, .int .i64 0, .int .i64 0, .int .u64 0, .bool false, .slice none 0 0]] W fun e w' => e = .returned (.tuple #[.pointer none, .slice none 0 0, .int .i64 1]) ∧ True ∧ Kept [] W w' := fun W =>
    begin_bad none 0 16 (greetV 0 false) (greetV 0 false) rfl (by show (0 : Nat) ≤ _; omega) rfl (by show (0 : Nat) ≤ _; omega) (by show (0 : Nat) < _; omega) (by show (0 : Nat) < _; omega) (by omega) (by omega) (greet_ok 0 false) (greet_ok 0 false) (.inl rfl) 1 (by decide) (fun _ => True) [] W
      (fun V _ => (retire_none none _ V (.inl rfl)).mono fun e w' ⟨he, hk⟩ => ⟨he, trivial, hk⟩)
  have g : ¬ ((200 : Int) < (x.len : Int)) := by omega
  have kB := kept_alloc [] W0 (.cells #[.pointer none, .pointer none, .bool false, .bool false] 88)
  have hB := blk_new W0 88 #[.pointer none, .pointer none, .bool false, .bool false]
  obtain ⟨a0, a1, a2, a3, a4, a5⟩ := hX.six
  have hS0 : Hid (W0.heap.size = w.heap.size + 1) := hz
  unfold Mv.val at *
  go_enter Tryz.func6, Tryz.ntmps6
  go_upto_region 4 with fail
  have kC := kept_alloc [] (W0.alloc (.cells #[.pointer none, .pointer none, .bool false, .bool false] 88)) (.cells #[.pointer none, .pointer (some ⟨W0.heap.size, 0, none⟩)] 37)
  have hC := blk_new (W0.alloc (.cells #[.pointer none, .pointer none, .bool false, .bool false] 88)) 37 #[.pointer none, .pointer (some ⟨W0.heap.size, 0, none⟩)]
  have hB2 := hB.kept kC (by simp)
  have k2 := (hk0.trans kB).trans kC
  have hX2 := (hX.kept kB (by simp)).kept kC (by simp)
  rw [World.size_alloc] at hC
  obtain ⟨W4, hW4⟩ : ∃ W4, (W0.alloc (.cells #[.pointer none, .pointer none, .bool false, .bool false] 88)).alloc (.cells #[.pointer none, .pointer (some ⟨W0.heap.size, 0, none⟩)] 37) = W4 := ⟨_, rfl⟩
  rw [hW4] at hC hB2 k2 hX2 ⊢
  clear hW4 kB kC hB hX hW0 a0 a1 a2 a3 a4 a5
  generalize W0.heap.size = n0 at *
  go_wp2_with fail
  go_loopw [21] (fun i wr => ∃ j : Nat, j ≤ 2 ∧ i = .int .i64 j ∧ Kept [] W4 wr) (fun i _ => 2 - (RowKit.intOf i).toNat)
  case atStart => exact ⟨0, by omega, rfl, Kept.refl _ _⟩
  case round =>
    obtain ⟨j, hj, rfl, hK⟩ := hrel
    have hXr := hX2.kept hK (by simp)
    have hBr := hB2.kept hK (by simp)
    have hCr := hC.kept hK (by simp)
    obtain ⟨a0, a1, a2, a3, a4, a5⟩ := hXr.six
    by_cases h2 : j < 2
    · rcases (show j = 0 ∨ j = 1 by omega) with rfl | rfl
      · have c := hCr.cell 0
        simp at c
        have hN : ∀ W, NoRe W none := fun W => .inl rfl
        clear h2
        go_wp2_with (first
          | (go_at_call 13; refine (qt none _ (hN _)).mono ?_; rintro e w5 ⟨rfl, hk5⟩)
          | (go_at_call 19; refine (qs none _ (hN _)).mono ?_; rintro e w5 ⟨rfl, rfl⟩)
          | (go_at_call 20; refine (qo none _ (hN _)).mono ?_; rintro e w5 ⟨rfl, rfl⟩)
          | (go_at_call 21; refine (ql none _ (hN _)).mono ?_; rintro e w5 ⟨rfl, rfl⟩))
        go_round
        case rel => exact ⟨1, by omega, rfl, hK.trans hk5⟩
        case measure => simp [RowKit.intOf]
      · have c := hCr.cell 1
        simp at c
        have hN : ∀ W, Kept [] wr W → NoRe W (some ⟨n0, 0, none⟩) := fun W hk => .inr ⟨n0, rfl, hBr.kept hk (by simp)⟩
        clear h2
        go_wp2_with (first
          | (go_at_call 13; refine (qt _ _ (hN _ (Kept.refl _ _))).mono ?_; rintro e w5 ⟨rfl, hk5⟩)
          | (go_at_call 19; refine (qs _ _ (hN _ hk5)).mono ?_; rintro e w5 ⟨rfl, rfl⟩)
          | (go_at_call 20; refine (qo _ _ (hN _ hk5)).mono ?_; rintro e w5 ⟨rfl, rfl⟩)
          | (go_at_call 21; refine (ql _ _ (hN _ hk5)).mono ?_; rintro e w5 ⟨rfl, rfl⟩))
        go_round
        case rel => exact ⟨2, by omega, rfl, hK.trans hk5⟩
        case measure => simp [RowKit.intOf]
    · obtain rfl : j = 2 := by omega
      go_wp2_with (first
        | (go_at_call 10; refine (qb _).mono ?_; rintro e w6 ⟨rfl, -, hk6⟩)
        | (go_at_call 7; refine (q _).mono ?_; rintro e w7 ⟨rfl, hk7⟩))
      go_ret
      exact ⟨rfl, ((k2.trans hK).trans hk6).trans hk7⟩
end Go.Proofs.YtfiofdmefgkloaaGreat.Resync
