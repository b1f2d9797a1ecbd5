import Derived.Test.YtnbkbakbjllmcaaWrA
/-
  The walks of Good and Name, the program's and the document's.
-/
namespace Go.Proofs.Ytnbkbakbjllmcaa.Wire
open Go.RowKit
open Seal (enc ret_bool ret_int)
open Seal.Math

set_option maxRecDepth 100000 in
/-- within -/
theorem within_any (n l m : Int) (w : World) : Calls Try.prog 65 #[.int .i64 n, .int .i64 l, .int .i64 m] w fun e w' => e = .returned (.bool (decide (l ≤ n ∧ n ≤ m))) ∧ w' = w := by
  by_cases h1 : l ≤ n
  · by_cases h2 : n ≤ m
    · rw [decide_eq_true ⟨h1, h2⟩]
      go_enter Try.func65, Try.ntmps65
      go_wp2_with fail
      go_ret
      exact ⟨ret_bool (by first | rfl | (simp; done) | (simp; omega)), rfl⟩
    · rw [decide_eq_false (fun h => h2 h.2)]
      have h3 : m < n := by omega
      clear h2
      go_enter Try.func65, Try.ntmps65
      go_wp2_with fail
      go_ret
      exact ⟨ret_bool (by first | rfl | (simp; done) | (simp; omega)), rfl⟩
  · rw [decide_eq_false (fun h => h1 h.1)]
    have h3 : n < l := by omega
    clear h1
    go_enter Try.func65, Try.ntmps65
    go_wp2_with fail
    go_ret
    exact ⟨ret_bool (by first | rfl | (simp; done) | (simp; omega)), rfl⟩
set_option maxRecDepth 100000 in
theorem within_in {n l m : Int} (h : l ≤ n ∧ n ≤ m) (w : World) : Calls Try.prog 65 #[.int .i64 n, .int .i64 l, .int .i64 m] w fun e w' => e = .returned (.bool true) ∧ w' = w := by
  have := within_any n l m w
  rw [decide_eq_true h] at this
  exact this
set_option maxRecDepth 100000 in
theorem within_out {n l m : Int} (h : ¬ (l ≤ n ∧ n ≤ m)) (w : World) : Calls Try.prog 65 #[.int .i64 n, .int .i64 l, .int .i64 m] w fun e w' => e = .returned (.bool false) ∧ w' = w := by
  have := within_any n l m w
  rw [decide_eq_false h] at this
  exact this
set_option maxRecDepth 100000 in
set_option maxHeartbeats 4000000 in
/-- Good -/
theorem good_any (x : Pv) (hl : x.len = x.d.length) (hlen : x.len ≤ 9223372036854775807) (w : World) : Calls Try.prog 53 #[x.val] w fun e w' => e = .returned (.bool (good x.ps)) ∧ Kept [] w w' := by
  have hb0 : x.In (w.alloc (.cells #[.int .u32 (x.f : Int), .int .u32 (x.t : Int), .int .i64 x.k, .int .i64 x.s, .int .i64 x.a, .slice x.sa x.len x.cap] 47)) w.heap.size := blk_new w 47 _
  have hk0 := kept_alloc [] w (.cells #[.int .u32 (x.f : Int), .int .u32 (x.t : Int), .int .i64 x.k, .int .i64 x.s, .int .i64 x.a, .slice x.sa x.len x.cap] 47)
  obtain ⟨c0, c1, c2, c3, c4, c5⟩ := hb0.six
  clear hb0
  obtain ⟨f, t, k, s, a, sa, len, cap, d⟩ := x
  simp only [Pv.ps, Pv.val] at *
  obtain ⟨G, hG⟩ : ∃ G, G = good ⟨f, t, k, s, a, d⟩ := ⟨_, rfl⟩
  have hF : Fine ⟨f, t, k, s, a, d⟩ ↔ (1 ≤ f ∧ (0 ≤ a ∧ a ≤ 2147483647) ∧ (0 ≤ s ∧ s ≤ 2147483647) ∧ (k = 1 ∧ t = 0 ∧ s = 0 ∧ a = 0 ∧ len = 0 ∨ k = 2 ∧ 1 ≤ t ∧ s = 0 ∧ len = 0 ∨ k = 3 ∧ 1 ≤ t ∧ 1 ≤ s ∧ 1 ≤ len ∧ len ≤ 200)) := by
    rw [hl]
    exact Iff.rfl
  rw [← hG]
  by_cases hf : f = 0
  · have hg : Hid (G = false) := hG.trans (good_out (fun h => by have := hF.1 h; omega))
    have bf : ((f : Int) == 0) = true := by simp; omega
    have nf : ((f : Int) != 0) = false := by simp; omega
    clear hG hF hl hf
    go_enter Try.func53, Try.ntmps53
    go_wp2_with fail
    go_ret
    exact ⟨ret_bool (by first | (rw [hg.out]; done) | (rw [hg.out]; simp; done) | (rw [hg.out]; simp; omega)), hk0⟩
  · by_cases hk1 : k = 1
    · by_cases yt : t = 0
      · by_cases ys : s = 0
        · by_cases ya : a = 0
          · by_cases yl : len = 0
            · have hg : Hid (G = true) := hG.trans (good_in (hF.2 (by omega)))
              have bf : ((f : Int) == 0) = false := by simp; omega
              have nf : ((f : Int) != 0) = true := by simp; omega
              have bk1 : (k == 1) = true := by simp; omega
              have bt : ((t : Int) == 0) = true := by simp; omega
              have nt : ((t : Int) != 0) = false := by simp; omega
              have bs : ((s : Int) == 0) = true := by simp; omega
              have ns : ((s : Int) != 0) = false := by simp; omega
              have ba : ((a : Int) == 0) = true := by simp; omega
              have na : ((a : Int) != 0) = false := by simp; omega
              have bl : ((len : Int) == 0) = true := by simp; omega
              have nl : ((len : Int) != 0) = false := by simp; omega
              clear hG hF hl hf hk1 yt ys ya yl
              go_enter Try.func53, Try.ntmps53
              go_wp2_with fail
              go_ret
              exact ⟨ret_bool (by first | (rw [hg.out]; done) | (rw [hg.out]; simp; done) | (rw [hg.out]; simp; omega)), hk0⟩
            · have hg : Hid (G = false) := hG.trans (good_out (fun h => by have := hF.1 h; omega))
              have bf : ((f : Int) == 0) = false := by simp; omega
              have nf : ((f : Int) != 0) = true := by simp; omega
              have bk1 : (k == 1) = true := by simp; omega
              have bt : ((t : Int) == 0) = true := by simp; omega
              have nt : ((t : Int) != 0) = false := by simp; omega
              have bs : ((s : Int) == 0) = true := by simp; omega
              have ns : ((s : Int) != 0) = false := by simp; omega
              have ba : ((a : Int) == 0) = true := by simp; omega
              have na : ((a : Int) != 0) = false := by simp; omega
              have bl : ((len : Int) == 0) = false := by simp; omega
              have nl : ((len : Int) != 0) = true := by simp; omega
              clear hG hF hl hf hk1 yt ys ya yl
              go_enter Try.func53, Try.ntmps53
              go_wp2_with fail
              go_ret
              exact ⟨ret_bool (by first | (rw [hg.out]; done) | (rw [hg.out]; simp; done) | (rw [hg.out]; simp; omega)), hk0⟩
          · have hg : Hid (G = false) := hG.trans (good_out (fun h => by have := hF.1 h; omega))
            have bf : ((f : Int) == 0) = false := by simp; omega
            have nf : ((f : Int) != 0) = true := by simp; omega
            have bk1 : (k == 1) = true := by simp; omega
            have bt : ((t : Int) == 0) = true := by simp; omega
            have nt : ((t : Int) != 0) = false := by simp; omega
            have bs : ((s : Int) == 0) = true := by simp; omega
            have ns : ((s : Int) != 0) = false := by simp; omega
            have ba : ((a : Int) == 0) = false := by simp; omega
            have na : ((a : Int) != 0) = true := by simp; omega
            clear hG hF hl hf hk1 yt ys ya
            go_enter Try.func53, Try.ntmps53
            go_wp2_with fail
            go_ret
            exact ⟨ret_bool (by first | (rw [hg.out]; done) | (rw [hg.out]; simp; done) | (rw [hg.out]; simp; omega)), hk0⟩
        · have hg : Hid (G = false) := hG.trans (good_out (fun h => by have := hF.1 h; omega))
          have bf : ((f : Int) == 0) = false := by simp; omega
          have nf : ((f : Int) != 0) = true := by simp; omega
          have bk1 : (k == 1) = true := by simp; omega
          have bt : ((t : Int) == 0) = true := by simp; omega
          have nt : ((t : Int) != 0) = false := by simp; omega
          have bs : ((s : Int) == 0) = false := by simp; omega
          have ns : ((s : Int) != 0) = true := by simp; omega
          clear hG hF hl hf hk1 yt ys
          go_enter Try.func53, Try.ntmps53
          go_wp2_with fail
          go_ret
          exact ⟨ret_bool (by first | (rw [hg.out]; done) | (rw [hg.out]; simp; done) | (rw [hg.out]; simp; omega)), hk0⟩
      · have hg : Hid (G = false) := hG.trans (good_out (fun h => by have := hF.1 h; omega))
        have bf : ((f : Int) == 0) = false := by simp; omega
        have nf : ((f : Int) != 0) = true := by simp; omega
        have bk1 : (k == 1) = true := by simp; omega
        have bt : ((t : Int) == 0) = false := by simp; omega
        have nt : ((t : Int) != 0) = true := by simp; omega
        clear hG hF hl hf hk1 yt
        go_enter Try.func53, Try.ntmps53
        go_wp2_with fail
        go_ret
        exact ⟨ret_bool (by first | (rw [hg.out]; done) | (rw [hg.out]; simp; done) | (rw [hg.out]; simp; omega)), hk0⟩
    · by_cases hk2 : k = 2
      · by_cases yt : ¬ t = 0
        · by_cases ys : s = 0
          · by_cases ya : 0 ≤ a ∧ a ≤ 2147483647
            · by_cases yl : len = 0
              · have hg : Hid (G = true) := hG.trans (good_in (hF.2 (by omega)))
                have bf : ((f : Int) == 0) = false := by simp; omega
                have nf : ((f : Int) != 0) = true := by simp; omega
                have bk1 : (k == 1) = false := by simp; omega
                have bk2 : (k == 2) = true := by simp; omega
                have bt : ((t : Int) == 0) = false := by simp; omega
                have nt : ((t : Int) != 0) = true := by simp; omega
                have bs : ((s : Int) == 0) = true := by simp; omega
                have ns : ((s : Int) != 0) = false := by simp; omega
                have qa := fun A => within_in ya A
                have bl : ((len : Int) == 0) = true := by simp; omega
                have nl : ((len : Int) != 0) = false := by simp; omega
                clear hG hF hl hf hk1 hk2 yt ys ya yl
                go_enter Try.func53, Try.ntmps53
                go_wp2_with (first
                  | (go_at_call_of 65 (#[.int .i64 a, .int .i64 0, .int .i64 2147483647] : Array Value); refine (qa _).mono ?_; rintro e w1 ⟨rfl, rfl⟩))
                go_ret
                exact ⟨ret_bool (by first | (rw [hg.out]; done) | (rw [hg.out]; simp; done) | (rw [hg.out]; simp; omega)), hk0⟩
              · have hg : Hid (G = false) := hG.trans (good_out (fun h => by have := hF.1 h; omega))
                have bf : ((f : Int) == 0) = false := by simp; omega
                have nf : ((f : Int) != 0) = true := by simp; omega
                have bk1 : (k == 1) = false := by simp; omega
                have bk2 : (k == 2) = true := by simp; omega
                have bt : ((t : Int) == 0) = false := by simp; omega
                have nt : ((t : Int) != 0) = true := by simp; omega
                have bs : ((s : Int) == 0) = true := by simp; omega
                have ns : ((s : Int) != 0) = false := by simp; omega
                have qa := fun A => within_in ya A
                have bl : ((len : Int) == 0) = false := by simp; omega
                have nl : ((len : Int) != 0) = true := by simp; omega
                clear hG hF hl hf hk1 hk2 yt ys ya yl
                go_enter Try.func53, Try.ntmps53
                go_wp2_with (first
                  | (go_at_call_of 65 (#[.int .i64 a, .int .i64 0, .int .i64 2147483647] : Array Value); refine (qa _).mono ?_; rintro e w1 ⟨rfl, rfl⟩))
                go_ret
                exact ⟨ret_bool (by first | (rw [hg.out]; done) | (rw [hg.out]; simp; done) | (rw [hg.out]; simp; omega)), hk0⟩
            · have hg : Hid (G = false) := hG.trans (good_out (fun h => by have := hF.1 h; omega))
              have bf : ((f : Int) == 0) = false := by simp; omega
              have nf : ((f : Int) != 0) = true := by simp; omega
              have bk1 : (k == 1) = false := by simp; omega
              have bk2 : (k == 2) = true := by simp; omega
              have bt : ((t : Int) == 0) = false := by simp; omega
              have nt : ((t : Int) != 0) = true := by simp; omega
              have bs : ((s : Int) == 0) = true := by simp; omega
              have ns : ((s : Int) != 0) = false := by simp; omega
              have qa := fun A => within_out ya A
              clear hG hF hl hf hk1 hk2 yt ys ya
              go_enter Try.func53, Try.ntmps53
              go_wp2_with (first
                | (go_at_call_of 65 (#[.int .i64 a, .int .i64 0, .int .i64 2147483647] : Array Value); refine (qa _).mono ?_; rintro e w1 ⟨rfl, rfl⟩))
              go_ret
              exact ⟨ret_bool (by first | (rw [hg.out]; done) | (rw [hg.out]; simp; done) | (rw [hg.out]; simp; omega)), hk0⟩
          · have hg : Hid (G = false) := hG.trans (good_out (fun h => by have := hF.1 h; omega))
            have bf : ((f : Int) == 0) = false := by simp; omega
            have nf : ((f : Int) != 0) = true := by simp; omega
            have bk1 : (k == 1) = false := by simp; omega
            have bk2 : (k == 2) = true := by simp; omega
            have bt : ((t : Int) == 0) = false := by simp; omega
            have nt : ((t : Int) != 0) = true := by simp; omega
            have bs : ((s : Int) == 0) = false := by simp; omega
            have ns : ((s : Int) != 0) = true := by simp; omega
            clear hG hF hl hf hk1 hk2 yt ys
            go_enter Try.func53, Try.ntmps53
            go_wp2_with fail
            go_ret
            exact ⟨ret_bool (by first | (rw [hg.out]; done) | (rw [hg.out]; simp; done) | (rw [hg.out]; simp; omega)), hk0⟩
        · have hg : Hid (G = false) := hG.trans (good_out (fun h => by have := hF.1 h; omega))
          have bf : ((f : Int) == 0) = false := by simp; omega
          have nf : ((f : Int) != 0) = true := by simp; omega
          have bk1 : (k == 1) = false := by simp; omega
          have bk2 : (k == 2) = true := by simp; omega
          have bt : ((t : Int) == 0) = true := by simp; omega
          have nt : ((t : Int) != 0) = false := by simp; omega
          clear hG hF hl hf hk1 hk2 yt
          go_enter Try.func53, Try.ntmps53
          go_wp2_with fail
          go_ret
          exact ⟨ret_bool (by first | (rw [hg.out]; done) | (rw [hg.out]; simp; done) | (rw [hg.out]; simp; omega)), hk0⟩
      · by_cases hk3 : k = 3
        · by_cases yt : ¬ t = 0
          · by_cases ys : 1 ≤ s ∧ s ≤ 2147483647
            · by_cases ya : 0 ≤ a ∧ a ≤ 2147483647
              · by_cases yl : 1 ≤ (len : Int) ∧ (len : Int) ≤ 200
                · have hg : Hid (G = true) := hG.trans (good_in (hF.2 (by omega)))
                  have bf : ((f : Int) == 0) = false := by simp; omega
                  have nf : ((f : Int) != 0) = true := by simp; omega
                  have bk1 : (k == 1) = false := by simp; omega
                  have bk2 : (k == 2) = false := by simp; omega
                  have bk3 : (k == 3) = true := by simp; omega
                  have bt : ((t : Int) == 0) = false := by simp; omega
                  have nt : ((t : Int) != 0) = true := by simp; omega
                  have qs := fun A => within_in ys A
                  have qa := fun A => within_in ya A
                  have ql := fun A => within_in yl A
                  clear hG hF hl hf hk1 hk2 hk3 yt ys ya yl
                  go_enter Try.func53, Try.ntmps53
                  go_wp2_with (first
                    | (go_at_call_of 65 (#[.int .i64 s, .int .i64 1, .int .i64 2147483647] : Array Value); refine (qs _).mono ?_; rintro e w1 ⟨rfl, rfl⟩)
                    | (go_at_call_of 65 (#[.int .i64 a, .int .i64 0, .int .i64 2147483647] : Array Value); refine (qa _).mono ?_; rintro e w1 ⟨rfl, rfl⟩)
                    | (go_at_call_of 65 (#[.int .i64 (len : Int), .int .i64 1, .int .i64 200] : Array Value); refine (ql _).mono ?_; rintro e w1 ⟨rfl, rfl⟩))
                  go_ret
                  exact ⟨ret_bool (by first | (rw [hg.out]; done) | (rw [hg.out]; simp; done) | (rw [hg.out]; simp; omega)), hk0⟩
                · have hg : Hid (G = false) := hG.trans (good_out (fun h => by have := hF.1 h; omega))
                  have bf : ((f : Int) == 0) = false := by simp; omega
                  have nf : ((f : Int) != 0) = true := by simp; omega
                  have bk1 : (k == 1) = false := by simp; omega
                  have bk2 : (k == 2) = false := by simp; omega
                  have bk3 : (k == 3) = true := by simp; omega
                  have bt : ((t : Int) == 0) = false := by simp; omega
                  have nt : ((t : Int) != 0) = true := by simp; omega
                  have qs := fun A => within_in ys A
                  have qa := fun A => within_in ya A
                  have ql := fun A => within_out yl A
                  clear hG hF hl hf hk1 hk2 hk3 yt ys ya yl
                  go_enter Try.func53, Try.ntmps53
                  go_wp2_with (first
                    | (go_at_call_of 65 (#[.int .i64 s, .int .i64 1, .int .i64 2147483647] : Array Value); refine (qs _).mono ?_; rintro e w1 ⟨rfl, rfl⟩)
                    | (go_at_call_of 65 (#[.int .i64 a, .int .i64 0, .int .i64 2147483647] : Array Value); refine (qa _).mono ?_; rintro e w1 ⟨rfl, rfl⟩)
                    | (go_at_call_of 65 (#[.int .i64 (len : Int), .int .i64 1, .int .i64 200] : Array Value); refine (ql _).mono ?_; rintro e w1 ⟨rfl, rfl⟩))
                  go_ret
                  exact ⟨ret_bool (by first | (rw [hg.out]; done) | (rw [hg.out]; simp; done) | (rw [hg.out]; simp; omega)), hk0⟩
              · have hg : Hid (G = false) := hG.trans (good_out (fun h => by have := hF.1 h; omega))
                have bf : ((f : Int) == 0) = false := by simp; omega
                have nf : ((f : Int) != 0) = true := by simp; omega
                have bk1 : (k == 1) = false := by simp; omega
                have bk2 : (k == 2) = false := by simp; omega
                have bk3 : (k == 3) = true := by simp; omega
                have bt : ((t : Int) == 0) = false := by simp; omega
                have nt : ((t : Int) != 0) = true := by simp; omega
                have qs := fun A => within_in ys A
                have qa := fun A => within_out ya A
                clear hG hF hl hf hk1 hk2 hk3 yt ys ya
                go_enter Try.func53, Try.ntmps53
                go_wp2_with (first
                  | (go_at_call_of 65 (#[.int .i64 s, .int .i64 1, .int .i64 2147483647] : Array Value); refine (qs _).mono ?_; rintro e w1 ⟨rfl, rfl⟩)
                  | (go_at_call_of 65 (#[.int .i64 a, .int .i64 0, .int .i64 2147483647] : Array Value); refine (qa _).mono ?_; rintro e w1 ⟨rfl, rfl⟩))
                go_ret
                exact ⟨ret_bool (by first | (rw [hg.out]; done) | (rw [hg.out]; simp; done) | (rw [hg.out]; simp; omega)), hk0⟩
            · have hg : Hid (G = false) := hG.trans (good_out (fun h => by have := hF.1 h; omega))
              have bf : ((f : Int) == 0) = false := by simp; omega
              have nf : ((f : Int) != 0) = true := by simp; omega
              have bk1 : (k == 1) = false := by simp; omega
              have bk2 : (k == 2) = false := by simp; omega
              have bk3 : (k == 3) = true := by simp; omega
              have bt : ((t : Int) == 0) = false := by simp; omega
              have nt : ((t : Int) != 0) = true := by simp; omega
              have qs := fun A => within_out ys A
              clear hG hF hl hf hk1 hk2 hk3 yt ys
              go_enter Try.func53, Try.ntmps53
              go_wp2_with (first
                | (go_at_call_of 65 (#[.int .i64 s, .int .i64 1, .int .i64 2147483647] : Array Value); refine (qs _).mono ?_; rintro e w1 ⟨rfl, rfl⟩))
              go_ret
              exact ⟨ret_bool (by first | (rw [hg.out]; done) | (rw [hg.out]; simp; done) | (rw [hg.out]; simp; omega)), hk0⟩
          · have hg : Hid (G = false) := hG.trans (good_out (fun h => by have := hF.1 h; omega))
            have bf : ((f : Int) == 0) = false := by simp; omega
            have nf : ((f : Int) != 0) = true := by simp; omega
            have bk1 : (k == 1) = false := by simp; omega
            have bk2 : (k == 2) = false := by simp; omega
            have bk3 : (k == 3) = true := by simp; omega
            have bt : ((t : Int) == 0) = true := by simp; omega
            have nt : ((t : Int) != 0) = false := by simp; omega
            clear hG hF hl hf hk1 hk2 hk3 yt
            go_enter Try.func53, Try.ntmps53
            go_wp2_with fail
            go_ret
            exact ⟨ret_bool (by first | (rw [hg.out]; done) | (rw [hg.out]; simp; done) | (rw [hg.out]; simp; omega)), hk0⟩
        · have hg : Hid (G = false) := hG.trans (good_out (fun h => by have := hF.1 h; omega))
          have bf : ((f : Int) == 0) = false := by simp; omega
          have nf : ((f : Int) != 0) = true := by simp; omega
          have bk1 : (k == 1) = false := by simp; omega
          have bk2 : (k == 2) = false := by simp; omega
          have bk3 : (k == 3) = false := by simp; omega
          clear hG hF hl hf hk1 hk2 hk3
          go_enter Try.func53, Try.ntmps53
          go_wp2_with fail
          go_ret
          exact ⟨ret_bool (by first | (rw [hg.out]; done) | (rw [hg.out]; simp; done) | (rw [hg.out]; simp; omega)), hk0⟩
set_option maxRecDepth 100000 in
set_option maxHeartbeats 4000000 in
/-- twainref18.Good -/
theorem refGood_any (x : Pv) (hl : x.len = x.d.length) (hlen : x.len ≤ 9223372036854775807) (w : World) : Calls Try.prog 33 #[x.val] w fun e w' => e = .returned (.bool (good x.ps)) ∧ Kept [] w w' := by
  have hb0 : x.In (w.alloc (.cells #[.int .u32 (x.f : Int), .int .u32 (x.t : Int), .int .i64 x.k, .int .i64 x.s, .int .i64 x.a, .slice x.sa x.len x.cap] 47)) w.heap.size := blk_new w 47 _
  have hk0 := kept_alloc [] w (.cells #[.int .u32 (x.f : Int), .int .u32 (x.t : Int), .int .i64 x.k, .int .i64 x.s, .int .i64 x.a, .slice x.sa x.len x.cap] 47)
  obtain ⟨c0, c1, c2, c3, c4, c5⟩ := hb0.six
  clear hb0
  obtain ⟨f, t, k, s, a, sa, len, cap, d⟩ := x
  simp only [Pv.ps, Pv.val] at *
  obtain ⟨G, hG⟩ : ∃ G, G = good ⟨f, t, k, s, a, d⟩ := ⟨_, rfl⟩
  have hF : Fine ⟨f, t, k, s, a, d⟩ ↔ (1 ≤ f ∧ (0 ≤ a ∧ a ≤ 2147483647) ∧ (0 ≤ s ∧ s ≤ 2147483647) ∧ (k = 1 ∧ t = 0 ∧ s = 0 ∧ a = 0 ∧ len = 0 ∨ k = 2 ∧ 1 ≤ t ∧ s = 0 ∧ len = 0 ∨ k = 3 ∧ 1 ≤ t ∧ 1 ≤ s ∧ 1 ≤ len ∧ len ≤ 200)) := by
    rw [hl]
    exact Iff.rfl
  rw [← hG]
  by_cases hf : f < 1
  · have hg : Hid (G = false) := hG.trans (good_out (fun h => by have := hF.1 h; omega))
    clear hG hF hl
    go_enter Try.func33, Try.ntmps33
    go_wp2_with fail
    go_ret
    exact ⟨ret_bool (by first | (rw [hg.out]; done) | (rw [hg.out]; simp; done) | (rw [hg.out]; simp; omega)), hk0⟩
  · have gf : 1 ≤ f := by omega
    by_cases ha0 : a < 0
    · have hg : Hid (G = false) := hG.trans (good_out (fun h => by have := hF.1 h; omega))
      clear hG hF hl
      go_enter Try.func33, Try.ntmps33
      go_wp2_with fail
      go_ret
      exact ⟨ret_bool (by first | (rw [hg.out]; done) | (rw [hg.out]; simp; done) | (rw [hg.out]; simp; omega)), hk0⟩
    · have ga0 : 0 ≤ a := by omega
      by_cases ha1 : 2147483647 < a
      · have hg : Hid (G = false) := hG.trans (good_out (fun h => by have := hF.1 h; omega))
        clear hG hF hl
        go_enter Try.func33, Try.ntmps33
        go_wp2_with fail
        go_ret
        exact ⟨ret_bool (by first | (rw [hg.out]; done) | (rw [hg.out]; simp; done) | (rw [hg.out]; simp; omega)), hk0⟩
      · have ga1 : a ≤ 2147483647 := by omega
        by_cases hs0 : s < 0
        · have hg : Hid (G = false) := hG.trans (good_out (fun h => by have := hF.1 h; omega))
          clear hG hF hl
          go_enter Try.func33, Try.ntmps33
          go_wp2_with fail
          go_ret
          exact ⟨ret_bool (by first | (rw [hg.out]; done) | (rw [hg.out]; simp; done) | (rw [hg.out]; simp; omega)), hk0⟩
        · have gs0 : 0 ≤ s := by omega
          by_cases hs1 : 2147483647 < s
          · have hg : Hid (G = false) := hG.trans (good_out (fun h => by have := hF.1 h; omega))
            clear hG hF hl
            go_enter Try.func33, Try.ntmps33
            go_wp2_with fail
            go_ret
            exact ⟨ret_bool (by first | (rw [hg.out]; done) | (rw [hg.out]; simp; done) | (rw [hg.out]; simp; omega)), hk0⟩
          · have gs1 : s ≤ 2147483647 := by omega
            by_cases hk1 : k = 1
            · by_cases yt : t = 0
              · by_cases ys : s = 0
                · by_cases ya : a = 0
                  · by_cases yl : len = 0
                    · have hg : Hid (G = true) := hG.trans (good_in (hF.2 (by omega)))
                      have bk1 : (k == 1) = true := by simp; omega
                      have bt : ((t : Int) == 0) = true := by simp; omega
                      have nt : ((t : Int) != 0) = false := by simp; omega
                      have bs : ((s : Int) == 0) = true := by simp; omega
                      have ns : ((s : Int) != 0) = false := by simp; omega
                      have ba : ((a : Int) == 0) = true := by simp; omega
                      have na : ((a : Int) != 0) = false := by simp; omega
                      have bl : ((len : Int) == 0) = true := by simp; omega
                      have nl : ((len : Int) != 0) = false := by simp; omega
                      clear hG hF hl hk1 yt ys ya yl
                      go_enter Try.func33, Try.ntmps33
                      go_wp2_with fail
                      go_ret
                      exact ⟨ret_bool (by first | (rw [hg.out]; done) | (rw [hg.out]; simp; done) | (rw [hg.out]; simp; omega)), hk0⟩
                    · have hg : Hid (G = false) := hG.trans (good_out (fun h => by have := hF.1 h; omega))
                      have bk1 : (k == 1) = true := by simp; omega
                      have bt : ((t : Int) == 0) = true := by simp; omega
                      have nt : ((t : Int) != 0) = false := by simp; omega
                      have bs : ((s : Int) == 0) = true := by simp; omega
                      have ns : ((s : Int) != 0) = false := by simp; omega
                      have ba : ((a : Int) == 0) = true := by simp; omega
                      have na : ((a : Int) != 0) = false := by simp; omega
                      have bl : ((len : Int) == 0) = false := by simp; omega
                      have nl : ((len : Int) != 0) = true := by simp; omega
                      clear hG hF hl hk1 yt ys ya yl
                      go_enter Try.func33, Try.ntmps33
                      go_wp2_with fail
                      go_ret
                      exact ⟨ret_bool (by first | (rw [hg.out]; done) | (rw [hg.out]; simp; done) | (rw [hg.out]; simp; omega)), hk0⟩
                  · have hg : Hid (G = false) := hG.trans (good_out (fun h => by have := hF.1 h; omega))
                    have bk1 : (k == 1) = true := by simp; omega
                    have bt : ((t : Int) == 0) = true := by simp; omega
                    have nt : ((t : Int) != 0) = false := by simp; omega
                    have bs : ((s : Int) == 0) = true := by simp; omega
                    have ns : ((s : Int) != 0) = false := by simp; omega
                    have ba : ((a : Int) == 0) = false := by simp; omega
                    have na : ((a : Int) != 0) = true := by simp; omega
                    clear hG hF hl hk1 yt ys ya
                    go_enter Try.func33, Try.ntmps33
                    go_wp2_with fail
                    go_ret
                    exact ⟨ret_bool (by first | (rw [hg.out]; done) | (rw [hg.out]; simp; done) | (rw [hg.out]; simp; omega)), hk0⟩
                · have hg : Hid (G = false) := hG.trans (good_out (fun h => by have := hF.1 h; omega))
                  have bk1 : (k == 1) = true := by simp; omega
                  have bt : ((t : Int) == 0) = true := by simp; omega
                  have nt : ((t : Int) != 0) = false := by simp; omega
                  have bs : ((s : Int) == 0) = false := by simp; omega
                  have ns : ((s : Int) != 0) = true := by simp; omega
                  clear hG hF hl hk1 yt ys
                  go_enter Try.func33, Try.ntmps33
                  go_wp2_with fail
                  go_ret
                  exact ⟨ret_bool (by first | (rw [hg.out]; done) | (rw [hg.out]; simp; done) | (rw [hg.out]; simp; omega)), hk0⟩
              · have hg : Hid (G = false) := hG.trans (good_out (fun h => by have := hF.1 h; omega))
                have bk1 : (k == 1) = true := by simp; omega
                have bt : ((t : Int) == 0) = false := by simp; omega
                have nt : ((t : Int) != 0) = true := by simp; omega
                clear hG hF hl hk1 yt
                go_enter Try.func33, Try.ntmps33
                go_wp2_with fail
                go_ret
                exact ⟨ret_bool (by first | (rw [hg.out]; done) | (rw [hg.out]; simp; done) | (rw [hg.out]; simp; omega)), hk0⟩
            · by_cases hk2 : k = 2
              · by_cases ht : 1 ≤ t
                · by_cases ys : s = 0
                  · by_cases yl : len = 0
                    · have hg : Hid (G = true) := hG.trans (good_in (hF.2 (by omega)))
                      have bk1 : (k == 1) = false := by simp; omega
                      have bk2 : (k == 2) = true := by simp; omega

                      have bs : ((s : Int) == 0) = true := by simp; omega
                      have ns : ((s : Int) != 0) = false := by simp; omega
                      have bl : ((len : Int) == 0) = true := by simp; omega
                      have nl : ((len : Int) != 0) = false := by simp; omega
                      clear hG hF hl hk1 hk2 ys yl
                      go_enter Try.func33, Try.ntmps33
                      go_wp2_with fail
                      go_ret
                      exact ⟨ret_bool (by first | (rw [hg.out]; done) | (rw [hg.out]; simp; done) | (rw [hg.out]; simp; omega)), hk0⟩
                    · have hg : Hid (G = false) := hG.trans (good_out (fun h => by have := hF.1 h; omega))
                      have bk1 : (k == 1) = false := by simp; omega
                      have bk2 : (k == 2) = true := by simp; omega

                      have bs : ((s : Int) == 0) = true := by simp; omega
                      have ns : ((s : Int) != 0) = false := by simp; omega
                      have bl : ((len : Int) == 0) = false := by simp; omega
                      have nl : ((len : Int) != 0) = true := by simp; omega
                      clear hG hF hl hk1 hk2 ys yl
                      go_enter Try.func33, Try.ntmps33
                      go_wp2_with fail
                      go_ret
                      exact ⟨ret_bool (by first | (rw [hg.out]; done) | (rw [hg.out]; simp; done) | (rw [hg.out]; simp; omega)), hk0⟩
                  · have hg : Hid (G = false) := hG.trans (good_out (fun h => by have := hF.1 h; omega))
                    have bk1 : (k == 1) = false := by simp; omega
                    have bk2 : (k == 2) = true := by simp; omega

                    have bs : ((s : Int) == 0) = false := by simp; omega
                    have ns : ((s : Int) != 0) = true := by simp; omega
                    clear hG hF hl hk1 hk2 ys
                    go_enter Try.func33, Try.ntmps33
                    go_wp2_with fail
                    go_ret
                    exact ⟨ret_bool (by first | (rw [hg.out]; done) | (rw [hg.out]; simp; done) | (rw [hg.out]; simp; omega)), hk0⟩
                · have hg : Hid (G = false) := hG.trans (good_out (fun h => by have := hF.1 h; omega))
                  have bk1 : (k == 1) = false := by simp; omega
                  have bk2 : (k == 2) = true := by simp; omega
                  have gt : t < 1 := by omega
                  clear hG hF hl hk1 hk2
                  go_enter Try.func33, Try.ntmps33
                  go_wp2_with fail
                  go_ret
                  exact ⟨ret_bool (by first | (rw [hg.out]; done) | (rw [hg.out]; simp; done) | (rw [hg.out]; simp; omega)), hk0⟩
              · by_cases hk3 : k = 3
                · by_cases ht : 1 ≤ t
                  · by_cases hs : 1 ≤ s
                    · by_cases hq : 1 ≤ len
                      · by_cases hm : len ≤ 200
                        · have hg : Hid (G = true) := hG.trans (good_in (hF.2 (by omega)))
                          have bk1 : (k == 1) = false := by simp; omega
                          have bk2 : (k == 2) = false := by simp; omega
                          have bk3 : (k == 3) = true := by simp; omega




                          clear hG hF hl hk1 hk2 hk3
                          go_enter Try.func33, Try.ntmps33
                          go_wp2_with fail
                          go_ret
                          exact ⟨ret_bool (by first | (rw [hg.out]; done) | (rw [hg.out]; simp; done) | (rw [hg.out]; simp; omega)), hk0⟩
                        · have hg : Hid (G = false) := hG.trans (good_out (fun h => by have := hF.1 h; omega))
                          have bk1 : (k == 1) = false := by simp; omega
                          have bk2 : (k == 2) = false := by simp; omega
                          have bk3 : (k == 3) = true := by simp; omega



                          have gm : 200 < len := by omega
                          clear hG hF hl hk1 hk2 hk3
                          go_enter Try.func33, Try.ntmps33
                          go_wp2_with fail
                          go_ret
                          exact ⟨ret_bool (by first | (rw [hg.out]; done) | (rw [hg.out]; simp; done) | (rw [hg.out]; simp; omega)), hk0⟩
                      · have hg : Hid (G = false) := hG.trans (good_out (fun h => by have := hF.1 h; omega))
                        have bk1 : (k == 1) = false := by simp; omega
                        have bk2 : (k == 2) = false := by simp; omega
                        have bk3 : (k == 3) = true := by simp; omega


                        have gq : len < 1 := by omega
                        clear hG hF hl hk1 hk2 hk3
                        go_enter Try.func33, Try.ntmps33
                        go_wp2_with fail
                        go_ret
                        exact ⟨ret_bool (by first | (rw [hg.out]; done) | (rw [hg.out]; simp; done) | (rw [hg.out]; simp; omega)), hk0⟩
                    · have hg : Hid (G = false) := hG.trans (good_out (fun h => by have := hF.1 h; omega))
                      have bk1 : (k == 1) = false := by simp; omega
                      have bk2 : (k == 2) = false := by simp; omega
                      have bk3 : (k == 3) = true := by simp; omega

                      have gs : s < 1 := by omega
                      clear hG hF hl hk1 hk2 hk3
                      go_enter Try.func33, Try.ntmps33
                      go_wp2_with fail
                      go_ret
                      exact ⟨ret_bool (by first | (rw [hg.out]; done) | (rw [hg.out]; simp; done) | (rw [hg.out]; simp; omega)), hk0⟩
                  · have hg : Hid (G = false) := hG.trans (good_out (fun h => by have := hF.1 h; omega))
                    have bk1 : (k == 1) = false := by simp; omega
                    have bk2 : (k == 2) = false := by simp; omega
                    have bk3 : (k == 3) = true := by simp; omega
                    have gt : t < 1 := by omega
                    clear hG hF hl hk1 hk2 hk3
                    go_enter Try.func33, Try.ntmps33
                    go_wp2_with fail
                    go_ret
                    exact ⟨ret_bool (by first | (rw [hg.out]; done) | (rw [hg.out]; simp; done) | (rw [hg.out]; simp; omega)), hk0⟩
                · have hg : Hid (G = false) := hG.trans (good_out (fun h => by have := hF.1 h; omega))
                  have bk1 : (k == 1) = false := by simp; omega
                  have bk2 : (k == 2) = false := by simp; omega
                  have bk3 : (k == 3) = false := by simp; omega
                  clear hG hF hl hk1 hk2 hk3
                  go_enter Try.func33, Try.ntmps33
                  go_wp2_with fail
                  go_ret
                  exact ⟨ret_bool (by first | (rw [hg.out]; done) | (rw [hg.out]; simp; done) | (rw [hg.out]; simp; omega)), hk0⟩
end Go.Proofs.Ytnbkbakbjllmcaa.Wire

