import Derived.Test.YtfiofdmefgkloaaGreatPkB
/-
  The walks of package pack: Good.
-/
namespace Go.Proofs.YtfiofdmefgkloaaGreat.Pack
open Go.RowKit
open Seal (enc ret_bool)

/-- A message and its shape, both in blocks of the call's own. -/
structure Two (w : World) (x : Mv) (g h : Nat) (nm : ByteArray) (p o l u : Nat) (W : World) : Prop where
  msg : x.In W g
  shp : ShIn W h nm p o l u
  kept : Kept [] w W
theorem Two.after {w : World} {x : Mv} {g h : Nat} {nm : ByteArray} {p o l u : Nat} {A B : World} (t : Two w x g h nm p o l u A) (hk : Kept [] A B) : Two w x g h nm p o l u B := ⟨t.msg.kept hk (by simp), t.shp.kept hk (by simp), t.kept.trans hk⟩
/-- Good, as the program has it. -/
theorem good_prog (x : Ms) : good x = (isKind x.k && (hasB (partsOf x.k) 1 || !x.s) && (hasB (partsOf x.k) 2 || decide (x.m = 0)) && fitB (partsOf x.k) 4 x.i 1 72057594037927935 && fitB (partsOf x.k) 8 x.o 0 ((offsOf x.k : Int) - 1) && fitB (partsOf x.k) 16 x.d.length ((leastOf x.k : Int) * 16) ((mostOf x.k : Int) * 16) && decide ((x.d.length : Int) % 16 = 0)) := by
  obtain ⟨k, i, o, m, s, d⟩ := x
  simp only
  by_cases h : 1 ≤ k ∧ k ≤ 8
  · have hk : k = 1 ∨ k = 2 ∨ k = 3 ∨ k = 4 ∨ k = 5 ∨ k = 6 ∨ k = 7 ∨ k = 8 := by omega
    have e1 : ∀ a b : Bool, (a = true ↔ b = true) → a = b := fun a b hab => by cases a <;> cases b <;> simp_all
    apply e1
    rw [show (good ⟨k, i, o, m, s, d⟩ = true ↔ Fine ⟨k, i, o, m, s, d⟩) from ⟨fine_of, good_in⟩, Fine]
    simp only
    generalize d.length = L
    rcases hk with rfl | rfl | rfl | rfl | rfl | rfl | rfl | rfl <;> simp [isKind, hasB, fitB, partsOf, offsOf, leastOf, mostOf] <;> first | omega | (cases s <;> simp <;> omega)
  · have e0 : isKind k = false := decide_eq_false h
    rw [e0, good_out (not_fine_kind (by simp only; omega))]
    simp

theorem parts_lt (k : Int) : partsOf k < 1000 := by
  unfold partsOf
  split
  · omega
  · split
    · omega
    · split
      · omega
      · split
        · omega
        · split <;> omega
theorem hasB_two (k : Int) : hasB (partsOf k) 2 = hasB (partsOf k) 1 := by
  unfold partsOf hasB
  split
  · rfl
  · split
    · rfl
    · split
      · rfl
      · split
        · rfl
        · split <;> rfl
theorem offs_lt (k : Int) : offsOf k ≤ 256 := by
  unfold offsOf
  split
  · omega
  · split <;> omega
theorem least_lt (k : Int) : leastOf k ≤ 4 := by
  unfold leastOf
  split
  · omega
  · split <;> omega
theorem most_lt (k : Int) : mostOf k ≤ 8 := by
  unfold mostOf
  split
  · omega
  · split <;> omega
set_option maxRecDepth 100000 in
set_option maxHeartbeats 4000000 in
/-- Good -/
theorem good_any (x : Mv) (hl : x.len = x.d.length) (hlen : x.len ≤ 9223372036854775807) (w : World) : Calls Tryz.prog 69 #[x.val] w fun e w' => e = .returned (.bool (good x.ms)) ∧ Kept [] w w' := by
  have hb0 : x.In (w.alloc (.cells #[.int .i64 x.k, .int .i64 x.i, .int .i64 x.o, .int .u64 (x.m : Int), .bool x.s, .slice x.sa x.len x.cap] 26)) w.heap.size := blk_new w 26 _
  have hk0 := kept_alloc [] w (.cells #[.int .i64 x.k, .int .i64 x.i, .int .i64 x.o, .int .u64 (x.m : Int), .bool x.s, .slice x.sa x.len x.cap] 26)
  have q := shape_any x.k (w.alloc (.cells #[.int .i64 x.k, .int .i64 x.i, .int .i64 x.o, .int .u64 (x.m : Int), .bool x.s, .slice x.sa x.len x.cap] 26))
  have pl := parts_lt x.k
  have ol := offs_lt x.k
  have ll := least_lt x.k
  have ul := most_lt x.k
  have qh1 : ∀ W, Calls Tryz.prog 120 #[shV (nameOf x.k) (partsOf x.k) (offsOf x.k) (leastOf x.k) (mostOf x.k), .int .i64 1] W _ := fun W => has_any (nameOf x.k) (partsOf x.k) (offsOf x.k) (leastOf x.k) (mostOf x.k) 1 pl (by omega) W
  have qh2 : ∀ W, Calls Tryz.prog 120 #[shV (nameOf x.k) (partsOf x.k) (offsOf x.k) (leastOf x.k) (mostOf x.k), .int .i64 2] W _ := fun W => has_any (nameOf x.k) (partsOf x.k) (offsOf x.k) (leastOf x.k) (mostOf x.k) 2 pl (by omega) W
  have qf1 : ∀ W, Calls Tryz.prog 121 #[shV (nameOf x.k) (partsOf x.k) (offsOf x.k) (leastOf x.k) (mostOf x.k), .int .i64 4, .int .i64 x.i, .int .i64 1, .int .i64 72057594037927935] W _ := fun W => fits_any (nameOf x.k) (partsOf x.k) (offsOf x.k) (leastOf x.k) (mostOf x.k) 4 x.i 1 72057594037927935 pl (by omega) W
  have qf2 : ∀ W, Calls Tryz.prog 121 #[shV (nameOf x.k) (partsOf x.k) (offsOf x.k) (leastOf x.k) (mostOf x.k), .int .i64 8, .int .i64 x.o, .int .i64 0, .int .i64 ((offsOf x.k : Int) - 1)] W _ := fun W => fits_any (nameOf x.k) (partsOf x.k) (offsOf x.k) (leastOf x.k) (mostOf x.k) 8 x.o 0 ((offsOf x.k : Int) - 1) pl (by omega) W
  have qf3 : ∀ W, Calls Tryz.prog 121 #[shV (nameOf x.k) (partsOf x.k) (offsOf x.k) (leastOf x.k) (mostOf x.k), .int .i64 16, .int .i64 (x.len : Int), .int .i64 ((leastOf x.k : Int) * 16), .int .i64 ((mostOf x.k : Int) * 16)] W _ := fun W => fits_any (nameOf x.k) (partsOf x.k) (offsOf x.k) (leastOf x.k) (mostOf x.k) 16 x.len ((leastOf x.k : Int) * 16) ((mostOf x.k : Int) * 16) pl (by omega) W
  rw [hasB_two] at qh2
  have t0 : Hid (∀ w1 : World, Kept [] (w.alloc (.cells #[.int .i64 x.k, .int .i64 x.i, .int .i64 x.o, .int .u64 (x.m : Int), .bool x.s, .slice x.sa x.len x.cap] 26)) w1 → Two w x w.heap.size w1.heap.size (nameOf x.k) (partsOf x.k) (offsOf x.k) (leastOf x.k) (mostOf x.k) (w1.alloc (.cells #[.string (nameOf x.k), .int .i64 (partsOf x.k : Int), .int .i64 (offsOf x.k : Int), .int .i64 (leastOf x.k : Int), .int .i64 (mostOf x.k : Int)] 178))) :=
    fun w1 hk1 => ⟨(hb0.kept hk1 (by simp)).kept (kept_alloc [] w1 _) (by simp), blk_new w1 178 _, (hk0.trans hk1).trans (kept_alloc [] w1 _)⟩
  clear hb0 hk0
  obtain ⟨k, i, o, m, s, sa, len, cap, d⟩ := x
  simp only [Mv.ms, Mv.val] at *
  subst hl
  have hG := good_prog ⟨k, i, o, m, s, d⟩
  simp only at hG
  rw [hasB_two] at hG
  generalize good ⟨k, i, o, m, s, d⟩ = G at *
  generalize d.length = len at *
  replace hG : Hid _ := hG
  generalize fitB (partsOf k) 4 i 1 72057594037927935 = f1 at *
  generalize fitB (partsOf k) 8 o 0 ((offsOf k : Int) - 1) = f2 at *
  generalize fitB (partsOf k) 16 len ((leastOf k : Int) * 16) ((mostOf k : Int) * 16) = f3 at *
  generalize hasB (partsOf k) 1 = b at *
  generalize nameOf k = nm at *
  generalize partsOf k = p at *
  generalize offsOf k = of at *
  generalize leastOf k = l at *
  generalize mostOf k = u at *
  generalize isKind k = ok at *
  unfold shV at *
  cases ok with
  | false =>
    go_enter Tryz.func69, Tryz.ntmps69
    go_wp2_with (first
      | (go_at_call 119; refine q.mono ?_; rintro e w1 ⟨rfl, hk1⟩; have hT := t0.out w1 hk1; obtain ⟨c0, c1, c2, c3, c4, c5⟩ := hT.msg.six; obtain ⟨s0, s1, s2, s3, s4⟩ := hT.shp.five; clear q)
      | (go_at_call 120; refine (qh1 _).mono ?_; rintro e w2 ⟨rfl, hk2⟩; replace hT := hT.after hk2; obtain ⟨c0, c1, c2, c3, c4, c5⟩ := hT.msg.six; obtain ⟨s0, s1, s2, s3, s4⟩ := hT.shp.five; clear hk2 qh1)
      | (go_at_call 120; refine (qh2 _).mono ?_; rintro e w3 ⟨rfl, hk2⟩; replace hT := hT.after hk2; obtain ⟨c0, c1, c2, c3, c4, c5⟩ := hT.msg.six; obtain ⟨s0, s1, s2, s3, s4⟩ := hT.shp.five; clear hk2 qh2)
      | (go_at_call 121; refine (qf1 _).mono ?_; rintro e w4 ⟨rfl, hk2⟩; replace hT := hT.after hk2; obtain ⟨c0, c1, c2, c3, c4, c5⟩ := hT.msg.six; obtain ⟨s0, s1, s2, s3, s4⟩ := hT.shp.five; clear hk2 qf1)
      | (go_at_call 121; refine (qf2 _).mono ?_; rintro e w5 ⟨rfl, hk2⟩; replace hT := hT.after hk2; obtain ⟨c0, c1, c2, c3, c4, c5⟩ := hT.msg.six; obtain ⟨s0, s1, s2, s3, s4⟩ := hT.shp.five; clear hk2 qf2)
      | (go_at_call 121; refine (qf3 _).mono ?_; rintro e w6 ⟨rfl, hk2⟩; replace hT := hT.after hk2; obtain ⟨c0, c1, c2, c3, c4, c5⟩ := hT.msg.six; obtain ⟨s0, s1, s2, s3, s4⟩ := hT.shp.five; clear hk2 qf3))
    go_ret
    exact ⟨ret_bool (by rw [hG.out]; simp), hT.kept⟩
  | true =>
    cases b with
    | true =>
      cases f1 with
      | false =>
        go_enter Tryz.func69, Tryz.ntmps69
        go_wp2_with (first
          | (go_at_call 119; refine q.mono ?_; rintro e w1 ⟨rfl, hk1⟩; have hT := t0.out w1 hk1; obtain ⟨c0, c1, c2, c3, c4, c5⟩ := hT.msg.six; obtain ⟨s0, s1, s2, s3, s4⟩ := hT.shp.five; clear q)
          | (go_at_call 120; refine (qh1 _).mono ?_; rintro e w2 ⟨rfl, hk2⟩; replace hT := hT.after hk2; obtain ⟨c0, c1, c2, c3, c4, c5⟩ := hT.msg.six; obtain ⟨s0, s1, s2, s3, s4⟩ := hT.shp.five; clear hk2 qh1)
          | (go_at_call 120; refine (qh2 _).mono ?_; rintro e w3 ⟨rfl, hk2⟩; replace hT := hT.after hk2; obtain ⟨c0, c1, c2, c3, c4, c5⟩ := hT.msg.six; obtain ⟨s0, s1, s2, s3, s4⟩ := hT.shp.five; clear hk2 qh2)
          | (go_at_call 121; refine (qf1 _).mono ?_; rintro e w4 ⟨rfl, hk2⟩; replace hT := hT.after hk2; obtain ⟨c0, c1, c2, c3, c4, c5⟩ := hT.msg.six; obtain ⟨s0, s1, s2, s3, s4⟩ := hT.shp.five; clear hk2 qf1)
          | (go_at_call 121; refine (qf2 _).mono ?_; rintro e w5 ⟨rfl, hk2⟩; replace hT := hT.after hk2; obtain ⟨c0, c1, c2, c3, c4, c5⟩ := hT.msg.six; obtain ⟨s0, s1, s2, s3, s4⟩ := hT.shp.five; clear hk2 qf2)
          | (go_at_call 121; refine (qf3 _).mono ?_; rintro e w6 ⟨rfl, hk2⟩; replace hT := hT.after hk2; obtain ⟨c0, c1, c2, c3, c4, c5⟩ := hT.msg.six; obtain ⟨s0, s1, s2, s3, s4⟩ := hT.shp.five; clear hk2 qf3))
        go_ret
        exact ⟨ret_bool (by rw [hG.out]; simp), hT.kept⟩
      | true =>
        cases f2 with
        | false =>
          go_enter Tryz.func69, Tryz.ntmps69
          go_wp2_with (first
            | (go_at_call 119; refine q.mono ?_; rintro e w1 ⟨rfl, hk1⟩; have hT := t0.out w1 hk1; obtain ⟨c0, c1, c2, c3, c4, c5⟩ := hT.msg.six; obtain ⟨s0, s1, s2, s3, s4⟩ := hT.shp.five; clear q)
            | (go_at_call 120; refine (qh1 _).mono ?_; rintro e w2 ⟨rfl, hk2⟩; replace hT := hT.after hk2; obtain ⟨c0, c1, c2, c3, c4, c5⟩ := hT.msg.six; obtain ⟨s0, s1, s2, s3, s4⟩ := hT.shp.five; clear hk2 qh1)
            | (go_at_call 120; refine (qh2 _).mono ?_; rintro e w3 ⟨rfl, hk2⟩; replace hT := hT.after hk2; obtain ⟨c0, c1, c2, c3, c4, c5⟩ := hT.msg.six; obtain ⟨s0, s1, s2, s3, s4⟩ := hT.shp.five; clear hk2 qh2)
            | (go_at_call 121; refine (qf1 _).mono ?_; rintro e w4 ⟨rfl, hk2⟩; replace hT := hT.after hk2; obtain ⟨c0, c1, c2, c3, c4, c5⟩ := hT.msg.six; obtain ⟨s0, s1, s2, s3, s4⟩ := hT.shp.five; clear hk2 qf1)
            | (go_at_call 121; refine (qf2 _).mono ?_; rintro e w5 ⟨rfl, hk2⟩; replace hT := hT.after hk2; obtain ⟨c0, c1, c2, c3, c4, c5⟩ := hT.msg.six; obtain ⟨s0, s1, s2, s3, s4⟩ := hT.shp.five; clear hk2 qf2)
            | (go_at_call 121; refine (qf3 _).mono ?_; rintro e w6 ⟨rfl, hk2⟩; replace hT := hT.after hk2; obtain ⟨c0, c1, c2, c3, c4, c5⟩ := hT.msg.six; obtain ⟨s0, s1, s2, s3, s4⟩ := hT.shp.five; clear hk2 qf3))
          go_ret
          exact ⟨ret_bool (by rw [hG.out]; simp), hT.kept⟩
        | true =>
          cases f3 with
          | false =>
            go_enter Tryz.func69, Tryz.ntmps69
            go_wp2_with (first
              | (go_at_call 119; refine q.mono ?_; rintro e w1 ⟨rfl, hk1⟩; have hT := t0.out w1 hk1; obtain ⟨c0, c1, c2, c3, c4, c5⟩ := hT.msg.six; obtain ⟨s0, s1, s2, s3, s4⟩ := hT.shp.five; clear q)
              | (go_at_call 120; refine (qh1 _).mono ?_; rintro e w2 ⟨rfl, hk2⟩; replace hT := hT.after hk2; obtain ⟨c0, c1, c2, c3, c4, c5⟩ := hT.msg.six; obtain ⟨s0, s1, s2, s3, s4⟩ := hT.shp.five; clear hk2 qh1)
              | (go_at_call 120; refine (qh2 _).mono ?_; rintro e w3 ⟨rfl, hk2⟩; replace hT := hT.after hk2; obtain ⟨c0, c1, c2, c3, c4, c5⟩ := hT.msg.six; obtain ⟨s0, s1, s2, s3, s4⟩ := hT.shp.five; clear hk2 qh2)
              | (go_at_call 121; refine (qf1 _).mono ?_; rintro e w4 ⟨rfl, hk2⟩; replace hT := hT.after hk2; obtain ⟨c0, c1, c2, c3, c4, c5⟩ := hT.msg.six; obtain ⟨s0, s1, s2, s3, s4⟩ := hT.shp.five; clear hk2 qf1)
              | (go_at_call 121; refine (qf2 _).mono ?_; rintro e w5 ⟨rfl, hk2⟩; replace hT := hT.after hk2; obtain ⟨c0, c1, c2, c3, c4, c5⟩ := hT.msg.six; obtain ⟨s0, s1, s2, s3, s4⟩ := hT.shp.five; clear hk2 qf2)
              | (go_at_call 121; refine (qf3 _).mono ?_; rintro e w6 ⟨rfl, hk2⟩; replace hT := hT.after hk2; obtain ⟨c0, c1, c2, c3, c4, c5⟩ := hT.msg.six; obtain ⟨s0, s1, s2, s3, s4⟩ := hT.shp.five; clear hk2 qf3))
            go_ret
            exact ⟨ret_bool (by rw [hG.out]; simp), hT.kept⟩
          | true =>
            go_enter Tryz.func69, Tryz.ntmps69
            go_wp2_with (first
              | (go_at_call 119; refine q.mono ?_; rintro e w1 ⟨rfl, hk1⟩; have hT := t0.out w1 hk1; obtain ⟨c0, c1, c2, c3, c4, c5⟩ := hT.msg.six; obtain ⟨s0, s1, s2, s3, s4⟩ := hT.shp.five; clear q)
              | (go_at_call 120; refine (qh1 _).mono ?_; rintro e w2 ⟨rfl, hk2⟩; replace hT := hT.after hk2; obtain ⟨c0, c1, c2, c3, c4, c5⟩ := hT.msg.six; obtain ⟨s0, s1, s2, s3, s4⟩ := hT.shp.five; clear hk2 qh1)
              | (go_at_call 120; refine (qh2 _).mono ?_; rintro e w3 ⟨rfl, hk2⟩; replace hT := hT.after hk2; obtain ⟨c0, c1, c2, c3, c4, c5⟩ := hT.msg.six; obtain ⟨s0, s1, s2, s3, s4⟩ := hT.shp.five; clear hk2 qh2)
              | (go_at_call 121; refine (qf1 _).mono ?_; rintro e w4 ⟨rfl, hk2⟩; replace hT := hT.after hk2; obtain ⟨c0, c1, c2, c3, c4, c5⟩ := hT.msg.six; obtain ⟨s0, s1, s2, s3, s4⟩ := hT.shp.five; clear hk2 qf1)
              | (go_at_call 121; refine (qf2 _).mono ?_; rintro e w5 ⟨rfl, hk2⟩; replace hT := hT.after hk2; obtain ⟨c0, c1, c2, c3, c4, c5⟩ := hT.msg.six; obtain ⟨s0, s1, s2, s3, s4⟩ := hT.shp.five; clear hk2 qf2)
              | (go_at_call 121; refine (qf3 _).mono ?_; rintro e w6 ⟨rfl, hk2⟩; replace hT := hT.after hk2; obtain ⟨c0, c1, c2, c3, c4, c5⟩ := hT.msg.six; obtain ⟨s0, s1, s2, s3, s4⟩ := hT.shp.five; clear hk2 qf3))
            go_ret
            exact ⟨ret_bool (by rw [hG.out]; simp; rfl), hT.kept⟩
    | false =>
      cases s with
      | true =>
        go_enter Tryz.func69, Tryz.ntmps69
        go_wp2_with (first
          | (go_at_call 119; refine q.mono ?_; rintro e w1 ⟨rfl, hk1⟩; have hT := t0.out w1 hk1; obtain ⟨c0, c1, c2, c3, c4, c5⟩ := hT.msg.six; obtain ⟨s0, s1, s2, s3, s4⟩ := hT.shp.five; clear q)
          | (go_at_call 120; refine (qh1 _).mono ?_; rintro e w2 ⟨rfl, hk2⟩; replace hT := hT.after hk2; obtain ⟨c0, c1, c2, c3, c4, c5⟩ := hT.msg.six; obtain ⟨s0, s1, s2, s3, s4⟩ := hT.shp.five; clear hk2 qh1)
          | (go_at_call 120; refine (qh2 _).mono ?_; rintro e w3 ⟨rfl, hk2⟩; replace hT := hT.after hk2; obtain ⟨c0, c1, c2, c3, c4, c5⟩ := hT.msg.six; obtain ⟨s0, s1, s2, s3, s4⟩ := hT.shp.five; clear hk2 qh2)
          | (go_at_call 121; refine (qf1 _).mono ?_; rintro e w4 ⟨rfl, hk2⟩; replace hT := hT.after hk2; obtain ⟨c0, c1, c2, c3, c4, c5⟩ := hT.msg.six; obtain ⟨s0, s1, s2, s3, s4⟩ := hT.shp.five; clear hk2 qf1)
          | (go_at_call 121; refine (qf2 _).mono ?_; rintro e w5 ⟨rfl, hk2⟩; replace hT := hT.after hk2; obtain ⟨c0, c1, c2, c3, c4, c5⟩ := hT.msg.six; obtain ⟨s0, s1, s2, s3, s4⟩ := hT.shp.five; clear hk2 qf2)
          | (go_at_call 121; refine (qf3 _).mono ?_; rintro e w6 ⟨rfl, hk2⟩; replace hT := hT.after hk2; obtain ⟨c0, c1, c2, c3, c4, c5⟩ := hT.msg.six; obtain ⟨s0, s1, s2, s3, s4⟩ := hT.shp.five; clear hk2 qf3))
        go_ret
        exact ⟨ret_bool (by rw [hG.out]; simp), hT.kept⟩
      | false =>
        by_cases hm : m = 0
        · subst hm
          cases f1 with
          | false =>
            go_enter Tryz.func69, Tryz.ntmps69
            go_wp2_with (first
              | (go_at_call 119; refine q.mono ?_; rintro e w1 ⟨rfl, hk1⟩; have hT := t0.out w1 hk1; obtain ⟨c0, c1, c2, c3, c4, c5⟩ := hT.msg.six; obtain ⟨s0, s1, s2, s3, s4⟩ := hT.shp.five; clear q)
              | (go_at_call 120; refine (qh1 _).mono ?_; rintro e w2 ⟨rfl, hk2⟩; replace hT := hT.after hk2; obtain ⟨c0, c1, c2, c3, c4, c5⟩ := hT.msg.six; obtain ⟨s0, s1, s2, s3, s4⟩ := hT.shp.five; clear hk2 qh1)
              | (go_at_call 120; refine (qh2 _).mono ?_; rintro e w3 ⟨rfl, hk2⟩; replace hT := hT.after hk2; obtain ⟨c0, c1, c2, c3, c4, c5⟩ := hT.msg.six; obtain ⟨s0, s1, s2, s3, s4⟩ := hT.shp.five; clear hk2 qh2)
              | (go_at_call 121; refine (qf1 _).mono ?_; rintro e w4 ⟨rfl, hk2⟩; replace hT := hT.after hk2; obtain ⟨c0, c1, c2, c3, c4, c5⟩ := hT.msg.six; obtain ⟨s0, s1, s2, s3, s4⟩ := hT.shp.five; clear hk2 qf1)
              | (go_at_call 121; refine (qf2 _).mono ?_; rintro e w5 ⟨rfl, hk2⟩; replace hT := hT.after hk2; obtain ⟨c0, c1, c2, c3, c4, c5⟩ := hT.msg.six; obtain ⟨s0, s1, s2, s3, s4⟩ := hT.shp.five; clear hk2 qf2)
              | (go_at_call 121; refine (qf3 _).mono ?_; rintro e w6 ⟨rfl, hk2⟩; replace hT := hT.after hk2; obtain ⟨c0, c1, c2, c3, c4, c5⟩ := hT.msg.six; obtain ⟨s0, s1, s2, s3, s4⟩ := hT.shp.five; clear hk2 qf3))
            go_ret
            exact ⟨ret_bool (by rw [hG.out]; simp), hT.kept⟩
          | true =>
            cases f2 with
            | false =>
              go_enter Tryz.func69, Tryz.ntmps69
              go_wp2_with (first
                | (go_at_call 119; refine q.mono ?_; rintro e w1 ⟨rfl, hk1⟩; have hT := t0.out w1 hk1; obtain ⟨c0, c1, c2, c3, c4, c5⟩ := hT.msg.six; obtain ⟨s0, s1, s2, s3, s4⟩ := hT.shp.five; clear q)
                | (go_at_call 120; refine (qh1 _).mono ?_; rintro e w2 ⟨rfl, hk2⟩; replace hT := hT.after hk2; obtain ⟨c0, c1, c2, c3, c4, c5⟩ := hT.msg.six; obtain ⟨s0, s1, s2, s3, s4⟩ := hT.shp.five; clear hk2 qh1)
                | (go_at_call 120; refine (qh2 _).mono ?_; rintro e w3 ⟨rfl, hk2⟩; replace hT := hT.after hk2; obtain ⟨c0, c1, c2, c3, c4, c5⟩ := hT.msg.six; obtain ⟨s0, s1, s2, s3, s4⟩ := hT.shp.five; clear hk2 qh2)
                | (go_at_call 121; refine (qf1 _).mono ?_; rintro e w4 ⟨rfl, hk2⟩; replace hT := hT.after hk2; obtain ⟨c0, c1, c2, c3, c4, c5⟩ := hT.msg.six; obtain ⟨s0, s1, s2, s3, s4⟩ := hT.shp.five; clear hk2 qf1)
                | (go_at_call 121; refine (qf2 _).mono ?_; rintro e w5 ⟨rfl, hk2⟩; replace hT := hT.after hk2; obtain ⟨c0, c1, c2, c3, c4, c5⟩ := hT.msg.six; obtain ⟨s0, s1, s2, s3, s4⟩ := hT.shp.five; clear hk2 qf2)
                | (go_at_call 121; refine (qf3 _).mono ?_; rintro e w6 ⟨rfl, hk2⟩; replace hT := hT.after hk2; obtain ⟨c0, c1, c2, c3, c4, c5⟩ := hT.msg.six; obtain ⟨s0, s1, s2, s3, s4⟩ := hT.shp.five; clear hk2 qf3))
              go_ret
              exact ⟨ret_bool (by rw [hG.out]; simp), hT.kept⟩
            | true =>
              cases f3 with
              | false =>
                go_enter Tryz.func69, Tryz.ntmps69
                go_wp2_with (first
                  | (go_at_call 119; refine q.mono ?_; rintro e w1 ⟨rfl, hk1⟩; have hT := t0.out w1 hk1; obtain ⟨c0, c1, c2, c3, c4, c5⟩ := hT.msg.six; obtain ⟨s0, s1, s2, s3, s4⟩ := hT.shp.five; clear q)
                  | (go_at_call 120; refine (qh1 _).mono ?_; rintro e w2 ⟨rfl, hk2⟩; replace hT := hT.after hk2; obtain ⟨c0, c1, c2, c3, c4, c5⟩ := hT.msg.six; obtain ⟨s0, s1, s2, s3, s4⟩ := hT.shp.five; clear hk2 qh1)
                  | (go_at_call 120; refine (qh2 _).mono ?_; rintro e w3 ⟨rfl, hk2⟩; replace hT := hT.after hk2; obtain ⟨c0, c1, c2, c3, c4, c5⟩ := hT.msg.six; obtain ⟨s0, s1, s2, s3, s4⟩ := hT.shp.five; clear hk2 qh2)
                  | (go_at_call 121; refine (qf1 _).mono ?_; rintro e w4 ⟨rfl, hk2⟩; replace hT := hT.after hk2; obtain ⟨c0, c1, c2, c3, c4, c5⟩ := hT.msg.six; obtain ⟨s0, s1, s2, s3, s4⟩ := hT.shp.five; clear hk2 qf1)
                  | (go_at_call 121; refine (qf2 _).mono ?_; rintro e w5 ⟨rfl, hk2⟩; replace hT := hT.after hk2; obtain ⟨c0, c1, c2, c3, c4, c5⟩ := hT.msg.six; obtain ⟨s0, s1, s2, s3, s4⟩ := hT.shp.five; clear hk2 qf2)
                  | (go_at_call 121; refine (qf3 _).mono ?_; rintro e w6 ⟨rfl, hk2⟩; replace hT := hT.after hk2; obtain ⟨c0, c1, c2, c3, c4, c5⟩ := hT.msg.six; obtain ⟨s0, s1, s2, s3, s4⟩ := hT.shp.five; clear hk2 qf3))
                go_ret
                exact ⟨ret_bool (by rw [hG.out]; simp), hT.kept⟩
              | true =>
                go_enter Tryz.func69, Tryz.ntmps69
                go_wp2_with (first
                  | (go_at_call 119; refine q.mono ?_; rintro e w1 ⟨rfl, hk1⟩; have hT := t0.out w1 hk1; obtain ⟨c0, c1, c2, c3, c4, c5⟩ := hT.msg.six; obtain ⟨s0, s1, s2, s3, s4⟩ := hT.shp.five; clear q)
                  | (go_at_call 120; refine (qh1 _).mono ?_; rintro e w2 ⟨rfl, hk2⟩; replace hT := hT.after hk2; obtain ⟨c0, c1, c2, c3, c4, c5⟩ := hT.msg.six; obtain ⟨s0, s1, s2, s3, s4⟩ := hT.shp.five; clear hk2 qh1)
                  | (go_at_call 120; refine (qh2 _).mono ?_; rintro e w3 ⟨rfl, hk2⟩; replace hT := hT.after hk2; obtain ⟨c0, c1, c2, c3, c4, c5⟩ := hT.msg.six; obtain ⟨s0, s1, s2, s3, s4⟩ := hT.shp.five; clear hk2 qh2)
                  | (go_at_call 121; refine (qf1 _).mono ?_; rintro e w4 ⟨rfl, hk2⟩; replace hT := hT.after hk2; obtain ⟨c0, c1, c2, c3, c4, c5⟩ := hT.msg.six; obtain ⟨s0, s1, s2, s3, s4⟩ := hT.shp.five; clear hk2 qf1)
                  | (go_at_call 121; refine (qf2 _).mono ?_; rintro e w5 ⟨rfl, hk2⟩; replace hT := hT.after hk2; obtain ⟨c0, c1, c2, c3, c4, c5⟩ := hT.msg.six; obtain ⟨s0, s1, s2, s3, s4⟩ := hT.shp.five; clear hk2 qf2)
                  | (go_at_call 121; refine (qf3 _).mono ?_; rintro e w6 ⟨rfl, hk2⟩; replace hT := hT.after hk2; obtain ⟨c0, c1, c2, c3, c4, c5⟩ := hT.msg.six; obtain ⟨s0, s1, s2, s3, s4⟩ := hT.shp.five; clear hk2 qf3))
                go_ret
                exact ⟨ret_bool (by rw [hG.out]; simp; rfl), hT.kept⟩
        · have hm' : Hid (decide (m = 0) = false) := decide_eq_false hm
          go_enter Tryz.func69, Tryz.ntmps69
          go_wp2_with (first
            | (go_at_call 119; refine q.mono ?_; rintro e w1 ⟨rfl, hk1⟩; have hT := t0.out w1 hk1; obtain ⟨c0, c1, c2, c3, c4, c5⟩ := hT.msg.six; obtain ⟨s0, s1, s2, s3, s4⟩ := hT.shp.five; clear q)
            | (go_at_call 120; refine (qh1 _).mono ?_; rintro e w2 ⟨rfl, hk2⟩; replace hT := hT.after hk2; obtain ⟨c0, c1, c2, c3, c4, c5⟩ := hT.msg.six; obtain ⟨s0, s1, s2, s3, s4⟩ := hT.shp.five; clear hk2 qh1)
            | (go_at_call 120; refine (qh2 _).mono ?_; rintro e w3 ⟨rfl, hk2⟩; replace hT := hT.after hk2; obtain ⟨c0, c1, c2, c3, c4, c5⟩ := hT.msg.six; obtain ⟨s0, s1, s2, s3, s4⟩ := hT.shp.five; clear hk2 qh2)
            | (go_at_call 121; refine (qf1 _).mono ?_; rintro e w4 ⟨rfl, hk2⟩; replace hT := hT.after hk2; obtain ⟨c0, c1, c2, c3, c4, c5⟩ := hT.msg.six; obtain ⟨s0, s1, s2, s3, s4⟩ := hT.shp.five; clear hk2 qf1)
            | (go_at_call 121; refine (qf2 _).mono ?_; rintro e w5 ⟨rfl, hk2⟩; replace hT := hT.after hk2; obtain ⟨c0, c1, c2, c3, c4, c5⟩ := hT.msg.six; obtain ⟨s0, s1, s2, s3, s4⟩ := hT.shp.five; clear hk2 qf2)
            | (go_at_call 121; refine (qf3 _).mono ?_; rintro e w6 ⟨rfl, hk2⟩; replace hT := hT.after hk2; obtain ⟨c0, c1, c2, c3, c4, c5⟩ := hT.msg.six; obtain ⟨s0, s1, s2, s3, s4⟩ := hT.shp.five; clear hk2 qf3))
          go_ret
          exact ⟨ret_bool (by rw [hG.out]; rw [hm'.out]; simp), hT.kept⟩
end Go.Proofs.YtfiofdmefgkloaaGreat.Pack

