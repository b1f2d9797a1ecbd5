/-
  Texts of ours, joined: SlotD, SlotE, Ring2, Ring3.
-/
import Derived.Test.YtfiofdmefgkloaaGreatSlots1
/-
  The walks of the document's ring: ring, Place, Latest.
-/
namespace Go.Proofs.YtfiofdmefgkloaaGreat
open Go.RowKit Go.Maps Go.Shelf
open Math

set_option maxRecDepth 100000 in
theorem refRing_any (base r : Int) (w : World) : Calls Tryz.prog 100 #[.int .i64 base, .int .i64 r] w fun e w' => e = .returned (.bool (isRing base r)) ∧ w' = w := by
  have e0 : isRing base r = (decide (2 ≤ r) && decide (r ≤ 8) && decide (0 ≤ base) && decide (base ≤ 1024)) := rfl
  rw [e0]
  clear e0
  by_cases h1 : 2 ≤ r
  · by_cases h2 : r ≤ 8
    · by_cases h3 : 0 ≤ base
      · go_enter Tryz.func100, Tryz.ntmps100
        go_wp2
        all_goals go_ret
        all_goals exact ⟨by simp [h1, h2, h3], rfl⟩
      · rw [decide_eq_false h3]
        go_enter Tryz.func100, Tryz.ntmps100
        go_wp2
        all_goals go_ret
        all_goals exact ⟨by simp, rfl⟩
    · rw [decide_eq_false h2]
      go_enter Tryz.func100, Tryz.ntmps100
      go_wp2
      all_goals go_ret
      all_goals exact ⟨by simp, rfl⟩
  · rw [decide_eq_false h1]
    go_enter Tryz.func100, Tryz.ntmps100
    go_wp2
    all_goals go_ret
    all_goals exact ⟨by simp, rfl⟩

set_option maxRecDepth 100000 in
theorem refPlace_any (n : Nat) (hn : n < 4294967296) (base r : Int) (w : World) : Calls Tryz.prog 103 #[.int .u32 n, .int .i64 base, .int .i64 r] w fun e w' => e = .returned (.int .i64 (placeOf n base r)) ∧ w' = w := by
  have q := refRing_any base r w
  by_cases h : isRing base r = true
  · have e0 : placeOf n base r = base + (n : Int) % r := by rw [placeOf, if_pos h]
    rw [h] at q
    simp only [isRing, Bool.and_eq_true, decide_eq_true_eq] at h
    obtain ⟨⟨⟨h1, h2⟩, h3⟩, h4⟩ := h
    have hm1 : 0 ≤ (n : Int) % r := Int.emod_nonneg _ (by omega)
    have hm2 : (n : Int) % r < r := Int.emod_lt_of_pos _ (by omega)
    have hm3 : (n : Int).tmod r = (n : Int) % r := Int.tmod_eq_emod_of_nonneg (by omega)
    rw [e0]
    clear e0
    go_enter Tryz.func103, Tryz.ntmps103
    go_wp2_with (first
      | (go_at_call 100; refine q.mono ?_; rintro e w ⟨rfl, rfl⟩))
    go_ret
    exact ⟨rfl, rfl⟩
  · have e0 : placeOf n base r = 0 := by rw [placeOf, if_neg h]
    rw [show isRing base r = false by simpa using h] at q
    rw [e0]
    clear e0
    go_enter Tryz.func103, Tryz.ntmps103
    go_wp2_with (first
      | (go_at_call 100; refine q.mono ?_; rintro e w ⟨rfl, rfl⟩))
    go_ret
    exact ⟨rfl, rfl⟩

theorem has_is {s : Dk} (hv : Valid s) {base r : Int} (h : hasRing s base r = true) : isRing base r = true := by
  have v2 := hv.top
  simp only [hasRing, isRing, Bool.and_eq_true, decide_eq_true_eq] at *
  omega

set_option maxRecDepth 100000 in
set_option maxHeartbeats 1000000 in
theorem refLatest_out (r g cap : Nat) (s : Dk) (base z : Int) (w : World) (h : RefAt w r g cap s) (hh : hasRing s base z = false) :
    Calls Tryz.prog 57 #[.pointer (some ⟨r, 0, none⟩), .int .i64 base, .int .i64 z] w fun e w' => e = .returned (.tuple #[.int .u32 0, .int .u64 0]) ∧ w' = w := by
  have q := refRing_any base z w
  have c0 := h.1.four.1
  by_cases hi : isRing base z = true
  · rw [hi] at q
    simp only [isRing, Bool.and_eq_true, decide_eq_true_eq] at hi
    obtain ⟨⟨⟨h1, h2⟩, h3⟩, h4⟩ := hi
    have v1 := h.2.top
    have h5 : (s.size : Int) - z < base := by
      simp [hasRing] at hh
      omega
    go_enter Tryz.func57, Tryz.ntmps57
    go_wp2_with (first
      | (go_at_call 100; refine q.mono ?_; rintro e w ⟨rfl, rfl⟩))
    go_ret2
    exact ⟨rfl, rfl⟩
  · rw [show isRing base z = false by simpa using hi] at q
    go_enter Tryz.func57, Tryz.ntmps57
    go_wp2_with (first
      | (go_at_call 100; refine q.mono ?_; rintro e w ⟨rfl, rfl⟩))
    go_ret2
    exact ⟨rfl, rfl⟩

set_option maxRecDepth 100000 in
set_option maxHeartbeats 4000000 in
theorem refLatest_in (r g cap : Nat) (s : Dk) (B R : Nat) (w : World) (h : RefAt w r g cap s) (hh : hasRing s (B : Int) (R : Int) = true) :
    Calls Tryz.prog 57 #[.pointer (some ⟨r, 0, none⟩), .int .i64 (B : Int), .int .i64 (R : Int)] w fun e w' => e = .returned (.tuple #[.int .u32 ((latest s B R).1 : Nat), .int .u64 ((latest s B R).2 : Nat)]) ∧ Kept [] w w' := by
  have q := refRing_any B R w
  have c0 := h.1.four.1
  have v1 := h.2
  have v2 := v1.top
  have hi := has_is v1 hh
  rw [hi] at q
  simp only [hasRing, Bool.and_eq_true, decide_eq_true_eq] at hh
  obtain ⟨⟨⟨h1, h2⟩, h3⟩, h4⟩ := hh
  have h5 : ¬ ((s.size : Int) - (R : Int) < (B : Int)) := by omega
  have hsec : ∀ i : Nat, Sec (ringOf s B i) := fun i => sec_read v1 _
  have hN : ∀ W : World, Arr (W.alloc (.cells #[.int .u8 0, .int .u8 0, .int .u8 0, .int .u8 0, .int .u8 0, .int .u8 0, .int .u8 0, .int .u8 0, .int .u8 0, .int .u8 0, .int .u8 0, .int .u8 0, .int .u8 0, .int .u8 0, .int .u8 0, .int .u8 0] 95)) W.heap.size 95 nought := fun W => arr_new W 95 nought
  go_enter Tryz.func57, Tryz.ntmps57
  go_wp2_with (first
    | (go_at_call 100; refine q.mono ?_; rintro e w ⟨rfl, rfl⟩))
  go_loopw [10, 8, 9] (fun i n y wr => ∃ k : Nat, k ≤ R ∧ i = .int .i64 ((B : Int) + (k : Int)) ∧ n = .int .u32 ((search (ringOf s B) R k).1 : Nat) ∧ y = .int .u64 ((search (ringOf s B) R k).2 : Nat) ∧ RefAt wr r g cap s ∧ Kept [] w wr) (fun i _ _ _ => B + R - (RowKit.intOf i).toNat)
  case atStart => exact ⟨0, by omega, by simp, rfl, rfl, h, Kept.refl _ _⟩
  case round =>
    obtain ⟨k, hk, rfl, rfl, rfl, hR, hK⟩ := hrel
    clear q c0
    have hl := search_lt (ringOf s B) R hsec k
    by_cases hlt : k < R
    · have hm1 : Hid (B + R - ((B : Int) + (k : Int) + 1).toNat < B + R - ((B : Int) + (k : Int)).toNat) := by show _ < _; omega
      have kk : (B : Int) + (k : Int) < (B : Int) + (R : Int) := by omega
      have q1 := refRead_any r g cap s ((B : Int) + (k : Int)) wr hR
      have hin : inside s ((B : Int) + (k : Int)) = true := by simp [inside]; omega
      have eE : readE s ((B : Int) + (k : Int)) = if s.broken then 3 else 0 := by rw [readE, if_pos hin]
      have eB : s.broken = true → readL s ((B : Int) + (k : Int)) = nought := fun hb => by rw [readL, if_pos hin, if_pos hb]
      have ex : readL s ((B : Int) + (k : Int)) = ringOf s B k := by unfold ringOf; rw [Int.natCast_add]
      rw [ex] at q1 eB
      have hx := hsec k
      have en : search (ringOf s B) R (k + 1) = better R k (ringOf s B k) (search (ringOf s B) R k) := rfl
      generalize ringOf s B k = x at *
      have hn := num_lt hx
      have hp : placeOf (num x) B R = (B : Int) + (num x : Int) % (R : Int) := by rw [placeOf, if_pos hi]
      have q3 := fun W => refPlace_any (num x) hn B R W
      have q2' := fun W => Seal.refOpen_any x W hx.1 hx.2
      have q2 : ∀ W, Calls Tryz.prog 102 #[arr x] W fun e w' => e = .returned (.tuple #[.int .u32 (num x : Nat), .int .u64 (word x : Nat), .bool (Seal.isRec x)]) ∧ Kept [] W w' := fun W => (q2' W).mono (fun _ _ ⟨he, hb⟩ => ⟨he, Kept.of_below hb []⟩)
      have eN : Seal.isRec x = false → num x = 0 := fun h => by unfold num Seal.toldN; rw [h]; rfl
      clear q2'
      rw [hp] at q3
      simp only [arr] at q1 q2
      replace en : Hid (search (ringOf s B) R (k + 1) = better R k x (search (ringOf s B) R k)) := en
      generalize search (ringOf s B) R k = l at *
      obtain ⟨l1, l2⟩ := l
      simp only [] at hl
      generalize readE s ((B : Int) + (k : Int)) = ee at *
      clear ex hp hin
      by_cases hbr : s.broken = true
      · have z : num x = 0 := by rw [eB hbr]; exact num_nought
        have es : Hid (search (ringOf s B) R (k + 1) = (l1, l2)) := en.out.trans (if_neg (fun h => by rw [z] at h; exact absurd h.2 (Nat.not_lt_zero _)))
        have e3 : ee = 3 := by rw [eE, if_pos hbr]
        subst e3
        clear eE eB eN hbr z
        go_wp2_with (first
          | (go_at_call 101; refine q1.mono ?_; rintro e w1 ⟨rfl, hk1⟩)
          | (refine wpList_store_arr rfl 95 _ _ rfl w1.heap.size 95 _ x rfl rfl (hN w1) hx.1 (by rw [hx.1]; exact Tryz.size95) ?_; intro w2 hA2 hk2 hz2; replace hz2 : Hid _ := hz2; have hk02 : Kept [] _ w2 := (hk1.trans (kept_alloc [] w1 (.cells #[.int .u8 0, .int .u8 0, .int .u8 0, .int .u8 0, .int .u8 0, .int .u8 0, .int .u8 0, .int .u8 0, .int .u8 0, .int .u8 0, .int .u8 0, .int .u8 0, .int .u8 0, .int .u8 0, .int .u8 0, .int .u8 0] 95))).young hk2 hk1.size)
          | refine wpList_load_arr rfl 95 _ rfl w1.heap.size 95 x rfl hA2 16 5 Tryz.underlying95 (by rw [hx.1]; exact Tryz.size95) ?_
          | (go_at_call 102; refine (q2 _).mono ?_; rintro e w3 ⟨rfl, hk3⟩; have hK3 := hk02.trans hk3)
          | (go_at_call 103; refine (q3 _).mono ?_; rintro e w3 ⟨rfl, rfl⟩))
        go_roundw
        case rel =>
          refine ⟨k + 1, by omega, by go_num, ?_, ?_, hR.kept hK3 (by simp) (by simp), hK.trans hK3⟩
          · rw [es.out]
          · rw [es.out]
        case measure => simpa [RowKit.intOf] using hm1.out
      · have e3 : ee = 0 := by rw [eE, if_neg hbr]
        subst e3
        clear eE eB hbr
        generalize Seal.isRec x = b at *
        cases b with
        | false =>
          have z := eN rfl
          have es : Hid (search (ringOf s B) R (k + 1) = (l1, l2)) := en.out.trans (if_neg (fun h => by rw [z] at h; exact absurd h.2 (Nat.not_lt_zero _)))
          clear eN z
          go_wp2_with (first
            | (go_at_call 101; refine q1.mono ?_; rintro e w1 ⟨rfl, hk1⟩)
            | (refine wpList_store_arr rfl 95 _ _ rfl w1.heap.size 95 _ x rfl rfl (hN w1) hx.1 (by rw [hx.1]; exact Tryz.size95) ?_; intro w2 hA2 hk2 hz2; replace hz2 : Hid _ := hz2; have hk02 : Kept [] _ w2 := (hk1.trans (kept_alloc [] w1 (.cells #[.int .u8 0, .int .u8 0, .int .u8 0, .int .u8 0, .int .u8 0, .int .u8 0, .int .u8 0, .int .u8 0, .int .u8 0, .int .u8 0, .int .u8 0, .int .u8 0, .int .u8 0, .int .u8 0, .int .u8 0, .int .u8 0] 95))).young hk2 hk1.size)
            | refine wpList_load_arr rfl 95 _ rfl w1.heap.size 95 x rfl hA2 16 5 Tryz.underlying95 (by rw [hx.1]; exact Tryz.size95) ?_
            | (go_at_call 102; refine (q2 _).mono ?_; rintro e w3 ⟨rfl, hk3⟩; have hK3 := hk02.trans hk3)
            | (go_at_call 103; refine (q3 _).mono ?_; rintro e w3 ⟨rfl, rfl⟩))
          go_roundw
          case rel =>
            refine ⟨k + 1, by omega, by go_num, ?_, ?_, hR.kept hK3 (by simp) (by simp), hK.trans hK3⟩
            · rw [es.out]
            · rw [es.out]
          case measure => simpa [RowKit.intOf] using hm1.out
        | true =>
          clear eN
          by_cases hg : l1 < num x
          · have hg' : (l1 : Int) < (num x : Int) := by omega
            by_cases hc : num x % R = k
            · have es : Hid (search (ringOf s B) R (k + 1) = (num x, word x)) := en.out.trans (if_pos ⟨hc, hg⟩)
              have hc' : (num x : Int) % (R : Int) = (k : Int) := by omega
              rw [hc'] at q3
              go_wp2_with (first
                | (go_at_call 101; refine q1.mono ?_; rintro e w1 ⟨rfl, hk1⟩)
                | (refine wpList_store_arr rfl 95 _ _ rfl w1.heap.size 95 _ x rfl rfl (hN w1) hx.1 (by rw [hx.1]; exact Tryz.size95) ?_; intro w2 hA2 hk2 hz2; replace hz2 : Hid _ := hz2; have hk02 : Kept [] _ w2 := (hk1.trans (kept_alloc [] w1 (.cells #[.int .u8 0, .int .u8 0, .int .u8 0, .int .u8 0, .int .u8 0, .int .u8 0, .int .u8 0, .int .u8 0, .int .u8 0, .int .u8 0, .int .u8 0, .int .u8 0, .int .u8 0, .int .u8 0, .int .u8 0, .int .u8 0] 95))).young hk2 hk1.size)
                | refine wpList_load_arr rfl 95 _ rfl w1.heap.size 95 x rfl hA2 16 5 Tryz.underlying95 (by rw [hx.1]; exact Tryz.size95) ?_
                | (go_at_call 102; refine (q2 _).mono ?_; rintro e w3 ⟨rfl, hk3⟩; have hK3 := hk02.trans hk3)
                | (go_at_call 103; refine (q3 _).mono ?_; rintro e w3 ⟨rfl, rfl⟩))
              go_roundw
              case rel =>
                refine ⟨k + 1, by omega, by go_num, ?_, ?_, hR.kept hK3 (by simp) (by simp), hK.trans hK3⟩
                · rw [es.out]
                · rw [es.out]
              case measure => simpa [RowKit.intOf] using hm1.out
            · have es : Hid (search (ringOf s B) R (k + 1) = (l1, l2)) := en.out.trans (if_neg (fun h => hc h.1))
              have hc' : (((B : Int) + (num x : Int) % (R : Int)) == ((B : Int) + (k : Int))) = false := by simp; omega
              go_wp2_with (first
                | (go_at_call 101; refine q1.mono ?_; rintro e w1 ⟨rfl, hk1⟩)
                | (refine wpList_store_arr rfl 95 _ _ rfl w1.heap.size 95 _ x rfl rfl (hN w1) hx.1 (by rw [hx.1]; exact Tryz.size95) ?_; intro w2 hA2 hk2 hz2; replace hz2 : Hid _ := hz2; have hk02 : Kept [] _ w2 := (hk1.trans (kept_alloc [] w1 (.cells #[.int .u8 0, .int .u8 0, .int .u8 0, .int .u8 0, .int .u8 0, .int .u8 0, .int .u8 0, .int .u8 0, .int .u8 0, .int .u8 0, .int .u8 0, .int .u8 0, .int .u8 0, .int .u8 0, .int .u8 0, .int .u8 0] 95))).young hk2 hk1.size)
                | refine wpList_load_arr rfl 95 _ rfl w1.heap.size 95 x rfl hA2 16 5 Tryz.underlying95 (by rw [hx.1]; exact Tryz.size95) ?_
                | (go_at_call 102; refine (q2 _).mono ?_; rintro e w3 ⟨rfl, hk3⟩; have hK3 := hk02.trans hk3)
                | (go_at_call 103; refine (q3 _).mono ?_; rintro e w3 ⟨rfl, rfl⟩))
              go_roundw
              case rel =>
                refine ⟨k + 1, by omega, by go_num, ?_, ?_, hR.kept hK3 (by simp) (by simp), hK.trans hK3⟩
                · rw [es.out]
                · rw [es.out]
              case measure => simpa [RowKit.intOf] using hm1.out
          · have hg' : ¬ ((l1 : Int) < (num x : Int)) := by omega
            have es : Hid (search (ringOf s B) R (k + 1) = (l1, l2)) := en.out.trans (if_neg (fun h => hg h.2))
            go_wp2_with (first
              | (go_at_call 101; refine q1.mono ?_; rintro e w1 ⟨rfl, hk1⟩)
              | (refine wpList_store_arr rfl 95 _ _ rfl w1.heap.size 95 _ x rfl rfl (hN w1) hx.1 (by rw [hx.1]; exact Tryz.size95) ?_; intro w2 hA2 hk2 hz2; replace hz2 : Hid _ := hz2; have hk02 : Kept [] _ w2 := (hk1.trans (kept_alloc [] w1 (.cells #[.int .u8 0, .int .u8 0, .int .u8 0, .int .u8 0, .int .u8 0, .int .u8 0, .int .u8 0, .int .u8 0, .int .u8 0, .int .u8 0, .int .u8 0, .int .u8 0, .int .u8 0, .int .u8 0, .int .u8 0, .int .u8 0] 95))).young hk2 hk1.size)
              | refine wpList_load_arr rfl 95 _ rfl w1.heap.size 95 x rfl hA2 16 5 Tryz.underlying95 (by rw [hx.1]; exact Tryz.size95) ?_
              | (go_at_call 102; refine (q2 _).mono ?_; rintro e w3 ⟨rfl, hk3⟩; have hK3 := hk02.trans hk3)
              | (go_at_call 103; refine (q3 _).mono ?_; rintro e w3 ⟨rfl, rfl⟩))
            go_roundw
            case rel =>
              refine ⟨k + 1, by omega, by go_num, ?_, ?_, hR.kept hK3 (by simp) (by simp), hK.trans hK3⟩
              · rw [es.out]
              · rw [es.out]
            case measure => simpa [RowKit.intOf] using hm1.out
    · obtain rfl : k = R := by omega
      have kk : ¬ ((B : Int) + (k : Int) < (B : Int) + (k : Int)) := by omega
      go_wp2_with fail
      go_ret2
      exact ⟨rfl, hK⟩
set_option maxRecDepth 100000 in
/-- Latest -/
theorem refLatest_any (r g cap : Nat) (s : Dk) (base z : Int) (w : World) (h : RefAt w r g cap s) :
    Calls Tryz.prog 57 #[.pointer (some ⟨r, 0, none⟩), .int .i64 base, .int .i64 z] w fun e w' => e = .returned (.tuple #[.int .u32 (latestN s base z : Nat), .int .u64 (latestY s base z : Nat)]) ∧ Kept [] w w' := by
  by_cases hh : hasRing s base z = true
  · have hh' := hh
    simp only [hasRing, Bool.and_eq_true, decide_eq_true_eq] at hh'
    obtain ⟨B, rfl⟩ := Int.eq_ofNat_of_zero_le (show 0 ≤ base by omega)
    obtain ⟨R, rfl⟩ := Int.eq_ofNat_of_zero_le (show 0 ≤ z by omega)
    have := refLatest_in r g cap s B R w h hh
    rw [latestN, latestY, if_pos hh, if_pos hh]
    exact this
  · rw [latestN, latestY, if_neg hh, if_neg hh]
    exact (refLatest_out r g cap s base z w h (by simpa using hh)).mono (fun _ _ ⟨he, hw⟩ => ⟨he, hw ▸ Kept.refl _ _⟩)
end Go.Proofs.YtfiofdmefgkloaaGreat

/-
  The walk of the document's Put.
-/
namespace Go.Proofs.YtfiofdmefgkloaaGreat
open Go.RowKit Go.Maps Go.Shelf
open Math

set_option maxRecDepth 100000 in
set_option maxHeartbeats 1000000 in
/-- Put, of a ring that is none -/
theorem refPut_out (r g cap : Nat) (s : Dk) (base z : Int) (y : Nat) (w : World) (h : RefAt w r g cap s) (hh : hasRing s base z = false) :
    Calls Tryz.prog 128 #[.pointer (some ⟨r, 0, none⟩), .int .i64 base, .int .i64 z, .int .u64 (y : Int)] w fun e w' => e = .returned (.int .i64 2) ∧ w' = w := by
  have q := refRing_any base z w
  have c0 := h.1.four.1
  by_cases hi : isRing base z = true
  · rw [hi] at q
    simp only [isRing, Bool.and_eq_true, decide_eq_true_eq] at hi
    obtain ⟨⟨⟨h1, h2⟩, h3⟩, h4⟩ := hi
    have v1 := h.2.top
    have h5 : (s.size : Int) - z < base := by
      simp [hasRing] at hh
      omega
    go_enter Tryz.func128, Tryz.ntmps128
    go_wp2_with (first
      | (go_at_call 100; refine q.mono ?_; rintro e w ⟨rfl, rfl⟩))
    go_ret
    exact ⟨rfl, rfl⟩
  · rw [show isRing base z = false by simpa using hi] at q
    go_enter Tryz.func128, Tryz.ntmps128
    go_wp2_with (first
      | (go_at_call 100; refine q.mono ?_; rintro e w ⟨rfl, rfl⟩))
    go_ret
    exact ⟨rfl, rfl⟩

set_option maxRecDepth 100000 in
set_option maxHeartbeats 1000000 in
/-- Put -/
theorem refPut_any (r g cap : Nat) (s : Dk) (base z : Int) (y : Nat) (hy : y < 18446744073709551616) (hops : s.ops ≤ 999998) (w : World) (h : RefAt w r g cap s) :
    Calls Tryz.prog 128 #[.pointer (some ⟨r, 0, none⟩), .int .i64 base, .int .i64 z, .int .u64 (y : Int)] w fun e w' => e = .returned (.int .i64 (putE s base z y : Nat)) ∧ RefAt w' r g cap (putS s base z y) ∧ Kept [r, g] w w' := by
  by_cases hh : hasRing s base z = true
  · have q := refRing_any base z w
    have hi := has_is h.2 hh
    rw [hi] at q
    have c0 := h.1.four.1
    have c2 := h.1.four.2.2.1
    have v1 := h.2.top
    have hh' := hh
    simp only [hasRing, Bool.and_eq_true, decide_eq_true_eq] at hh'
    obtain ⟨⟨⟨h1, h2⟩, h3⟩, h4⟩ := hh'
    have h5 : ¬ ((s.size : Int) - z < base) := by omega
    by_cases hb : s.broken = true
    · rw [putE, putS, if_pos hh, if_pos hh, if_pos hb, if_pos hb]
      rw [hb] at c2
      go_enter Tryz.func128, Tryz.ntmps128
      go_wp2_with (first
        | (go_at_call 100; refine q.mono ?_; rintro e w ⟨rfl, rfl⟩))
      go_ret
      exact ⟨rfl, h, Kept.refl _ _⟩
    · have q4 := refLatest_any r g cap s base z w h
      have hn := latestN_lt h.2 base z
      rw [show s.broken = false by simpa using hb] at c2
      by_cases hm : latestN s base z = 4294967295
      · rw [putE, putS, if_pos hh, if_pos hh, if_neg hb, if_neg hb, if_pos hm, if_pos hm]
        rw [hm] at q4
        go_enter Tryz.func128, Tryz.ntmps128
        go_wp2_with (first
          | (go_at_call 100; refine q.mono ?_; rintro e w ⟨rfl, rfl⟩)
          | (go_at_call 57; refine q4.mono ?_; rintro e w1 ⟨rfl, hk1⟩))
        go_ret
        exact ⟨rfl, h.kept hk1 (by simp) (by simp), hk1.mono (by simp)⟩
      · rw [putE, putS, if_pos hh, if_pos hh, if_neg hb, if_neg hb, if_neg hm, if_neg hm, putK, putX]
        have hp : placeOf (latestN s base z + 1) base z = base + ((latestN s base z + 1 : Nat) : Int) % z := by rw [placeOf, if_pos hi]
        have q5 := fun W => refPlace_any (latestN s base z + 1) (by omega) base z W
        have q6 := fun W => refRecord_any (latestN s base z + 1) y W (by omega) hy
        rw [hp] at q5
        generalize latestN s base z = n at *
        clear hp
        have hx := sec_record (n + 1) y
        generalize record (n + 1) y = x at *
        generalize base + ((n + 1 : Nat) : Int) % z = k at *
        have q7 := fun W (h : RefAt W r g cap s) => refWrite_any r g cap s k x hx (by omega) W h
        have ho := wrote_ops s k x
        have q8 := fun W (h : RefAt W r g cap (wroteS s k x)) => refFlush_any r g cap (wroteS s k x) (by omega) W h
        have e1 : ((n : Int) == 4294967295) = false := by simp; omega
        simp only [Int.natCast_succ, arr] at q5 q6 q7
        unfold putsE putsS
        by_cases he : wroteE s k = 0
        · rw [if_pos he, if_pos he]
          rw [he] at q7
          go_enter Tryz.func128, Tryz.ntmps128
          go_wp2_with (first
            | (go_at_call 100; refine q.mono ?_; rintro e w ⟨rfl, rfl⟩)
            | (go_at_call 57; refine q4.mono ?_; rintro e w1 ⟨rfl, hk1⟩)
            | (go_at_call 103; refine (q5 _).mono ?_; rintro e w1 ⟨rfl, rfl⟩)
            | (go_at_call 145; refine (q6 _).mono ?_; rintro e w2 ⟨rfl, hk2⟩; have hD2 := h.kept (hk1.trans hk2) (by simp) (by simp))
            | (go_at_call 155; refine (q7 _ hD2).mono ?_; rintro e w3 ⟨rfl, hD3, hk3⟩)
            | (go_at_call 95; refine (q8 _ hD3).mono ?_; rintro e w4 ⟨rfl, hD4, hk4⟩))
          go_ret
          exact ⟨rfl, hD4, (((hk1.trans hk2).mono (by simp)).trans hk3).trans hk4⟩
        · rw [if_neg he, if_neg he]
          have he' : ((wroteE s k : Int) != 0) = true := by simp; omega
          generalize wroteE s k = ee at *
          go_enter Tryz.func128, Tryz.ntmps128
          go_wp2_with (first
            | (go_at_call 100; refine q.mono ?_; rintro e w ⟨rfl, rfl⟩)
            | (go_at_call 57; refine q4.mono ?_; rintro e w1 ⟨rfl, hk1⟩)
            | (go_at_call 103; refine (q5 _).mono ?_; rintro e w1 ⟨rfl, rfl⟩)
            | (go_at_call 145; refine (q6 _).mono ?_; rintro e w2 ⟨rfl, hk2⟩; have hD2 := h.kept (hk1.trans hk2) (by simp) (by simp))
            | (go_at_call 155; refine (q7 _ hD2).mono ?_; rintro e w3 ⟨rfl, hD3, hk3⟩))
          go_ret
          exact ⟨rfl, hD3, ((hk1.trans hk2).mono (by simp)).trans hk3⟩
  · rw [putE, putS, if_neg hh, if_neg hh]
    exact (refPut_out r g cap s base z y w h (by simpa using hh)).mono (fun _ _ ⟨he, hw⟩ => ⟨he, hw ▸ h, hw ▸ Kept.refl _ _⟩)
end Go.Proofs.YtfiofdmefgkloaaGreat

/-
  Plain facts on a ring of records: what a put does, and what a crash within it leaves. No program is named here.
-/
namespace Go.Proofs.YtfiofdmefgkloaaGreat
open Math

/-- A disk for which nothing is cached, and the latest record of its ring. -/
structure Still (s : Dk) (B R n y : Nat) : Prop where
  valid : Valid s
  none : ∀ k, s.fresh k = none
  low : 2 ≤ R
  high : R ≤ 8
  room : B + R ≤ s.size
  ring : IsLatest (fun i => s.safe ((B + i : Nat) : Int)) R n y
theorem Still.has {s : Dk} {B R n y : Nat} (h : Still s B R n y) : hasRing s B R = true := by
  have h1 := h.low
  have h2 := h.high
  have h3 := h.room
  simp [hasRing]
  omega
theorem Still.told {s : Dk} {B R n y : Nat} (h : Still s B R n y) (hb : s.broken = false) : latest s B R = (n, y) := by
  have h1 := h.low
  have h3 := h.room
  refine search_is (by omega) (h.ring.congr (by omega) (fun i hi => ?_))
  have hin : inside s ((B + i : Nat) : Int) = true := by simp [inside]; omega
  show readL s _ = _
  rw [readL, if_pos hin, hb, h.none]
  rfl
theorem Still.latestN {s : Dk} {B R n y : Nat} (h : Still s B R n y) (hb : s.broken = false) : latestN s B R = n := by
  unfold YtfiofdmefgkloaaGreat.latestN
  rw [if_pos h.has]
  have := congrArg Prod.fst (h.told hb)
  simpa using this
theorem Still.latestY {s : Dk} {B R n y : Nat} (h : Still s B R n y) (hb : s.broken = false) : latestY s B R = y := by
  unfold YtfiofdmefgkloaaGreat.latestY
  rw [if_pos h.has]
  have := congrArg Prod.snd (h.told hb)
  simpa using this
theorem still_made (N B R : Nat) (h1 : 1 ≤ N) (h2 : N ≤ 1024) (h3 : 2 ≤ R) (h4 : R ≤ 8) (h5 : B + R ≤ N) : Still (made N) B R 0 0 :=
  ⟨valid_made N h1 h2, fun _ => rfl, h3, h4, h5, ⟨fun i _ _ => by show num nought ≤ 0; rw [num_nought]; exact Nat.le_refl _, .inl ⟨rfl, rfl⟩⟩⟩
theorem Still.fused {s : Dk} {B R n y : Nat} (h : Still s B R n y) (k : Int) (h0 : -9223372036854775808 ≤ k) (h1 : k ≤ 9223372036854775807) : Still (fused s k) B R n y :=
  ⟨valid_fused h.valid h0 h1, h.none, h.low, h.high, h.room, h.ring⟩
/-- Nothing is cached: a crash takes nothing. -/
theorem Still.crashed {s : Dk} {B R n y : Nat} (h : Still s B R n y) (mask : Nat) : Still (crashed s mask) B R n y := by
  have e : (Math.crashed s mask).safe = s.safe := by
    funext k
    exact settled_none (h.none k)
  refine ⟨valid_crashed h.valid mask, fun _ => rfl, h.low, h.high, h.room, ?_⟩
  rw [e]
  exact h.ring
theorem Still.burnt {s : Dk} {B R n y : Nat} (h : Still s B R n y) : Still (burnt s) B R n y := ⟨valid_burnt h.valid, h.none, h.low, h.high, h.room, h.ring⟩

/-- Where the next record goes. -/
def nextK (B R n : Nat) : Int := (B : Int) + ((n + 1 : Nat) : Int) % (R : Int)
theorem nextK_is (B R n : Nat) : nextK B R n = ((B + (n + 1) % R : Nat) : Int) := by
  unfold nextK
  omega
theorem Still.nextK_in {s : Dk} {B R n y : Nat} (h : Still s B R n y) : 0 ≤ nextK B R n ∧ nextK B R n < s.size := by
  have h1 := h.low
  have h3 := h.room
  have := Nat.mod_lt (n + 1) (show 0 < R by omega)
  rw [nextK_is]
  omega
/-- The ring, with the next record in its place. -/
theorem Still.next {s : Dk} {B R n y : Nat} (h : Still s B R n y) (z : Nat) (hn : n + 1 < 4294967296) (hz : z < 18446744073709551616) (f : Int → List Nat)
    (hk : f (nextK B R n) = record (n + 1) z) (ho : ∀ k, k ≠ nextK B R n → f k = s.safe k) : IsLatest (fun i => f ((B + i : Nat) : Int)) R (n + 1) z := by
  refine h.ring.put z hn hz _ ?_ (fun i hi ne => ?_)
  · show f _ = _
    rw [← nextK_is, hk]
  · refine ho _ ?_
    rw [nextK_is]
    omega

/-- What Put comes to. -/
theorem Still.put_is {s : Dk} {B R n y : Nat} (h : Still s B R n y) (hb : s.broken = false) (hn : n + 1 < 4294967296) (z : Nat) :
    putE s B R z = putsE s (nextK B R n) (record (n + 1) z) ∧ putS s B R z = putsS s (nextK B R n) (record (n + 1) z) := by
  have e := h.latestN hb
  unfold putE putS
  rw [if_pos h.has, if_pos h.has, hb, e]
  have e2 : ¬ (n = 4294967295) := by omega
  have e3 : ¬ (false = true) := by decide
  rw [if_neg e3, if_neg e3, if_neg e2, if_neg e2]
  unfold putK putX nextK
  rw [e]
  exact ⟨rfl, rfl⟩
theorem Still.put_burnt {s : Dk} {B R n y : Nat} (h : Still s B R n y) (hb : s.broken = false) (hn : n + 1 < 4294967296) (z : Nat) (hf : s.fuse = 0) : putE s B R z = 3 ∧ putS s B R z = Math.burnt s := by
  obtain ⟨e1, e2⟩ := h.put_is hb hn z
  have hin : inside s (nextK B R n) = true := by simp [inside]; exact h.nextK_in
  have hw : worn s = true := by simp [worn, hf]
  rw [e1, e2]
  unfold putsE putsS wroteE wroteS
  rw [if_pos hin, if_pos hw, if_pos hin, if_pos hw]
  exact ⟨rfl, rfl⟩
theorem Still.put_wrote {s : Dk} {B R n y : Nat} (h : Still s B R n y) (hb : s.broken = false) (hn : n + 1 < 4294967296) (z : Nat) (hf : s.fuse ≠ 0) :
    putE s B R z = flushE (laid (done s) (nextK B R n) (record (n + 1) z)) ∧ putS s B R z = flushS (laid (done s) (nextK B R n) (record (n + 1) z)) := by
  obtain ⟨e1, e2⟩ := h.put_is hb hn z
  have hin : inside s (nextK B R n) = true := by simp [inside]; exact h.nextK_in
  have hw : ¬ (worn s = true) := by simp [worn, hf, hb]
  rw [e1, e2]
  unfold putsE putsS wroteE wroteS
  rw [if_pos hin, if_neg hw, if_pos hin, if_neg hw]
  exact ⟨rfl, rfl⟩
/-- A put that ends well. -/
theorem Still.put_ok {s : Dk} {B R n y : Nat} (h : Still s B R n y) (hb : s.broken = false) (hn : n + 1 < 4294967296) (z : Nat) (hz : z < 18446744073709551616) (hf : s.fuse < 0 ∨ 2 ≤ s.fuse) :
    putE s B R z = 0 ∧ Still (putS s B R z) B R (n + 1) z ∧ (putS s B R z).broken = false ∧ (putS s B R z).fuse = (if s.fuse < 0 then s.fuse else s.fuse - 2) ∧ (putS s B R z).ops = s.ops + 2 := by
  obtain ⟨e1, e2⟩ := h.put_wrote hb hn z (by omega)
  have hv := h.nextK_in
  have hw : ¬ (worn (laid (done s) (nextK B R n) (record (n + 1) z)) = true) := by
    simp [worn, laid, done, hb]
    omega
  rw [e1, e2]
  unfold flushE flushS
  rw [if_neg hw, if_neg hw]
  refine ⟨rfl, ⟨?_, fun _ => rfl, h.low, h.high, h.room, ?_⟩, hb, ?_, rfl⟩
  · exact valid_spent (valid_done (valid_laid (valid_done h.valid) hv.1 hv.2 (sec_record _ _))) _
  · refine h.next z hn hz _ ?_ (fun k hk => ?_)
    · exact settled_full (upd_same _ _ _)
    · exact settled_none ((upd_other _ _ hk).trans (h.none k))
  · show (if 0 < (done s).fuse then (done s).fuse - 1 else (done s).fuse) = _
    unfold done
    simp only []
    split <;> split <;> (try split) <;> omega
/-- A put whose flush is not done: a crash leaves the old word, or the new one. -/
theorem Still.put_torn {s : Dk} {B R n y : Nat} (h : Still s B R n y) (hb : s.broken = false) (hn : n + 1 < 4294967296) (z : Nat) (hz : z < 18446744073709551616) (hf : s.fuse = 1) (mask : Nat) :
    putE s B R z = 3 ∧ (Still (Math.crashed (putS s B R z) mask) B R n y ∨ Still (Math.crashed (putS s B R z) mask) B R (n + 1) z) ∧ (putS s B R z).ops = s.ops + 1 := by
  obtain ⟨e1, e2⟩ := h.put_wrote hb hn z (by omega)
  have hv := h.nextK_in
  have hw : worn (laid (done s) (nextK B R n) (record (n + 1) z)) = true := by
    simp [worn, laid, done, hf]
  rw [e1, e2]
  unfold flushE flushS
  rw [if_pos hw, if_pos hw]
  refine ⟨rfl, ?_, rfl⟩
  have hva := valid_crashed (valid_burnt (valid_laid (valid_done h.valid) hv.1 hv.2 (sec_record (n + 1) z))) mask
  have ho : ∀ k, k ≠ nextK B R n → (Math.crashed (Math.burnt (laid (done s) (nextK B R n) (record (n + 1) z))) mask).safe k = s.safe k := fun k hk =>
    settled_none ((upd_other _ _ hk).trans (h.none k))
  have hx : (Math.crashed (Math.burnt (laid (done s) (nextK B R n) (record (n + 1) z))) mask).safe (nextK B R n) = record (n + 1) z ∨ (Math.crashed (Math.burnt (laid (done s) (nextK B R n) (record (n + 1) z))) mask).safe (nextK B R n) = s.safe (nextK B R n) := by
    show settled _ _ _ = _ ∨ settled _ _ _ = _
    unfold settled
    rw [show (Math.burnt (laid (done s) (nextK B R n) (record (n + 1) z))).fresh (nextK B R n) = some (record (n + 1) z) from upd_same _ _ _]
    simp only []
    split
    · exact .inl rfl
    · exact .inr rfl
  rcases hx with hx | hx
  · right
    exact ⟨hva, fun _ => rfl, h.low, h.high, h.room, h.next z hn hz _ hx ho⟩
  · left
    refine ⟨hva, fun _ => rfl, h.low, h.high, h.room, ?_⟩
    have e : (Math.crashed (Math.burnt (laid (done s) (nextK B R n) (record (n + 1) z))) mask).safe = s.safe := by
      funext k
      by_cases hk : k = nextK B R n
      · rw [hk]
        exact hx
      · exact ho k hk
    rw [e]
    exact h.ring
end Go.Proofs.YtfiofdmefgkloaaGreat

/-
  Plain facts on two rings of one disk: what is put into one leaves the other's latest record as it was. No program is named here.
-/
namespace Go.Proofs.YtfiofdmefgkloaaGreat
open Math

/-- A place of one ring is none of another's. -/
theorem nextK_off {B R n i B' R' : Nat} (hR : 2 ≤ R) (hi : i < R') (hd : B' + R' ≤ B ∨ B + R ≤ B') : ((B' + i : Nat) : Int) ≠ nextK B R n := by
  have := Nat.mod_lt (n + 1) (show 0 < R by omega)
  rw [nextK_is]
  omega
/-- A put into another ring that ends well. -/
theorem Still.put_other {s : Dk} {B R n y : Nat} (h : Still s B R n y) (hb : s.broken = false) {B' R' n' y' : Nat} (h' : Still s B' R' n' y') (hn : n' + 1 < 4294967296) (z : Nat) (hf : s.fuse < 0 ∨ 2 ≤ s.fuse) (hd : B + R ≤ B' ∨ B' + R' ≤ B) :
    Still (putS s B' R' z) B R n y := by
  obtain ⟨e1, e2⟩ := h'.put_wrote hb hn z (by omega)
  have hv := h'.nextK_in
  have hw : ¬ (worn (laid (done s) (nextK B' R' n') (record (n' + 1) z)) = true) := by
    simp [worn, laid, done, hb]
    omega
  rw [e2]
  unfold flushS
  rw [if_neg hw]
  refine ⟨valid_spent (valid_done (valid_laid (valid_done h.valid) hv.1 hv.2 (sec_record _ _))) _, fun _ => rfl, h.low, h.high, h.room, ?_⟩
  refine h.ring.congr (by have := h.low; omega) (fun i hi => ?_)
  exact settled_none ((upd_other _ _ (nextK_off h'.low hi hd)).trans (h.none _))
/-- A crash within a put into another ring. -/
theorem Still.put_other_crash {s : Dk} {B R n y : Nat} (h : Still s B R n y) (hb : s.broken = false) {B' R' n' y' : Nat} (h' : Still s B' R' n' y') (hn : n' + 1 < 4294967296) (z : Nat) (hf : 0 ≤ s.fuse) (hd : B + R ≤ B' ∨ B' + R' ≤ B) (mask : Nat) :
    Still (Math.crashed (putS s B' R' z) mask) B R n y := by
  by_cases f2 : 2 ≤ s.fuse
  · exact (h.put_other hb h' hn z (.inr f2) hd).crashed mask
  · by_cases f0 : s.fuse = 0
    · rw [(h'.put_burnt hb hn z f0).2]
      exact h.burnt.crashed mask
    · obtain ⟨e1, e2⟩ := h'.put_wrote hb hn z f0
      have hv := h'.nextK_in
      have f1 : s.fuse = 1 := by omega
      have hw : worn (laid (done s) (nextK B' R' n') (record (n' + 1) z)) = true := by
        simp [worn, laid, done, f1]
      rw [e2]
      unfold flushS
      rw [if_pos hw]
      refine ⟨valid_crashed (valid_burnt (valid_laid (valid_done h.valid) hv.1 hv.2 (sec_record (n' + 1) z))) mask, fun _ => rfl, h.low, h.high, h.room, ?_⟩
      refine h.ring.congr (by have := h.low; omega) (fun i hi => ?_)
      exact settled_none ((upd_other _ _ (nextK_off h'.low hi hd)).trans (h.none _))
end Go.Proofs.YtfiofdmefgkloaaGreat

