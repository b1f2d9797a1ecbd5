/-
  The walks of the document's ring: ring, Place, Latest.
-/
import Derived.Test.YtekjlmnnaaodjaaGreatSlotC
namespace Go.Proofs.YtekjlmnnaaodjaaGreat
open Go.RowKit Go.Maps Go.Shelf
open Math

set_option maxRecDepth 100000 in
theorem refRing_any (base r : Int) (w : World) : Calls Tryz.prog 36 #[.int .i64 base, .int .i64 r] w fun e w' => e = .returned (.bool (isRing base r)) ∧ w' = w := by
  have e0 : isRing base r = (decide (2 ≤ r) && decide (r ≤ 8) && decide (0 ≤ base) && decide (base ≤ 1024)) := rfl
  rw [e0]
  clear e0
  by_cases h1 : 2 ≤ r
  · by_cases h2 : r ≤ 8
    · by_cases h3 : 0 ≤ base
      · go_enter Tryz.func36, Tryz.ntmps36
        go_wp2
        all_goals go_ret
        all_goals exact ⟨by simp [h1, h2, h3], rfl⟩
      · rw [decide_eq_false h3]
        go_enter Tryz.func36, Tryz.ntmps36
        go_wp2
        all_goals go_ret
        all_goals exact ⟨by simp, rfl⟩
    · rw [decide_eq_false h2]
      go_enter Tryz.func36, Tryz.ntmps36
      go_wp2
      all_goals go_ret
      all_goals exact ⟨by simp, rfl⟩
  · rw [decide_eq_false h1]
    go_enter Tryz.func36, Tryz.ntmps36
    go_wp2
    all_goals go_ret
    all_goals exact ⟨by simp, rfl⟩

set_option maxRecDepth 100000 in
theorem refPlace_any (n : Nat) (hn : n < 4294967296) (base r : Int) (w : World) : Calls Tryz.prog 38 #[.int .u32 n, .int .i64 base, .int .i64 r] w fun e w' => e = .returned (.int .i64 (placeOf n base r)) ∧ w' = w := by
  have q := refRing_any base r w
  by_cases h : isRing base r = true
  · have e0 : placeOf n base r = base + (n : Int) % r := by rw [placeOf, if_pos h]
    rw [h] at q
    simp only [isRing, Bool.and_eq_true, decide_eq_true_eq] at h
    obtain ⟨⟨⟨h1, h2⟩, h3⟩, h4⟩ := h
    have hm1 : 0 ≤ (n : Int) % r := Int.emod_nonneg _ (by omega)
    have hm2 : (n : Int) % r < r := Int.emod_lt_of_pos _ (by omega)
    have hm3 : (n : Int).tmod r = (n : Int) % r := Int.tmod_eq_emod_of_nonneg (by omega)
    rw [e0]
    clear e0
    go_enter Tryz.func38, Tryz.ntmps38
    go_wp2_with (first
      | (go_at_call 36; refine q.mono ?_; rintro e w ⟨rfl, rfl⟩))
    go_ret
    exact ⟨rfl, rfl⟩
  · have e0 : placeOf n base r = 0 := by rw [placeOf, if_neg h]
    rw [show isRing base r = false by simpa using h] at q
    rw [e0]
    clear e0
    go_enter Tryz.func38, Tryz.ntmps38
    go_wp2_with (first
      | (go_at_call 36; refine q.mono ?_; rintro e w ⟨rfl, rfl⟩))
    go_ret
    exact ⟨rfl, rfl⟩

theorem has_is {s : Dk} (hv : Valid s) {base r : Int} (h : hasRing s base r = true) : isRing base r = true := by
  have v2 := hv.top
  simp only [hasRing, isRing, Bool.and_eq_true, decide_eq_true_eq] at *
  omega

set_option maxRecDepth 100000 in
set_option maxHeartbeats 1000000 in
theorem refLatest_out (r g cap : Nat) (s : Dk) (base z : Int) (w : World) (h : RefAt w r g cap s) (hh : hasRing s base z = false) :
    Calls Tryz.prog 27 #[.pointer (some ⟨r, 0, none⟩), .int .i64 base, .int .i64 z] w fun e w' => e = .returned (.tuple #[.int .u32 0, .int .u64 0]) ∧ w' = w := by
  have q := refRing_any base z w
  have c0 := h.1.four.1
  by_cases hi : isRing base z = true
  · rw [hi] at q
    simp only [isRing, Bool.and_eq_true, decide_eq_true_eq] at hi
    obtain ⟨⟨⟨h1, h2⟩, h3⟩, h4⟩ := hi
    have v1 := h.2.top
    have h5 : (s.size : Int) - z < base := by
      simp [hasRing] at hh
      omega
    go_enter Tryz.func27, Tryz.ntmps27
    go_wp2_with (first
      | (go_at_call 36; refine q.mono ?_; rintro e w ⟨rfl, rfl⟩))
    go_ret2
    exact ⟨rfl, rfl⟩
  · rw [show isRing base z = false by simpa using hi] at q
    go_enter Tryz.func27, Tryz.ntmps27
    go_wp2_with (first
      | (go_at_call 36; refine q.mono ?_; rintro e w ⟨rfl, rfl⟩))
    go_ret2
    exact ⟨rfl, rfl⟩

set_option maxRecDepth 100000 in
set_option maxHeartbeats 4000000 in
theorem refLatest_in (r g cap : Nat) (s : Dk) (B R : Nat) (w : World) (h : RefAt w r g cap s) (hh : hasRing s (B : Int) (R : Int) = true) :
    Calls Tryz.prog 27 #[.pointer (some ⟨r, 0, none⟩), .int .i64 (B : Int), .int .i64 (R : Int)] w fun e w' => e = .returned (.tuple #[.int .u32 ((latest s B R).1 : Nat), .int .u64 ((latest s B R).2 : Nat)]) ∧ Kept [] w w' := by
  have q := refRing_any B R w
  have c0 := h.1.four.1
  have v1 := h.2
  have v2 := v1.top
  have hi := has_is v1 hh
  rw [hi] at q
  simp only [hasRing, Bool.and_eq_true, decide_eq_true_eq] at hh
  obtain ⟨⟨⟨h1, h2⟩, h3⟩, h4⟩ := hh
  have h5 : ¬ ((s.size : Int) - (R : Int) < (B : Int)) := by omega
  have hsec : ∀ i : Nat, Sec (ringOf s B i) := fun i => sec_read v1 _
  have hN : ∀ W : World, Arr (W.alloc (.cells #[.int .u8 0, .int .u8 0, .int .u8 0, .int .u8 0, .int .u8 0, .int .u8 0, .int .u8 0, .int .u8 0, .int .u8 0, .int .u8 0, .int .u8 0, .int .u8 0, .int .u8 0, .int .u8 0, .int .u8 0, .int .u8 0] 52)) W.heap.size 52 nought := fun W => arr_new W 52 nought
  go_enter Tryz.func27, Tryz.ntmps27
  go_wp2_with (first
    | (go_at_call 36; refine q.mono ?_; rintro e w ⟨rfl, rfl⟩))
  go_loopw [10, 8, 9] (fun i n y wr => ∃ k : Nat, k ≤ R ∧ i = .int .i64 ((B : Int) + (k : Int)) ∧ n = .int .u32 ((search (ringOf s B) R k).1 : Nat) ∧ y = .int .u64 ((search (ringOf s B) R k).2 : Nat) ∧ RefAt wr r g cap s ∧ Kept [] w wr) (fun i _ _ _ => B + R - (RowKit.intOf i).toNat)
  case atStart => exact ⟨0, by omega, by simp, rfl, rfl, h, Kept.refl _ _⟩
  case round =>
    obtain ⟨k, hk, rfl, rfl, rfl, hR, hK⟩ := hrel
    clear q c0
    have hl := search_lt (ringOf s B) R hsec k
    by_cases hlt : k < R
    · have hm1 : Hid (B + R - ((B : Int) + (k : Int) + 1).toNat < B + R - ((B : Int) + (k : Int)).toNat) := by show _ < _; omega
      have kk : (B : Int) + (k : Int) < (B : Int) + (R : Int) := by omega
      have q1 := refRead_any r g cap s ((B : Int) + (k : Int)) wr hR
      have hin : inside s ((B : Int) + (k : Int)) = true := by simp [inside]; omega
      have eE : readE s ((B : Int) + (k : Int)) = if s.broken then 3 else 0 := by rw [readE, if_pos hin]
      have eB : s.broken = true → readL s ((B : Int) + (k : Int)) = nought := fun hb => by rw [readL, if_pos hin, if_pos hb]
      have ex : readL s ((B : Int) + (k : Int)) = ringOf s B k := by unfold ringOf; rw [Int.natCast_add]
      rw [ex] at q1 eB
      have hx := hsec k
      have en : search (ringOf s B) R (k + 1) = better R k (ringOf s B k) (search (ringOf s B) R k) := rfl
      generalize ringOf s B k = x at *
      have hn := num_lt hx
      have hp : placeOf (num x) B R = (B : Int) + (num x : Int) % (R : Int) := by rw [placeOf, if_pos hi]
      have q3 := fun W => refPlace_any (num x) hn B R W
      have q2' := fun W => Seal.refOpen_any x W hx.1 hx.2
      have q2 : ∀ W, Calls Tryz.prog 44 #[arr x] W fun e w' => e = .returned (.tuple #[.int .u32 (num x : Nat), .int .u64 (word x : Nat), .bool (Seal.isRec x)]) ∧ Kept [] W w' := fun W => (q2' W).mono (fun _ _ ⟨he, hb⟩ => ⟨he, Kept.of_below hb []⟩)
      have eN : Seal.isRec x = false → num x = 0 := fun h => by unfold num Seal.toldN; rw [h]; rfl
      clear q2'
      rw [hp] at q3
      simp only [arr] at q1 q2
      replace en : Hid (search (ringOf s B) R (k + 1) = better R k x (search (ringOf s B) R k)) := en
      generalize search (ringOf s B) R k = l at *
      obtain ⟨l1, l2⟩ := l
      simp only [] at hl
      generalize readE s ((B : Int) + (k : Int)) = ee at *
      clear ex hp hin
      by_cases hbr : s.broken = true
      · have z : num x = 0 := by rw [eB hbr]; exact num_nought
        have es : Hid (search (ringOf s B) R (k + 1) = (l1, l2)) := en.out.trans (if_neg (fun h => by rw [z] at h; exact absurd h.2 (Nat.not_lt_zero _)))
        have e3 : ee = 3 := by rw [eE, if_pos hbr]
        subst e3
        clear eE eB eN hbr z
        go_wp2_with (first
          | (go_at_call 43; refine q1.mono ?_; rintro e w1 ⟨rfl, hk1⟩)
          | (refine wpList_store_arr rfl 52 _ _ rfl w1.heap.size 52 _ x rfl rfl (hN w1) hx.1 (by rw [hx.1]; exact Tryz.size52) ?_; intro w2 hA2 hk2 hz2; replace hz2 : Hid _ := hz2; have hk02 : Kept [] _ w2 := (hk1.trans (kept_alloc [] w1 (.cells #[.int .u8 0, .int .u8 0, .int .u8 0, .int .u8 0, .int .u8 0, .int .u8 0, .int .u8 0, .int .u8 0, .int .u8 0, .int .u8 0, .int .u8 0, .int .u8 0, .int .u8 0, .int .u8 0, .int .u8 0, .int .u8 0] 52))).young hk2 hk1.size)
          | refine wpList_load_arr rfl 52 _ rfl w1.heap.size 52 x rfl hA2 16 5 Tryz.underlying52 (by rw [hx.1]; exact Tryz.size52) ?_
          | (go_at_call 44; refine (q2 _).mono ?_; rintro e w3 ⟨rfl, hk3⟩; have hK3 := hk02.trans hk3)
          | (go_at_call 38; refine (q3 _).mono ?_; rintro e w3 ⟨rfl, rfl⟩))
        go_roundw
        case rel =>
          refine ⟨k + 1, by omega, by go_num, ?_, ?_, hR.kept hK3 (by simp) (by simp), hK.trans hK3⟩
          · rw [es.out]
          · rw [es.out]
        case measure => simpa [RowKit.intOf] using hm1.out
      · have e3 : ee = 0 := by rw [eE, if_neg hbr]
        subst e3
        clear eE eB hbr
        generalize Seal.isRec x = b at *
        cases b with
        | false =>
          have z := eN rfl
          have es : Hid (search (ringOf s B) R (k + 1) = (l1, l2)) := en.out.trans (if_neg (fun h => by rw [z] at h; exact absurd h.2 (Nat.not_lt_zero _)))
          clear eN z
          go_wp2_with (first
            | (go_at_call 43; refine q1.mono ?_; rintro e w1 ⟨rfl, hk1⟩)
            | (refine wpList_store_arr rfl 52 _ _ rfl w1.heap.size 52 _ x rfl rfl (hN w1) hx.1 (by rw [hx.1]; exact Tryz.size52) ?_; intro w2 hA2 hk2 hz2; replace hz2 : Hid _ := hz2; have hk02 : Kept [] _ w2 := (hk1.trans (kept_alloc [] w1 (.cells #[.int .u8 0, .int .u8 0, .int .u8 0, .int .u8 0, .int .u8 0, .int .u8 0, .int .u8 0, .int .u8 0, .int .u8 0, .int .u8 0, .int .u8 0, .int .u8 0, .int .u8 0, .int .u8 0, .int .u8 0, .int .u8 0] 52))).young hk2 hk1.size)
            | refine wpList_load_arr rfl 52 _ rfl w1.heap.size 52 x rfl hA2 16 5 Tryz.underlying52 (by rw [hx.1]; exact Tryz.size52) ?_
            | (go_at_call 44; refine (q2 _).mono ?_; rintro e w3 ⟨rfl, hk3⟩; have hK3 := hk02.trans hk3)
            | (go_at_call 38; refine (q3 _).mono ?_; rintro e w3 ⟨rfl, rfl⟩))
          go_roundw
          case rel =>
            refine ⟨k + 1, by omega, by go_num, ?_, ?_, hR.kept hK3 (by simp) (by simp), hK.trans hK3⟩
            · rw [es.out]
            · rw [es.out]
          case measure => simpa [RowKit.intOf] using hm1.out
        | true =>
          clear eN
          by_cases hg : l1 < num x
          · have hg' : (l1 : Int) < (num x : Int) := by omega
            by_cases hc : num x % R = k
            · have es : Hid (search (ringOf s B) R (k + 1) = (num x, word x)) := en.out.trans (if_pos ⟨hc, hg⟩)
              have hc' : (num x : Int) % (R : Int) = (k : Int) := by omega
              rw [hc'] at q3
              go_wp2_with (first
                | (go_at_call 43; refine q1.mono ?_; rintro e w1 ⟨rfl, hk1⟩)
                | (refine wpList_store_arr rfl 52 _ _ rfl w1.heap.size 52 _ x rfl rfl (hN w1) hx.1 (by rw [hx.1]; exact Tryz.size52) ?_; intro w2 hA2 hk2 hz2; replace hz2 : Hid _ := hz2; have hk02 : Kept [] _ w2 := (hk1.trans (kept_alloc [] w1 (.cells #[.int .u8 0, .int .u8 0, .int .u8 0, .int .u8 0, .int .u8 0, .int .u8 0, .int .u8 0, .int .u8 0, .int .u8 0, .int .u8 0, .int .u8 0, .int .u8 0, .int .u8 0, .int .u8 0, .int .u8 0, .int .u8 0] 52))).young hk2 hk1.size)
                | refine wpList_load_arr rfl 52 _ rfl w1.heap.size 52 x rfl hA2 16 5 Tryz.underlying52 (by rw [hx.1]; exact Tryz.size52) ?_
                | (go_at_call 44; refine (q2 _).mono ?_; rintro e w3 ⟨rfl, hk3⟩; have hK3 := hk02.trans hk3)
                | (go_at_call 38; refine (q3 _).mono ?_; rintro e w3 ⟨rfl, rfl⟩))
              go_roundw
              case rel =>
                refine ⟨k + 1, by omega, by go_num, ?_, ?_, hR.kept hK3 (by simp) (by simp), hK.trans hK3⟩
                · rw [es.out]
                · rw [es.out]
              case measure => simpa [RowKit.intOf] using hm1.out
            · have es : Hid (search (ringOf s B) R (k + 1) = (l1, l2)) := en.out.trans (if_neg (fun h => hc h.1))
              have hc' : (((B : Int) + (num x : Int) % (R : Int)) == ((B : Int) + (k : Int))) = false := by simp; omega
              go_wp2_with (first
                | (go_at_call 43; refine q1.mono ?_; rintro e w1 ⟨rfl, hk1⟩)
                | (refine wpList_store_arr rfl 52 _ _ rfl w1.heap.size 52 _ x rfl rfl (hN w1) hx.1 (by rw [hx.1]; exact Tryz.size52) ?_; intro w2 hA2 hk2 hz2; replace hz2 : Hid _ := hz2; have hk02 : Kept [] _ w2 := (hk1.trans (kept_alloc [] w1 (.cells #[.int .u8 0, .int .u8 0, .int .u8 0, .int .u8 0, .int .u8 0, .int .u8 0, .int .u8 0, .int .u8 0, .int .u8 0, .int .u8 0, .int .u8 0, .int .u8 0, .int .u8 0, .int .u8 0, .int .u8 0, .int .u8 0] 52))).young hk2 hk1.size)
                | refine wpList_load_arr rfl 52 _ rfl w1.heap.size 52 x rfl hA2 16 5 Tryz.underlying52 (by rw [hx.1]; exact Tryz.size52) ?_
                | (go_at_call 44; refine (q2 _).mono ?_; rintro e w3 ⟨rfl, hk3⟩; have hK3 := hk02.trans hk3)
                | (go_at_call 38; refine (q3 _).mono ?_; rintro e w3 ⟨rfl, rfl⟩))
              go_roundw
              case rel =>
                refine ⟨k + 1, by omega, by go_num, ?_, ?_, hR.kept hK3 (by simp) (by simp), hK.trans hK3⟩
                · rw [es.out]
                · rw [es.out]
              case measure => simpa [RowKit.intOf] using hm1.out
          · have hg' : ¬ ((l1 : Int) < (num x : Int)) := by omega
            have es : Hid (search (ringOf s B) R (k + 1) = (l1, l2)) := en.out.trans (if_neg (fun h => hg h.2))
            go_wp2_with (first
              | (go_at_call 43; refine q1.mono ?_; rintro e w1 ⟨rfl, hk1⟩)
              | (refine wpList_store_arr rfl 52 _ _ rfl w1.heap.size 52 _ x rfl rfl (hN w1) hx.1 (by rw [hx.1]; exact Tryz.size52) ?_; intro w2 hA2 hk2 hz2; replace hz2 : Hid _ := hz2; have hk02 : Kept [] _ w2 := (hk1.trans (kept_alloc [] w1 (.cells #[.int .u8 0, .int .u8 0, .int .u8 0, .int .u8 0, .int .u8 0, .int .u8 0, .int .u8 0, .int .u8 0, .int .u8 0, .int .u8 0, .int .u8 0, .int .u8 0, .int .u8 0, .int .u8 0, .int .u8 0, .int .u8 0] 52))).young hk2 hk1.size)
              | refine wpList_load_arr rfl 52 _ rfl w1.heap.size 52 x rfl hA2 16 5 Tryz.underlying52 (by rw [hx.1]; exact Tryz.size52) ?_
              | (go_at_call 44; refine (q2 _).mono ?_; rintro e w3 ⟨rfl, hk3⟩; have hK3 := hk02.trans hk3)
              | (go_at_call 38; refine (q3 _).mono ?_; rintro e w3 ⟨rfl, rfl⟩))
            go_roundw
            case rel =>
              refine ⟨k + 1, by omega, by go_num, ?_, ?_, hR.kept hK3 (by simp) (by simp), hK.trans hK3⟩
              · rw [es.out]
              · rw [es.out]
            case measure => simpa [RowKit.intOf] using hm1.out
    · obtain rfl : k = R := by omega
      have kk : ¬ ((B : Int) + (k : Int) < (B : Int) + (k : Int)) := by omega
      go_wp2_with fail
      go_ret2
      exact ⟨rfl, hK⟩
set_option maxRecDepth 100000 in
/-- Latest -/
theorem refLatest_any (r g cap : Nat) (s : Dk) (base z : Int) (w : World) (h : RefAt w r g cap s) :
    Calls Tryz.prog 27 #[.pointer (some ⟨r, 0, none⟩), .int .i64 base, .int .i64 z] w fun e w' => e = .returned (.tuple #[.int .u32 (latestN s base z : Nat), .int .u64 (latestY s base z : Nat)]) ∧ Kept [] w w' := by
  by_cases hh : hasRing s base z = true
  · have hh' := hh
    simp only [hasRing, Bool.and_eq_true, decide_eq_true_eq] at hh'
    obtain ⟨B, rfl⟩ := Int.eq_ofNat_of_zero_le (show 0 ≤ base by omega)
    obtain ⟨R, rfl⟩ := Int.eq_ofNat_of_zero_le (show 0 ≤ z by omega)
    have := refLatest_in r g cap s B R w h hh
    rw [latestN, latestY, if_pos hh, if_pos hh]
    exact this
  · rw [latestN, latestY, if_neg hh, if_neg hh]
    exact (refLatest_out r g cap s base z w h (by simpa using hh)).mono (fun _ _ ⟨he, hw⟩ => ⟨he, hw ▸ Kept.refl _ _⟩)
end Go.Proofs.YtekjlmnnaaodjaaGreat
