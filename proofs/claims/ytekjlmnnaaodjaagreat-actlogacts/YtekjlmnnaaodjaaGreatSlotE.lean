/-
  The walk of the document's Put.
-/
import Derived.Test.YtekjlmnnaaodjaaGreatSlotD
namespace Go.Proofs.YtekjlmnnaaodjaaGreat
open Go.RowKit Go.Maps Go.Shelf
open Math

set_option maxRecDepth 100000 in
set_option maxHeartbeats 1000000 in
/-- Put, of a ring that is none -/
theorem refPut_out (r g cap : Nat) (s : Dk) (base z : Int) (y : Nat) (w : World) (h : RefAt w r g cap s) (hh : hasRing s base z = false) :
    Calls Tryz.prog 22 #[.pointer (some ⟨r, 0, none⟩), .int .i64 base, .int .i64 z, .int .u64 (y : Int)] w fun e w' => e = .returned (.int .i64 2) ∧ w' = w := by
  have q := refRing_any base z w
  have c0 := h.1.four.1
  by_cases hi : isRing base z = true
  · rw [hi] at q
    simp only [isRing, Bool.and_eq_true, decide_eq_true_eq] at hi
    obtain ⟨⟨⟨h1, h2⟩, h3⟩, h4⟩ := hi
    have v1 := h.2.top
    have h5 : (s.size : Int) - z < base := by
      simp [hasRing] at hh
      omega
    go_enter Tryz.func22, Tryz.ntmps22
    go_wp2_with (first
      | (go_at_call 36; refine q.mono ?_; rintro e w ⟨rfl, rfl⟩))
    go_ret
    exact ⟨rfl, rfl⟩
  · rw [show isRing base z = false by simpa using hi] at q
    go_enter Tryz.func22, Tryz.ntmps22
    go_wp2_with (first
      | (go_at_call 36; refine q.mono ?_; rintro e w ⟨rfl, rfl⟩))
    go_ret
    exact ⟨rfl, rfl⟩

set_option maxRecDepth 100000 in
set_option maxHeartbeats 1000000 in
/-- Put -/
theorem refPut_any (r g cap : Nat) (s : Dk) (base z : Int) (y : Nat) (hy : y < 18446744073709551616) (hops : s.ops ≤ 999998) (w : World) (h : RefAt w r g cap s) :
    Calls Tryz.prog 22 #[.pointer (some ⟨r, 0, none⟩), .int .i64 base, .int .i64 z, .int .u64 (y : Int)] w fun e w' => e = .returned (.int .i64 (putE s base z y : Nat)) ∧ RefAt w' r g cap (putS s base z y) ∧ Kept [r, g] w w' := by
  by_cases hh : hasRing s base z = true
  · have q := refRing_any base z w
    have hi := has_is h.2 hh
    rw [hi] at q
    have c0 := h.1.four.1
    have c2 := h.1.four.2.2.1
    have v1 := h.2.top
    have hh' := hh
    simp only [hasRing, Bool.and_eq_true, decide_eq_true_eq] at hh'
    obtain ⟨⟨⟨h1, h2⟩, h3⟩, h4⟩ := hh'
    have h5 : ¬ ((s.size : Int) - z < base) := by omega
    by_cases hb : s.broken = true
    · rw [putE, putS, if_pos hh, if_pos hh, if_pos hb, if_pos hb]
      rw [hb] at c2
      go_enter Tryz.func22, Tryz.ntmps22
      go_wp2_with (first
        | (go_at_call 36; refine q.mono ?_; rintro e w ⟨rfl, rfl⟩))
      go_ret
      exact ⟨rfl, h, Kept.refl _ _⟩
    · have q4 := refLatest_any r g cap s base z w h
      have hn := latestN_lt h.2 base z
      rw [show s.broken = false by simpa using hb] at c2
      by_cases hm : latestN s base z = 4294967295
      · rw [putE, putS, if_pos hh, if_pos hh, if_neg hb, if_neg hb, if_pos hm, if_pos hm]
        rw [hm] at q4
        go_enter Tryz.func22, Tryz.ntmps22
        go_wp2_with (first
          | (go_at_call 36; refine q.mono ?_; rintro e w ⟨rfl, rfl⟩)
          | (go_at_call 27; refine q4.mono ?_; rintro e w1 ⟨rfl, hk1⟩))
        go_ret
        exact ⟨rfl, h.kept hk1 (by simp) (by simp), hk1.mono (by simp)⟩
      · rw [putE, putS, if_pos hh, if_pos hh, if_neg hb, if_neg hb, if_neg hm, if_neg hm, putK, putX]
        have hp : placeOf (latestN s base z + 1) base z = base + ((latestN s base z + 1 : Nat) : Int) % z := by rw [placeOf, if_pos hi]
        have q5 := fun W => refPlace_any (latestN s base z + 1) (by omega) base z W
        have q6 := fun W => refRecord_any (latestN s base z + 1) y W (by omega) hy
        rw [hp] at q5
        generalize latestN s base z = n at *
        clear hp
        have hx := sec_record (n + 1) y
        generalize record (n + 1) y = x at *
        generalize base + ((n + 1 : Nat) : Int) % z = k at *
        have q7 := fun W (h : RefAt W r g cap s) => refWrite_any r g cap s k x hx (by omega) W h
        have ho := wrote_ops s k x
        have q8 := fun W (h : RefAt W r g cap (wroteS s k x)) => refFlush_any r g cap (wroteS s k x) (by omega) W h
        have e1 : ((n : Int) == 4294967295) = false := by simp; omega
        simp only [Int.natCast_succ, arr] at q5 q6 q7
        unfold putsE putsS
        by_cases he : wroteE s k = 0
        · rw [if_pos he, if_pos he]
          rw [he] at q7
          go_enter Tryz.func22, Tryz.ntmps22
          go_wp2_with (first
            | (go_at_call 36; refine q.mono ?_; rintro e w ⟨rfl, rfl⟩)
            | (go_at_call 27; refine q4.mono ?_; rintro e w1 ⟨rfl, hk1⟩)
            | (go_at_call 38; refine (q5 _).mono ?_; rintro e w1 ⟨rfl, rfl⟩)
            | (go_at_call 39; refine (q6 _).mono ?_; rintro e w2 ⟨rfl, hk2⟩; have hD2 := h.kept (hk1.trans hk2) (by simp) (by simp))
            | (go_at_call 37; refine (q7 _ hD2).mono ?_; rintro e w3 ⟨rfl, hD3, hk3⟩)
            | (go_at_call 40; refine (q8 _ hD3).mono ?_; rintro e w4 ⟨rfl, hD4, hk4⟩))
          go_ret
          exact ⟨rfl, hD4, (((hk1.trans hk2).mono (by simp)).trans hk3).trans hk4⟩
        · rw [if_neg he, if_neg he]
          have he' : ((wroteE s k : Int) != 0) = true := by simp; omega
          generalize wroteE s k = ee at *
          go_enter Tryz.func22, Tryz.ntmps22
          go_wp2_with (first
            | (go_at_call 36; refine q.mono ?_; rintro e w ⟨rfl, rfl⟩)
            | (go_at_call 27; refine q4.mono ?_; rintro e w1 ⟨rfl, hk1⟩)
            | (go_at_call 38; refine (q5 _).mono ?_; rintro e w1 ⟨rfl, rfl⟩)
            | (go_at_call 39; refine (q6 _).mono ?_; rintro e w2 ⟨rfl, hk2⟩; have hD2 := h.kept (hk1.trans hk2) (by simp) (by simp))
            | (go_at_call 37; refine (q7 _ hD2).mono ?_; rintro e w3 ⟨rfl, hD3, hk3⟩))
          go_ret
          exact ⟨rfl, hD3, ((hk1.trans hk2).mono (by simp)).trans hk3⟩
  · rw [putE, putS, if_neg hh, if_neg hh]
    exact (refPut_out r g cap s base z y w h (by simpa using hh)).mono (fun _ _ ⟨he, hw⟩ => ⟨he, hw ▸ h, hw ▸ Kept.refl _ _⟩)
end Go.Proofs.YtekjlmnnaaodjaaGreat
