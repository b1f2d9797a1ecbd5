/-
  The walk of slots.Put.
-/
import Derived.Test.YtekjlmnnaaodjaaGreatSlotB
namespace Go.Proofs.YtekjlmnnaaodjaaGreat
open Go.RowKit Go.Maps Go.Shelf
open Math

theorem wrote_ops (s : Dk) (k : Int) (x : List Nat) : (wroteS s k x).ops ≤ s.ops + 1 := by
  unfold wroteS
  split
  · split
    · exact Nat.le_succ _
    · exact Nat.le_refl _
  · exact Nat.le_succ _

set_option maxRecDepth 100000 in
set_option maxHeartbeats 1000000 in
/-- Put -/
theorem put_any (d b1 b2 : Nat) (s : Dk) (base r : Int) (y : Nat) (hy : y < 18446744073709551616) (hops : s.ops ≤ 999998) (w : World) (h : DiskAt w d b1 b2 s) :
    Calls Tryz.prog 21 #[.pointer (some ⟨d, 0, none⟩), .int .i64 base, .int .i64 r, .int .u64 (y : Int)] w fun e w' => e = .returned (.int .i64 (putE s base r y : Nat)) ∧ DiskAt w' d b1 b2 (putS s base r y) ∧ Kept [d, b1, b2] w w' := by
  have q1 := made_any d b1 b2 s w h
  have q2 := holds_any d b1 b2 s base r w h
  by_cases hh : hasRing s base r = true
  · have q3 := broken_any d b1 b2 s w h
    rw [hh] at q2
    by_cases hb : s.broken = true
    · rw [putE, putS, if_pos hh, if_pos hh, if_pos hb, if_pos hb]
      rw [hb] at q3
      go_enter Tryz.func21, Tryz.ntmps21
      go_wp2_with (first
        | (go_at_call 18; refine q1.mono ?_; rintro e w ⟨rfl, rfl⟩)
        | (go_at_call 30; refine q2.mono ?_; rintro e w ⟨rfl, rfl⟩)
        | (go_at_call 19; refine q3.mono ?_; rintro e w ⟨rfl, rfl⟩))
      go_ret
      exact ⟨rfl, h, Kept.refl _ _⟩
    · have q4 := latest_any d b1 b2 s base r w h
      have hn := latestN_lt h.valid base r
      rw [show s.broken = false by simpa using hb] at q3
      by_cases hm : latestN s base r = 4294967295
      · rw [putE, putS, if_pos hh, if_pos hh, if_neg hb, if_neg hb, if_pos hm, if_pos hm]
        rw [hm] at q4
        go_enter Tryz.func21, Tryz.ntmps21
        go_wp2_with (first
          | (go_at_call 18; refine q1.mono ?_; rintro e w ⟨rfl, rfl⟩)
          | (go_at_call 30; refine q2.mono ?_; rintro e w ⟨rfl, rfl⟩)
          | (go_at_call 19; refine q3.mono ?_; rintro e w ⟨rfl, rfl⟩)
          | (go_at_call 31; refine q4.mono ?_; rintro e w1 ⟨rfl, hk1⟩))
        go_ret
        exact ⟨rfl, h.kept hk1 (by simp) (by simp) (by simp), hk1.mono (by simp)⟩
      · rw [putE, putS, if_pos hh, if_pos hh, if_neg hb, if_neg hb, if_neg hm, if_neg hm, putK, putX]
        have hp : placeOf (latestN s base r + 1) base r = base + ((latestN s base r + 1 : Nat) : Int) % r := by
          have v2 := h.valid.top
          simp only [hasRing, Bool.and_eq_true, decide_eq_true_eq] at hh
          rw [placeOf, if_pos]
          simp [isRing]
          omega
        have q5 := fun W => place_any (latestN s base r + 1) (by omega) base r W
        have q6 := fun W => record_any (latestN s base r + 1) y W (by omega) hy
        rw [hp] at q5
        generalize latestN s base r = n at *
        clear hp
        have hx := sec_record (n + 1) y
        generalize record (n + 1) y = x at *
        generalize base + ((n + 1 : Nat) : Int) % r = k at *
        have q7 := fun W (h : DiskAt W d b1 b2 s) => write_any d b1 b2 s k x hx (by omega) W h
        have ho := wrote_ops s k x
        have q8 := fun W (h : DiskAt W d b1 b2 (wroteS s k x)) => flush_any d b1 b2 (wroteS s k x) (by omega) W h
        have e1 : ((n : Int) == 4294967295) = false := by simp; omega
        have e2 : (n : Int) + 1 < 4294967296 := by omega
        simp only [Int.natCast_succ, arr] at q5 q6 q7
        unfold putsE putsS
        by_cases he : wroteE s k = 0
        · rw [if_pos he, if_pos he]
          rw [he] at q7
          go_enter Tryz.func21, Tryz.ntmps21
          go_wp2_with (first
            | (go_at_call 18; refine q1.mono ?_; rintro e w ⟨rfl, rfl⟩)
            | (go_at_call 30; refine q2.mono ?_; rintro e w ⟨rfl, rfl⟩)
            | (go_at_call 19; refine q3.mono ?_; rintro e w ⟨rfl, rfl⟩)
            | (go_at_call 31; refine q4.mono ?_; rintro e w1 ⟨rfl, hk1⟩)
            | (go_at_call 33; refine (q5 _).mono ?_; rintro e w1 ⟨rfl, rfl⟩)
            | (go_at_call 34; refine (q6 _).mono ?_; rintro e w2 ⟨rfl, hk2⟩; have hD2 := h.kept (hk1.trans hk2) (by simp) (by simp) (by simp))
            | (go_at_call 32; refine (q7 _ hD2).mono ?_; rintro e w3 ⟨rfl, hD3, hk3⟩)
            | (go_at_call 35; refine (q8 _ hD3).mono ?_; rintro e w4 ⟨rfl, hD4, hk4⟩))
          go_ret
          exact ⟨rfl, hD4, (((hk1.trans hk2).mono (by simp)).trans hk3).trans hk4⟩
        · rw [if_neg he, if_neg he]
          have he' : ((wroteE s k : Int) != 0) = true := by simp; omega
          generalize wroteE s k = ee at *
          go_enter Tryz.func21, Tryz.ntmps21
          go_wp2_with (first
            | (go_at_call 18; refine q1.mono ?_; rintro e w ⟨rfl, rfl⟩)
            | (go_at_call 30; refine q2.mono ?_; rintro e w ⟨rfl, rfl⟩)
            | (go_at_call 19; refine q3.mono ?_; rintro e w ⟨rfl, rfl⟩)
            | (go_at_call 31; refine q4.mono ?_; rintro e w1 ⟨rfl, hk1⟩)
            | (go_at_call 33; refine (q5 _).mono ?_; rintro e w1 ⟨rfl, rfl⟩)
            | (go_at_call 34; refine (q6 _).mono ?_; rintro e w2 ⟨rfl, hk2⟩; have hD2 := h.kept (hk1.trans hk2) (by simp) (by simp) (by simp))
            | (go_at_call 32; refine (q7 _ hD2).mono ?_; rintro e w3 ⟨rfl, hD3, hk3⟩))
          go_ret
          exact ⟨rfl, hD3, ((hk1.trans hk2).mono (by simp)).trans hk3⟩
  · have hh' : hasRing s base r = false := by simpa using hh
    rw [putE, putS, if_neg hh, if_neg hh]
    rw [hh'] at q2
    go_enter Tryz.func21, Tryz.ntmps21
    go_wp2_with (first
      | (go_at_call 18; refine q1.mono ?_; rintro e w ⟨rfl, rfl⟩)
      | (go_at_call 30; refine q2.mono ?_; rintro e w ⟨rfl, rfl⟩))
    go_ret
    exact ⟨rfl, h, Kept.refl _ _⟩
end Go.Proofs.YtekjlmnnaaodjaaGreat
