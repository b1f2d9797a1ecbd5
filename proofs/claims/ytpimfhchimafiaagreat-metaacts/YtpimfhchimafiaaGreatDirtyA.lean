import Derived.Test.YtpimfhchimafiaaGreatSlots2
import Derived.Test.YtpimfhchimafiaaGreatDisk2
import Derived.Test.YtpimfhchimafiaaGreatSuper1
import Derived.Test.YtpimfhchimafiaaGreatBits1
import Derived.Test.YtpimfhchimafiaaGreatDirtyM
/-
  The walks of dirty's functions, and of the document's: what the bitmap tells, Put, Clear; of a disk that no call made.
-/
namespace Go.Proofs.YtpimfhchimafiaaGreat
open Go.RowKit Go.Maps Go.Shelf
open Math

set_option maxRecDepth 100000 in
/-- the ring's mask, at a disk or at none (what Latest tells is handed in) -/
theorem mask_of (p : Option Addr) (n y : Nat) (w : World)
    (q : ∀ W, Kept [] w W → Calls Tryz.prog 44 #[.pointer p, .int .i64 6, .int .i64 2] W fun e w' => e = .returned (.tuple #[.int .u32 (n : Int), .int .u64 (y : Int)]) ∧ Kept [] W w') :
    Calls Tryz.prog 40 #[.agg #[.pointer p]] w fun e w' => e = .returned (.int .u64 (y : Int)) ∧ Kept [] w w' := by
  have q1 := q _ (kept_alloc [] w (.cells #[.pointer p] 77))
  clear q
  go_enter Tryz.func40, Tryz.ntmps40
  go_wp2_with (first
    | (go_at_call 44; refine q1.mono ?_; rintro e w1 ⟨rfl, hk1⟩))
  go_ret
  exact ⟨rfl, (kept_alloc [] w _).trans hk1⟩

set_option maxRecDepth 100000 in
theorem dget_of (p : Option Addr) (n y : Nat) (w : World)
    (q : ∀ W, Kept [] w W → Calls Tryz.prog 44 #[.pointer p, .int .i64 6, .int .i64 2] W fun e w' => e = .returned (.tuple #[.int .u32 (n : Int), .int .u64 (y : Int)]) ∧ Kept [] W w') :
    Calls Tryz.prog 26 #[.pointer p] w fun e w' => e = .returned (.int .u64 (y : Int)) ∧ Kept [] w w' := by
  have q1 := mask_of p n y w q
  clear q
  go_enter Tryz.func26, Tryz.ntmps26
  go_wp2_with (first
    | (go_at_call 40; refine q1.mono ?_; rintro e w1 ⟨rfl, hk1⟩))
  go_ret
  exact ⟨rfl, hk1⟩

set_option maxRecDepth 100000 in
theorem mask_any (d b1 b2 : Nat) (s : Dk) (w : World) (h : DiskAt w d b1 b2 s) :
    Calls Tryz.prog 40 #[.agg #[.pointer (some ⟨d, 0, none⟩)]] w fun e w' => e = .returned (.int .u64 (latestY s 6 2 : Nat)) ∧ Kept [] w w' :=
  mask_of _ (latestN s 6 2) _ w fun W hk => latest_any d b1 b2 s 6 2 W (h.kept hk (by simp) (by simp) (by simp))
set_option maxRecDepth 100000 in
/-- Get -/
theorem dget_any (d b1 b2 : Nat) (s : Dk) (w : World) (h : DiskAt w d b1 b2 s) :
    Calls Tryz.prog 26 #[.pointer (some ⟨d, 0, none⟩)] w fun e w' => e = .returned (.int .u64 (latestY s 6 2 : Nat)) ∧ Kept [] w w' :=
  dget_of _ (latestN s 6 2) _ w fun W hk => latest_any d b1 b2 s 6 2 W (h.kept hk (by simp) (by simp) (by simp))

set_option maxRecDepth 100000 in
set_option maxHeartbeats 1000000 in
/-- Put -/
theorem mapPut_any (d b1 b2 : Nat) (s : Dk) (m : Nat) (hm : m < 18446744073709551616) (hops : s.ops ≤ 999998) (w : World) (h : DiskAt w d b1 b2 s) :
    Calls Tryz.prog 18 #[.pointer (some ⟨d, 0, none⟩), .int .u64 (m : Int)] w fun e w' => e = .returned (.int .i64 (mapE s m : Nat)) ∧ DiskAt w' d b1 b2 (mapS s m) ∧ Kept [d, b1, b2] w w' := by
  have hk0 := kept_alloc [] w (.cells #[.pointer (some ⟨d, 0, none⟩)] 77)
  have hr := blk_new w 77 #[.pointer (some ⟨d, 0, none⟩)]
  have h0 := h.kept hk0 (by simp) (by simp) (by simp)
  have q1 := made_any d b1 b2 s _ h0
  have q2 := broken_any d b1 b2 s _ h0
  unfold mapE mapS
  by_cases hb : s.broken = true
  · rw [if_pos hb, if_pos hb]
    rw [hb] at q2
    clear hb hops
    go_enter Tryz.func18, Tryz.ntmps18
    go_wp2_with (first
      | (go_at_call 30; refine q1.mono ?_; rintro e w1 ⟨rfl, rfl⟩)
      | (go_at_call 36; refine q2.mono ?_; rintro e w1 ⟨rfl, rfl⟩))
    go_ret
    exact ⟨rfl, h0, hk0.mono (by simp)⟩
  · rw [if_neg hb, if_neg hb]
    have hb' : s.broken = false := by simpa using hb
    rw [hb'] at q2
    have q3 := mask_any d b1 b2 s _ h0
    clear hb hb'
    by_cases hg : latestY s 6 2 = m
    · rw [if_pos hg, if_pos hg]
      rw [hg] at q3
      clear hg hops
      go_enter Tryz.func18, Tryz.ntmps18
      go_wp2_with (first
        | (go_at_call 30; refine q1.mono ?_; rintro e w1 ⟨rfl, rfl⟩)
        | (go_at_call 36; refine q2.mono ?_; rintro e w1 ⟨rfl, rfl⟩)
        | (go_at_call 40; refine q3.mono ?_; rintro e w1 ⟨rfl, hk1⟩))
      go_ret
      exact ⟨rfl, h0.kept hk1 (by simp) (by simp) (by simp), (hk0.trans hk1).mono (by simp)⟩
    · rw [if_neg hg, if_neg hg]
      have q5 := fun W (h : DiskAt W d b1 b2 s) => put_any d b1 b2 s 6 2 m hm hops W h
      generalize putE s 6 2 m = ee at *
      generalize putS s 6 2 m = s' at *
      generalize latestY s 6 2 = y at *
      have e1 : ((y : Int) == (m : Int)) = false := by simp; omega
      clear hops hg
      go_enter Tryz.func18, Tryz.ntmps18
      go_wp2_with (first
        | (go_at_call 30; refine q1.mono ?_; rintro e w1 ⟨rfl, rfl⟩)
        | (go_at_call 36; refine q2.mono ?_; rintro e w1 ⟨rfl, rfl⟩)
        | (go_at_call 40; refine q3.mono ?_; rintro e w1 ⟨rfl, hk1⟩; have c1 := (hr.kept hk1 (by simp)).cell 0; simp at c1; have hD1 := h0.kept hk1 (by simp) (by simp) (by simp))
        | (go_at_call 38; refine (q5 _ hD1).mono ?_; rintro e w3 ⟨rfl, hD3, hk3⟩))
      go_ret
      exact ⟨rfl, hD3, ((hk0.trans hk1).mono (by simp)).trans hk3⟩

set_option maxRecDepth 100000 in
/-- Get of a disk that no call made -/
theorem dget_none (p : Option Addr) (w : World) (h : NoDisk w p) :
    Calls Tryz.prog 26 #[.pointer p] w fun e w' => e = .returned (.int .u64 0) ∧ Kept [] w w' :=
  dget_of p 0 0 w fun W hk => (latest_none p 6 2 W (h.kept hk)).mono fun e w' ⟨he, hw⟩ => ⟨he, by rw [hw]; exact Kept.refl _ _⟩

set_option maxRecDepth 100000 in
theorem mapPut_none (p : Option Addr) (m : Nat) (w : World) (h : NoDisk w p) :
    Calls Tryz.prog 18 #[.pointer p, .int .u64 (m : Int)] w fun e w' => e = .returned (.int .i64 1) ∧ Kept [] w w' := by
  have hk0 := kept_alloc [] w (.cells #[.pointer p] 77)
  have q1 := made_none p _ (h.kept hk0)
  go_enter Tryz.func18, Tryz.ntmps18
  go_wp2_with (first
    | (go_at_call 30; refine q1.mono ?_; rintro e w1 ⟨rfl, rfl⟩))
  go_ret
  exact ⟨rfl, hk0⟩

set_option maxRecDepth 100000 in
/-- the document's Get -/
theorem refGet11_any (r g cap : Nat) (s : Dk) (w : World) (h : RefAt w r g cap s) :
    Calls Tryz.prog 29 #[.pointer (some ⟨r, 0, none⟩)] w fun e w' => e = .returned (.int .u64 (latestY s 6 2 : Nat)) ∧ Kept [] w w' := by
  have q1 := refLatest_any r g cap s 6 2 w h
  generalize latestN s 6 2 = n at *
  generalize latestY s 6 2 = y at *
  go_enter Tryz.func29, Tryz.ntmps29
  go_wp2_with (first
    | (go_at_call 47; refine q1.mono ?_; rintro e w1 ⟨rfl, hk1⟩))
  go_ret
  exact ⟨rfl, hk1⟩

set_option maxRecDepth 100000 in
set_option maxHeartbeats 1000000 in
/-- the document's Put -/
theorem refPut11_any (r g cap : Nat) (s : Dk) (m : Nat) (hm : m < 18446744073709551616) (hops : s.ops ≤ 999998) (w : World) (h : RefAt w r g cap s) :
    Calls Tryz.prog 19 #[.pointer (some ⟨r, 0, none⟩), .int .u64 (m : Int)] w fun e w' => e = .returned (.int .i64 (mapE s m : Nat)) ∧ RefAt w' r g cap (mapS s m) ∧ Kept [r, g] w w' := by
  have q3 := refGet11_any r g cap s w h
  have c0 := h.1.four.2.2.1
  unfold mapE mapS
  by_cases hb : s.broken = true
  · rw [if_pos hb, if_pos hb]
    rw [hb] at c0
    clear hb hops q3
    go_enter Tryz.func19, Tryz.ntmps19
    go_wp2
    go_ret
    exact ⟨rfl, h, Kept.refl _ _⟩
  · rw [if_neg hb, if_neg hb]
    have hb' : s.broken = false := by simpa using hb
    rw [hb'] at c0
    clear hb hb'
    by_cases hg : latestY s 6 2 = m
    · rw [if_pos hg, if_pos hg]
      rw [hg] at q3
      clear hg hops
      go_enter Tryz.func19, Tryz.ntmps19
      go_wp2_with (first
        | (go_at_call 29; refine q3.mono ?_; rintro e w1 ⟨rfl, hk1⟩))
      go_ret
      exact ⟨rfl, h.kept hk1 (by simp) (by simp), hk1.mono (by simp)⟩
    · rw [if_neg hg, if_neg hg]
      have q5 := fun W (h : RefAt W r g cap s) => refPut_any r g cap s 6 2 m hm hops W h
      generalize putE s 6 2 m = ee at *
      generalize putS s 6 2 m = s' at *
      generalize latestY s 6 2 = y at *
      have e1 : ((y : Int) == (m : Int)) = false := by simp; omega
      clear hops hg
      go_enter Tryz.func19, Tryz.ntmps19
      go_wp2_with (first
        | (go_at_call 29; refine q3.mono ?_; rintro e w1 ⟨rfl, hk1⟩; have hD1 := h.kept hk1 (by simp) (by simp))
        | (go_at_call 39; refine (q5 _ hD1).mono ?_; rintro e w3 ⟨rfl, hD3, hk3⟩))
      go_ret
      exact ⟨rfl, hD3, (hk1.mono (by simp)).trans hk3⟩

end Go.Proofs.YtpimfhchimafiaaGreat

