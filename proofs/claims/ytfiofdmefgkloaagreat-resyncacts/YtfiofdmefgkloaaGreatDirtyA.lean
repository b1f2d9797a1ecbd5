import Derived.Test.YtfiofdmefgkloaaGreatSlots2
import Derived.Test.YtfiofdmefgkloaaGreatDisk2
import Derived.Test.YtfiofdmefgkloaaGreatSuper1
import Derived.Test.YtfiofdmefgkloaaGreatBits1
import Derived.Test.YtfiofdmefgkloaaGreatDirtyM
/-
  The walks of dirty's functions, and of the document's: what the bitmap tells, Put, Clear; of a disk that no call made.
-/
namespace Go.Proofs.YtfiofdmefgkloaaGreat
open Go.RowKit Go.Maps Go.Shelf
open Math

set_option maxRecDepth 100000 in
/-- the ring's mask, at a disk or at none (what Latest tells is handed in) -/
theorem mask_of (p : Option Addr) (n y : Nat) (w : World)
    (q : ∀ W, Kept [] w W → Calls Tryz.prog 99 #[.pointer p, .int .i64 6, .int .i64 2] W fun e w' => e = .returned (.tuple #[.int .u32 (n : Int), .int .u64 (y : Int)]) ∧ Kept [] W w') :
    Calls Tryz.prog 56 #[.agg #[.pointer p]] w fun e w' => e = .returned (.int .u64 (y : Int)) ∧ Kept [] w w' := by
  have q1 := q _ (kept_alloc [] w (.cells #[.pointer p] 120))
  clear q
  go_enter Tryz.func56, Tryz.ntmps56
  go_wp2_with (first
    | (go_at_call 99; refine q1.mono ?_; rintro e w1 ⟨rfl, hk1⟩))
  go_ret
  exact ⟨rfl, (kept_alloc [] w _).trans hk1⟩

set_option maxRecDepth 100000 in
theorem dget_of (p : Option Addr) (n y : Nat) (w : World)
    (q : ∀ W, Kept [] w W → Calls Tryz.prog 99 #[.pointer p, .int .i64 6, .int .i64 2] W fun e w' => e = .returned (.tuple #[.int .u32 (n : Int), .int .u64 (y : Int)]) ∧ Kept [] W w') :
    Calls Tryz.prog 22 #[.pointer p] w fun e w' => e = .returned (.int .u64 (y : Int)) ∧ Kept [] w w' := by
  have q1 := mask_of p n y w q
  clear q
  go_enter Tryz.func22, Tryz.ntmps22
  go_wp2_with (first
    | (go_at_call 56; refine q1.mono ?_; rintro e w1 ⟨rfl, hk1⟩))
  go_ret
  exact ⟨rfl, hk1⟩

set_option maxRecDepth 100000 in
theorem mask_any (d b1 b2 : Nat) (s : Dk) (w : World) (h : DiskAt w d b1 b2 s) :
    Calls Tryz.prog 56 #[.agg #[.pointer (some ⟨d, 0, none⟩)]] w fun e w' => e = .returned (.int .u64 (latestY s 6 2 : Nat)) ∧ Kept [] w w' :=
  mask_of _ (latestN s 6 2) _ w fun W hk => latest_any d b1 b2 s 6 2 W (h.kept hk (by simp) (by simp) (by simp))
set_option maxRecDepth 100000 in
/-- Get -/
theorem dget_any (d b1 b2 : Nat) (s : Dk) (w : World) (h : DiskAt w d b1 b2 s) :
    Calls Tryz.prog 22 #[.pointer (some ⟨d, 0, none⟩)] w fun e w' => e = .returned (.int .u64 (latestY s 6 2 : Nat)) ∧ Kept [] w w' :=
  dget_of _ (latestN s 6 2) _ w fun W hk => latest_any d b1 b2 s 6 2 W (h.kept hk (by simp) (by simp) (by simp))

set_option maxRecDepth 100000 in
set_option maxHeartbeats 1000000 in
/-- Put -/
theorem mapPut_any (d b1 b2 : Nat) (s : Dk) (m : Nat) (hm : m < 18446744073709551616) (hops : s.ops ≤ 999998) (w : World) (h : DiskAt w d b1 b2 s) :
    Calls Tryz.prog 63 #[.pointer (some ⟨d, 0, none⟩), .int .u64 (m : Int)] w fun e w' => e = .returned (.int .i64 (mapE s m : Nat)) ∧ DiskAt w' d b1 b2 (mapS s m) ∧ Kept [d, b1, b2] w w' := by
  have hk0 := kept_alloc [] w (.cells #[.pointer (some ⟨d, 0, none⟩)] 120)
  have hr := blk_new w 120 #[.pointer (some ⟨d, 0, none⟩)]
  have h0 := h.kept hk0 (by simp) (by simp) (by simp)
  have q1 := made_any d b1 b2 s _ h0
  have q2 := broken_any d b1 b2 s _ h0
  unfold mapE mapS
  by_cases hb : s.broken = true
  · rw [if_pos hb, if_pos hb]
    rw [hb] at q2
    clear hb hops
    go_enter Tryz.func63, Tryz.ntmps63
    go_wp2_with (first
      | (go_at_call 52; refine q1.mono ?_; rintro e w1 ⟨rfl, rfl⟩)
      | (go_at_call 111; refine q2.mono ?_; rintro e w1 ⟨rfl, rfl⟩))
    go_ret
    exact ⟨rfl, h0, hk0.mono (by simp)⟩
  · rw [if_neg hb, if_neg hb]
    have hb' : s.broken = false := by simpa using hb
    rw [hb'] at q2
    have q3 := mask_any d b1 b2 s _ h0
    clear hb hb'
    by_cases hg : latestY s 6 2 = m
    · rw [if_pos hg, if_pos hg]
      rw [hg] at q3
      clear hg hops
      go_enter Tryz.func63, Tryz.ntmps63
      go_wp2_with (first
        | (go_at_call 52; refine q1.mono ?_; rintro e w1 ⟨rfl, rfl⟩)
        | (go_at_call 111; refine q2.mono ?_; rintro e w1 ⟨rfl, rfl⟩)
        | (go_at_call 56; refine q3.mono ?_; rintro e w1 ⟨rfl, hk1⟩))
      go_ret
      exact ⟨rfl, h0.kept hk1 (by simp) (by simp) (by simp), (hk0.trans hk1).mono (by simp)⟩
    · rw [if_neg hg, if_neg hg]
      have q5 := fun W (h : DiskAt W d b1 b2 s) => put_any d b1 b2 s 6 2 m hm hops W h
      generalize putE s 6 2 m = ee at *
      generalize putS s 6 2 m = s' at *
      generalize latestY s 6 2 = y at *
      have e1 : ((y : Int) == (m : Int)) = false := by simp; omega
      clear hops hg
      go_enter Tryz.func63, Tryz.ntmps63
      go_wp2_with (first
        | (go_at_call 52; refine q1.mono ?_; rintro e w1 ⟨rfl, rfl⟩)
        | (go_at_call 111; refine q2.mono ?_; rintro e w1 ⟨rfl, rfl⟩)
        | (go_at_call 56; refine q3.mono ?_; rintro e w1 ⟨rfl, hk1⟩; have c1 := (hr.kept hk1 (by simp)).cell 0; simp at c1; have hD1 := h0.kept hk1 (by simp) (by simp) (by simp))
        | (go_at_call 112; refine (q5 _ hD1).mono ?_; rintro e w3 ⟨rfl, hD3, hk3⟩))
      go_ret
      exact ⟨rfl, hD3, ((hk0.trans hk1).mono (by simp)).trans hk3⟩

set_option maxRecDepth 100000 in
theorem told_err (err : Nat) (he : err ≠ 0) (f : Value) (w : World) :
    Calls Tryz.prog 181 #[.int .i64 (err : Int), f] w fun e w' => e = .returned (.tuple #[.int .u64 0, .int .i64 (err : Int)]) ∧ w' = w := by
  have e1 : ((err : Int) != 0) = true := by simp; omega
  go_enter Tryz.func181, Tryz.ntmps181
  go_wp2
  go_ret2
  exact ⟨rfl, rfl⟩

set_option maxRecDepth 100000 in
theorem told_ok (p : Option Addr) (y : Nat) (w : World) (q : Calls Tryz.prog 56 #[.agg #[.pointer p]] w fun e w' => e = .returned (.int .u64 (y : Int)) ∧ Kept [] w w') :
    Calls Tryz.prog 181 #[.int .i64 0, .func (.func 56) #[.agg #[.pointer p]] #[]] w fun e w' => e = .returned (.tuple #[.int .u64 (y : Int), .int .i64 0]) ∧ Kept [] w w' := by
  go_enter Tryz.func181, Tryz.ntmps181
  go_wp2_with (first
    | (go_at_call 56; refine q.mono ?_; rintro e w1 ⟨rfl, hk1⟩))
  go_ret2
  exact ⟨rfl, hk1⟩

set_option maxRecDepth 100000 in
set_option maxHeartbeats 1000000 in
/-- Clear -/
theorem clear_any (d b1 b2 : Nat) (s : Dk) (e : Int) (hops : s.ops ≤ 999998) (w : World) (h : DiskAt w d b1 b2 s) :
    Calls Tryz.prog 157 #[.pointer (some ⟨d, 0, none⟩), .int .i64 e] w fun r w' => r = .returned (.tuple #[.int .u64 (clearX s e : Nat), .int .i64 (mapE s (clearM s e) : Nat)]) ∧ DiskAt w' d b1 b2 (mapS s (clearM s e)) ∧ Kept [d, b1, b2] w w' := by
  have q1 := dget_any d b1 b2 s w h
  have q2 := fun W => Bits.without_any (latestY s 6 2) e W (latestY_lt h.valid 6 2)
  have hlt := clearM_lt h.valid e
  have q3 := fun W (h : DiskAt W d b1 b2 s) => mapPut_any d b1 b2 s (clearM s e) hlt hops W h
  have ht := map_tells h.valid (clearM s e) hlt
  have q4 := fun W (h : DiskAt W d b1 b2 (mapS s (clearM s e))) => mask_any d b1 b2 (mapS s (clearM s e)) W h
  have em : Bits.Math.without (latestY s 6 2) e = clearM s e := rfl
  rw [em] at q2
  unfold clearX
  clear hlt hops em
  generalize mapS s (clearM s e) = s' at *
  generalize mapE s (clearM s e) = ee at *
  generalize clearM s e = m at *
  generalize latestY s 6 2 = y at *
  by_cases he : ee = 0
  · subst he
    rw [if_pos rfl]
    rw [ht rfl] at q4
    clear ht
    have q5 := fun W (h : DiskAt W d b1 b2 s') => told_ok (some ⟨d, 0, none⟩) m W (q4 W h)
    clear q4
    go_enter Tryz.func157, Tryz.ntmps157
    go_wp2_with (first
      | (go_at_call 22; refine q1.mono ?_; rintro e w1 ⟨rfl, hk1⟩; have hD1 := h.kept hk1 (by simp) (by simp) (by simp))
      | (go_at_call 180; refine (q2 _).mono ?_; rintro e w2 ⟨rfl, rfl⟩)
      | (go_at_call 63; refine (q3 _ hD1).mono ?_; rintro e w3 ⟨rfl, hD3, hk3⟩)
      | (go_at_call 181; refine (q5 _ hD3).mono ?_; rintro e w4 ⟨rfl, hk4⟩))
    go_ret2
    exact ⟨rfl, hD3.kept hk4 (by simp) (by simp) (by simp), ((hk1.mono (by simp)).trans hk3).trans (hk4.mono (by simp))⟩
  · rw [if_neg he]
    have q5 := fun f W => told_err ee he f W
    clear q4 ht
    go_enter Tryz.func157, Tryz.ntmps157
    go_wp2_with (first
      | (go_at_call 22; refine q1.mono ?_; rintro e w1 ⟨rfl, hk1⟩; have hD1 := h.kept hk1 (by simp) (by simp) (by simp))
      | (go_at_call 180; refine (q2 _).mono ?_; rintro e w2 ⟨rfl, rfl⟩)
      | (go_at_call 63; refine (q3 _ hD1).mono ?_; rintro e w3 ⟨rfl, hD3, hk3⟩)
      | (go_at_call 181; refine (q5 _ _).mono ?_; rintro e w4 ⟨rfl, rfl⟩))
    go_ret2
    exact ⟨rfl, hD3, (hk1.mono (by simp)).trans hk3⟩

set_option maxRecDepth 100000 in
/-- Get of a disk that no call made -/
theorem dget_none (p : Option Addr) (w : World) (h : NoDisk w p) :
    Calls Tryz.prog 22 #[.pointer p] w fun e w' => e = .returned (.int .u64 0) ∧ Kept [] w w' :=
  dget_of p 0 0 w fun W hk => (latest_none p 6 2 W (h.kept hk)).mono fun e w' ⟨he, hw⟩ => ⟨he, by rw [hw]; exact Kept.refl _ _⟩

set_option maxRecDepth 100000 in
theorem mapPut_none (p : Option Addr) (m : Nat) (w : World) (h : NoDisk w p) :
    Calls Tryz.prog 63 #[.pointer p, .int .u64 (m : Int)] w fun e w' => e = .returned (.int .i64 1) ∧ Kept [] w w' := by
  have hk0 := kept_alloc [] w (.cells #[.pointer p] 120)
  have q1 := made_none p _ (h.kept hk0)
  go_enter Tryz.func63, Tryz.ntmps63
  go_wp2_with (first
    | (go_at_call 52; refine q1.mono ?_; rintro e w1 ⟨rfl, rfl⟩))
  go_ret
  exact ⟨rfl, hk0⟩

set_option maxRecDepth 100000 in
theorem clear_none (p : Option Addr) (e : Int) (w : World) (h : NoDisk w p) :
    Calls Tryz.prog 157 #[.pointer p, .int .i64 e] w fun r w' => r = .returned (.tuple #[.int .u64 0, .int .i64 1]) ∧ Kept [] w w' := by
  have q1 := dget_none p w h
  have q2 := fun W => Bits.without_any 0 e W (by decide)
  generalize Bits.Math.without 0 e = m at *
  have q3 := fun W (k : Kept [] w W) => mapPut_none p m W (h.kept k)
  have q5 := fun f W => told_err 1 (by decide) f W
  clear h
  go_enter Tryz.func157, Tryz.ntmps157
  go_wp2_with (first
    | (go_at_call 22; refine q1.mono ?_; rintro e w1 ⟨rfl, hk1⟩)
    | (go_at_call 180; refine (q2 _).mono ?_; rintro e w2 ⟨rfl, rfl⟩)
    | (go_at_call 63; refine (q3 _ hk1).mono ?_; rintro e w3 ⟨rfl, hk3⟩)
    | (go_at_call 181; refine (q5 _ _).mono ?_; rintro e w4 ⟨rfl, rfl⟩))
  go_ret2
  exact ⟨rfl, hk1.trans hk3⟩

set_option maxRecDepth 100000 in
/-- the document's Get -/
theorem refGet11_any (r g cap : Nat) (s : Dk) (w : World) (h : RefAt w r g cap s) :
    Calls Tryz.prog 23 #[.pointer (some ⟨r, 0, none⟩)] w fun e w' => e = .returned (.int .u64 (latestY s 6 2 : Nat)) ∧ Kept [] w w' := by
  have q1 := refLatest_any r g cap s 6 2 w h
  generalize latestN s 6 2 = n at *
  generalize latestY s 6 2 = y at *
  go_enter Tryz.func23, Tryz.ntmps23
  go_wp2_with (first
    | (go_at_call 57; refine q1.mono ?_; rintro e w1 ⟨rfl, hk1⟩))
  go_ret
  exact ⟨rfl, hk1⟩

set_option maxRecDepth 100000 in
set_option maxHeartbeats 1000000 in
/-- the document's Put -/
theorem refPut11_any (r g cap : Nat) (s : Dk) (m : Nat) (hm : m < 18446744073709551616) (hops : s.ops ≤ 999998) (w : World) (h : RefAt w r g cap s) :
    Calls Tryz.prog 83 #[.pointer (some ⟨r, 0, none⟩), .int .u64 (m : Int)] w fun e w' => e = .returned (.int .i64 (mapE s m : Nat)) ∧ RefAt w' r g cap (mapS s m) ∧ Kept [r, g] w w' := by
  have q3 := refGet11_any r g cap s w h
  have c0 := h.1.four.2.2.1
  unfold mapE mapS
  by_cases hb : s.broken = true
  · rw [if_pos hb, if_pos hb]
    rw [hb] at c0
    clear hb hops q3
    go_enter Tryz.func83, Tryz.ntmps83
    go_wp2
    go_ret
    exact ⟨rfl, h, Kept.refl _ _⟩
  · rw [if_neg hb, if_neg hb]
    have hb' : s.broken = false := by simpa using hb
    rw [hb'] at c0
    clear hb hb'
    by_cases hg : latestY s 6 2 = m
    · rw [if_pos hg, if_pos hg]
      rw [hg] at q3
      clear hg hops
      go_enter Tryz.func83, Tryz.ntmps83
      go_wp2_with (first
        | (go_at_call 23; refine q3.mono ?_; rintro e w1 ⟨rfl, hk1⟩))
      go_ret
      exact ⟨rfl, h.kept hk1 (by simp) (by simp), hk1.mono (by simp)⟩
    · rw [if_neg hg, if_neg hg]
      have q5 := fun W (h : RefAt W r g cap s) => refPut_any r g cap s 6 2 m hm hops W h
      generalize putE s 6 2 m = ee at *
      generalize putS s 6 2 m = s' at *
      generalize latestY s 6 2 = y at *
      have e1 : ((y : Int) == (m : Int)) = false := by simp; omega
      clear hops hg
      go_enter Tryz.func83, Tryz.ntmps83
      go_wp2_with (first
        | (go_at_call 23; refine q3.mono ?_; rintro e w1 ⟨rfl, hk1⟩; have hD1 := h.kept hk1 (by simp) (by simp))
        | (go_at_call 128; refine (q5 _ hD1).mono ?_; rintro e w3 ⟨rfl, hD3, hk3⟩))
      go_ret
      exact ⟨rfl, hD3, (hk1.mono (by simp)).trans hk3⟩

set_option maxRecDepth 100000 in
set_option maxHeartbeats 1000000 in
/-- the document's Clear -/
theorem refClear11_any (r g cap : Nat) (s : Dk) (e : Int) (hv : Valid s) (hops : s.ops ≤ 999998) (w : World) (h : RefAt w r g cap s) :
    Calls Tryz.prog 92 #[.pointer (some ⟨r, 0, none⟩), .int .i64 e] w fun x w' => x = .returned (.tuple #[.int .u64 (clearX s e : Nat), .int .i64 (mapE s (clearM s e) : Nat)]) ∧ RefAt w' r g cap (mapS s (clearM s e)) ∧ Kept [r, g] w w' := by
  have q1 := refGet11_any r g cap s w h
  have q2 := fun W => Bits.refWithout_any (latestY s 6 2) e W (latestY_lt hv 6 2)
  have hlt := clearM_lt hv e
  have q3 := fun W (h : RefAt W r g cap s) => refPut11_any r g cap s (clearM s e) hlt hops W h
  have em : Bits.Math.without (latestY s 6 2) e = clearM s e := rfl
  rw [em] at q2
  unfold clearX
  clear hlt hops em
  generalize mapS s (clearM s e) = s' at *
  generalize mapE s (clearM s e) = ee at *
  generalize clearM s e = m at *
  generalize latestY s 6 2 = y at *
  by_cases he : ee = 0
  · subst he
    rw [if_pos rfl]
    go_enter Tryz.func92, Tryz.ntmps92
    go_wp2_with (first
      | (go_at_call 23; refine q1.mono ?_; rintro e w1 ⟨rfl, hk1⟩; have hD1 := h.kept hk1 (by simp) (by simp))
      | (go_at_call 93; refine (q2 _).mono ?_; rintro e w2 ⟨rfl, rfl⟩)
      | (go_at_call 83; refine (q3 _ hD1).mono ?_; rintro e w3 ⟨rfl, hD3, hk3⟩))
    go_ret2
    exact ⟨rfl, hD3, (hk1.mono (by simp)).trans hk3⟩
  · rw [if_neg he]
    have e1 : ((ee : Int) != 0) = true := by simp; omega
    go_enter Tryz.func92, Tryz.ntmps92
    go_wp2_with (first
      | (go_at_call 23; refine q1.mono ?_; rintro e w1 ⟨rfl, hk1⟩; have hD1 := h.kept hk1 (by simp) (by simp))
      | (go_at_call 93; refine (q2 _).mono ?_; rintro e w2 ⟨rfl, rfl⟩)
      | (go_at_call 83; refine (q3 _ hD1).mono ?_; rintro e w3 ⟨rfl, hD3, hk3⟩))
    go_ret2
    exact ⟨rfl, hD3, (hk1.mono (by simp)).trans hk3⟩

end Go.Proofs.YtfiofdmefgkloaaGreat

