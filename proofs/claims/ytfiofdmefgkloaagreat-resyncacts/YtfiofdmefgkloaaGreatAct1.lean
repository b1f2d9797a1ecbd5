/-
  Texts of ours, joined: ActA, ActB.
-/
import Derived.Test.YtfiofdmefgkloaaGreatSlots2
import Derived.Test.YtfiofdmefgkloaaGreatDisk2
import Derived.Test.YtfiofdmefgkloaaGreatSuper1
/-
  The walks of actlog's functions, and of the document's: where the log stands, what it tells, Put.
-/
namespace Go.Proofs.YtfiofdmefgkloaaGreat
open Go.RowKit Go.Maps Go.Shelf
open Math

/-- A Put to the log: its error, the disk behind it. -/
def logE (s : Dk) (m : Nat) : Nat := if s.broken then 3 else if latestY s 2 4 = m then 0 else putE s 2 4 m
def logS (s : Dk) (m : Nat) : Dk := if s.broken then s else if latestY s 2 4 = m then s else putS s 2 4 m

set_option maxRecDepth 100000 in
theorem logPlace_any (w : World) : Calls Tryz.prog 152 #[.agg #[.int .i64 2, .int .i64 4]] w fun e w' => e = .returned (.tuple #[.int .i64 2, .int .i64 4]) ∧ Kept [] w w' := by
  go_enter Tryz.func152, Tryz.ntmps152
  go_wp2_with fail
  go_quiet (fail)
  go_wp2_with fail
  go_ret2
  exact ⟨rfl, (kept_alloc [] w _).trans (kept_drewN [] _ _)⟩

set_option maxRecDepth 100000 in
/-- where the log stands -/
theorem log_any (w : World) : Calls Tryz.prog 122 #[] w fun e w' => e = .returned (.tuple #[.int .i64 2, .int .i64 4]) ∧ Kept [] w w' := by
  have q := logPlace_any w
  go_enter Tryz.func122, Tryz.ntmps122
  go_wp2_with (go_at_call 152; refine q.mono ?_; rintro e w1 ⟨rfl, hk1⟩)
  go_ret2
  exact ⟨rfl, hk1⟩

set_option maxRecDepth 100000 in
theorem keep_word (m n y : Nat) (t : TypeId) (w : World) (h : Blk w m t #[.int .u64 0]) :
    Calls Tryz.prog 118 #[.int .u32 (n : Int), .int .u64 (y : Int), .pointer (some ⟨m, 0, none⟩)] w fun e w' => e = .returned (.tuple #[]) ∧ Blk w' m t #[.int .u64 (y : Int)] ∧ Kept [m] w w' := by
  have c0 := h.cell 0
  have f0 := h.frozen 0
  have h1 := h.set 0 (.int .u64 (y : Int))
  simp at c0
  go_enter Tryz.func118, Tryz.ntmps118
  go_wp2
  go_end0
  exact ⟨rfl, h1, kept_set (by simp) _ _ _⟩

set_option maxRecDepth 100000 in
/-- read, at a disk or at none (what Latest tells is handed in): the word is kept -/
theorem read_word (p : Option Addr) (m n y : Nat) (t : TypeId) (w : World) (hm : Blk w m t #[.int .u64 0])
    (q : ∀ W, Kept [] w W → Calls Tryz.prog 99 #[.pointer p, .int .i64 2, .int .i64 4] W fun e w' => e = .returned (.tuple #[.int .u32 (n : Int), .int .u64 (y : Int)]) ∧ Kept [] W w') :
    Calls Tryz.prog 117 #[.pointer p, .func (.func 118) #[] #[.pointer (some ⟨m, 0, none⟩)]] w fun e w' => e = .returned (.tuple #[]) ∧ Blk w' m t #[.int .u64 (y : Int)] ∧ Kept [m] w w' := by
  have q1 := log_any w
  have q3 := fun W (h : Blk W m t #[.int .u64 0]) => keep_word m n y t W h
  go_enter Tryz.func117, Tryz.ntmps117
  go_wp2_with (first
    | (go_at_call 122; refine q1.mono ?_; rintro e w1 ⟨rfl, hk1⟩)
    | (go_at_call 99; refine (q _ hk1).mono ?_; rintro e w2 ⟨rfl, hk2⟩; have hm2 := (hm.kept hk1 (by simp)).kept hk2 (by simp))
    | (go_at_call 118; refine (q3 _ hm2).mono ?_; rintro e w3 ⟨rfl, hm3, hk3⟩))
  go_end0
  exact ⟨rfl, hm3, ((hk1.trans hk2).mono (by simp)).trans hk3⟩

set_option maxRecDepth 100000 in
theorem get_of (p : Option Addr) (n y : Nat) (w : World)
    (q : ∀ W, Kept [] w W → Calls Tryz.prog 99 #[.pointer p, .int .i64 2, .int .i64 4] W fun e w' => e = .returned (.tuple #[.int .u32 (n : Int), .int .u64 (y : Int)]) ∧ Kept [] W w') :
    Calls Tryz.prog 68 #[.pointer p] w fun e w' => e = .returned (.int .u64 (y : Int)) ∧ Kept [] w w' := by
  have q1 := fun t (x : Kept [] w (w.alloc (.cells #[.int .u64 0] t))) => read_word p w.heap.size n y t _ (blk_new w t _) (fun W h => q W (x.trans h))
  have q2 := fun t => q1 t (kept_alloc [] w _)
  clear q1 q
  go_enter Tryz.func68, Tryz.ntmps68
  go_wp2_with (first
    | (go_at_call 117; refine (q2 _).mono ?_; rintro e w1 ⟨rfl, hm1, hk1⟩; have c1 := hm1.cell 0; simp at c1))
  go_ret
  exact ⟨rfl, (kept_alloc [] w _).young hk1 (Nat.le_refl _)⟩

set_option maxRecDepth 100000 in
/-- Get -/
theorem get_any (d b1 b2 : Nat) (s : Dk) (w : World) (h : DiskAt w d b1 b2 s) :
    Calls Tryz.prog 68 #[.pointer (some ⟨d, 0, none⟩)] w fun e w' => e = .returned (.int .u64 (latestY s 2 4 : Nat)) ∧ Kept [] w w' :=
  get_of _ (latestN s 2 4) _ w fun W hk => latest_any d b1 b2 s 2 4 W (h.kept hk (by simp) (by simp) (by simp))
set_option maxRecDepth 100000 in
set_option maxHeartbeats 1000000 in
/-- Put -/
theorem logPut_any (d b1 b2 : Nat) (s : Dk) (m : Nat) (hm : m < 18446744073709551616) (hops : s.ops ≤ 999998) (w : World) (h : DiskAt w d b1 b2 s) :
    Calls Tryz.prog 74 #[.pointer (some ⟨d, 0, none⟩), .int .u64 (m : Int)] w fun e w' => e = .returned (.int .i64 (logE s m : Nat)) ∧ DiskAt w' d b1 b2 (logS s m) ∧ Kept [d, b1, b2] w w' := by
  have q1 := made_any d b1 b2 s w h
  have q2 := broken_any d b1 b2 s w h
  unfold logE logS
  by_cases hb : s.broken = true
  · rw [if_pos hb, if_pos hb]
    rw [hb] at q2
    clear hb hops
    go_enter Tryz.func74, Tryz.ntmps74
    go_wp2_with (first
      | (go_at_call 52; refine q1.mono ?_; rintro e w ⟨rfl, rfl⟩)
      | (go_at_call 111; refine q2.mono ?_; rintro e w ⟨rfl, rfl⟩))
    go_ret
    exact ⟨rfl, h, Kept.refl _ _⟩
  · rw [if_neg hb, if_neg hb]
    have hb' : s.broken = false := by simpa using hb
    rw [hb'] at q2
    have q3 := get_any d b1 b2 s w h
    clear hb hb'
    by_cases hg : latestY s 2 4 = m
    · rw [if_pos hg, if_pos hg]
      rw [hg] at q3
      clear hg hops
      go_enter Tryz.func74, Tryz.ntmps74
      go_wp2_with (first
        | (go_at_call 52; refine q1.mono ?_; rintro e w ⟨rfl, rfl⟩)
        | (go_at_call 111; refine q2.mono ?_; rintro e w ⟨rfl, rfl⟩)
        | (go_at_call 68; refine q3.mono ?_; rintro e w1 ⟨rfl, hk1⟩))
      go_ret
      exact ⟨rfl, h.kept hk1 (by simp) (by simp) (by simp), hk1.mono (by simp)⟩
    · rw [if_neg hg, if_neg hg]
      have q4 := fun W => log_any W
      have q5 := fun W (h : DiskAt W d b1 b2 s) => put_any d b1 b2 s 2 4 m hm hops W h
      generalize putE s 2 4 m = ee at *
      generalize putS s 2 4 m = s' at *
      generalize latestY s 2 4 = y at *
      have e1 : ((y : Int) == (m : Int)) = false := by simp; omega
      clear hops hg
      go_enter Tryz.func74, Tryz.ntmps74
      go_wp2_with (first
        | (go_at_call 52; refine q1.mono ?_; rintro e w ⟨rfl, rfl⟩)
        | (go_at_call 111; refine q2.mono ?_; rintro e w ⟨rfl, rfl⟩)
        | (go_at_call 68; refine q3.mono ?_; rintro e w1 ⟨rfl, hk1⟩)
        | (go_at_call 122; refine (q4 _).mono ?_; rintro e w2 ⟨rfl, hk2⟩; have hD2 := (h.kept hk1 (by simp) (by simp) (by simp)).kept hk2 (by simp) (by simp) (by simp))
        | (go_at_call 112; refine (q5 _ hD2).mono ?_; rintro e w3 ⟨rfl, hD3, hk3⟩))
      go_ret
      exact ⟨rfl, hD3, ((hk1.trans hk2).mono (by simp)).trans hk3⟩

set_option maxRecDepth 100000 in
/-- the document's Get -/
theorem refGet10_any (r g cap : Nat) (s : Dk) (w : World) (h : RefAt w r g cap s) :
    Calls Tryz.prog 129 #[.pointer (some ⟨r, 0, none⟩)] w fun e w' => e = .returned (.int .u64 (latestY s 2 4 : Nat)) ∧ Kept [] w w' := by
  have q1 := refLatest_any r g cap s 2 4 w h
  generalize latestN s 2 4 = n at *
  generalize latestY s 2 4 = y at *
  go_enter Tryz.func129, Tryz.ntmps129
  go_wp2_with (first
    | (go_at_call 57; refine q1.mono ?_; rintro e w1 ⟨rfl, hk1⟩))
  go_ret
  exact ⟨rfl, hk1⟩

set_option maxRecDepth 100000 in
set_option maxHeartbeats 1000000 in
/-- the document's Put -/
theorem refPut10_any (r g cap : Nat) (s : Dk) (m : Nat) (hm : m < 18446744073709551616) (hops : s.ops ≤ 999998) (w : World) (h : RefAt w r g cap s) :
    Calls Tryz.prog 84 #[.pointer (some ⟨r, 0, none⟩), .int .u64 (m : Int)] w fun e w' => e = .returned (.int .i64 (logE s m : Nat)) ∧ RefAt w' r g cap (logS s m) ∧ Kept [r, g] w w' := by
  have q3 := refGet10_any r g cap s w h
  have c0 := h.1.four.2.2.1
  unfold logE logS
  by_cases hb : s.broken = true
  · rw [if_pos hb, if_pos hb]
    rw [hb] at c0
    clear hb hops q3
    go_enter Tryz.func84, Tryz.ntmps84
    go_wp2
    go_ret
    exact ⟨rfl, h, Kept.refl _ _⟩
  · rw [if_neg hb, if_neg hb]
    have hb' : s.broken = false := by simpa using hb
    rw [hb'] at c0
    clear hb hb'
    by_cases hg : latestY s 2 4 = m
    · rw [if_pos hg, if_pos hg]
      rw [hg] at q3
      clear hg hops
      go_enter Tryz.func84, Tryz.ntmps84
      go_wp2_with (first
        | (go_at_call 129; refine q3.mono ?_; rintro e w1 ⟨rfl, hk1⟩))
      go_ret
      exact ⟨rfl, h.kept hk1 (by simp) (by simp), hk1.mono (by simp)⟩
    · rw [if_neg hg, if_neg hg]
      have q5 := fun W (h : RefAt W r g cap s) => refPut_any r g cap s 2 4 m hm hops W h
      generalize putE s 2 4 m = ee at *
      generalize putS s 2 4 m = s' at *
      generalize latestY s 2 4 = y at *
      have e1 : ((y : Int) == (m : Int)) = false := by simp; omega
      clear hops hg
      go_enter Tryz.func84, Tryz.ntmps84
      go_wp2_with (first
        | (go_at_call 129; refine q3.mono ?_; rintro e w1 ⟨rfl, hk1⟩; have hD1 := h.kept hk1 (by simp) (by simp))
        | (go_at_call 128; refine (q5 _ hD1).mono ?_; rintro e w3 ⟨rfl, hD3, hk3⟩))
      go_ret
      exact ⟨rfl, hD3, (hk1.mono (by simp)).trans hk3⟩
end Go.Proofs.YtfiofdmefgkloaaGreat

/-
  Plain facts on the log; the walks of lives, and of a disk that no call made.
-/
namespace Go.Proofs.YtfiofdmefgkloaaGreat
open Go.RowKit Go.Maps Go.Shelf
open Math

/-- The same set again is no write. -/
theorem Still.log_same {s : Dk} {n y : Nat} (h : Still s 2 4 n y) (hb : s.broken = false) : logE s y = 0 ∧ logS s y = s := by
  have e : YtfiofdmefgkloaaGreat.latestY s 2 4 = y := h.latestY hb
  unfold logE logS
  rw [hb, e]
  simp
theorem Still.log_other {s : Dk} {n y m : Nat} (h : Still s 2 4 n y) (hb : s.broken = false) (hm : y ≠ m) : logE s m = putE s 2 4 m ∧ logS s m = putS s 2 4 m := by
  have e : YtfiofdmefgkloaaGreat.latestY s 2 4 = y := h.latestY hb
  unfold logE logS
  rw [hb, e, if_neg hm, if_neg hm]
  exact ⟨rfl, rfl⟩
/-- A Put that ends well. -/
theorem Still.log_ok {s : Dk} {n y : Nat} (h : Still s 2 4 n y) (hb : s.broken = false) (hn : n + 1 < 4294967296) (m : Nat) (hm : m < 18446744073709551616) (hf : s.fuse < 0 ∨ 2 ≤ s.fuse) :
    logE s m = 0 ∧ Still (logS s m) 2 4 (if y = m then n else n + 1) m ∧ (logS s m).broken = false ∧ (s.fuse < 0 → (logS s m).fuse = s.fuse) ∧ (logS s m).ops ≤ s.ops + 2 := by
  by_cases e : y = m
  · subst e
    obtain ⟨e1, e2⟩ := h.log_same hb
    rw [e1, e2, if_pos rfl]
    exact ⟨rfl, h, hb, fun _ => rfl, by omega⟩
  · obtain ⟨e1, e2⟩ := h.log_other hb e
    obtain ⟨a1, a2, a3, a4, a5⟩ := h.put_ok hb hn m hm hf
    rw [e1, e2, if_neg e]
    exact ⟨a1, a2, a3, fun g => a4.trans (if_pos g), Nat.le_of_eq a5⟩

set_option maxRecDepth 100000 in
/-- Get and Writes of a disk that no call made -/
theorem get_none (p : Option Addr) (w : World) (h : NoDisk w p) :
    Calls Tryz.prog 68 #[.pointer p] w fun e w' => e = .returned (.int .u64 0) ∧ Kept [] w w' :=
  get_of p 0 0 w fun W hk => (latest_none p 2 4 W (h.kept hk)).mono fun e w' ⟨he, hw⟩ => ⟨he, by rw [hw]; exact Kept.refl _ _⟩
set_option maxRecDepth 100000 in
theorem logPut_none (p : Option Addr) (m : Nat) (w : World) (h : NoDisk w p) :
    Calls Tryz.prog 74 #[.pointer p, .int .u64 (m : Int)] w fun e w' => e = .returned (.int .i64 1) ∧ w' = w := by
  have q1 := made_none p w h
  go_enter Tryz.func74, Tryz.ntmps74
  go_wp2_with (first
    | (go_at_call 52; refine q1.mono ?_; rintro e w ⟨rfl, rfl⟩))
  go_ret
  exact ⟨rfl, rfl⟩
end Go.Proofs.YtfiofdmefgkloaaGreat

