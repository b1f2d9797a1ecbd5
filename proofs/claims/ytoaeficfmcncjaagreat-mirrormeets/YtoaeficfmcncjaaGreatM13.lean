/-
 Texts of ours, joined: ActA, ActB.
-/
import Derived.Test.YtoaeficfmcncjaaGreatM12
/-
 The walks of actlog's functions, and of the document's: where the log stands, what it tells, Put.
-/
namespace Go.Proofs.YtoaeficfmcncjaaGreat
open Go.RowKit Go.Maps Go.Shelf
open Math
def logE (s : Dk) (m : Nat) : Nat := if s.broken then 3 else if latestY s 2 4 = m then 0 else putE s 2 4 m
def logS (s : Dk) (m : Nat) : Dk := if s.broken then s else if latestY s 2 4 = m then s else putS s 2 4 m
section
set_option maxRecDepth 100000
theorem logPlace_any (w : World) : Calls Tryz.prog 228 #[.agg #[.int .i64 2, .int .i64 4]] w fun e w' => e = .returned (.tuple #[.int .i64 2, .int .i64 4]) ∧ Kept [] w w' := by
 go_enter Tryz.func228, Tryz.ntmps228
 go_wp2_with fail
 go_quiet (fail)
 go_wp2_with fail
 go_ret2
 exact ⟨rfl, (kept_alloc [] w _).trans (kept_drewN [] _ _)⟩
theorem log_any (w : World) : Calls Tryz.prog 192 #[] w fun e w' => e = .returned (.tuple #[.int .i64 2, .int .i64 4]) ∧ Kept [] w w' := by
 have q := logPlace_any w
 go_enter Tryz.func192, Tryz.ntmps192
 go_wp2_with (go_at_call 228; refine q.mono ?_; rintro e w1 ⟨rfl, hk1⟩)
 go_ret2
 exact ⟨rfl, hk1⟩
theorem keep_word (m n y : Nat) (t : TypeId) (w : World) (h : Blk w m t #[.int .u64 0]) :
  Calls Tryz.prog 227 #[.int .u32 (n : Int), .int .u64 (y : Int), .pointer (some ⟨m, 0, none⟩)] w fun e w' => e = .returned (.tuple #[]) ∧ Blk w' m t #[.int .u64 (y : Int)] ∧ Kept [m] w w' := by
 have c0 := h.cell 0
 have f0 := h.frozen 0
 have h1 := h.set 0 (.int .u64 (y : Int))
 simp at c0
 go_enter Tryz.func227, Tryz.ntmps227
 go_wp2
 go_end0
 exact ⟨rfl, h1, kept_set (by simp) _ _ _⟩
theorem read_word (p : Option Addr) (m n y : Nat) (t : TypeId) (w : World) (hm : Blk w m t #[.int .u64 0])
  (q : ∀ W, Kept [] w W → Calls Tryz.prog 230 #[.pointer p, .int .i64 2, .int .i64 4] W fun e w' => e = .returned (.tuple #[.int .u32 (n : Int), .int .u64 (y : Int)]) ∧ Kept [] W w') :
  Calls Tryz.prog 226 #[.pointer p, .func (.func 227) #[] #[.pointer (some ⟨m, 0, none⟩)]] w fun e w' => e = .returned (.tuple #[]) ∧ Blk w' m t #[.int .u64 (y : Int)] ∧ Kept [m] w w' := by
 have q1 := log_any w
 have q3 := fun W (h : Blk W m t #[.int .u64 0]) => keep_word m n y t W h
 go_enter Tryz.func226, Tryz.ntmps226
 go_wp2_with (first
  | (go_at_call 192; refine q1.mono ?_; rintro e w1 ⟨rfl, hk1⟩)
  | (go_at_call 230; refine (q _ hk1).mono ?_; rintro e w2 ⟨rfl, hk2⟩; have hm2 := (hm.kept hk1 (by simp)).kept hk2 (by simp))
  | (go_at_call 227; refine (q3 _ hm2).mono ?_; rintro e w3 ⟨rfl, hm3, hk3⟩))
 go_end0
 exact ⟨rfl, hm3, ((hk1.trans hk2).mono (by simp)).trans hk3⟩
theorem get_of (p : Option Addr) (n y : Nat) (w : World)
  (q : ∀ W, Kept [] w W → Calls Tryz.prog 230 #[.pointer p, .int .i64 2, .int .i64 4] W fun e w' => e = .returned (.tuple #[.int .u32 (n : Int), .int .u64 (y : Int)]) ∧ Kept [] W w') :
  Calls Tryz.prog 191 #[.pointer p] w fun e w' => e = .returned (.int .u64 (y : Int)) ∧ Kept [] w w' := by
 have q1 := fun t (x : Kept [] w (w.alloc (.cells #[.int .u64 0] t))) => read_word p w.heap.size n y t _ (blk_new w t _) (fun W h => q W (x.trans h))
 have q2 := fun t => q1 t (kept_alloc [] w _)
 clear q1 q
 go_enter Tryz.func191, Tryz.ntmps191
 go_wp2_with (first
  | (go_at_call 226; refine (q2 _).mono ?_; rintro e w1 ⟨rfl, hm1, hk1⟩; have c1 := hm1.cell 0; simp at c1))
 go_ret
 exact ⟨rfl, (kept_alloc [] w _).young hk1 (Nat.le_refl _)⟩
theorem get_any (d b1 b2 : Nat) (s : Dk) (w : World) (h : DiskAt w d b1 b2 s) :
  Calls Tryz.prog 191 #[.pointer (some ⟨d, 0, none⟩)] w fun e w' => e = .returned (.int .u64 (latestY s 2 4 : Nat)) ∧ Kept [] w w' :=
 get_of _ (latestN s 2 4) _ w fun W hk => latest_any d b1 b2 s 2 4 W (h.kept hk (by simp) (by simp) (by simp))
set_option maxHeartbeats 1000000 in
theorem logPut_any (d b1 b2 : Nat) (s : Dk) (m : Nat) (hm : m < 18446744073709551616) (hops : s.ops ≤ 999999999999998) (w : World) (h : DiskAt w d b1 b2 s) :
  Calls Tryz.prog 131 #[.pointer (some ⟨d, 0, none⟩), .int .u64 (m : Int)] w fun e w' => e = .returned (.int .i64 (logE s m : Nat)) ∧ DiskAt w' d b1 b2 (logS s m) ∧ Kept [d, b1, b2] w w' := by
 have q1 := made_any d b1 b2 s w h
 have q2 := broken_any d b1 b2 s w h
 unfold logE logS
 by_cases hb : s.broken = true
 ·rw [if_pos hb, if_pos hb]
  rw [hb] at q2
  clear hb hops
  go_enter Tryz.func131, Tryz.ntmps131
  go_wp2_with (first
   | (go_at_call 42; refine q1.mono ?_; rintro e w ⟨rfl, rfl⟩)
   | (go_at_call 15; refine q2.mono ?_; rintro e w ⟨rfl, rfl⟩))
  go_ret
  exact ⟨rfl, h, Kept.refl _ _⟩
 ·rw [if_neg hb, if_neg hb]
  have hb' : s.broken = false := by simpa using hb
  rw [hb'] at q2
  have q3 := get_any d b1 b2 s w h
  clear hb hb'
  by_cases hg : latestY s 2 4 = m
  ·rw [if_pos hg, if_pos hg]
   rw [hg] at q3
   clear hg hops
   go_enter Tryz.func131, Tryz.ntmps131
   go_wp2_with (first
    | (go_at_call 42; refine q1.mono ?_; rintro e w ⟨rfl, rfl⟩)
    | (go_at_call 15; refine q2.mono ?_; rintro e w ⟨rfl, rfl⟩)
    | (go_at_call 191; refine q3.mono ?_; rintro e w1 ⟨rfl, hk1⟩))
   go_ret
   exact ⟨rfl, h.kept hk1 (by simp) (by simp) (by simp), hk1.mono (by simp)⟩
  ·rw [if_neg hg, if_neg hg]
   have q4 := fun W => log_any W
   have q5 := fun W (h : DiskAt W d b1 b2 s) => put_any d b1 b2 s 2 4 m hm hops W h
   generalize putE s 2 4 m = ee at *
   generalize putS s 2 4 m = s' at *
   generalize latestY s 2 4 = y at *
   have e1 : ((y : Int) == (m : Int)) = false := by simp; omega
   clear hops hg
   go_enter Tryz.func131, Tryz.ntmps131
   go_wp2_with (first
    | (go_at_call 42; refine q1.mono ?_; rintro e w ⟨rfl, rfl⟩)
    | (go_at_call 15; refine q2.mono ?_; rintro e w ⟨rfl, rfl⟩)
    | (go_at_call 191; refine q3.mono ?_; rintro e w1 ⟨rfl, hk1⟩)
    | (go_at_call 192; refine (q4 _).mono ?_; rintro e w2 ⟨rfl, hk2⟩; have hD2 := (h.kept hk1 (by simp) (by simp) (by simp)).kept hk2 (by simp) (by simp) (by simp))
    | (go_at_call 193; refine (q5 _ hD2).mono ?_; rintro e w3 ⟨rfl, hD3, hk3⟩))
   go_ret
   exact ⟨rfl, hD3, ((hk1.trans hk2).mono (by simp)).trans hk3⟩
end
end Go.Proofs.YtoaeficfmcncjaaGreat
