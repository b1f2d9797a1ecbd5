/-
  Texts of ours, joined: SuperA, SuperB.
-/
import Derived.Test.YtfiofdmefgkloaaGreatSlots2
/-
  The walks of super.Boot, super.Next, and of the document's.
-/
namespace Go.Proofs.YtfiofdmefgkloaaGreat
open Go.RowKit Go.Maps Go.Shelf
open Math

/-- The boot's number; a new start: its number, its error, the disk behind it. -/
def boot (s : Dk) : Nat := latestY s 0 2 % 4294967296
def nextE (s : Dk) : Nat := if boot s = 4294967295 then 13 else putE s 0 2 (boot s + 1)
def nextN (s : Dk) : Nat := if nextE s = 0 then boot s + 1 else 0
def nextS (s : Dk) : Dk := if boot s = 4294967295 then s else putS s 0 2 (boot s + 1)
theorem boot_lt (s : Dk) : boot s < 4294967296 := Nat.mod_lt _ (by decide)

set_option maxRecDepth 100000 in
theorem number_any (n y : Nat) (w : World) : Calls Tryz.prog 116 #[.int .u32 n, .int .u64 y] w fun e w' => e = .returned (.int .u32 ((y % 4294967296 : Nat) : Int)) ∧ w' = w := by
  go_enter Tryz.func116, Tryz.ntmps116
  go_wp2
  go_ret
  exact ⟨by simp, rfl⟩

set_option maxRecDepth 100000 in
/-- Boot -/
theorem boot_any (d b1 b2 : Nat) (s : Dk) (w : World) (h : DiskAt w d b1 b2 s) :
    Calls Tryz.prog 67 #[.pointer (some ⟨d, 0, none⟩)] w fun e w' => e = .returned (.int .u32 (boot s : Nat)) ∧ Kept [] w w' := by
  have q1 := latest_any d b1 b2 s 0 2 w h
  unfold boot
  generalize latestN s 0 2 = n at *
  generalize latestY s 0 2 = y at *
  have q2 := fun W => number_any n y W
  go_enter Tryz.func67, Tryz.ntmps67
  go_wp2_with (first
    | (go_at_call 99; refine q1.mono ?_; rintro e w1 ⟨rfl, hk1⟩)
    | (go_at_call 116; refine (q2 _).mono ?_; rintro e w1 ⟨rfl, rfl⟩))
  go_ret
  exact ⟨rfl, hk1⟩

set_option maxRecDepth 100000 in
set_option maxHeartbeats 1000000 in
/-- Next -/
theorem next_any (d b1 b2 : Nat) (s : Dk) (hops : s.ops ≤ 999998) (w : World) (h : DiskAt w d b1 b2 s) :
    Calls Tryz.prog 110 #[.pointer (some ⟨d, 0, none⟩)] w fun e w' => e = .returned (.tuple #[.int .u32 (nextN s : Nat), .int .i64 (nextE s : Nat)]) ∧ DiskAt w' d b1 b2 (nextS s) ∧ Kept [d, b1, b2] w w' := by
  have q1 := boot_any d b1 b2 s w h
  have hb := boot_lt s
  unfold nextN nextE nextS
  by_cases hm : boot s = 4294967295
  · rw [if_pos hm, if_pos hm, if_neg (by decide)]
    rw [hm] at q1
    clear hm hb
    go_enter Tryz.func110, Tryz.ntmps110
    go_wp2_with (first
      | (go_at_call 67; refine q1.mono ?_; rintro e w1 ⟨rfl, hk1⟩))
    go_ret2
    exact ⟨rfl, h.kept hk1 (by simp) (by simp) (by simp), hk1.mono (by simp)⟩
  · rw [if_neg hm, if_neg hm]
    have q2 := fun W (h : DiskAt W d b1 b2 s) => put_any d b1 b2 s 0 2 (boot s + 1) (by omega) hops W h
    generalize putS s 0 2 (boot s + 1) = s' at *
    generalize putE s 0 2 (boot s + 1) = ee at *
    generalize boot s = n at *
    have e1 : ((n : Int) == 4294967295) = false := by simp; omega
    have e2 : (n : Int) + 1 < 4294967296 := by omega
    simp only [Int.natCast_succ] at q2
    clear hm
    by_cases he : ee = 0
    · subst he
      rw [if_pos rfl]
      simp only [Int.natCast_succ]
      go_enter Tryz.func110, Tryz.ntmps110
      go_wp2_with (first
        | (go_at_call 67; refine q1.mono ?_; rintro e w1 ⟨rfl, hk1⟩; have hD1 := h.kept hk1 (by simp) (by simp) (by simp))
        | (go_at_call 112; refine (q2 _ hD1).mono ?_; rintro e w2 ⟨rfl, hD2, hk2⟩))
      go_ret2
      exact ⟨rfl, hD2, (hk1.mono (by simp)).trans hk2⟩
    · rw [if_neg he]
      have he' : ((ee : Int) != 0) = true := by simp; omega
      go_enter Tryz.func110, Tryz.ntmps110
      go_wp2_with (first
        | (go_at_call 67; refine q1.mono ?_; rintro e w1 ⟨rfl, hk1⟩; have hD1 := h.kept hk1 (by simp) (by simp) (by simp))
        | (go_at_call 112; refine (q2 _ hD1).mono ?_; rintro e w2 ⟨rfl, hD2, hk2⟩))
      go_ret2
      exact ⟨rfl, hD2, (hk1.mono (by simp)).trans hk2⟩

end Go.Proofs.YtfiofdmefgkloaaGreat

/-
  Plain facts on boots; the walks of lives, of a disk that no call made, and of SuperNone.
-/
namespace Go.Proofs.YtfiofdmefgkloaaGreat
open Go.RowKit Go.Maps Go.Shelf
open Math

theorem Still.boot {s : Dk} {n y : Nat} (h : Still s 0 2 n y) (hb : s.broken = false) (hy : y < 4294967296) : boot s = y := by
  have e : YtfiofdmefgkloaaGreat.latestY s 0 2 = y := h.latestY hb
  unfold YtfiofdmefgkloaaGreat.boot
  rw [e]
  exact Nat.mod_eq_of_lt hy
/-- A start that ends well. -/
theorem Still.next_ok {s : Dk} {n y : Nat} (h : Still s 0 2 n y) (hb : s.broken = false) (hn : n + 1 < 4294967296) (hy : y + 1 < 4294967296) (hf : s.fuse < 0 ∨ 2 ≤ s.fuse) :
    nextE s = 0 ∧ nextN s = y + 1 ∧ Still (nextS s) 0 2 (n + 1) (y + 1) ∧ (nextS s).broken = false ∧ (nextS s).fuse = (if s.fuse < 0 then s.fuse else s.fuse - 2) ∧ (nextS s).ops = s.ops + 2 := by
  have e := h.boot hb (by omega)
  obtain ⟨a1, a2, a3, a4, a5⟩ := h.put_ok hb hn (y + 1) (by omega) hf
  have a1' : putE s 0 2 (y + 1) = 0 := a1
  have e1 : nextE s = 0 := by
    unfold nextE
    rw [e, if_neg (by omega)]
    exact a1'
  have e2 : nextS s = putS s 0 2 (y + 1) := by
    unfold nextS
    rw [e, if_neg (by omega)]
  refine ⟨e1, ?_, ?_⟩
  · unfold nextN
    rw [if_pos e1, e]
  · rw [e2]
    exact ⟨a2, a3, a4, a5⟩
/-- None that broke is started. -/
theorem next_broken {s : Dk} (hs : 2 ≤ s.size) (hb : s.broken = true) : nextE s = 3 ∧ nextN s = 0 ∧ nextS s = s ∧ YtfiofdmefgkloaaGreat.boot s = 0 := by
  have hh : hasRing s 0 2 = true := by simp [hasRing]; omega
  have hr : ∀ i, ringOf s 0 i = nought := fun i => by
    unfold ringOf readL
    simp [hb]
  have hl : ∀ i, search (ringOf s 0) 2 i = (0, 0) := fun i => by
    induction i with
    | zero => rfl
    | succ i ih => rw [search, ih, better, hr, num_nought, if_neg (by simp)]
  have e : latestY s 0 2 = 0 := by
    unfold latestY
    rw [if_pos hh]
    exact congrArg Prod.snd (hl 2)
  have e0 : YtfiofdmefgkloaaGreat.boot s = 0 := by
    unfold YtfiofdmefgkloaaGreat.boot
    rw [e]
  have e1 : nextE s = 3 := by
    unfold nextE putE
    rw [e0, if_neg (by decide), if_pos hh, if_pos hb]
  refine ⟨e1, ?_, ?_, e0⟩
  · unfold nextN
    rw [if_neg (by rw [e1]; decide)]
  · unfold nextS putS
    rw [e0, if_neg (by decide), if_pos hh, if_pos hb]

set_option maxRecDepth 100000 in
theorem holds_none (p : Option Addr) (base r : Int) (w : World) (h : NoDisk w p) :
    Calls Tryz.prog 139 #[.pointer p, .int .i64 base, .int .i64 r] w fun e w' => e = .returned (.bool false) ∧ w' = w := by
  have q := isRing_any r w
  have q2 := size_none p w h
  by_cases h12 : 2 ≤ r ∧ r ≤ 8
  · obtain ⟨h1, h2⟩ := h12
    rw [decide_eq_true h1, decide_eq_true h2] at q
    by_cases h3 : 0 ≤ base
    · have h4 : ¬ (base ≤ -r) := by omega
      clear h
      go_enter Tryz.func139, Tryz.ntmps139
      go_wp2_with (first
        | (go_at_call 168; refine q.mono ?_; rintro e w ⟨rfl, rfl⟩)
        | (go_at_call 108; refine q2.mono ?_; rintro e w ⟨rfl, rfl⟩))
      go_ret
      exact ⟨by simp; omega, rfl⟩
    · clear h
      go_enter Tryz.func139, Tryz.ntmps139
      go_wp2_with (first
        | (go_at_call 168; refine q.mono ?_; rintro e w ⟨rfl, rfl⟩)
        | (go_at_call 108; refine q2.mono ?_; rintro e w ⟨rfl, rfl⟩))
      go_ret
      exact ⟨rfl, rfl⟩
  · have e1 : (decide (2 ≤ r) && decide (r ≤ 8)) = false := by simp; omega
    rw [e1] at q
    clear e1 h
    go_enter Tryz.func139, Tryz.ntmps139
    go_wp2_with (first
      | (go_at_call 168; refine q.mono ?_; rintro e w ⟨rfl, rfl⟩))
    go_ret
    exact ⟨rfl, rfl⟩

set_option maxRecDepth 100000 in
theorem latest_none (p : Option Addr) (base r : Int) (w : World) (h : NoDisk w p) :
    Calls Tryz.prog 99 #[.pointer p, .int .i64 base, .int .i64 r] w fun e w' => e = .returned (.tuple #[.int .u32 0, .int .u64 0]) ∧ w' = w := by
  have q1 := holds_none p base r w h
  go_enter Tryz.func99, Tryz.ntmps99
  go_wp2_with (first
    | (go_at_call 139; refine q1.mono ?_; rintro e w ⟨rfl, rfl⟩))
  go_ret2
  exact ⟨rfl, rfl⟩

set_option maxRecDepth 100000 in
theorem put_none (p : Option Addr) (base r : Int) (y : Nat) (w : World) (h : NoDisk w p) :
    Calls Tryz.prog 112 #[.pointer p, .int .i64 base, .int .i64 r, .int .u64 (y : Int)] w fun e w' => e = .returned (.int .i64 1) ∧ w' = w := by
  have q1 := made_none p w h
  go_enter Tryz.func112, Tryz.ntmps112
  go_wp2_with (first
    | (go_at_call 52; refine q1.mono ?_; rintro e w ⟨rfl, rfl⟩))
  go_ret
  exact ⟨rfl, rfl⟩

set_option maxRecDepth 100000 in
theorem boot_none (p : Option Addr) (w : World) (h : NoDisk w p) :
    Calls Tryz.prog 67 #[.pointer p] w fun e w' => e = .returned (.int .u32 0) ∧ w' = w := by
  have q1 := latest_none p 0 2 w h
  have q2 := fun W => number_any 0 0 W
  go_enter Tryz.func67, Tryz.ntmps67
  go_wp2_with (first
    | (go_at_call 99; refine q1.mono ?_; rintro e w ⟨rfl, rfl⟩)
    | (go_at_call 116; refine (q2 _).mono ?_; rintro e w ⟨rfl, rfl⟩))
  go_ret
  exact ⟨rfl, rfl⟩

set_option maxRecDepth 100000 in
theorem next_none (p : Option Addr) (w : World) (h : NoDisk w p) :
    Calls Tryz.prog 110 #[.pointer p] w fun e w' => e = .returned (.tuple #[.int .u32 0, .int .i64 1]) ∧ w' = w := by
  have q1 := boot_none p w h
  have q2 := put_none p 0 2 1 w h
  go_enter Tryz.func110, Tryz.ntmps110
  go_wp2_with (first
    | (go_at_call 67; refine q1.mono ?_; rintro e w ⟨rfl, rfl⟩)
    | (go_at_call 112; refine q2.mono ?_; rintro e w ⟨rfl, rfl⟩))
  go_ret2
  exact ⟨rfl, rfl⟩

theorem burnt_size (s : Dk) : (burnt s).size = s.size := rfl
end Go.Proofs.YtfiofdmefgkloaaGreat

