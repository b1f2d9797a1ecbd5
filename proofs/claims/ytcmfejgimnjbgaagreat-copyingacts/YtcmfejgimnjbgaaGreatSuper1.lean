/-
  Texts of ours, joined: SuperA, SuperB.
-/
import Derived.Test.YtcmfejgimnjbgaaGreatSlots2
/-
  The walks of super.Boot, super.Next, and of the document's.
-/
namespace Go.Proofs.YtcmfejgimnjbgaaGreat
open Go.RowKit Go.Maps Go.Shelf
open Math

/-- The boot's number; a new start: its number, its error, the disk behind it. -/
def boot (s : Dk) : Nat := latestY s 0 2 % 4294967296
def nextE (s : Dk) : Nat := if boot s = 4294967295 then 13 else putE s 0 2 (boot s + 1)
def nextN (s : Dk) : Nat := if nextE s = 0 then boot s + 1 else 0
def nextS (s : Dk) : Dk := if boot s = 4294967295 then s else putS s 0 2 (boot s + 1)
theorem boot_lt (s : Dk) : boot s < 4294967296 := Nat.mod_lt _ (by decide)

end Go.Proofs.YtcmfejgimnjbgaaGreat

/-
  Plain facts on boots; the walks of lives, of a disk that no call made, and of SuperNone.
-/
namespace Go.Proofs.YtcmfejgimnjbgaaGreat
open Go.RowKit Go.Maps Go.Shelf
open Math

theorem Still.boot {s : Dk} {n y : Nat} (h : Still s 0 2 n y) (hb : s.broken = false) (hy : y < 4294967296) : boot s = y := by
  have e : YtcmfejgimnjbgaaGreat.latestY s 0 2 = y := h.latestY hb
  unfold YtcmfejgimnjbgaaGreat.boot
  rw [e]
  exact Nat.mod_eq_of_lt hy
/-- A start that ends well. -/
theorem Still.next_ok {s : Dk} {n y : Nat} (h : Still s 0 2 n y) (hb : s.broken = false) (hn : n + 1 < 4294967296) (hy : y + 1 < 4294967296) (hf : s.fuse < 0 ∨ 2 ≤ s.fuse) :
    nextE s = 0 ∧ nextN s = y + 1 ∧ Still (nextS s) 0 2 (n + 1) (y + 1) ∧ (nextS s).broken = false ∧ (nextS s).fuse = (if s.fuse < 0 then s.fuse else s.fuse - 2) ∧ (nextS s).ops = s.ops + 2 := by
  have e := h.boot hb (by omega)
  obtain ⟨a1, a2, a3, a4, a5⟩ := h.put_ok hb hn (y + 1) (by omega) hf
  have a1' : putE s 0 2 (y + 1) = 0 := a1
  have e1 : nextE s = 0 := by
    unfold nextE
    rw [e, if_neg (by omega)]
    exact a1'
  have e2 : nextS s = putS s 0 2 (y + 1) := by
    unfold nextS
    rw [e, if_neg (by omega)]
  refine ⟨e1, ?_, ?_⟩
  · unfold nextN
    rw [if_pos e1, e]
  · rw [e2]
    exact ⟨a2, a3, a4, a5⟩
/-- None that broke is started. -/
theorem next_broken {s : Dk} (hs : 2 ≤ s.size) (hb : s.broken = true) : nextE s = 3 ∧ nextN s = 0 ∧ nextS s = s ∧ YtcmfejgimnjbgaaGreat.boot s = 0 := by
  have hh : hasRing s 0 2 = true := by simp [hasRing]; omega
  have hr : ∀ i, ringOf s 0 i = nought := fun i => by
    unfold ringOf readL
    simp [hb]
  have hl : ∀ i, search (ringOf s 0) 2 i = (0, 0) := fun i => by
    induction i with
    | zero => rfl
    | succ i ih => rw [search, ih, better, hr, num_nought, if_neg (by simp)]
  have e : latestY s 0 2 = 0 := by
    unfold latestY
    rw [if_pos hh]
    exact congrArg Prod.snd (hl 2)
  have e0 : YtcmfejgimnjbgaaGreat.boot s = 0 := by
    unfold YtcmfejgimnjbgaaGreat.boot
    rw [e]
  have e1 : nextE s = 3 := by
    unfold nextE putE
    rw [e0, if_neg (by decide), if_pos hh, if_pos hb]
  refine ⟨e1, ?_, ?_, e0⟩
  · unfold nextN
    rw [if_neg (by rw [e1]; decide)]
  · unfold nextS putS
    rw [e0, if_neg (by decide), if_pos hh, if_pos hb]

set_option maxRecDepth 100000 in
theorem holds_none (p : Option Addr) (base r : Int) (w : World) (h : NoDisk w p) :
    Calls Tryz.prog 75 #[.pointer p, .int .i64 base, .int .i64 r] w fun e w' => e = .returned (.bool false) ∧ w' = w := by
  have q := isRing_any r w
  have q2 := size_none p w h
  by_cases h12 : 2 ≤ r ∧ r ≤ 8
  · obtain ⟨h1, h2⟩ := h12
    rw [decide_eq_true h1, decide_eq_true h2] at q
    by_cases h3 : 0 ≤ base
    · have h4 : ¬ (base ≤ -r) := by omega
      clear h
      go_enter Tryz.func75, Tryz.ntmps75
      go_wp2_with (first
        | (go_at_call 97; refine q.mono ?_; rintro e w ⟨rfl, rfl⟩)
        | (go_at_call 87; refine q2.mono ?_; rintro e w ⟨rfl, rfl⟩))
      go_ret
      exact ⟨by simp; omega, rfl⟩
    · clear h
      go_enter Tryz.func75, Tryz.ntmps75
      go_wp2_with (first
        | (go_at_call 97; refine q.mono ?_; rintro e w ⟨rfl, rfl⟩)
        | (go_at_call 87; refine q2.mono ?_; rintro e w ⟨rfl, rfl⟩))
      go_ret
      exact ⟨rfl, rfl⟩
  · have e1 : (decide (2 ≤ r) && decide (r ≤ 8)) = false := by simp; omega
    rw [e1] at q
    clear e1 h
    go_enter Tryz.func75, Tryz.ntmps75
    go_wp2_with (first
      | (go_at_call 97; refine q.mono ?_; rintro e w ⟨rfl, rfl⟩))
    go_ret
    exact ⟨rfl, rfl⟩

set_option maxRecDepth 100000 in
theorem latest_none (p : Option Addr) (base r : Int) (w : World) (h : NoDisk w p) :
    Calls Tryz.prog 74 #[.pointer p, .int .i64 base, .int .i64 r] w fun e w' => e = .returned (.tuple #[.int .u32 0, .int .u64 0]) ∧ w' = w := by
  have q1 := holds_none p base r w h
  go_enter Tryz.func74, Tryz.ntmps74
  go_wp2_with (first
    | (go_at_call 75; refine q1.mono ?_; rintro e w ⟨rfl, rfl⟩))
  go_ret2
  exact ⟨rfl, rfl⟩

set_option maxRecDepth 100000 in
theorem put_none (p : Option Addr) (base r : Int) (y : Nat) (w : World) (h : NoDisk w p) :
    Calls Tryz.prog 46 #[.pointer p, .int .i64 base, .int .i64 r, .int .u64 (y : Int)] w fun e w' => e = .returned (.int .i64 1) ∧ w' = w := by
  have q1 := made_none p w h
  go_enter Tryz.func46, Tryz.ntmps46
  go_wp2_with (first
    | (go_at_call 43; refine q1.mono ?_; rintro e w ⟨rfl, rfl⟩))
  go_ret
  exact ⟨rfl, rfl⟩

theorem burnt_size (s : Dk) : (burnt s).size = s.size := rfl
end Go.Proofs.YtcmfejgimnjbgaaGreat

