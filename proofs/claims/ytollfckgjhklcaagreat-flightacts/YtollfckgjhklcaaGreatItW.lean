import Derived.Test.YtollfckgjhklcaaGreatItU
import Derived.Deep.AppendLies
/-
  Two items compared: the walks of cmp.Compare, cmp.Or and against; of isMade, hasSector and last.
-/
namespace Go.Proofs.YtollfckgjhklcaaGreat.Itree
open Go.RowKit

def cmpI (a b : Int) : Int := if a < b then -1 else if b < a then 1 else 0
def orI (a b c : Int) : Int := if a = 0 then (if b = 0 then c else b) else a
def sideI (a b : It) : Int := orI (cmpI a.o b.o) (cmpI a.l b.l) (cmpI a.i b.i)
theorem cmpI_cases (a b : Int) : (a < b ∧ cmpI a b = -1) ∨ (a = b ∧ cmpI a b = 0) ∨ (b < a ∧ cmpI a b = 1) := by
  unfold cmpI
  by_cases h : a < b
  · exact .inl ⟨h, if_pos h⟩
  · by_cases k : b < a
    · exact .inr (.inr ⟨k, by rw [if_neg h, if_pos k]⟩)
    · exact .inr (.inl ⟨by omega, by rw [if_neg h, if_neg k]⟩)
theorem sideI_cases (a b : It) : (ahead a b = true ∧ sideI a b < 0) ∨ (a = b ∧ sideI a b = 0) ∨ (ahead b a = true ∧ 0 < sideI a b) := by
  rw [ahead_iff, ahead_iff, It.eq_iff]
  unfold sideI orI
  rcases cmpI_cases a.o b.o with ⟨h1, e1⟩ | ⟨h1, e1⟩ | ⟨h1, e1⟩ <;> rcases cmpI_cases a.l b.l with ⟨h2, e2⟩ | ⟨h2, e2⟩ | ⟨h2, e2⟩ <;> rcases cmpI_cases a.i b.i with ⟨h3, e3⟩ | ⟨h3, e3⟩ | ⟨h3, e3⟩ <;> rw [e1, e2, e3] <;> simp <;> omega

set_option maxRecDepth 100000 in
/-- isNaN -/
theorem isNaN_any (a : Int) (w : World) : Calls Tryz.prog 86 #[.int .i64 a] w fun e w' => e = .returned (.bool false) ∧ w' = w := by
  go_enter Tryz.func86, Tryz.ntmps86
  go_wp2
  go_ret
  exact ⟨by simp, rfl⟩
set_option maxRecDepth 100000 in
set_option maxHeartbeats 1000000 in
/-- Compare -/
theorem compare_any (a b : Int) (w : World) : Calls Tryz.prog 73 #[.int .i64 a, .int .i64 b] w fun e w' => e = .returned (.int .i64 (cmpI a b)) ∧ w' = w := by
  have qa := isNaN_any a w
  have qb := isNaN_any b w
  rcases cmpI_cases a b with ⟨h, e⟩ | ⟨h, e⟩ | ⟨h, e⟩
  · rw [e]
    go_enter Tryz.func73, Tryz.ntmps73
    go_wp2_with (first
      | (go_at_call 86; refine qa.mono ?_; clear qa; rintro e w ⟨rfl, rfl⟩)
      | (go_at_call 86; refine qb.mono ?_; clear qb; rintro e w ⟨rfl, rfl⟩))
    go_ret
    exact ⟨rfl, rfl⟩
  · subst h
    rw [e]
    go_enter Tryz.func73, Tryz.ntmps73
    go_wp2_with (first
      | (go_at_call 86; refine qa.mono ?_; clear qa; rintro e w ⟨rfl, rfl⟩)
      | (go_at_call 86; refine qb.mono ?_; clear qb; rintro e w ⟨rfl, rfl⟩))
    go_ret
    exact ⟨rfl, rfl⟩
  · rw [e]
    have h' : ¬ a < b := by omega
    go_enter Tryz.func73, Tryz.ntmps73
    go_wp2_with (first
      | (go_at_call 86; refine qa.mono ?_; clear qa; rintro e w ⟨rfl, rfl⟩)
      | (go_at_call 86; refine qb.mono ?_; clear qb; rintro e w ⟨rfl, rfl⟩))
    go_ret
    exact ⟨rfl, rfl⟩
set_option maxRecDepth 100000 in
set_option maxHeartbeats 1000000 in
/-- Or, of three numbers -/
theorem orInt_any (a b c : Int) (g : Nat) (w : World) (h0 : w.cell? ⟨g, 0, none⟩ = some (.int .i64 a)) (h1 : w.cell? ⟨g, 1, none⟩ = some (.int .i64 b)) (h2 : w.cell? ⟨g, 2, none⟩ = some (.int .i64 c)) :
    Calls Tryz.prog 74 #[.slice (some ⟨g, 0, none⟩) 3 3] w fun e w' => e = .returned (.int .i64 (orI a b c)) ∧ w' = w := by
  go_enter Tryz.func74, Tryz.ntmps74
  go_wp2
  go_loopw [8, 5] (fun i _ wr => ∃ k : Nat, i = .int .i64 k ∧ (k = 0 ∨ k = 1 ∧ a = 0 ∨ k = 2 ∧ a = 0 ∧ b = 0 ∨ k = 3 ∧ a = 0 ∧ b = 0 ∧ c = 0) ∧ wr = w) (fun i _ _ => 4 - (RowKit.intOf i).toNat)
  case atStart => exact ⟨0, rfl, .inl rfl, rfl⟩
  case round =>
    obtain ⟨k, rfl, hk, rfl⟩ := hrel
    rcases hk with rfl | ⟨rfl, rfl⟩ | ⟨rfl, rfl, rfl⟩ | ⟨rfl, rfl, rfl, rfl⟩
    · by_cases ha : a = 0
      · subst ha
        go_wp2
        go_roundw
        case rel => exact ⟨1, by go_num, by simp, by trivial⟩
        case measure => simp [RowKit.intOf]
      · have e1 : (a != 0) = true := by simp [ha]
        have e2 : orI a b c = a := if_neg ha
        replace e2 : Hid _ := e2
        go_wp2
        go_ret
        exact ⟨by rw [e2.out]; rfl, rfl⟩
    · by_cases ha : b = 0
      · subst ha
        go_wp2
        go_roundw
        case rel => exact ⟨2, by go_num, by simp, by trivial⟩
        case measure => simp [RowKit.intOf]
      · have e1 : (b != 0) = true := by simp [ha]
        have e2 : orI 0 b c = b := (if_pos rfl).trans (if_neg ha)
        replace e2 : Hid _ := e2
        go_wp2
        go_ret
        exact ⟨by rw [e2.out]; rfl, rfl⟩
    · by_cases ha : c = 0
      · subst ha
        go_wp2
        go_roundw
        case rel => exact ⟨3, by go_num, by simp, by trivial⟩
        case measure => simp [RowKit.intOf]
      · have e1 : (c != 0) = true := by simp [ha]
        go_wp2
        go_ret
        exact ⟨rfl, rfl⟩
    · go_wp2
      go_ret
      exact ⟨rfl, rfl⟩
set_option maxRecDepth 100000 in
set_option maxHeartbeats 4000000 in
/-- against -/
theorem against_any (a b : It) (w : World) : Calls Tryz.prog 65 #[a.val, b.val] w fun e w' => e = .returned (.int .i64 (sideI a b)) ∧ Kept [] w w' := by
  unfold It.val
  have kA := kept_alloc [] w (.cells #[.int .i64 a.o, .int .i64 a.l, .int .i64 a.i] 85)
  have bA := blk_new w 85 #[.int .i64 a.o, .int .i64 a.l, .int .i64 a.i]
  have kB := kept_alloc [] (w.alloc (.cells #[.int .i64 a.o, .int .i64 a.l, .int .i64 a.i] 85)) (.cells #[.int .i64 b.o, .int .i64 b.l, .int .i64 b.i] 85)
  have bB := blk_new (w.alloc (.cells #[.int .i64 a.o, .int .i64 a.l, .int .i64 a.i] 85)) 85 #[.int .i64 b.o, .int .i64 b.l, .int .i64 b.i]
  rw [show (w.alloc (.cells #[.int .i64 a.o, .int .i64 a.l, .int .i64 a.i] 85)).heap.size = w.heap.size + 1 by simp] at bB
  have bA' := bA.kept kB (by simp)
  have kAB := kA.trans kB
  obtain ⟨W0, hW0⟩ : ∃ W0, (w.alloc (.cells #[.int .i64 a.o, .int .i64 a.l, .int .i64 a.i] 85)).alloc (.cells #[.int .i64 b.o, .int .i64 b.l, .int .i64 b.i] 85) = W0 := ⟨_, rfl⟩
  rw [hW0] at bA' bB kAB
  go_enter Tryz.func65, Tryz.ntmps65
  go_wp2
  clear hW0 bA kA kB
  have hS : ∀ W, Kept [] W0 W → (W.cell? ⟨w.heap.size, 0, none⟩ = some (.int .i64 a.o) ∧ W.cell? ⟨w.heap.size, 1, none⟩ = some (.int .i64 a.l) ∧ W.cell? ⟨w.heap.size, 2, none⟩ = some (.int .i64 a.i)) ∧ W.cell? ⟨w.heap.size + 1, 0, none⟩ = some (.int .i64 b.o) ∧ W.cell? ⟨w.heap.size + 1, 1, none⟩ = some (.int .i64 b.l) ∧ W.cell? ⟨w.heap.size + 1, 2, none⟩ = some (.int .i64 b.i) := fun W hk =>
    ⟨⟨((bA'.kept hk (by simp)).cell 0).trans rfl, ((bA'.kept hk (by simp)).cell 1).trans rfl, ((bA'.kept hk (by simp)).cell 2).trans rfl⟩, ((bB.kept hk (by simp)).cell 0).trans rfl, ((bB.kept hk (by simp)).cell 1).trans rfl, ((bB.kept hk (by simp)).cell 2).trans rfl⟩
  have hkd := kept_drew [] W0
  have q1 := fun W => compare_any a.o b.o W
  have q2 := fun W => compare_any a.l b.l W
  have q3 := fun W => compare_any a.i b.i W
  have hs : Hid (sideI a b = orI (cmpI a.o b.o) (cmpI a.l b.l) (cmpI a.i b.i)) := rfl
  generalize cmpI a.o b.o = c1 at *
  generalize cmpI a.l b.l = c2 at *
  generalize cmpI a.i b.i = c3 at *
  have bC := (blk_new W0 3 #[.int .i64 c1, .int .i64 c2, .int .i64 c3]).kept (kept_drew [] _) (by simp)
  have q4 := orInt_any c1 c2 c3 W0.heap.size _ ((bC.cell 0).trans rfl) ((bC.cell 1).trans rfl) ((bC.cell 2).trans rfl)
  have kC := (kept_alloc [] W0 (.cells #[.int .i64 c1, .int .i64 c2, .int .i64 c3] 3)).trans (kept_drew [] _)
  go_region_held3 (fun W => (W.cell? ⟨w.heap.size, 0, none⟩ = some (.int .i64 a.o) ∧ W.cell? ⟨w.heap.size, 1, none⟩ = some (.int .i64 a.l) ∧ W.cell? ⟨w.heap.size, 2, none⟩ = some (.int .i64 a.i)) ∧ W.cell? ⟨w.heap.size + 1, 0, none⟩ = some (.int .i64 b.o) ∧ W.cell? ⟨w.heap.size + 1, 1, none⟩ = some (.int .i64 b.l) ∧ W.cell? ⟨w.heap.size + 1, 2, none⟩ = some (.int .i64 b.i)) (exact hS _ (by first | exact hkd | exact hkd.trans (kept_alloc [] _ _))) (first
    | (go_at_call_of 73 (#[.int .i64 a.o, .int .i64 b.o] : Array Value); refine (q1 _).mono ?_; rintro e5 w5 ⟨rfl, rfl⟩)
    | (go_at_call_of 73 (#[.int .i64 a.l, .int .i64 b.l] : Array Value); refine (q2 _).mono ?_; rintro e5 w5 ⟨rfl, rfl⟩)
    | (go_at_call_of 73 (#[.int .i64 a.i, .int .i64 b.i] : Array Value); refine (q3 _).mono ?_; rintro e5 w5 ⟨rfl, rfl⟩)
    | (go_at_call 74; refine q4.mono ?_; rintro e6 w6 ⟨rfl, rfl⟩))
  go_wp2
  go_ret
  exact ⟨by rw [hs.out]; rfl, kAB.trans kC⟩
set_option maxRecDepth 100000 in
/-- isMade, of a tree that a call made -/
theorem isMade_any (p n : Nat) (t : Tr) (w : World) (h : Whole w p n t) : Calls Tryz.prog 44 #[.pointer (some ⟨p, 0, none⟩)] w fun e w' => e = .returned (.bool true) ∧ w' = w := by
  have c0 := (h.blk.cell 0).trans (show _ = some (Value.bool true) from rfl)
  go_enter Tryz.func44, Tryz.ntmps44
  go_wp2
  go_ret
  exact ⟨rfl, rfl⟩
set_option maxRecDepth 100000 in
/-- .. of none -/
theorem isMade_nil (w : World) : Calls Tryz.prog 44 #[.pointer none] w fun e w' => e = .returned (.bool false) ∧ w' = w := by
  go_enter Tryz.func44, Tryz.ntmps44
  go_wp2
  go_ret
  exact ⟨rfl, rfl⟩
set_option maxRecDepth 100000 in
/-- .. of a tree that no call made -/
theorem isMade_zero (p : Nat) (w : World) (c0 : w.cell? ⟨p, 0, none⟩ = some (.bool false)) : Calls Tryz.prog 44 #[.pointer (some ⟨p, 0, none⟩)] w fun e w' => e = .returned (.bool false) ∧ w' = w := by
  go_enter Tryz.func44, Tryz.ntmps44
  go_wp2
  go_ret
  exact ⟨rfl, rfl⟩
set_option maxRecDepth 100000 in
/-- hasSector -/
theorem hasSector_any (x : It) (w : World) : Calls Tryz.prog 45 #[.agg #[.int .i64 x.o, .int .i64 x.l]] w fun e w' => e = .returned (.bool (good x)) ∧ Kept [] w w' := by
  have k1 := kept_alloc [] w (.cells #[.int .i64 x.o, .int .i64 x.l] 24)
  have b1 := blk_new w 24 #[.int .i64 x.o, .int .i64 x.l]
  have q := Span.plain_any x.o x.l (w.alloc (.cells #[.int .i64 x.o, .int .i64 x.l] 24))
  unfold good
  cases hp : Span.Math.plain x.o x.l with
  | false =>
    rw [hp] at q
    go_enter Tryz.func45, Tryz.ntmps45
    go_wp2_with (go_at_call 55; refine q.mono ?_; rintro e w1 ⟨rfl, hB⟩)
    go_ret
    exact ⟨rfl, k1.trans (Kept.of_below hB [])⟩
  | true =>
    rw [hp] at q
    have hd : Hid ((true && decide (1 ≤ x.l)) = decide (0 < x.l)) := (show _ = _ by rw [Bool.true_and]; congr 1)
    go_enter Tryz.func45, Tryz.ntmps45
    go_wp2_with (go_at_call 55; refine q.mono ?_; rintro e w1 ⟨rfl, hB⟩; have c1 := ((b1.kept (Kept.of_below hB []) (by simp)).cell 1).trans (show _ = some (Value.int .i64 x.l) from rfl))
    go_ret
    exact ⟨by rw [hd.out]; rfl, k1.trans (Kept.of_below hB [])⟩
set_option maxRecDepth 100000 in
/-- last -/
theorem last_any (g n cap : Nat) (u : Value) (w : World) (h1 : n + 1 ≤ 1000000) (hc : w.cell? ⟨g, n, none⟩ = some u) : Calls Tryz.prog 47 #[.slice (some ⟨g, 0, none⟩) (n + 1) cap] w fun e w' => e = .returned u ∧ w' = w := by
  obtain ⟨m, hm⟩ : ∃ m, n + 1 = m := ⟨_, rfl⟩
  rw [hm] at h1 ⊢
  have e1 : ((m : Nat) : Int) - 1 = (n : Int) := by omega
  have e2 : (n : Int) < (m : Int) := by omega
  clear hm
  go_enter Tryz.func47, Tryz.ntmps47
  go_wp2
  go_ret
  exact ⟨rfl, rfl⟩
set_option maxRecDepth 100000 in
set_option maxHeartbeats 1000000 in
/-- Or, of two trees, one of which is none -/
theorem or_any (a b : Option Addr) (g : Nat) (w : World) (h0 : w.cell? ⟨g, 0, none⟩ = some (.pointer a)) (h1 : w.cell? ⟨g, 1, none⟩ = some (.pointer b)) :
    Calls Tryz.prog 51 #[.slice (some ⟨g, 0, none⟩) 2 2] w fun e w' => e = .returned (.pointer (if a = none then b else a)) ∧ w' = w := by
  go_enter Tryz.func51, Tryz.ntmps51
  go_wp2
  go_loopw [8, 5] (fun i _ wr => ∃ k : Nat, i = .int .i64 k ∧ (k = 0 ∨ k = 1 ∧ a = none ∨ k = 2 ∧ a = none ∧ b = none) ∧ wr = w) (fun i _ _ => 3 - (RowKit.intOf i).toNat)
  case atStart => exact ⟨0, rfl, .inl rfl, rfl⟩
  case round =>
    obtain ⟨k, rfl, hk, rfl⟩ := hrel
    rcases hk with rfl | ⟨rfl, rfl⟩ | ⟨rfl, rfl, rfl⟩
    · cases a with
      | none =>
        go_wp2
        go_roundw
        case rel => exact ⟨1, by go_num, by simp, by trivial⟩
        case measure => simp [RowKit.intOf]
      | some a =>
        go_wp2
        go_ret
        exact ⟨by simp, rfl⟩
    · cases b with
      | none =>
        go_wp2
        go_roundw
        case rel => exact ⟨2, by go_num, by simp, by trivial⟩
        case measure => simp [RowKit.intOf]
      | some a =>
        go_wp2
        go_ret
        exact ⟨by simp, rfl⟩
    · go_wp2
      go_ret
      exact ⟨by simp, rfl⟩
end Go.Proofs.YtollfckgjhklcaaGreat.Itree

