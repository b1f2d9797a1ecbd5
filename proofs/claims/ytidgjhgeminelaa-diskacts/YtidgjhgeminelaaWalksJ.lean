/-
  The walk of DiskKeeps.
-/
import Derived.Test.YtidgjhgeminelaaWalksI
namespace Go.Proofs.Ytidgjhgeminelaa
open Go.RowKit Go.Maps Go.Shelf
open Math

theorem Kept.young3 {a b c : World} {d e f : Nat} (h : Kept [] a b) (k : Kept [d, e, f] b c) (h1 : a.heap.size ≤ d) (h2 : a.heap.size ≤ e) (h3 : a.heap.size ≤ f) : Kept [] a c :=
  ⟨k.os.trans h.os, k.tape.trans h.tape, k.output.trans h.output, Nat.le_trans h.size k.size, fun i hi _ => (k.block i (Nat.lt_of_lt_of_le hi h.size) (by simp; omega)).trans (h.block i hi (by simp))⟩
/-- The worlds of the law's first lines: what came in is put by, and its sector beside it. -/
theorem keeps_lines (at_ : Int) (x : List Nat) (mask : Nat) (hx : Sec x) (w : World) :
    ((w.alloc (.cells (keptCells at_ x mask).toArray 42)).drew.cell? ⟨w.heap.size, 0, none⟩ = some (.int .i64 at_) ∧ (w.alloc (.cells (keptCells at_ x mask).toArray 42)).drew.rangeAt w.heap.size 1 (x.map enc) ∧ (w.alloc (.cells (keptCells at_ x mask).toArray 42)).drew.cell? ⟨w.heap.size, 17, none⟩ = some (.int .u64 (mask : Int))) ∧ (((w.alloc (.cells (keptCells at_ x mask).toArray 42)).alloc (.cells #[.int .u8 0, .int .u8 0, .int .u8 0, .int .u8 0, .int .u8 0, .int .u8 0, .int .u8 0, .int .u8 0, .int .u8 0, .int .u8 0, .int .u8 0, .int .u8 0, .int .u8 0, .int .u8 0, .int .u8 0, .int .u8 0] 32)).drew.cell? ⟨w.heap.size, 0, none⟩ = some (.int .i64 at_) ∧ ((w.alloc (.cells (keptCells at_ x mask).toArray 42)).alloc (.cells #[.int .u8 0, .int .u8 0, .int .u8 0, .int .u8 0, .int .u8 0, .int .u8 0, .int .u8 0, .int .u8 0, .int .u8 0, .int .u8 0, .int .u8 0, .int .u8 0, .int .u8 0, .int .u8 0, .int .u8 0, .int .u8 0] 32)).drew.rangeAt w.heap.size 1 (x.map enc) ∧ ((w.alloc (.cells (keptCells at_ x mask).toArray 42)).alloc (.cells #[.int .u8 0, .int .u8 0, .int .u8 0, .int .u8 0, .int .u8 0, .int .u8 0, .int .u8 0, .int .u8 0, .int .u8 0, .int .u8 0, .int .u8 0, .int .u8 0, .int .u8 0, .int .u8 0, .int .u8 0, .int .u8 0] 32)).drew.cell? ⟨w.heap.size, 17, none⟩ = some (.int .u64 (mask : Int))) ∧ ((((w.alloc (.cells (keptCells at_ x mask).toArray 42)).alloc (.cells #[.int .u8 0, .int .u8 0, .int .u8 0, .int .u8 0, .int .u8 0, .int .u8 0, .int .u8 0, .int .u8 0, .int .u8 0, .int .u8 0, .int .u8 0, .int .u8 0, .int .u8 0, .int .u8 0, .int .u8 0, .int .u8 0] 32)).drew.setCells (w.heap.size + 1) 0 (x.map enc)).cell? ⟨w.heap.size, 0, none⟩ = some (.int .i64 at_) ∧ (((w.alloc (.cells (keptCells at_ x mask).toArray 42)).alloc (.cells #[.int .u8 0, .int .u8 0, .int .u8 0, .int .u8 0, .int .u8 0, .int .u8 0, .int .u8 0, .int .u8 0, .int .u8 0, .int .u8 0, .int .u8 0, .int .u8 0, .int .u8 0, .int .u8 0, .int .u8 0, .int .u8 0] 32)).drew.setCells (w.heap.size + 1) 0 (x.map enc)).rangeAt w.heap.size 1 (x.map enc) ∧ (((w.alloc (.cells (keptCells at_ x mask).toArray 42)).alloc (.cells #[.int .u8 0, .int .u8 0, .int .u8 0, .int .u8 0, .int .u8 0, .int .u8 0, .int .u8 0, .int .u8 0, .int .u8 0, .int .u8 0, .int .u8 0, .int .u8 0, .int .u8 0, .int .u8 0, .int .u8 0, .int .u8 0] 32)).drew.setCells (w.heap.size + 1) 0 (x.map enc)).cell? ⟨w.heap.size, 17, none⟩ = some (.int .u64 (mask : Int))) ∧ ((w.alloc (.cells (keptCells at_ x mask).toArray 42)).alloc (.cells #[.int .u8 0, .int .u8 0, .int .u8 0, .int .u8 0, .int .u8 0, .int .u8 0, .int .u8 0, .int .u8 0, .int .u8 0, .int .u8 0, .int .u8 0, .int .u8 0, .int .u8 0, .int .u8 0, .int .u8 0, .int .u8 0] 32)).drew.there (w.heap.size + 1) 0 (x.map enc).length ∧ Arr (((w.alloc (.cells (keptCells at_ x mask).toArray 42)).alloc (.cells #[.int .u8 0, .int .u8 0, .int .u8 0, .int .u8 0, .int .u8 0, .int .u8 0, .int .u8 0, .int .u8 0, .int .u8 0, .int .u8 0, .int .u8 0, .int .u8 0, .int .u8 0, .int .u8 0, .int .u8 0, .int .u8 0] 32)).drew.setCells (w.heap.size + 1) 0 (x.map enc)) (w.heap.size + 1) 32 x ∧ Kept [] w (((w.alloc (.cells (keptCells at_ x mask).toArray 42)).alloc (.cells #[.int .u8 0, .int .u8 0, .int .u8 0, .int .u8 0, .int .u8 0, .int .u8 0, .int .u8 0, .int .u8 0, .int .u8 0, .int .u8 0, .int .u8 0, .int .u8 0, .int .u8 0, .int .u8 0, .int .u8 0, .int .u8 0] 32)).drew.setCells (w.heap.size + 1) 0 (x.map enc)) ∧ (((w.alloc (.cells (keptCells at_ x mask).toArray 42)).alloc (.cells #[.int .u8 0, .int .u8 0, .int .u8 0, .int .u8 0, .int .u8 0, .int .u8 0, .int .u8 0, .int .u8 0, .int .u8 0, .int .u8 0, .int .u8 0, .int .u8 0, .int .u8 0, .int .u8 0, .int .u8 0, .int .u8 0] 32)).drew.setCells (w.heap.size + 1) 0 (x.map enc)).heap.size = w.heap.size + 2 := by
  have hG : Blk (w.alloc (.cells (keptCells at_ x mask).toArray 42)) w.heap.size 42 (keptCells at_ x mask).toArray := blk_new w 42 _
  have hG1 := hG.kept (kept_drew [] _) (by simp)
  have hG2 : Blk ((w.alloc (.cells (keptCells at_ x mask).toArray 42)).alloc (.cells #[.int .u8 0, .int .u8 0, .int .u8 0, .int .u8 0, .int .u8 0, .int .u8 0, .int .u8 0, .int .u8 0, .int .u8 0, .int .u8 0, .int .u8 0, .int .u8 0, .int .u8 0, .int .u8 0, .int .u8 0, .int .u8 0] 32)).drew w.heap.size 42 (keptCells at_ x mask).toArray := (hG.kept (kept_alloc [] _ (.cells #[.int .u8 0, .int .u8 0, .int .u8 0, .int .u8 0, .int .u8 0, .int .u8 0, .int .u8 0, .int .u8 0, .int .u8 0, .int .u8 0, .int .u8 0, .int .u8 0, .int .u8 0, .int .u8 0, .int .u8 0, .int .u8 0] 32)) (by simp)).kept (kept_drew [] _) (by simp)
  have hA : Arr ((w.alloc (.cells (keptCells at_ x mask).toArray 42)).alloc (.cells #[.int .u8 0, .int .u8 0, .int .u8 0, .int .u8 0, .int .u8 0, .int .u8 0, .int .u8 0, .int .u8 0, .int .u8 0, .int .u8 0, .int .u8 0, .int .u8 0, .int .u8 0, .int .u8 0, .int .u8 0, .int .u8 0] 32)).drew (w.heap.size + 1) 32 nought := by
    have := arr_new (w.alloc (.cells (keptCells at_ x mask).toArray 42)) 32 nought
    rw [World.size_alloc] at this
    exact this
  have e : (((w.alloc (.cells (keptCells at_ x mask).toArray 42)).alloc (.cells #[.int .u8 0, .int .u8 0, .int .u8 0, .int .u8 0, .int .u8 0, .int .u8 0, .int .u8 0, .int .u8 0, .int .u8 0, .int .u8 0, .int .u8 0, .int .u8 0, .int .u8 0, .int .u8 0, .int .u8 0, .int .u8 0] 32)).drew.setCells (w.heap.size + 1) 0 (x.map enc)) = ((w.alloc (.cells (keptCells at_ x mask).toArray 42)).alloc (.cells #[.int .u8 0, .int .u8 0, .int .u8 0, .int .u8 0, .int .u8 0, .int .u8 0, .int .u8 0, .int .u8 0, .int .u8 0, .int .u8 0, .int .u8 0, .int .u8 0, .int .u8 0, .int .u8 0, .int .u8 0, .int .u8 0] 32)).drew.setRow (w.heap.size + 1) (x.map enc).toArray := setCells_row hA (by simp [hx.1, nought]) (enc_one x)
  have hk : Kept [w.heap.size + 1] ((w.alloc (.cells (keptCells at_ x mask).toArray 42)).alloc (.cells #[.int .u8 0, .int .u8 0, .int .u8 0, .int .u8 0, .int .u8 0, .int .u8 0, .int .u8 0, .int .u8 0, .int .u8 0, .int .u8 0, .int .u8 0, .int .u8 0, .int .u8 0, .int .u8 0, .int .u8 0, .int .u8 0] 32)).drew (((w.alloc (.cells (keptCells at_ x mask).toArray 42)).alloc (.cells #[.int .u8 0, .int .u8 0, .int .u8 0, .int .u8 0, .int .u8 0, .int .u8 0, .int .u8 0, .int .u8 0, .int .u8 0, .int .u8 0, .int .u8 0, .int .u8 0, .int .u8 0, .int .u8 0, .int .u8 0, .int .u8 0] 32)).drew.setCells (w.heap.size + 1) 0 (x.map enc)) := by
    rw [e]
    exact ⟨rfl, rfl, rfl, by simp [World.setRow], fun k _ hk => setRow_other _ _ k _ (by simpa using hk)⟩
  have hk2 : Kept [] w ((w.alloc (.cells (keptCells at_ x mask).toArray 42)).alloc (.cells #[.int .u8 0, .int .u8 0, .int .u8 0, .int .u8 0, .int .u8 0, .int .u8 0, .int .u8 0, .int .u8 0, .int .u8 0, .int .u8 0, .int .u8 0, .int .u8 0, .int .u8 0, .int .u8 0, .int .u8 0, .int .u8 0] 32)).drew := ((kept_alloc _ _ _).trans (kept_alloc _ _ _)).trans (kept_drew _ _)
  refine ⟨kept_range hG1 hx, kept_range hG2 hx, kept_range (hG2.kept hk (by simp)) hx, ?_, hA.setAll x (by rw [hx.1]; rfl), hk2.young hk (by simp), ?_⟩
  · have := hA.there
    rw [List.length_map, hx.1]
    exact this
  · rw [e]
    simp [World.setRow]

/-- What a play of DiskKeeps keeps. -/
structure KeepInv (k : Int) (x : List Nat) (j : Nat) (s : Dk) : Prop where
  size : s.size = 12
  safe : s.safe k = x
  fresh : s.fresh k = none
  ops : s.ops ≤ 2 + j
theorem settled_none {s : Dk} {mask : Nat} {k : Int} (h : s.fresh k = none) : settled s mask k = s.safe k := by
  unfold settled
  rw [h]
theorem settled_full {s : Dk} {k : Int} {x : List Nat} (h : s.fresh k = some x) : settled s full k = x := by
  unfold settled
  rw [h]
  simp [full_bit]
theorem keeps_start (k : Int) (x : List Nat) (h0 : 0 ≤ k) (h1 : k < 12) : wroteE (made 12) k = 0 ∧ flushE (wroteS (made 12) k x) = 0 ∧ KeepInv k x 0 (flushS (wroteS (made 12) k x)) ∧ (wroteS (made 12) k x).ops ≤ 1000000 := by
  have hi : inside (made 12) k = true := by
    have h2 : k < ((12 : Nat) : Int) := h1
    simp only [inside, made, h0, h2, decide_true, Bool.and_self]
  have hw : worn (made 12) = false := rfl
  have e : wroteS (made 12) k x = laid (done (made 12)) k x := by simp [wroteS, hi, hw]
  have hw2 : worn (laid (done (made 12)) k x) = false := rfl
  have e2 : flushS (laid (done (made 12)) k x) = spent (done (laid (done (made 12)) k x)) full := by simp [flushS, hw2]
  rw [e]
  refine ⟨by simp [wroteE, hi, hw], by simp [flushE, hw2], ?_, show 1 ≤ 1000000 by omega⟩
  rw [e2]
  refine ⟨rfl, settled_full ?_, rfl, show 2 ≤ 2 + 0 by omega⟩
  show upd _ k (some x) k = some x
  exact upd_same _ _ _
theorem KeepInv.next {k : Int} {x : List Nat} {j : Nat} {s : Dk} (h : KeepInv k x j s) : KeepInv k x (j + 1) s := ⟨h.size, h.safe, h.fresh, by have := h.ops; omega⟩
theorem KeepInv.wrote {k : Int} {x : List Nat} {j : Nat} {s : Dk} (h : KeepInv k x j s) {i : Int} (y : List Nat) (hi : i ≠ k) : KeepInv k x (j + 1) (wroteS s i y) := by
  unfold wroteS
  split
  · split
    · exact ⟨h.size, h.safe, h.fresh, by have := h.ops; simp only [burnt]; omega⟩
    · refine ⟨h.size, h.safe, ?_, by have := h.ops; simp only [laid, done]; omega⟩
      show upd s.fresh i (some y) k = none
      rw [upd_other _ _ (Ne.symm hi)]
      exact h.fresh
  · exact h.next
theorem KeepInv.flush {k : Int} {x : List Nat} {j : Nat} {s : Dk} (h : KeepInv k x j s) : KeepInv k x (j + 1) (flushS s) := by
  unfold flushS
  split
  · exact ⟨h.size, h.safe, h.fresh, by have := h.ops; simp only [burnt]; omega⟩
  · refine ⟨h.size, ?_, rfl, by have := h.ops; simp only [spent, done]; omega⟩
    show settled (done s) full k = x
    rw [settled_none (by exact h.fresh)]
    exact h.safe
theorem KeepInv.fused {k : Int} {x : List Nat} {j : Nat} {s : Dk} (h : KeepInv k x j s) (i : Int) : KeepInv k x (j + 1) (fused s i) := ⟨h.size, h.safe, h.fresh, by have := h.ops; simp only [Math.fused]; omega⟩
theorem KeepInv.crashed {k : Int} {x : List Nat} {j : Nat} {s : Dk} (h : KeepInv k x j s) (mask : Nat) : (crashed s mask).safe k = x ∧ keys (crashed s mask) = [] ∧ (crashed s mask).broken = false ∧ flushE (crashed s mask) = 0 ∧ (crashed s mask).ops ≤ 2 + j := by
  refine ⟨?_, below_none _ _ (fun _ => rfl), rfl, rfl, h.ops⟩
  show settled s mask k = x
  rw [settled_none h.fresh]
  exact h.safe

set_option maxRecDepth 100000 in
set_option maxHeartbeats 4000000 in
/-- DiskKeeps, of what is no play -/
theorem keeps_early (a0 : Option Addr) (len cap : Nat) (at_ : Int) (x : List Nat) (mask : Nat) (hx : Sec x) (hlen : len ≤ 9223372036854775807) (w : World) (hno : at_ < 0 ∨ 11 < at_ ∨ 60 < len) :
    Calls Try.prog 4 #[.slice a0 len cap, .agg (keptCells at_ x mask).toArray] w fun e w' => e = .returned (.bool true) ∧ Kept [] w w' := by
  have hu := Try.underlying32
  have hi : (Try.prog.info? 32).map (·.size) = some (x.map enc).length := by rw [List.length_map, hx.1]; exact Try.size32
  obtain ⟨r1, r2, r3, hth, hA3, hK3, hs3⟩ := keeps_lines at_ x mask hx w
  replace r1 : Hid _ := r1
  replace r2 : Hid _ := r2
  replace r3 : Hid _ := r3
  replace hA3 : Hid _ := hA3
  replace hs3 : Hid _ := hs3
  have h1 := enc_one x
  go_enter Try.func4, Try.ntmps4
  go_wp2_with fail
  generalize x.map enc = cs at *
  go_region_held3 (fun W => W.cell? ⟨w.heap.size, 0, none⟩ = some (.int .i64 at_) ∧ W.rangeAt w.heap.size 1 cs ∧ W.cell? ⟨w.heap.size, 17, none⟩ = some (.int .u64 (mask : Int))) (first | exact r1.out | exact r2.out | exact r3.out) (fail)
  generalize (((w.alloc (.cells (keptCells at_ x mask).toArray 42)).alloc (.cells #[.int .u8 0, .int .u8 0, .int .u8 0, .int .u8 0, .int .u8 0, .int .u8 0, .int .u8 0, .int .u8 0, .int .u8 0, .int .u8 0, .int .u8 0, .int .u8 0, .int .u8 0, .int .u8 0, .int .u8 0, .int .u8 0] 32)).drew.setCells (w.heap.size + 1) 0 cs) = w3 at *
  clear r1 r2 r3 hth hA3 hs3
  have q8 := new_any 12 (by omega) (by omega) w3
  have q7 := lives_any
  rcases hno with hno | hno | hno
  · go_wp2_with (first
      | (go_at_call 8; refine q8.mono ?_; rintro e w4 ⟨rfl, hD, hk⟩)
      | (go_at_call 10; refine (made_any _ _ _ _ _ hD).mono ?_; rintro e w' ⟨rfl, hw⟩; subst hw)
      | (go_at_call 7; refine (q7 _).mono ?_; rintro e w5 ⟨rfl, hk5⟩))
    go_ret
    exact ⟨rfl, (hK3.trans hk).trans hk5⟩
  · have k2 : ¬ (at_ < 0) := by omega
    go_wp2_with (first
      | (go_at_call 8; refine q8.mono ?_; rintro e w4 ⟨rfl, hD, hk⟩)
      | (go_at_call 10; refine (made_any _ _ _ _ _ hD).mono ?_; rintro e w' ⟨rfl, hw⟩; subst hw)
      | (go_at_call 7; refine (q7 _).mono ?_; rintro e w5 ⟨rfl, hk5⟩))
    go_ret
    exact ⟨rfl, (hK3.trans hk).trans hk5⟩
  · by_cases k2 : at_ < 0
    · go_wp2_with (first
        | (go_at_call 8; refine q8.mono ?_; rintro e w4 ⟨rfl, hD, hk⟩)
        | (go_at_call 10; refine (made_any _ _ _ _ _ hD).mono ?_; rintro e w' ⟨rfl, hw⟩; subst hw)
        | (go_at_call 7; refine (q7 _).mono ?_; rintro e w5 ⟨rfl, hk5⟩))
      go_ret
      exact ⟨rfl, (hK3.trans hk).trans hk5⟩
    · by_cases k3 : 11 < at_
      · go_wp2_with (first
          | (go_at_call 8; refine q8.mono ?_; rintro e w4 ⟨rfl, hD, hk⟩)
          | (go_at_call 10; refine (made_any _ _ _ _ _ hD).mono ?_; rintro e w' ⟨rfl, hw⟩; subst hw)
          | (go_at_call 7; refine (q7 _).mono ?_; rintro e w5 ⟨rfl, hk5⟩))
        go_ret
        exact ⟨rfl, (hK3.trans hk).trans hk5⟩
      · have k4 : (60 : Int) < (len : Int) := by omega
        go_wp2_with (first
          | (go_at_call 8; refine q8.mono ?_; rintro e w4 ⟨rfl, hD, hk⟩)
          | (go_at_call 10; refine (made_any _ _ _ _ _ hD).mono ?_; rintro e w' ⟨rfl, hw⟩; subst hw)
          | (go_at_call 7; refine (q7 _).mono ?_; rintro e w5 ⟨rfl, hk5⟩))
        go_ret
        exact ⟨rfl, (hK3.trans hk).trans hk5⟩

set_option maxRecDepth 100000 in
set_option maxHeartbeats 4000000 in
/-- DiskKeeps, of a play -/
theorem keeps_play (a0 : Option Addr) (len cap : Nat) (acts : List Ac) (at_ : Int) (x : List Nat) (mask : Nat) (hx : Sec x) (hm : mask < 18446744073709551616) (hlen : len ≤ 60) (k0 : 0 ≤ at_) (k1 : at_ < 12) (w : World) (hacts : ActsAt w.heap.size w a0 len cap acts) :
    Calls Try.prog 4 #[.slice a0 len cap, .agg (keptCells at_ x mask).toArray] w fun e w' => e = .returned (.bool true) ∧ Kept [] w w' := by
  have hu := Try.underlying32
  have hi : (Try.prog.info? 32).map (·.size) = some (x.map enc).length := by rw [List.length_map, hx.1]; exact Try.size32
  obtain ⟨r1, r2, r3, hth, hA3, hK3, hs3⟩ := keeps_lines at_ x mask hx w
  replace r1 : Hid _ := r1
  replace r2 : Hid _ := r2
  replace r3 : Hid _ := r3
  replace hA3 : Hid _ := hA3
  replace hs3 : Hid _ := hs3
  have h1 := enc_one x
  go_enter Try.func4, Try.ntmps4
  go_wp2_with fail
  generalize hcs : x.map enc = cs at hi r1 r2 r3 hth h1 ⊢
  replace hcs : Hid _ := hcs
  go_region_held3 (fun W => W.cell? ⟨w.heap.size, 0, none⟩ = some (.int .i64 at_) ∧ W.rangeAt w.heap.size 1 cs ∧ W.cell? ⟨w.heap.size, 17, none⟩ = some (.int .u64 (mask : Int))) (first | exact r1.out | exact r2.out | exact r3.out) (fail)
  clear r1 r2 r3 hth
  have hcs' := hcs.out
  subst hcs'
  clear hcs
  generalize (((w.alloc (.cells (keptCells at_ x mask).toArray 42)).alloc (.cells #[.int .u8 0, .int .u8 0, .int .u8 0, .int .u8 0, .int .u8 0, .int .u8 0, .int .u8 0, .int .u8 0, .int .u8 0, .int .u8 0, .int .u8 0, .int .u8 0, .int .u8 0, .int .u8 0, .int .u8 0, .int .u8 0] 32)).drew.setCells (w.heap.size + 1) 0 (x.map enc)) = w3 at *
  obtain ⟨f1, f2, hinv, hops1⟩ := keeps_start at_ x k0 k1
  have q8 := new_any 12 (by omega) (by omega) w3
  have q7 := lives_any
  have kk1 : ¬ (at_ < 0) := by omega
  have kk2 : ¬ (11 < at_) := by omega
  have kk3 : ¬ ((60 : Int) < (len : Int)) := by omega
  have hs := hs3.out
  have hA : Arr w3 (w.heap.size + 1) 32 x := hA3.out
  obtain ⟨n, hn⟩ : ∃ n, w.heap.size = n := ⟨_, rfl⟩
  have HN : Hid (w.heap.size = n) := hn
  rw [hn] at hs hA
  have qW := fun W (h : DiskAt W (w3.heap.size + 2) w3.heap.size (w3.heap.size + 1) (made 12)) => write_any _ _ _ (made 12) at_ x hx (by decide) W h
  have qF := fun W (h : DiskAt W (w3.heap.size + 2) w3.heap.size (w3.heap.size + 1) (wroteS (made 12) at_ x)) => flush_any _ _ _ _ hops1 W h
  rw [f1] at qW
  rw [f2] at qF
  clear f1 f2 hops1
  generalize flushS (wroteS (made 12) at_ x) = s2 at hinv qF
  generalize wroteS (made 12) at_ x = s1 at qW qF
  replace hs : Hid _ := hs
  rw [hn]
  clear hn hA3 hs3
  go_wp2_with (first
    | (go_at_call 8; refine q8.mono ?_; rintro e w4 ⟨rfl, hD, hk⟩; have hA4 := hA.kept hk (by simp))
    | (go_at_call 10; refine (made_any _ _ _ _ _ hD).mono ?_; rintro e w4 ⟨rfl, rfl⟩)
    | refine wpList_load_arr rfl 32 _ rfl _ 32 x rfl hA4 16 5 Try.underlying32 (by rw [hx.1]; exact Try.size32) ?_
    | (go_at_call 13; refine (qW _ hD).mono ?_; rintro e w5 ⟨rfl, hD5, hk5⟩)
    | (go_at_call 15; refine (qF _ hD5).mono ?_; rintro e w6 ⟨rfl, hD6, hk6⟩))
  have hw3 := hs.out
  rw [hw3] at hD6 hk5 hk6 ⊢
  have hK6 : Kept [] w w6 := (hK3.trans hk).young3 (hk5.trans hk6) (by rw [HN.out]; omega) (by rw [HN.out]; omega) (by rw [HN.out]; omega)
  have hA6 : Arr w6 (n + 1) 32 x := hA4.kept (hk5.trans hk6) (by simp)
  clear hD hD5 hk5 hk6 qW qF q8 hk hA hA4 hK3 hs h1 hi hw3
  go_loopw [55] (fun i wr => ∃ j : Nat, j ≤ len ∧ i = .int .i64 j ∧ ∃ s, DiskAt wr (n + 2 + 2) (n + 2) (n + 2 + 1) s ∧ KeepInv at_ x j s ∧ Kept [n + 2 + 2, n + 2, n + 2 + 1] w6 wr) (fun i _ => len - (RowKit.intOf i).toNat)
  case atStart => exact ⟨0, by omega, rfl, s2, hD6, hinv, Kept.refl _ _⟩
  case round =>
    obtain ⟨j, hj, rfl, s, hP, hI, hK⟩ := hrel
    have hKw : Kept [] w wr := hK6.young3 hK (by rw [HN.out]; omega) (by rw [HN.out]; omega) (by rw [HN.out]; omega)
    by_cases hlt : j < len
    · obtain ⟨hal, haok, -, hnil | ⟨blk, off, rfl, hcap, hblk, hcs⟩⟩ := hacts.below (hKw.below (Nat.le_refl _) (by simp))
      · rw [hnil] at hal
        simp at hal
        omega
      obtain ⟨a, ha⟩ : ∃ a, acts[j]? = some a := ⟨_, List.getElem?_eq_getElem (by rw [hal]; exact hlt)⟩
      have hok := haok a (List.mem_of_getElem? ha)
      have hr : Hid (wr.rangeAt blk (off + j * 19) a.cells) := hcs j a ha
      have kk4 : (j : Int) < (len : Int) := by omega
      have hm1 : Hid (len - (j + 1) < len - j) := by show _ < _; omega
      have hz0 : Blk (wr.alloc (.cells #[.int .i64 0, .int .i64 0, .int .u8 0, .int .u8 0, .int .u8 0, .int .u8 0, .int .u8 0, .int .u8 0, .int .u8 0, .int .u8 0, .int .u8 0, .int .u8 0, .int .u8 0, .int .u8 0, .int .u8 0, .int .u8 0, .int .u8 0, .int .u8 0, .int .u64 0] 35)) wr.heap.size 35 #[.int .i64 0, .int .i64 0, .int .u8 0, .int .u8 0, .int .u8 0, .int .u8 0, .int .u8 0, .int .u8 0, .int .u8 0, .int .u8 0, .int .u8 0, .int .u8 0, .int .u8 0, .int .u8 0, .int .u8 0, .int .u8 0, .int .u8 0, .int .u8 0, .int .u64 0] := blk_new wr 35 _
      have hsz : Hid (a.cells.length = 19) := a.cells_length hok
      clear hcs hal haok hacts
      have hltd := hP.lt
      have hops : s.ops ≤ 1000000 := by have := hI.ops; omega
      rcases (show (a.kind = 0 ∧ a.at_ ≠ at_) ∨ (a.kind = 0 ∧ a.at_ = at_) ∨ a.kind = 1 ∨ a.kind = 3 ∨ (a.kind ≠ 0 ∧ a.kind ≠ 1 ∧ a.kind ≠ 3) by omega) with ⟨hkd, hne⟩ | ⟨hkd, hne⟩ | hkd | hkd | ⟨hn0, hn1, hn3⟩
      · have hne' : (a.at_ != at_) = true := by simpa using hne
        go_wp2_with (first
          | refine wpList_load_mid rfl 35 _ rfl blk (off + j * 19) rfl a.cells _ hr.out Try.underlying35 rfl (by rw [hsz.out]; exact Try.size35) ?_
          | (refine wpList_store_blk rfl 35 _ _ rfl wr.heap.size 35 _ a.cells rfl rfl hz0 hsz.out (by rw [hsz.out]; exact Try.size35) (one_cell_act a) ?_; intro w7 hB7 hk7 hz7; obtain ⟨g0, g1, g2, g3⟩ := act_range hB7 hok; replace g2 : Hid _ := g2; rw [hkd] at g0; have hP7 := (hP.alloc (.cells #[.int .i64 0, .int .i64 0, .int .u8 0, .int .u8 0, .int .u8 0, .int .u8 0, .int .u8 0, .int .u8 0, .int .u8 0, .int .u8 0, .int .u8 0, .int .u8 0, .int .u8 0, .int .u8 0, .int .u8 0, .int .u8 0, .int .u8 0, .int .u8 0, .int .u64 0] 35)).kept hk7 (by simp; omega) (by simp; omega) (by simp; omega); have hk7' : Kept [n + 2 + 2, n + 2, n + 2 + 1] w6 w7 := hK.trans (((kept_alloc [] _ _).young hk7 (Nat.le_refl _)).mono (by simp)))
          | refine wpList_load_mid rfl 32 _ rfl wr.heap.size 2 rfl (a.s.map enc) _ g2.out Try.underlying32 rfl (by rw [List.length_map, hok.sec.1]; exact Try.size32) ?_
          | (go_at_call 13; refine (write_any _ _ _ s a.at_ a.s hok.sec hops _ hP7).mono ?_; rintro e w8 ⟨rfl, hP8, hk8⟩; obtain ⟨g0', -, -, -⟩ := act_range (hB7.kept hk8 (by simp; omega)) hok; rw [hkd] at g0'))
        go_roundw
        case rel => exact ⟨j + 1, by omega, rfl, _, hP8, hI.wrote _ hne, hk7'.trans hk8⟩
        case measure => simpa [RowKit.intOf] using hm1.out
      · have hne' : (a.at_ != at_) = false := by simpa using hne
        go_wp2_with (first
          | refine wpList_load_mid rfl 35 _ rfl blk (off + j * 19) rfl a.cells _ hr.out Try.underlying35 rfl (by rw [hsz.out]; exact Try.size35) ?_
          | (refine wpList_store_blk rfl 35 _ _ rfl wr.heap.size 35 _ a.cells rfl rfl hz0 hsz.out (by rw [hsz.out]; exact Try.size35) (one_cell_act a) ?_; intro w7 hB7 hk7 hz7; obtain ⟨g0, g1, g2, g3⟩ := act_range hB7 hok; replace g2 : Hid _ := g2; rw [hkd] at g0; have hP7 := (hP.alloc (.cells #[.int .i64 0, .int .i64 0, .int .u8 0, .int .u8 0, .int .u8 0, .int .u8 0, .int .u8 0, .int .u8 0, .int .u8 0, .int .u8 0, .int .u8 0, .int .u8 0, .int .u8 0, .int .u8 0, .int .u8 0, .int .u8 0, .int .u8 0, .int .u8 0, .int .u64 0] 35)).kept hk7 (by simp; omega) (by simp; omega) (by simp; omega); have hk7' : Kept [n + 2 + 2, n + 2, n + 2 + 1] w6 w7 := hK.trans (((kept_alloc [] _ _).young hk7 (Nat.le_refl _)).mono (by simp))))
        go_roundw
        case rel => exact ⟨j + 1, by omega, rfl, _, hP7, hI.next, hk7'⟩
        case measure => simpa [RowKit.intOf] using hm1.out
      · go_wp2_with (first
          | refine wpList_load_mid rfl 35 _ rfl blk (off + j * 19) rfl a.cells _ hr.out Try.underlying35 rfl (by rw [hsz.out]; exact Try.size35) ?_
          | (refine wpList_store_blk rfl 35 _ _ rfl wr.heap.size 35 _ a.cells rfl rfl hz0 hsz.out (by rw [hsz.out]; exact Try.size35) (one_cell_act a) ?_; intro w7 hB7 hk7 hz7; obtain ⟨g0, g1, g2, g3⟩ := act_range hB7 hok; replace g2 : Hid _ := g2; rw [hkd] at g0; have hP7 := (hP.alloc (.cells #[.int .i64 0, .int .i64 0, .int .u8 0, .int .u8 0, .int .u8 0, .int .u8 0, .int .u8 0, .int .u8 0, .int .u8 0, .int .u8 0, .int .u8 0, .int .u8 0, .int .u8 0, .int .u8 0, .int .u8 0, .int .u8 0, .int .u8 0, .int .u8 0, .int .u64 0] 35)).kept hk7 (by simp; omega) (by simp; omega) (by simp; omega); have hk7' : Kept [n + 2 + 2, n + 2, n + 2 + 1] w6 w7 := hK.trans (((kept_alloc [] _ _).young hk7 (Nat.le_refl _)).mono (by simp)))
          | (go_at_call 15; refine (flush_any _ _ _ s hops _ hP7).mono ?_; rintro e w8 ⟨rfl, hP8, hk8⟩; obtain ⟨g0', -, -, -⟩ := act_range (hB7.kept hk8 (by simp; omega)) hok; rw [hkd] at g0'))
        go_roundw
        case rel => exact ⟨j + 1, by omega, rfl, _, hP8, hI.flush, hk7'.trans hk8⟩
        case measure => simpa [RowKit.intOf] using hm1.out
      · go_wp2_with (first
          | refine wpList_load_mid rfl 35 _ rfl blk (off + j * 19) rfl a.cells _ hr.out Try.underlying35 rfl (by rw [hsz.out]; exact Try.size35) ?_
          | (refine wpList_store_blk rfl 35 _ _ rfl wr.heap.size 35 _ a.cells rfl rfl hz0 hsz.out (by rw [hsz.out]; exact Try.size35) (one_cell_act a) ?_; intro w7 hB7 hk7 hz7; obtain ⟨g0, g1, g2, g3⟩ := act_range hB7 hok; replace g2 : Hid _ := g2; rw [hkd] at g0; have hP7 := (hP.alloc (.cells #[.int .i64 0, .int .i64 0, .int .u8 0, .int .u8 0, .int .u8 0, .int .u8 0, .int .u8 0, .int .u8 0, .int .u8 0, .int .u8 0, .int .u8 0, .int .u8 0, .int .u8 0, .int .u8 0, .int .u8 0, .int .u8 0, .int .u8 0, .int .u8 0, .int .u64 0] 35)).kept hk7 (by simp; omega) (by simp; omega) (by simp; omega); have hk7' : Kept [n + 2 + 2, n + 2, n + 2 + 1] w6 w7 := hK.trans (((kept_alloc [] _ _).young hk7 (Nat.le_refl _)).mono (by simp)))
          | (go_at_call 16; refine (fuse_any _ _ _ s a.at_ hok.a0 hok.a1 _ hP7).mono ?_; rintro e w8 ⟨rfl, hP8, hk8, hz8⟩; replace hz8 : Hid _ := hz8))
        go_roundw
        case rel => exact ⟨j + 1, by omega, rfl, _, hP8, hI.fused _, hk7'.trans (hk8.mono (by simp))⟩
        case measure => simpa [RowKit.intOf] using hm1.out
      · have e0 : (a.kind == 0) = false := by simpa using hn0
        have e1 : (a.kind == 1) = false := by simpa using hn1
        have e3 : (a.kind == 3) = false := by simpa using hn3
        go_wp2_with (first
          | refine wpList_load_mid rfl 35 _ rfl blk (off + j * 19) rfl a.cells _ hr.out Try.underlying35 rfl (by rw [hsz.out]; exact Try.size35) ?_
          | (refine wpList_store_blk rfl 35 _ _ rfl wr.heap.size 35 _ a.cells rfl rfl hz0 hsz.out (by rw [hsz.out]; exact Try.size35) (one_cell_act a) ?_; intro w7 hB7 hk7 hz7; obtain ⟨g0, g1, g2, g3⟩ := act_range hB7 hok; replace g2 : Hid _ := g2; have hP7 := (hP.alloc (.cells #[.int .i64 0, .int .i64 0, .int .u8 0, .int .u8 0, .int .u8 0, .int .u8 0, .int .u8 0, .int .u8 0, .int .u8 0, .int .u8 0, .int .u8 0, .int .u8 0, .int .u8 0, .int .u8 0, .int .u8 0, .int .u8 0, .int .u8 0, .int .u8 0, .int .u64 0] 35)).kept hk7 (by simp; omega) (by simp; omega) (by simp; omega); have hk7' : Kept [n + 2 + 2, n + 2, n + 2 + 1] w6 w7 := hK.trans (((kept_alloc [] _ _).young hk7 (Nat.le_refl _)).mono (by simp))))
        go_roundw
        case rel => exact ⟨j + 1, by omega, rfl, _, hP7, hI.next, hk7'⟩
        case measure => simpa [RowKit.intOf] using hm1.out
    · obtain rfl : j = len := by omega
      obtain ⟨z1, z2, z3, z4, z5⟩ := hI.crashed mask
      have qC := crash_any _ _ _ s mask hm wr hP
      have qD := fun W (h : DiskAt W (n + 2 + 2) (n + 2) (n + 2 + 1) (crashed s mask)) => durable_any _ _ _ (crashed s mask) at_ (by omega) (by omega) W h
      have qK := fun W (h : DiskAt W (n + 2 + 2) (n + 2) (n + 2 + 1) (crashed s mask)) => cached_any _ _ _ (crashed s mask) W h
      have qB := fun W (h : DiskAt W (n + 2 + 2) (n + 2) (n + 2 + 1) (crashed s mask)) => broken_any _ _ _ (crashed s mask) W h
      have qF := fun W (h : DiskAt W (n + 2 + 2) (n + 2) (n + 2 + 1) (crashed s mask)) => flush_any _ _ _ (crashed s mask) (by omega) W h
      rw [z1] at qD
      rw [z2] at qK
      rw [z3] at qB
      rw [z4] at qF
      have heq := fun W => eqls_same x hx W
      have hgd := fun op a b W => guard32 op a b x x W
      simp only [arr] at qD heq hgd
      clear z1 z2 z3 z4 z5 hI hD6 hinv hacts kk1 kk2 kk3
      generalize crashed s mask = sc at *
      have HA : Hid (Arr wr (n + 1) 32 x) := hA6.kept hK (by simp)
      have HK : Hid (Kept [n + 2 + 2, n + 2, n + 2 + 1] w6 wr) := hK
      clear hA6 hK hKw
      go_wp2_with (first
        | (go_at_call 17; refine qC.mono ?_; rintro e w8 ⟨rfl, hD, hk8⟩))
      have hK8 : Kept [] w w8.drew := (hK6.young3 ((HK.out.trans hk8).trans (kept_drew _ _)) (by rw [HN.out]; omega) (by rw [HN.out]; omega) (by rw [HN.out]; omega))
      have hA8 : Arr w8.drew (n + 1) 32 x := (HA.out.kept hk8 (by simp)).drew
      replace hD := hD.drew
      have hcs : (Try.prog.info? 32).map (·.size) = some (x.map enc).length := by rw [List.length_map, hx.1]; exact Try.size32
      clear hP qC hk8
      generalize hcs' : x.map enc = cs at hcs heq hgd qD ⊢
      replace hcs' : Hid _ := hcs'
      go_region_held3 (fun W => W.rangeAt (n + 1) 0 cs) (exact hcs'.out ▸ hA8.range) (first
        | (go_at_call 18; refine (qD _ hD).mono ?_; rintro e w9 ⟨rfl, hk9⟩; replace hD := hD.kept hk9 (by simp) (by simp) (by simp); replace hA8 := hA8.kept hk9 (by simp); replace hK8 := hK8.trans hk9)
        | (go_at_call 19; refine (qK _ hD).mono ?_; rintro e w9 ⟨v, rfl, hnum, hk9⟩; replace hD := hD.kept hk9 (by simp) (by simp) (by simp); replace hA8 := hA8.kept hk9 (by simp); replace hK8 := hK8.trans hk9; obtain ⟨va, vc, rfl⟩ := hnum.empty)
        | (go_at_call 20; refine (qB _ hD).mono ?_; rintro e w9 ⟨rfl, rfl⟩)
        | (go_at_call 15; refine (qF _ hD).mono ?_; rintro e w9 ⟨rfl, hD9, hk9⟩; replace hA8 := hA8.kept hk9 (by simp); replace hK8 := hK8.young3 hk9 (by rw [HN.out]; omega) (by rw [HN.out]; omega) (by rw [HN.out]; omega))
        | (go_at_call 7; refine (q7 _).mono ?_; rintro e w9 ⟨rfl, hk9⟩; replace hA8 := hA8.kept hk9 (by simp); replace hK8 := hK8.trans hk9))
      all_goals
        go_wp2
        go_ret
        exact ⟨rfl, hK8⟩
end Go.Proofs.Ytidgjhgeminelaa
