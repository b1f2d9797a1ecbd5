/-
  The walk of DiskFuse.
-/
import Derived.Test.YtidgjhgeminelaaWalksJ
namespace Go.Proofs.Ytidgjhgeminelaa
open Go.RowKit Go.Maps Go.Shelf
open Math

/-- A disk of four sectors whose fuse burns: i of k operations are done. -/
structure FuseInv (k i : Nat) (s : Dk) : Prop where
  size : s.size = 4
  broken : s.broken = false
  fuse : s.fuse = (k : Int) - (i : Int)
  ops : s.ops = i
theorem FuseInv.worn {k i : Nat} {s : Dk} (h : FuseInv k i s) (hi : i < k) : worn s = false := by
  have := h.fuse
  simp only [Math.worn, h.broken, Bool.false_or, decide_eq_false_iff_not]
  omega
theorem FuseInv.done {k i : Nat} {s : Dk} (h : FuseInv k i s) (hi : i < k) : FuseInv k (i + 1) (done s) := by
  have hf := h.fuse
  refine ⟨h.size, h.broken, ?_, by simp only [Math.done, h.ops]⟩
  simp only [Math.done]
  rw [if_pos (by omega)]
  omega
theorem FuseInv.flush {k i : Nat} {s : Dk} (h : FuseInv k i s) (hi : i < k) : flushE s = 0 ∧ FuseInv k (i + 1) (flushS s) := by
  have hw := h.worn hi
  have hd := h.done hi
  refine ⟨by simp [flushE, hw], ?_⟩
  simp only [flushS, hw, Bool.false_eq_true, if_false]
  exact ⟨hd.size, hd.broken, hd.fuse, hd.ops⟩
theorem FuseInv.wrote {k i : Nat} {s : Dk} (h : FuseInv k i s) (hi : i < k) {a : Int} (h0 : 0 ≤ a) (h1 : a < 4) (x : List Nat) : wroteE s a = 0 ∧ FuseInv k (i + 1) (wroteS s a x) := by
  have hw := h.worn hi
  have hd := h.done hi
  have hin : inside s a = true := by
    have e := h.size
    simp only [inside, Bool.and_eq_true, decide_eq_true_eq]
    omega
  refine ⟨by simp [wroteE, hw, hin], ?_⟩
  simp only [wroteS, hw, hin, Bool.false_eq_true, if_false, if_true]
  exact ⟨hd.size, hd.broken, hd.fuse, hd.ops⟩
/-- .. and behind its end. -/
structure Spent (k j : Nat) (s : Dk) : Prop where
  size : s.size = 4
  worn : worn s = true
  ops : s.ops = k
  broken : 1 ≤ j → s.broken = true
theorem FuseInv.spent {k : Nat} {s : Dk} (h : FuseInv k k s) : Spent k 0 s := by
  have := h.fuse
  refine ⟨h.size, ?_, h.ops, fun h => by omega⟩
  simp only [Math.worn, h.broken, Bool.false_or, decide_eq_true_eq]
  omega
theorem Spent.wrote {k j : Nat} {s : Dk} (h : Spent k j s) (x : List Nat) : wroteE s 0 = 3 ∧ Spent k (j + 1) (wroteS s 0 x) ∧ (wroteS s 0 x).broken = true := by
  have hin : inside s 0 = true := by
    have e := h.size
    simp only [inside, Bool.and_eq_true, decide_eq_true_eq]
    omega
  refine ⟨by simp [wroteE, h.worn, hin], ?_⟩
  simp only [wroteS, h.worn, hin, if_true]
  exact ⟨⟨h.size, by simp [Math.worn, burnt], h.ops, fun _ => rfl⟩, rfl⟩
theorem Spent.flush {k j : Nat} {s : Dk} (h : Spent k (j + 1) s) : flushE s = 3 ∧ Spent k (j + 1) (flushS s) := by
  refine ⟨by simp [flushE, h.worn], ?_⟩
  simp only [flushS, h.worn, if_true]
  exact ⟨h.size, by simp [Math.worn, burnt], h.ops, fun _ => rfl⟩
theorem Spent.readE {k j : Nat} {s : Dk} (h : Spent k (j + 1) s) : readE s 0 = 3 ∧ Math.readE (crashed s 0) 0 = 0 ∧ (crashed s 0).ops = k := by
  have hin : inside s 0 = true := by
    have e := h.size
    simp only [inside, Bool.and_eq_true, decide_eq_true_eq]
    omega
  have hin2 : inside (crashed s 0) 0 = true := hin
  refine ⟨by simp [Math.readE, hin, h.broken], ?_, h.ops⟩
  simp only [Math.readE, hin2, if_true]
  rfl

set_option maxRecDepth 100000 in
set_option maxHeartbeats 4000000 in
/-- DiskFuse, of numbers that are no play's -/
theorem fuse_early (k more : Int) (w : World) (hno : k < 0 ∨ 40 < k ∨ more < 1 ∨ 10 < more) :
    Calls Try.prog 5 #[.int .i64 k, .int .i64 more] w fun e w' => e = .returned (.bool true) ∧ Kept [] w w' := by
  have q7 := lives_any
  rcases (show k < 0 ∨ (0 ≤ k ∧ 40 < k) ∨ (0 ≤ k ∧ k ≤ 40 ∧ more < 1) ∨ (0 ≤ k ∧ k ≤ 40 ∧ 1 ≤ more ∧ 10 < more) by omega) with h1 | ⟨h1, h2⟩ | ⟨h1, h2, h3⟩ | ⟨h1, h2, h3, h4⟩
  · go_enter Try.func5, Try.ntmps5
    go_wp2_with (first
      | (go_at_call 7; refine (q7 _).mono ?_; rintro e w5 ⟨rfl, hk5⟩))
    go_ret
    exact ⟨rfl, hk5⟩
  · have k1 : ¬ (k < 0) := by omega
    go_enter Try.func5, Try.ntmps5
    go_wp2_with (first
      | (go_at_call 7; refine (q7 _).mono ?_; rintro e w5 ⟨rfl, hk5⟩))
    go_ret
    exact ⟨rfl, hk5⟩
  · have k1 : ¬ (k < 0) := by omega
    have k2 : ¬ (40 < k) := by omega
    go_enter Try.func5, Try.ntmps5
    go_wp2_with (first
      | (go_at_call 7; refine (q7 _).mono ?_; rintro e w5 ⟨rfl, hk5⟩))
    go_ret
    exact ⟨rfl, hk5⟩
  · have k1 : ¬ (k < 0) := by omega
    have k2 : ¬ (40 < k) := by omega
    have k3 : ¬ (more < 1) := by omega
    go_enter Try.func5, Try.ntmps5
    go_wp2_with (first
      | (go_at_call 7; refine (q7 _).mono ?_; rintro e w5 ⟨rfl, hk5⟩))
    go_ret
    exact ⟨rfl, hk5⟩

theorem fuse_start (k : Nat) : FuseInv k 0 (fused (made 4) k) := ⟨rfl, rfl, by simp [fused], rfl⟩

set_option maxRecDepth 100000 in
set_option maxHeartbeats 4000000 in
/-- DiskFuse, of a play -/
theorem fuse_play (k more : Nat) (hk : k ≤ 40) (hm : 1 ≤ more) (hm2 : more ≤ 10) (w : World) :
    Calls Try.prog 5 #[.int .i64 (k : Int), .int .i64 (more : Int)] w fun e w' => e = .returned (.bool true) ∧ Kept [] w w' := by
  have q7 := lives_any
  have q8 := new_any 4 (by omega) (by omega) w
  have k1 : ¬ ((k : Int) < 0) := by omega
  have k2 : ¬ (40 < (k : Int)) := by omega
  have k3 : ¬ ((more : Int) < 1) := by omega
  have k4 : ¬ (10 < (more : Int)) := by omega
  obtain ⟨n, hn⟩ : ∃ n, w.heap.size = n := ⟨_, rfl⟩
  have HN : Hid (w.heap.size = n) := hn
  rw [hn] at q8
  clear hn
  go_enter Try.func5, Try.ntmps5
  go_wp2_with (first
    | (go_at_call 8; refine q8.mono ?_; rintro e w4 ⟨rfl, hD, hk4⟩)
    | (go_at_call 16; refine (fuse_any _ _ _ _ (k : Int) (by omega) (by omega) _ hD).mono ?_; rintro e w5 ⟨rfl, hD5, hk5, hz5⟩; replace hz5 : Hid _ := hz5))
  have hK5 : Kept [] w w5 := hk4.young3 (hk5.mono (L' := [n + 2, n, n + 1]) (by simp)) (by rw [HN.out]; omega) (by rw [HN.out]; omega) (by rw [HN.out]; omega)
  have hinv := fuse_start k
  generalize fused (made 4) (k : Int) = s0 at *
  clear hD hk4 hk5 q8
  go_loopw [7] (fun i wr => ∃ j : Nat, j ≤ k ∧ i = .int .i64 j ∧ ∃ s, DiskAt wr (n + 2) n (n + 1) s ∧ FuseInv k j s ∧ Kept [n + 2, n, n + 1] w5 wr) (fun i _ => k - (RowKit.intOf i).toNat)
  case atStart => exact ⟨0, by omega, rfl, s0, hD5, hinv, Kept.refl _ _⟩
  case round =>
    obtain ⟨j, hj, rfl, s, hP, hI, hK⟩ := hrel
    have hops : s.ops ≤ 1000000 := by have := hI.ops; omega
    by_cases hlt : j < k
    · have kk : (j : Int) < (k : Int) := by omega
      have hm1 : Hid (k - (j + 1) < k - j) := by show _ < _; omega
      by_cases h3 : j % 3 = 2
      · obtain ⟨f1, f2⟩ := hI.flush hlt
        have e3 : ((j : Int) % 3 == 2) = true := by simp; omega
        have e4 : ((j : Int) % 3 != 2) = false := by simp; omega
        have qF := flush_any _ _ _ s hops wr hP
        rw [f1] at qF
        go_wp2_with (first
          | (go_at_call 15; refine qF.mono ?_; rintro e w6 ⟨rfl, hD6, hk6⟩))
        go_roundw
        case rel => exact ⟨j + 1, by omega, rfl, _, hD6, f2, hK.trans hk6⟩
        case measure => simpa [RowKit.intOf] using hm1.out
      · obtain ⟨f1, f2⟩ := hI.wrote hlt (a := (j : Int) % 4) (by omega) (by omega) (first j)
        have e3 : ((j : Int) % 3 == 2) = false := by simp; omega
        have e4 : ((j : Int) % 3 != 2) = true := by simp; omega
        have g : arr (first j) = .agg #[.int .u8 (j : Int), .int .u8 0, .int .u8 0, .int .u8 0, .int .u8 0, .int .u8 0, .int .u8 0, .int .u8 0, .int .u8 0, .int .u8 0, .int .u8 0, .int .u8 0, .int .u8 0, .int .u8 0, .int .u8 0, .int .u8 0] := rfl
        have qW := write_any _ _ _ s ((j : Int) % 4) (first j) (sec_first j (by omega)) hops wr hP
        rw [f1, g] at qW
        clear g
        go_wp2_with (first
          | (go_at_call 13; refine qW.mono ?_; rintro e w6 ⟨rfl, hD6, hk6⟩))
        go_roundw
        case rel => exact ⟨j + 1, by omega, rfl, _, hD6, f2, hK.trans hk6⟩
        case measure => simpa [RowKit.intOf] using hm1.out
    · obtain rfl : j = k := by omega
      have hS := hI.spent
      have ho := hI.ops
      have hb := hI.broken
      have qB := broken_any _ _ _ s wr hP
      have qO := ops_any _ _ _ s wr hP
      rw [hb] at qB
      rw [ho] at qO
      have kk : ¬ ((j : Int) < (j : Int)) := by omega
      clear hb ho hinv hI
      have hKw : Kept [] w wr := hK5.young3 hK (by rw [HN.out]; omega) (by rw [HN.out]; omega) (by rw [HN.out]; omega)
      go_wp2_with (first
        | (go_at_call 20; refine qB.mono ?_; rintro e wr ⟨rfl, rfl⟩)
        | (go_at_call 21; refine qO.mono ?_; rintro e wr ⟨rfl, rfl⟩))
      clear qB qO hD5 hK hK5
      go_loopw [8] (fun i wq => ∃ m : Nat, m ≤ more ∧ i = .int .i64 m ∧ ∃ s, DiskAt wq (n + 2) n (n + 1) s ∧ Spent j m s ∧ Kept [n + 2, n, n + 1] wr wq) (fun i _ => more - (RowKit.intOf i).toNat)
      case atStart => exact ⟨0, by omega, rfl, s, hP, hS, Kept.refl _ _⟩
      case round =>
        obtain ⟨m, hmm, rfl, s', hP', hS', hK'⟩ := hrel
        clear hP hS hops
        have hops : s'.ops ≤ 1000000 := by have := hS'.ops; omega
        by_cases hlt2 : m < more
        · have kk2 : (m : Int) < (more : Int) := by omega
          have hm1 : Hid (more - (m + 1) < more - m) := by show _ < _; omega
          obtain ⟨f1, f2, f3⟩ := hS'.wrote (first 9)
          obtain ⟨f4, f5⟩ := f2.flush
          have g : arr (first 9) = .agg #[.int .u8 9, .int .u8 0, .int .u8 0, .int .u8 0, .int .u8 0, .int .u8 0, .int .u8 0, .int .u8 0, .int .u8 0, .int .u8 0, .int .u8 0, .int .u8 0, .int .u8 0, .int .u8 0, .int .u8 0, .int .u8 0] := rfl
          have qW := write_any _ _ _ s' 0 (first 9) (sec_first 9 (by omega)) hops _ hP'
          have hops2 : (wroteS s' 0 (first 9)).ops ≤ 1000000 := by have := f2.ops; omega
          have qB := fun W (h : DiskAt W (n + 2) n (n + 1) (wroteS s' 0 (first 9))) => broken_any _ _ _ _ W h
          have qF := fun W (h : DiskAt W (n + 2) n (n + 1) (wroteS s' 0 (first 9))) => flush_any _ _ _ _ hops2 W h
          rw [f1, g] at qW
          rw [f3] at qB
          rw [f4] at qF
          clear g f1 f3 f4
          generalize flushS (wroteS s' 0 (first 9)) = s4 at *
          generalize wroteS s' 0 (first 9) = s3 at *
          go_wp2_with (first
            | (go_at_call 13; refine qW.mono ?_; rintro e w6 ⟨rfl, hD6, hk6⟩)
            | (go_at_call 20; refine (qB _ hD6).mono ?_; rintro e w6 ⟨rfl, rfl⟩)
            | (go_at_call 15; refine (qF _ hD6).mono ?_; rintro e w7 ⟨rfl, hD7, hk7⟩))
          go_roundw
          case rel => exact ⟨m + 1, by omega, rfl, _, hD7, f5, (hK'.trans hk6).trans hk7⟩
          case measure => simpa [RowKit.intOf] using hm1.out
        · obtain rfl : m = more := by omega
          obtain ⟨m', rfl⟩ : ∃ m', m = m' + 1 := ⟨m - 1, by omega⟩
          obtain ⟨f1, f2, f3⟩ := hS'.readE
          have kk2 : ¬ (((m' + 1 : Nat) : Int) < ((m' + 1 : Nat) : Int)) := by omega
          have qR := read_any _ _ _ s' 0 (by omega) (by omega) _ hP'
          have hx1 := sec_read hP'.valid 0
          have hv2 := valid_crashed hP'.valid 0
          have hx2 := sec_read hv2 0
          have qC := fun W (h : DiskAt W (n + 2) n (n + 1) s') => crash_any _ _ _ s' 0 (by omega) W h
          have qR2 := fun W (h : DiskAt W (n + 2) n (n + 1) (crashed s' 0)) => read_any _ _ _ (crashed s' 0) 0 (by omega) (by omega) W h
          have qO := fun W (h : DiskAt W (n + 2) n (n + 1) (crashed s' 0)) => ops_any _ _ _ (crashed s' 0) W h
          rw [f1] at qR
          rw [f2] at qR2
          rw [f3] at qO
          clear f1 f2 f3 hv2
          generalize readL s' 0 = x1 at *
          generalize readL (crashed s' 0) 0 = x2 at *
          generalize crashed s' 0 = sc at *
          have hKq := hKw.young3 hK' (by rw [HN.out]; omega) (by rw [HN.out]; omega) (by rw [HN.out]; omega)
          simp only [arr] at qR qR2
          have hN : ∀ W : World, Arr (W.alloc (.cells #[.int .u8 0, .int .u8 0, .int .u8 0, .int .u8 0, .int .u8 0, .int .u8 0, .int .u8 0, .int .u8 0, .int .u8 0, .int .u8 0, .int .u8 0, .int .u8 0, .int .u8 0, .int .u8 0, .int .u8 0, .int .u8 0] 32)) W.heap.size 32 nought := fun W => arr_new W 32 nought
          go_wp2_with (first
            | (go_at_call 22; refine qR.mono ?_; rintro e w6 ⟨rfl, hk6⟩; clear qR; have hD6 := (hP'.kept hk6 (by simp) (by simp) (by simp)).alloc (.cells #[.int .u8 0, .int .u8 0, .int .u8 0, .int .u8 0, .int .u8 0, .int .u8 0, .int .u8 0, .int .u8 0, .int .u8 0, .int .u8 0, .int .u8 0, .int .u8 0, .int .u8 0, .int .u8 0, .int .u8 0, .int .u8 0] 32); have hlt6 := (hP'.kept hk6 (by simp) (by simp) (by simp)).lt)
            | (refine wpList_store_arr rfl 32 _ _ rfl w6.heap.size 32 _ x1 rfl rfl (hN w6) hx1.1 (by rw [hx1.1]; exact Try.size32) ?_; intro w7 hA7 hk7 hz7; replace hz7 : Hid _ := hz7; have hD7 := hD6.kept hk7 (by simp; omega) (by simp; omega) (by simp; omega))
            | (go_at_call 17; refine (qC _ hD7).mono ?_; rintro e w8 ⟨rfl, hD8, hk8⟩)
            | (go_at_call 22; refine (qR2 _ hD8).mono ?_; rintro e w9 ⟨rfl, hk9⟩; have hD9 := (hD8.kept hk9 (by simp) (by simp) (by simp)).alloc (.cells #[.int .u8 0, .int .u8 0, .int .u8 0, .int .u8 0, .int .u8 0, .int .u8 0, .int .u8 0, .int .u8 0, .int .u8 0, .int .u8 0, .int .u8 0, .int .u8 0, .int .u8 0, .int .u8 0, .int .u8 0, .int .u8 0] 32); have hlt9 := (hD8.kept hk9 (by simp) (by simp) (by simp)).lt)
            | (refine wpList_store_arr rfl 32 _ _ rfl w9.heap.size 32 _ x2 rfl rfl (hN w9) hx2.1 (by rw [hx2.1]; exact Try.size32) ?_; intro w10 hA10 hk10 hz10; replace hz10 : Hid _ := hz10; have hD10 := hD9.kept hk10 (by simp; omega) (by simp; omega) (by simp; omega))
            | (go_at_call 21; refine (qO _ hD10).mono ?_; rintro e w10 ⟨rfl, rfl⟩)
            | (go_at_call 7; refine (q7 _).mono ?_; rintro e w11 ⟨rfl, hk11⟩))
          go_ret
          refine ⟨rfl, ?_⟩
          have a1 : Kept [] w w7 := ((hKq.trans hk6).trans (kept_alloc [] w6 (.cells #[.int .u8 0, .int .u8 0, .int .u8 0, .int .u8 0, .int .u8 0, .int .u8 0, .int .u8 0, .int .u8 0, .int .u8 0, .int .u8 0, .int .u8 0, .int .u8 0, .int .u8 0, .int .u8 0, .int .u8 0, .int .u8 0] 32))).young hk7 (by have := (hKq.trans hk6).size; omega)
          have a2 : Kept [] w w8 := a1.young3 hk8 (by rw [HN.out]; omega) (by rw [HN.out]; omega) (by rw [HN.out]; omega)
          have a3 : Kept [] w w10 := ((a2.trans hk9).trans (kept_alloc [] w9 (.cells #[.int .u8 0, .int .u8 0, .int .u8 0, .int .u8 0, .int .u8 0, .int .u8 0, .int .u8 0, .int .u8 0, .int .u8 0, .int .u8 0, .int .u8 0, .int .u8 0, .int .u8 0, .int .u8 0, .int .u8 0, .int .u8 0] 32))).young hk10 (by have := (a2.trans hk9).size; omega)
          exact a3.trans hk11
end Go.Proofs.Ytidgjhgeminelaa
