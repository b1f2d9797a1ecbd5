/-
  The walks of KeepWaits and of KeepActs.
-/
import Derived.Test.YtbebecglogkmbaaKpC
import Derived.Deep.CutRange
namespace Go.Proofs.Ytbebecglogkmbaa.Keep
open Go.RowKit

set_option maxRecDepth 100000 in
/-- KeepWaits -/
theorem waits_play (P : Nat) (h1 : 1 ≤ P) (h2 : P ≤ 100) (a : Option Addr) (len cap : Nat) (bs : List Bool) (hl : len ≤ 300) (w : World) (hz : BoolsAt w.heap.size w a len bs) :
    Calls Try.prog 4 #[.int .i64 (P : Int), .slice a len cap] w fun e w' => e = .returned (.bool true) ∧ Kept [] w w' := by
  have i0 : ¬ ((300 : Int) < (len : Int)) := by omega
  have qn := new_good P h1 h2 w
  replace hz : Hid (BoolsAt w.heap.size w a len bs) := hz
  obtain ⟨d, hd⟩ : ∃ d, w.heap.size = d := ⟨_, rfl⟩
  have hdl : w.heap.size ≤ d := Nat.le_of_eq hd
  rw [hd] at qn hz
  replace hd : Hid (w.heap.size = d) := hd
  go_enter Try.func4, Try.ntmps4
  go_wp2_with (go_at_call 7; refine qn.mono ?_; rintro e w1 ⟨rfl, g1, hs1, hk1⟩; clear qn)
  go_loopw [26] (fun i wr => ∃ j y : Nat, j ≤ len ∧ i = .int .i64 j ∧ KpAt wr d P y ∧ Kept [] w wr) (fun i _ => len - (RowKit.intOf i).toNat)
  case atStart => exact ⟨0, 0, by omega, rfl, g1, hk1⟩
  case round =>
    clear g1 hk1 hs1
    obtain ⟨j, y, hj, rfl, hI, hk⟩ := hrel
    by_cases hlt : j < len
    · obtain ⟨b, off, x, rfl, hc⟩ := (hz.out.kept hk (Nat.le_of_eq hd.out.symm)).at hlt
      have i1 : (j : Int) < (len : Int) := by omega
      have hm1 : Hid (len - (j + 1) < len - j) := by show _ < _; omega
      have qt := tick_any wr hI
      have qh := heard_any wr hI
      cases x
      · go_wp2_with (go_at_call 11; refine qh.mono ?_; rintro e w2 ⟨rfl, g2, hk2⟩)
        go_roundw
        case rel => exact ⟨j + 1, _, by omega, by go_num, g2, hk.young hk2 hdl⟩
        case measure => simpa [RowKit.intOf] using hm1.out
      · go_wp2_with (go_at_call 9; refine qt.mono ?_; rintro e w2 ⟨rfl, g2, hk2⟩)
        go_roundw
        case rel => exact ⟨j + 1, _, by omega, by go_num, g2, hk.young hk2 hdl⟩
        case measure => simpa [RowKit.intOf] using hm1.out
    · obtain rfl : j = len := by omega
      have qh := heard_any wr hI
      go_wp2_with (go_at_call 11; refine qh.mono ?_; rintro e w2 ⟨rfl, g2, hk2⟩)
      clear qh hz hI
      replace hk := hk.young hk2 hdl
      go_loopw [9] (fun i wr => ∃ m : Nat, m < P ∧ i = .int .i64 ((m : Int) + 1) ∧ KpAt wr d P m ∧ Kept [] w wr) (fun i _ => P + 1 - (RowKit.intOf i).toNat)
      case atStart => exact ⟨0, by omega, rfl, g2, hk⟩
      case round =>
        clear g2 hk hk2
        obtain ⟨m, hm, rfl, hI, hk⟩ := hrel
        have qt := tick_any wr hI
        rw [show tickN P m = m + 1 from by simp [tickN, hm]] at qt
        by_cases hlt : m + 1 < P
        · have i1 : (m : Int) + 1 < (P : Int) := by omega
          have hP : (P : Int) ≤ 100 := by omega
          have hm1 : Hid (P + 1 - (m + 1 + 1) < P + 1 - (m + 1)) := by show _ < _; omega
          have qv := fun W (h : KpAt W d P (m + 1)) => alive_any W h
          simp only [hlt, decide_true] at qv
          go_wp2_with (first
            | (go_at_call 9; refine qt.mono ?_; rintro e w3 ⟨rfl, g3, hk3⟩; clear qt)
            | (go_at_call 13; refine (qv _ g3).mono ?_; rintro e w4 ⟨rfl, hk4⟩))
          go_roundw
          case rel => exact ⟨m + 1, by omega, by go_num, g3.kept hk4 (by simp), (hk.young hk3 hdl).trans hk4⟩
          case measure =>
            have := hm1.out
            simp [RowKit.intOf]
            omega
        · obtain rfl : m + 1 = P := by omega
          have i1 : ¬ ((m : Int) + 1 < ((m + 1 : Nat) : Int)) := by omega
          have qv := fun W (h : KpAt W d (m + 1) (m + 1)) => alive_any W h
          have qh := fun W (h : KpAt W d (m + 1) (m + 1)) => heard_any W h
          have qw := fun W (h : KpAt W d (m + 1) 0) => alive_any W h
          have ql := fun W => lives_any W
          simp only [Nat.lt_irrefl, decide_false] at qv
          simp only [Nat.zero_lt_succ, decide_true] at qw
          go_wp2_with (first
            | (go_at_call 9; refine qt.mono ?_; rintro e w3 ⟨rfl, g3, hk3⟩; clear qt)
            | (go_at_call 13; refine (qv _ g3).mono ?_; rintro e w4 ⟨rfl, hk4⟩; clear qv; have g4 := g3.kept hk4 (by simp))
            | (go_at_call 11; refine (qh _ g4).mono ?_; rintro e w5 ⟨rfl, g5, hk5⟩; clear qh)
            | (go_at_call 13; refine (qw _ g5).mono ?_; rintro e w6 ⟨rfl, hk6⟩; clear qw)
            | (go_at_call 6; refine (ql _).mono ?_; rintro e w7 ⟨rfl, hk7⟩))
          go_ret
          exact ⟨rfl, (hk.young (((hk3.trans (hk4.mono (by simp))).trans hk5).trans (hk6.mono (by simp))) hdl).trans hk7⟩
set_option maxRecDepth 100000 in
/-- KeepActs, of a patience that may not be -/
theorem acts_bad (p : Int) (hp : p < 1 ∨ 100 < p) (a : Option Addr) (len cap : Nat) (hl : len ≤ 300) (w : World) :
    Calls Try.prog 3 #[.int .i64 p, .slice a len cap] w fun e w' => e = .returned (.bool true) ∧ Kept [] w w' := by
  have i0 : ¬ ((300 : Int) < (len : Int)) := by omega
  have qn := new_bad p hp w
  have qr := rnew_bad p hp w
  have q := lives_any w
  go_enter Try.func3, Try.ntmps3
  go_wp2_with (first
    | (go_at_call 7; refine qn.mono ?_; rintro e w ⟨rfl, rfl⟩)
    | (go_at_call 8; refine qr.mono ?_; rintro e w ⟨rfl, rfl⟩))
  go_loopw [9] (fun i wr => i = .int .i64 0 ∧ wr = w) (fun _ _ => 0)
  case atStart => exact ⟨rfl, rfl⟩
  case round =>
    obtain ⟨rfl, rfl⟩ := hrel
    go_wp2_with (go_at_call 6; refine q.mono ?_; rintro e w1 ⟨rfl, hk1⟩)
    all_goals (go_ret; exact ⟨rfl, hk1⟩)
/-- Both have the same: b is the program's, r the document's. -/
structure Two (w : World) (b r P y : Nat) (W : World) : Prop where
  kp : KpAt W b P y
  ref : RefAt W r P y
  ne : b ≠ r
  bl : w.heap.size ≤ b
  rl : w.heap.size ≤ r
  kept : Kept [] w W
theorem Two.more {w : World} {b r P y : Nat} {W V : World} (h : Two w b r P y W) (hk : Kept [] W V) : Two w b r P y V := ⟨h.kp.kept hk (by simp), h.ref.kept hk (by simp), h.ne, h.bl, h.rl, h.kept.trans hk⟩
set_option maxRecDepth 100000 in
set_option maxHeartbeats 2000000 in
/-- KeepActs -/
theorem acts_play (P : Nat) (h1 : 1 ≤ P) (h2 : P ≤ 100) (a : Option Addr) (len cap : Nat) (bs : List Bool) (hl : len ≤ 300) (w : World) (hz : BoolsAt w.heap.size w a len bs) :
    Calls Try.prog 3 #[.int .i64 (P : Int), .slice a len cap] w fun e w' => e = .returned (.bool true) ∧ Kept [] w w' := by
  have i0 : ¬ ((300 : Int) < (len : Int)) := by omega
  have qn := new_good P h1 h2 w
  have qr := fun W => rnew_good P h1 h2 W
  replace hz : Hid (BoolsAt w.heap.size w a len bs) := hz
  go_enter Try.func3, Try.ntmps3
  go_wp2_with (first
    | (go_at_call 7; refine qn.mono ?_; rintro e w1 ⟨rfl, g1, hs1, hk1⟩; clear qn)
    | (go_at_call 8; refine (qr _).mono ?_; rintro e w2 ⟨rfl, g2, hs2, hk2⟩; clear qr))
  have hT : Hid (Two w w.heap.size w1.heap.size P 0 w2) := ⟨g1.kept hk2 (by simp), g2, by rw [hs1.out]; omega, Nat.le_refl _, hk1.size, hk1.trans hk2⟩
  clear g1 g2 hk1 hk2 hs1 hs2
  obtain ⟨r, hr⟩ : ∃ r, w1.heap.size = r := ⟨_, rfl⟩
  rw [hr] at hT ⊢
  clear hr
  go_loopw [9] (fun i wr => ∃ j y : Nat, j ≤ len ∧ i = .int .i64 j ∧ Two w w.heap.size r P y wr) (fun i _ => len - (RowKit.intOf i).toNat)
  case atStart => exact ⟨0, 0, by omega, rfl, hT.out⟩
  case round =>
    clear hT
    obtain ⟨j, y, hj, rfl, hT⟩ := hrel
    by_cases hlt : j < len
    · obtain ⟨b, off, x, rfl, hc⟩ := (hz.out.kept hT.kept (Nat.le_refl _)).at hlt
      have i1 : (j : Int) < (len : Int) := by omega
      have hm1 : Hid (len - (j + 1) < len - j) := by show _ < _; omega
      have hne := hT.ne
      cases x
      · have qh := heard_any wr hT.kp
        have g0 := hT.ref
        go_wp2_with (go_at_call 11; refine qh.mono ?_; rintro e w2 ⟨rfl, g2, hk2⟩; clear qh; replace g0 := g0.kept hk2 (by simpa using Ne.symm hne); have hf := g0.1.frozen 0; have hc0 := g0.two.1)
        have hks := kept_set (L := [r]) (g := r) (by simp) w2 0 (.int .i64 0)
        have hT3 : Hid (Two w w.heap.size r P 0 (w2.setCell ⟨r, 0, none⟩ (.int .i64 0))) := ⟨g2.kept hks (by simpa using hne), ⟨by have := g0.1.set 0 (.int .i64 0); simpa using this, h1, h2, by omega⟩, hne, hT.bl, hT.rl, hT.kept.young3 ((hk2.mono (by simp)).trans (hks.mono (by simp)) : Kept [w.heap.size, r, r] _ _) hT.bl hT.rl hT.rl⟩
        clear hks g0 g2 hk2 hf hc0 hc hT
        obtain ⟨w3, hw3⟩ : ∃ w3, w2.setCell ⟨r, 0, none⟩ (.int .i64 0) = w3 := ⟨_, rfl⟩
        rw [hw3] at hT3 ⊢
        clear hw3
        have hc3 := fun n => (hT3.out.ref.kept (kept_drewN [] w3 n) (by simp)).two.1
        have qa := fun n => age_any (w3.drewN n) (hT3.out.kp.kept (kept_drewN [] w3 n) (by simp))
        have qv := fun n => alive_drew (w3.drewN n) (hT3.out.kp.kept (kept_drewN [] w3 n) (by simp))
        have qr := fun n => ralive_drew (w3.drewN n) (hT3.out.ref.kept (kept_drewN [] w3 n) (by simp))
        generalize decide (0 < P) = D at *
        go_quiet (first
          | (go_at_call 12; exact Calls.quiet_of_same (qa _))
          | (go_at_call 13; exact Calls.quiet_of (qv _))
          | (go_at_call 14; exact Calls.quiet_of (qr _)))
        go_wp2_with fail
        go_roundw
        case rel => exact ⟨j + 1, _, by omega, by go_num, hT3.out.more (kept_drewN [] _ _)⟩
        case measure => simpa [RowKit.intOf] using hm1.out
      · have qt := tick_any wr hT.kp
        have g0 := hT.ref
        go_wp2_with (first
          | (go_at_call 9; refine qt.mono ?_; rintro e w2 ⟨rfl, g2, hk2⟩; clear qt; replace g0 := g0.kept hk2 (by simpa using Ne.symm hne))
          | (go_at_call 10; refine (rtick_any _ g0).mono ?_; rintro e w3 ⟨rfl, g3, hk3⟩; clear g0; replace g2 := g2.kept hk3 (by simpa using hne)))
        have hT3 : Hid (Two w w.heap.size r P (tickN P y) w3) := ⟨g2, g3, hne, hT.bl, hT.rl, hT.kept.young3 ((hk2.mono (by simp)).trans (hk3.mono (by simp)) : Kept [w.heap.size, r, r] _ _) hT.bl hT.rl hT.rl⟩
        clear g2 g3 hk2 hk3 hc hT
        generalize tickN P y = y' at *
        have hc3 := fun n => (hT3.out.ref.kept (kept_drewN [] w3 n) (by simp)).two.1
        have qa := fun n => age_any (w3.drewN n) (hT3.out.kp.kept (kept_drewN [] w3 n) (by simp))
        have qv := fun n => alive_drew (w3.drewN n) (hT3.out.kp.kept (kept_drewN [] w3 n) (by simp))
        have qr := fun n => ralive_drew (w3.drewN n) (hT3.out.ref.kept (kept_drewN [] w3 n) (by simp))
        generalize decide (y' < P) = D at *
        go_quiet (first
          | (go_at_call 12; exact Calls.quiet_of_same (qa _))
          | (go_at_call 13; exact Calls.quiet_of (qv _))
          | (go_at_call 14; exact Calls.quiet_of (qr _)))
        go_wp2_with fail
        go_roundw
        case rel => exact ⟨j + 1, _, by omega, by go_num, hT3.out.more (kept_drewN [] _ _)⟩
        case measure => simpa [RowKit.intOf] using hm1.out
    · obtain rfl : j = len := by omega
      have q := lives_any wr
      go_wp2_with (go_at_call 6; refine q.mono ?_; rintro e w4 ⟨rfl, hk4⟩)
      go_ret
      exact ⟨rfl, hT.kept.trans hk4⟩
end Go.Proofs.Ytbebecglogkmbaa.Keep
