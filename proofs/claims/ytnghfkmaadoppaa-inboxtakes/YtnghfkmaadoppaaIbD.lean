/-
  The walk of InboxTakes.
-/
import Derived.Test.YtnghfkmaadoppaaIbC
import Derived.Deep.CutRange
namespace Go.Proofs.Ytnghfkmaadoppaa.Inbox
open Go.RowKit

/-- Both have taken the same: b is the program's, r the document's. -/
structure Two (w : World) (b r L : Nat) (W : World) : Prop where
  inn : InAt W b L
  ref : RefAt W r L
  ne : b ≠ r
  bl : w.heap.size ≤ b
  rl : w.heap.size ≤ r
  kept : Kept [] w W
set_option maxRecDepth 100000 in
set_option maxHeartbeats 2000000 in
/-- InboxTakes -/
theorem takes_play (a : Option Addr) (len cap : Nat) (zs : List Int) (hl : len ≤ 300) (w : World) (hz : IntsAt w.heap.size w a len zs) :
    Calls Try.prog 3 #[.slice a len cap] w fun e w' => e = .returned (.bool true) ∧ Kept [] w w' := by
  have i0 : ¬ ((300 : Int) < (len : Int)) := by omega
  have qn := new_any w
  replace hz : Hid (IntsAt w.heap.size w a len zs) := hz
  go_enter Try.func3, Try.ntmps3
  go_wp2_with (go_at_call 7; refine qn.mono ?_; rintro e w1 ⟨rfl, h1, hs1, hk1⟩; clear qn)
  have hT : Hid (Two w w.heap.size w1.heap.size 0 (w1.alloc (.cells #[.int .i64 0] 28))) := ⟨h1.kept (kept_alloc [] _ _) (by simp), ⟨blk_new w1 28 #[.int .i64 0], by omega⟩, by rw [hs1.out]; omega, Nat.le_refl _, hk1.size, hk1.trans (kept_alloc [] _ _)⟩
  clear h1 hk1 hs1
  generalize w1.alloc (.cells #[.int .i64 0] 28) = w2 at *
  obtain ⟨r, hr⟩ : ∃ r, w1.heap.size = r := ⟨_, rfl⟩
  rw [hr] at hT ⊢
  clear hr
  go_loopw [16] (fun i wr => ∃ j L : Nat, j ≤ len ∧ i = .int .i64 j ∧ Two w w.heap.size r L wr) (fun i _ => len - (RowKit.intOf i).toNat)
  case atStart => exact ⟨0, 0, by omega, rfl, hT.out⟩
  case round =>
    clear hT
    obtain ⟨j, L, hj, rfl, hT⟩ := hrel
    by_cases hlt : j < len
    · rcases (hz.out.kept hT.kept (Nat.le_refl _)).2 with e0 | ⟨b, off, rfl, hb, hc⟩
      · omega
      · have c1 := hc j hlt
        obtain ⟨z, hzj⟩ : ∃ z, zs[j]?.getD 0 = z := ⟨_, rfl⟩
        rw [hzj] at c1
        have i1 : (j : Int) < (len : Int) := by omega
        have hm1 : Hid (len - (j + 1) < len - j) := by show _ < _; omega
        clear hc hzj
        go_upto_region 7 with fail
        go_cut [35] from 17 to 36 (fun v W => v = .bool false ∧ ∃ L, Two w w.heap.size r L W)
        case first =>
          have hne := hT.ne
          go_region_with (first
            | (go_at_call 8; refine (take_any z _ (hT.inn.kept (kept_drew [] _) (by simp))).mono ?_; rintro e w3 ⟨rfl, h3, hk3⟩; have g3 := (hT.ref.kept (kept_drew [] _) (by simp)).kept hk3 (by simpa using Ne.symm hne))
            | (go_at_call 9; refine (rtake_any z _ g3).mono ?_; rintro e w4 ⟨rfl, g4, hk4⟩; have h4 := h3.kept hk4 (by simpa using hne); have c4 := g4.one)
            | (go_at_call 10; refine (ack_any _ h4).mono ?_; rintro e w4 ⟨rfl, rfl⟩))
          all_goals (try go_wp2_with fail)
          all_goals go_meet
          all_goals exact ⟨rfl, _, h4, g4, hne, hT.bl, hT.rl, (hT.kept.trans (kept_drew [] _)).young3 ((hk3.mono (by simp)).trans (hk4.mono (by simp)) : Kept [w.heap.size, r, r] _ _) hT.bl hT.rl hT.rl⟩
        case rest =>
          obtain ⟨rfl, L', hT'⟩ := hcut
          go_wp2
          go_roundw
          case rel => exact ⟨j + 1, L', by omega, by go_num, hT'⟩
          case measure => simpa [RowKit.intOf] using hm1.out
    · obtain rfl : j = len := by omega
      have q := lives_any wr
      go_wp2_with (go_at_call 6; refine q.mono ?_; rintro e w4 ⟨rfl, hk4⟩)
      go_ret
      exact ⟨rfl, hT.kept.trans hk4⟩
end Go.Proofs.Ytnghfkmaadoppaa.Inbox
