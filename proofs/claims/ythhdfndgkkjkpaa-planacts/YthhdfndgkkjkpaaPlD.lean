/-
  The walk of PlanActs.
-/
import Derived.Test.YthhdfndgkkjkpaaPlC
import Derived.Deep.CutRange
namespace Go.Proofs.Ythhdfndgkkjkpaa.Plan
open Go.RowKit
open Bits Bits.Math

/-- Both have the same left: b is the program's, r the document's. -/
structure Two (w : World) (b r m s : Nat) (W : World) : Prop where
  pl : PlAt W b m s
  ref : RefAt W r m s
  ne : b ≠ r
  bl : w.heap.size ≤ b
  rl : w.heap.size ≤ r
  kept : Kept [] w W
set_option maxRecDepth 100000 in
set_option maxHeartbeats 2000000 in
/-- PlanActs -/
theorem acts_play (m : Nat) (hm : m < 18446744073709551616) (a : Option Addr) (len cap : Nat) (zs : List Int) (hl : len ≤ 200) (w : World) (hz : IntsAt w.heap.size w (.slice a len cap) zs) :
    Calls Try.prog 3 #[.int .u64 (m : Int), .slice a len cap] w fun e w' => e = .returned (.bool true) ∧ Kept [] w w' := by
  have i0 : ¬ ((200 : Int) < (len : Int)) := by omega
  have qn := new_any m hm w
  replace hz : Hid (IntsAt w.heap.size w (.slice a len cap) zs) := hz
  go_enter Try.func3, Try.ntmps3
  go_wp2_with (go_at_call 7; refine qn.mono ?_; rintro e w1 ⟨rfl, h1, hs1, hk1⟩; clear qn)
  have hT : Hid (Two w w.heap.size w1.heap.size m m (w1.alloc (.cells #[.int .u64 (m : Int), .int .u64 (m : Int)] 29))) := ⟨h1.kept (kept_alloc [] _ _) (by simp), ⟨blk_new w1 29 #[.int .u64 (m : Int), .int .u64 (m : Int)], hm, hm⟩, by rw [hs1.out]; omega, Nat.le_refl _, hk1.size, hk1.trans (kept_alloc [] _ _)⟩
  clear h1 hk1 hs1
  generalize w1.alloc (.cells #[.int .u64 (m : Int), .int .u64 (m : Int)] 29) = w2 at *
  obtain ⟨r, hr⟩ : ∃ r, w1.heap.size = r := ⟨_, rfl⟩
  rw [hr] at hT ⊢
  clear hr
  go_loopw [21] (fun i wr => ∃ j s : Nat, j ≤ len ∧ i = .int .i64 j ∧ Two w w.heap.size r m s wr) (fun i _ => len - (RowKit.intOf i).toNat)
  case atStart => exact ⟨0, m, by omega, rfl, hT.out⟩
  case round =>
    clear hT
    obtain ⟨j, s, hj, rfl, hT⟩ := hrel
    by_cases hlt : j < len
    · obtain ⟨b, off, z, rfl, c1, -⟩ := ints_at (ints_kept hz.out hT.kept (Nat.le_refl _)) hlt
      have i1 : (j : Int) < (len : Int) := by omega
      have hm1 : Hid (len - (j + 1) < len - j) := by show _ < _; omega
      obtain ⟨t, ht⟩ : ∃ t, without s z = t := ⟨_, rfl⟩
      obtain ⟨hB, hhB⟩ : ∃ hB, has s z = hB := ⟨_, rfl⟩
      have qp := fun W (h : PlAt W w.heap.size m s) => have_any z W h
      have qr := fun W (h : RefAt W r m s) => rhave_any z W h
      have ho := fun W (h : PlAt W w.heap.size m t) => over_any W h
      have hl1 := fun W (h : PlAt W w.heap.size m t) => left_any W h
      rw [ht, hhB] at qp qr
      have e0 : ((t : Int) == 0) = decide (t = 0) := by rw [Bool.eq_iff_iff]; simp
      clear ht hhB
      go_upto_region 7 with fail
      go_cut [50] from 22 to 51 (fun v W => v = .bool false ∧ ∃ s, Two w w.heap.size r m s W)
      case first =>
        have hne := hT.ne
        go_region_with (first
          | (go_at_call 8; refine (qp _ (hT.pl.kept (kept_drew [] _) (by simp))).mono ?_; rintro e w3 ⟨rfl, h3, hk3⟩; have g3 := (hT.ref.kept (kept_drew [] _) (by simp)).kept hk3 (by simpa using Ne.symm hne))
          | (go_at_call 9; refine (qr _ g3).mono ?_; rintro e w4 ⟨rfl, g4, hk4⟩; have h4 := h3.kept hk4 (by simpa using hne); have c4 := g4.two.2)
          | (go_at_call 10; refine (hl1 _ h4).mono ?_; rintro e w4 ⟨rfl, rfl⟩)
          | (go_at_call 11; refine (ho _ h4).mono ?_; rintro e w4 ⟨rfl, rfl⟩))
        all_goals (try go_wp2_with fail)
        all_goals go_meet
        all_goals exact ⟨rfl, _, h4, g4, hne, hT.bl, hT.rl, (hT.kept.trans (kept_drew [] _)).young3 ((hk3.mono (by simp)).trans (hk4.mono (by simp)) : Kept [w.heap.size, r, r] _ _) hT.bl hT.rl hT.rl⟩
      case rest =>
        obtain ⟨rfl, s', hT'⟩ := hcut
        go_wp2
        go_roundw
        case rel => exact ⟨j + 1, s', by omega, by go_num, hT'⟩
        case measure => simpa [RowKit.intOf] using hm1.out
    · obtain rfl : j = len := by omega
      have q := fun W => lives_any W
      have qa := all_any wr hT.pl
      have ql := fun W => refList_any m W hm
      have hl64 : ((elems m).map Int.ofNat).length ≤ 9223372036854775807 := by rw [List.length_map]; have := lst_len 64 m; unfold elems; omega
      have qi := fun W va vb h1 h2 => ints_any va vb ((elems m).map Int.ofNat) W hl64 h1 h2
      go_wp2_with (first
        | (go_at_call 13; refine qa.mono ?_; rintro e w3 ⟨v, rfl, hv, hB3⟩)
        | (go_at_call 14; refine (ql _).mono ?_; rintro e w4 ⟨v4, rfl, hr4, hB4⟩; have hv4 := intsAt_of_owns hr4)
        | (go_at_call 12; refine (qi _ _ _ ((hv.below hB4).mono hB4.size) hv4).mono ?_; rintro e w5 ⟨rfl, nq, rfl⟩)
        | (go_at_call 6; refine (q _).mono ?_; rintro e w6 ⟨rfl, hk6⟩))
      go_ret
      exact ⟨rfl, (((hT.kept.trans (Kept.of_below hB3 [])).trans (Kept.of_below hB4 [])).trans (kept_drewN [] _ _)).trans hk6⟩
end Go.Proofs.Ythhdfndgkkjkpaa.Plan
