import Derived.Test.YtnbkbakbjllmcaaOtB
/-
  The walks of the program's outbox: New, made, last, lastOnWay, Len, Full, numbers, Window, drop, Acked.
-/
namespace Go.Proofs.Ytnbkbakbjllmcaa.Outbox
open Go.RowKit

/-- The Out's block: window, the last number acked, the bodies. -/
def Raw (W : World) (o m A : Nat) (a : Option Addr) (L cap : Nat) : Prop := Blk W o 82 #[.int .i64 (m : Int), .int .i64 (A : Int), .slice a L cap]
theorem Raw.kept {K : List Nat} {X Y : World} {o m A : Nat} {a : Option Addr} {L cap : Nat} (h : Raw X o m A a L cap) (hk : Kept K X Y) (ho : o ∉ K) : Raw Y o m A a L cap := Blk.kept h hk ho
theorem Raw.three {W : World} {o m A : Nat} {a : Option Addr} {L cap : Nat} (h : Raw W o m A a L cap) : W.cell? ⟨o, 0, none⟩ = some (.int .i64 (m : Int)) ∧ W.cell? ⟨o, 1, none⟩ = some (.int .i64 (A : Int)) ∧ W.cell? ⟨o, 2, none⟩ = some (.slice a L cap) :=
  ⟨(Blk.cell h 0).trans rfl, (Blk.cell h 1).trans rfl, (Blk.cell h 2).trans rfl⟩
/-- What was sent and is not acked, in memory. -/
structure OutAt (W : World) (base o : Nat) (gr : Option Nat) (s : Ob) : Prop where
  blk : ∃ v P, Blk W o 82 #[.int .i64 (s.w : Int), .int .i64 ((s.n - 1 : Nat) : Int), v] ∧ RowAt base W v P gr 0 ∧ P.map Bv.bs = s.l ∧ ∀ x ∈ P, x.At W
  first : 1 ≤ s.n
  pos : 1 ≤ s.w
  top : s.w ≤ 64
  low : base ≤ o
theorem OutAt.kept {K : List Nat} {A B : World} {base o : Nat} {gr : Option Nat} {s : Ob} (h : OutAt A base o gr s) (hk : Kept K A B) (ho : o ∉ K) (hg : ∀ g, gr = some g → g ∉ K) (hb : NoByt K A) : OutAt B base o gr s := by
  obtain ⟨v, P, h1, h2, h3, h4⟩ := h.blk
  exact ⟨⟨v, P, h1.kept hk ho, h2.kept hk hg, h3, fun x hx => (h4 x hx).kept hk hb⟩, h.first, h.pos, h.top, h.low⟩
theorem OutAt.kept0 {A B : World} {base o : Nat} {gr : Option Nat} {s : Ob} (h : OutAt A base o gr s) (hk : Kept [] A B) : OutAt B base o gr s := h.kept hk (by simp) (fun _ _ => by simp) (noByt_nil _)
theorem OutAt.three {W : World} {base o : Nat} {gr : Option Nat} {s : Ob} (h : OutAt W base o gr s) :
    ∃ A a cap P, s.n = A + 1 ∧ Raw W o s.w A a s.l.length cap ∧ RowAt base W (.slice a s.l.length cap) P gr 0 ∧ P.map Bv.bs = s.l ∧ (∀ x ∈ P, x.At W) ∧ P.length = s.l.length ∧ s.l.length ≤ cap ∧ cap ≤ 9223372036854775807 := by
  obtain ⟨v, P, h1, h2, h3, h4⟩ := h.blk
  obtain ⟨a, cap, e, h5, h6⟩ := h2.open
  have hl : P.length = s.l.length := by rw [← h3, List.length_map]
  subst e
  have hn := h.first
  rw [hl] at h1 h2 h5
  exact ⟨s.n - 1, a, cap, P, by omega, h1, h2, h3, h4, hl, h5, h6⟩
/-- The blocks that an Out's calls turn: none is one of bytes. -/
theorem OutAt.foot {W : World} {base o : Nat} {gr : Option Nat} {s : Ob} (h : OutAt W base o gr s) : NoByt (o :: gr.toList) W := by
  obtain ⟨v, P, h1, h2, _⟩ := h.blk
  refine NoByt.cons ?_ h1 (by decide)
  cases gr with
  | none => exact noByt_nil W
  | some g =>
    obtain ⟨_, _, cur, hc⟩ := h2.low g rfl
    exact NoByt.cons (noByt_nil W) hc (by decide)
theorem OutAt.lt {W : World} {base o : Nat} {gr : Option Nat} {s : Ob} (h : OutAt W base o gr s) : o < W.heap.size ∧ ∀ g, gr = some g → base ≤ g ∧ g < W.heap.size ∧ g ≠ o := by
  obtain ⟨v, P, h1, h2, _⟩ := h.blk
  refine ⟨h1.lt, fun g hg => ?_⟩
  obtain ⟨h3, h4, cur, hc⟩ := h2.low g hg
  refine ⟨h3, h4, fun e => ?_⟩
  subst e
  unfold Blk at h1 hc
  rw [h1] at hc
  injection hc with hc
  injection hc with _ hc _
  exact absurd hc (by decide)
/-- All that a call turns was made since. -/
theorem OutAt.young {X W Y : World} {base o : Nat} {gr : Option Nat} {s : Ob} (h : OutAt W base o gr s) (h0 : Kept [] X W) (hb : X.heap.size ≤ base) (hk : Kept (o :: gr.toList) W Y) : Kept [] X Y := by
  refine ⟨hk.os.trans h0.os, hk.tape.trans h0.tape, hk.output.trans h0.output, Nat.le_trans h0.size hk.size, fun i hi _ => (hk.block i (Nat.lt_of_lt_of_le hi h0.size) (fun hm => ?_)).trans (h0.block i hi (by simp))⟩
  have := h.low
  rcases List.mem_cons.1 hm with e | e
  · omega
  · have := (h.lt.2 i (by simpa using e)).1
    omega
set_option maxRecDepth 100000 in
/-- New -/
theorem new_any (m : Nat) (h1 : 1 ≤ m) (h2 : m ≤ 64) (w : World) :
    Calls Try.prog 17 #[.int .i64 (m : Int)] w fun e w' => e = .returned (.tuple #[.pointer (some ⟨w.heap.size, 0, none⟩), .int .i64 0]) ∧ OutAt w' w.heap.size w.heap.size none (made m) ∧ w'.heap.size = w.heap.size + 1 ∧ Kept [] w w' := by
  have k1 : ¬ ((m : Int) < 1) := by omega
  have k2 : ¬ ((64 : Int) < (m : Int)) := by omega
  go_enter Try.func17, Try.ntmps17
  go_wp2
  all_goals first | omega | skip
  go_ret2
  exact ⟨rfl, ⟨⟨_, [], blk_new w 82 #[.int .i64 (m : Int), .int .i64 0, .slice none 0 0], row_nil _ _, rfl, by simp⟩, Nat.le_refl _, h1, h2, Nat.le_refl _⟩, by simp, kept_alloc [] _ _⟩
set_option maxRecDepth 100000 in
/-- made -/
theorem made_any {o m A : Nat} {a : Option Addr} {L cap : Nat} (w : World) (h : Raw w o m A a L cap) (hm : 1 ≤ m) :
    Calls Try.prog 40 #[.pointer (some ⟨o, 0, none⟩)] w fun e w' => e = .returned (.bool true) ∧ w' = w := by
  have c0 := h.three.1
  go_enter Try.func40, Try.ntmps40
  go_wp2
  go_ret
  exact ⟨by simp; omega, rfl⟩
set_option maxRecDepth 100000 in
/-- last -/
theorem last_any {o m A : Nat} {a : Option Addr} {L cap : Nat} (w : World) (h : Raw w o m A a L cap) (B : Nat) (hB : A + L = B) (hs : A + L ≤ 1000000) :
    Calls Try.prog 42 #[.pointer (some ⟨o, 0, none⟩)] w fun e w' => e = .returned (.int .i64 (B : Int)) ∧ Kept [] w w' := by
  have c1 := fun n => (h.kept (kept_drewN [] w n) (by simp)).three.2.1
  have c2 := fun n => (h.kept (kept_drewN [] w n) (by simp)).three.2.2
  have hB' : Hid (A + L = B) := hB
  clear hB
  go_enter Try.func42, Try.ntmps42
  go_wp2_with fail
  go_quiet (fail)
  go_wp2_with fail
  go_ret
  exact ⟨Bits.ret_int (by have := hB'.out; omega), kept_drewN [] _ _⟩
set_option maxRecDepth 100000 in
/-- lastOnWay -/
theorem way_any {o m A : Nat} {a : Option Addr} {L cap : Nat} (w : World) (h : Raw w o m A a L cap) (B : Nat) (hB : A + min L m = B) (hm : m ≤ 64) (hs : A + L ≤ 1000000) :
    Calls Try.prog 49 #[.pointer (some ⟨o, 0, none⟩)] w fun e w' => e = .returned (.int .i64 (B : Int)) ∧ Kept [] w w' := by
  have hB' : Hid (A + min L m = B) := hB
  clear hB
  have c0 := fun n => (h.kept (kept_drewN [] w n) (by simp)).three.1
  have c1 := fun n => (h.kept (kept_drewN [] w n) (by simp)).three.2.1
  have c2 := fun n => (h.kept (kept_drewN [] w n) (by simp)).three.2.2
  go_enter Try.func49, Try.ntmps49
  go_wp2_with fail
  go_quiet (fail)
  go_wp2_with fail
  all_goals (go_ret; exact ⟨Bits.ret_int (by have := hB'.out; omega), kept_drewN [] _ _⟩)
set_option maxRecDepth 100000 in
/-- Full -/
theorem full_any {o m A : Nat} {a : Option Addr} {L cap : Nat} (w : World) (h : Raw w o m A a L cap) (hm : 1 ≤ m) :
    Calls Try.prog 38 #[.pointer (some ⟨o, 0, none⟩)] w fun e w' => e = .returned (.bool (decide (m ≤ L))) ∧ Kept [] w w' := by
  have c0 := fun n => (h.kept (kept_drewN [] w n) (by simp)).three.1
  have c2 := fun n => (h.kept (kept_drewN [] w n) (by simp)).three.2.2
  have q := fun n => made_any _ (h.kept (kept_drewN [] w n) (by simp)) hm
  go_enter Try.func38, Try.ntmps38
  go_wp2_with fail
  go_quiet (first | (go_at_call_of 40 (#[.pointer (some ⟨o, 0, none⟩)] : Array Value); exact Calls.quiet_of_same (q _)))
  go_wp2_with fail
  go_ret
  exact ⟨by simp, kept_drewN [] _ _⟩
set_option maxRecDepth 100000 in
/-- numbers -/
theorem numbers_any (A B k : Nat) (hAB : B = A + k) (hk : A + k ≤ 1000000) (w : World) :
    Calls Try.prog 48 #[.int .i64 (A : Int), .int .i64 (B : Int)] w fun e w' => ∃ v, e = .returned v ∧ NRow w.heap.size w' v (nums (A + 1) k) ∧ Kept [] w w' := by
  have e0 : (B : Int) - (A : Int) = (k : Int) := by omega
  have b0 : (B : Int) ≤ 1000000 := by omega
  clear hAB
  have hks : (k : Int) ≤ 1000000 := by omega
  go_enter Try.func48, Try.ntmps48
  go_wp2
  go_loopw [5, 10] (fun v i wr => ∃ j : Nat, j ≤ k ∧ i = .int .i64 j ∧ NRow w.heap.size wr v (nums (A + 1) j) ∧ Kept [] w wr) (fun _ i _ => k - (intOf i).toNat)
  case atStart => exact ⟨0, by omega, rfl, NRow.nil _ _, Kept.refl _ _⟩
  case round =>
    obtain ⟨j, hj, rfl, hown, hB⟩ := hrel
    have hll := nums_length (A + 1) j
    by_cases hlt : j < k
    · have HS : Hid (nums (A + 1) (j + 1) = nums (A + 1) j ++ [A + 1 + j]) := nums_more _ _
      have hlen : Hid ((nums (A + 1) j).length ≤ 1000000) := by show _ ≤ _; omega
      have hil : (j : Int) < (k : Int) := by omega
      have hAA : (A : Int) ≤ 1000000 := by omega
      have hm1 : Hid (k - (j + 1) < k - j) := by show _ < _; omega
      have hz := hB.size
      obtain ⟨u, hu⟩ : ∃ u, A + 1 + j = u := ⟨_, rfl⟩
      have hu' : (A : Int) + 1 + (j : Int) = (u : Int) := by omega
      rw [hu] at HS
      clear hll hu
      go_wp2_with (first
        | (at_builtin; refine wpList_append_num rfl _ _ rfl w.heap.size _ _ u wr.heap.size rfl (hown.kept (kept_alloc [] _ _) (by simp)) rfl ?c1 hlen.out ?c5 ?_))
      case c1 => exact cell_one_new _ _ _ 0 _ rfl
      case c5 => simp; omega
      intro v1 w1 hr1 hg1
      have hk1 : Kept [] w w1 := kept_grown (World.ownsRow.alloc hown _) hg1 w (hB.trans (kept_alloc [] _ _)) (Nat.le_refl _)
      rw [← HS.out] at hr1
      clear hg1 hown HS hlen hB
      go_wp2
      go_roundw
      case rel => exact ⟨j + 1, by omega, by go_num, hr1, hk1⟩
      case measure => simpa [intOf] using hm1.out
    · obtain rfl : j = k := by omega
      clear hll
      go_wp2
      go_ret
      exact ⟨_, rfl, hown, hB⟩
end Go.Proofs.Ytnbkbakbjllmcaa.Outbox

