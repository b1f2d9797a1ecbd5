/-
  lives; the walk of OutboxNone.
-/
import Derived.Test.YtmibcnefonmmgaaOtF
import Derived.Lib.SlBytesConst
import Derived.Lib.SmallJoins
namespace Go.Proofs.Ytmibcnefonmmgaa.Outbox
open Go.RowKit

set_option maxRecDepth 100000 in
/-- A byte in a slice of its own, pushed. -/
theorem push_one {X W : World} {base o : Nat} {gr : Option Nat} {s : Ob} (hO : OutAt W base o gr s) (h0 : Kept [] X W) (hb : X.heap.size ≤ base) (hs : s.n + s.l.length ≤ 999999) (c : Nat) (hc : c < 256) (x : Int) (hx : x = (c : Int)) (N : Int) (hN : (s.pushN : Int) = N) (B : Bool) (hB : s.pushB = B) :
    Calls Try.prog 12 #[.pointer (some ⟨o, 0, none⟩), .slice (some ⟨W.heap.size, 0, none⟩) 1 1] (W.alloc (.cells #[.int .u8 x] 5 (1, 2))) fun e w' => e = .returned (.tuple #[.int .i64 N, .bool B]) ∧ ∃ gr', OutAt w' base o gr' (s.push [c]) ∧ Kept [] X w' := by
  subst hx hN hB
  have ka := kept_alloc [] W (.cells #[.int .u8 (c : Int)] 5 (1, 2))
  have hv : ByteRow (W.heap.size + 1) (W.alloc (.cells #[.int .u8 (c : Int)] 5 (1, 2))) (.slice (some ⟨W.heap.size, 0, none⟩) 1 1) [c] := by
    refine ⟨by simpa using hc, some ⟨W.heap.size, 0, none⟩, 1, rfl, fun e => (by cases e), .inr ⟨W.heap.size, 0, rfl, Nat.le_refl _, by omega, fun j hj => ?_⟩⟩
    have hj0 : j = 0 := by simpa using hj
    subst hj0
    exact (World.cell?_alloc_mark W #[.int .u8 (c : Int)] 5 (1, 2) 0).trans rfl
  refine (push_any _ (hO.kept0 ka) hs _ _ [c] hv (by simp) (by simp)).mono ?_
  rintro e w' ⟨rfl, gr', h1, h2, _⟩
  exact ⟨rfl, gr', h1, (hO.kept0 ka).young (h0.trans ka) hb h2⟩
def sA : Ob := (made 2).push [97]
def sB : Ob := sA.push [98]
def sC : Ob := sB.push [99]
/-- The one number of a row that was just written out. -/
theorem ints_lit (W : World) (z : Int) : Bits.IntsAt (W.heap.size + 1) (W.alloc (.cells #[.int .i64 z] 3)) (.slice (some ⟨W.heap.size, 0, none⟩) 1 1) [z] := by
  refine ⟨some ⟨W.heap.size, 0, none⟩, 1, rfl, .inr ⟨W.heap.size, 0, rfl, by omega, fun j hj => ?_⟩⟩
  have hj0 : j = 0 := by simpa using hj
  subst hj0
  exact ((blk_new W 3 #[.int .i64 z]).cell 0).trans rfl
theorem NRow.ints_kept {A B : World} {base : Nat} {v : Value} {l : List Nat} (h : NRow base A v l) (hk : Kept [] A B) : Bits.IntsAt B.heap.size B v (l.map Int.ofNat) := NRow.ints (h.kept hk (by simp))
set_option maxRecDepth 100000 in
set_option maxHeartbeats 1000000 in
theorem lives_any (w : World) : Calls Try.prog 6 #[] w fun e w' => e = .returned (.bool true) ∧ Kept [] w w' := by
  have hcv : ∀ (W : World) (x : Int), (convert 31 31 (.slice (some ⟨W.heap.size, 0, none⟩) 1 1)).run Try.prog (W.alloc (.cells #[.int .u8 x] 5)) = .ok (.slice (some ⟨W.heap.size, 0, none⟩) 1 1) (W.alloc (.cells #[.int .u8 x] 5 (1, 2))) := fun W x => Lib.run_convert_bytes_const (P := Try.prog) W 31 5 #[.int .u8 x] 1 1 Try.underlying31 Try.underlying5
  have qn : Calls Try.prog 7 #[.int .i64 2] w _ := new_any 2 (by omega) (by omega) w
  have q1 := fun W gr (hO : OutAt W w.heap.size w.heap.size gr (made 2)) (hk : Kept [] w W) => push_one hO hk (Nat.le_refl _) (by decide) 97 (by omega) 97 rfl 1 rfl true rfl
  have q2 := fun W gr (hO : OutAt W w.heap.size w.heap.size gr sA) (hk : Kept [] w W) => push_one hO hk (Nat.le_refl _) (by decide) 98 (by omega) 98 rfl 2 rfl true rfl
  have q3 := fun W gr (hO : OutAt W w.heap.size w.heap.size gr sB) (hk : Kept [] w W) => push_one hO hk (Nat.le_refl _) (by decide) 99 (by omega) 99 rfl 3 rfl false rfl
  have q4 := fun W gr (hO : OutAt W w.heap.size w.heap.size gr sC) => acked_any W hO (by decide) 1
  have e4 : sC.ackL 1 = [3] := by decide
  rw [e4] at q4
  clear e4
  go_enter Try.func6, Try.ntmps6
  go_wp2_with (first
    | (go_at_call 7; refine qn.mono ?_; rintro e w1 ⟨rfl, hO1, hs1, hk1⟩; replace hs1 : Hid _ := hs1; clear qn)
    | (go_at_call 12; refine (q1 _ _ hO1 hk1).mono ?_; rintro e w2 ⟨rfl, gr2, hO2, hk2⟩; clear q1; replace hO2 : OutAt w2 w.heap.size w.heap.size gr2 sA := hO2)
    | (go_at_call 12; refine (q2 _ _ hO2 hk2).mono ?_; rintro e w3 ⟨rfl, gr3, hO3, hk3⟩; clear q2; replace hO3 : OutAt w3 w.heap.size w.heap.size gr3 sB := hO3)
    | (go_at_call 12; refine (q3 _ _ hO3 hk3).mono ?_; rintro e w4 ⟨rfl, gr4, hO4, hk4⟩; clear q3; replace hO4 : OutAt w4 w.heap.size w.heap.size gr4 sC := hO4)
    | (go_at_call 10; refine (q4 _ _ hO4).mono ?_; rintro e w5 ⟨v5, rfl, hN5, hO5, hk5⟩; have hk5' := hO4.young hk4 (Nat.le_refl _) hk5; clear q4)
    | (go_at_call 9; refine (Bits.ints_any v5 _ [3] _ (by decide) (hN5.ints_kept (kept_alloc [] w5 (.cells #[.int .i64 3] 3))) (by have := ints_lit w5 3; simpa using this)).mono ?_; rintro e w6 ⟨rfl, n6, rfl⟩))
  go_ret
  exact ⟨rfl, (hk5'.trans (kept_alloc [] w5 _)).trans (kept_drewN [] _ _)⟩
set_option maxRecDepth 100000 in
set_option maxHeartbeats 2000000 in
/-- OutboxNone -/
theorem none_walk (ab : Bool) (n : Int) (sa : Option Addr) (len cap : Nat) (w : World) :
    Calls Try.prog 5 #[.agg #[.bool ab, .int .i64 n, .slice sa len cap]] w fun e w' => e = .returned (.bool true) ∧ Kept [] w w' := by
  have k1 := kept_alloc [] w (.cells #[.bool ab, .int .i64 n, .slice sa len cap] 33)
  have hb1 := blk_new w 33 #[.bool ab, .int .i64 n, .slice sa len cap]
  have k2 := kept_alloc [] (w.alloc (.cells #[.bool ab, .int .i64 n, .slice sa len cap] 33)) (.cells #[.int .i64 0, .int .i64 0, .slice none 0 0] 48)
  have hb2 := blk_new (w.alloc (.cells #[.bool ab, .int .i64 n, .slice sa len cap] 33)) 48 #[.int .i64 0, .int .i64 0, .slice none 0 0]
  rw [World.size_alloc] at hb2
  have k3 := kept_alloc [] ((w.alloc (.cells #[.bool ab, .int .i64 n, .slice sa len cap] 33)).alloc (.cells #[.int .i64 0, .int .i64 0, .slice none 0 0] 48)) (.cells #[.pointer none, .pointer (some ⟨w.heap.size + 1, 0, none⟩)] 24)
  have hb3 := blk_new ((w.alloc (.cells #[.bool ab, .int .i64 n, .slice sa len cap] 33)).alloc (.cells #[.int .i64 0, .int .i64 0, .slice none 0 0] 48)) 24 #[.pointer none, .pointer (some ⟨w.heap.size + 1, 0, none⟩)]
  rw [World.size_alloc, World.size_alloc] at hb3
  replace hb1 := (hb1.kept k2 (by simp)).kept k3 (by simp)
  replace hb2 := hb2.kept k3 (by simp)
  have k0 := (k1.trans k2).trans k3
  clear k1 k2 k3
  obtain ⟨W0, hW⟩ : ∃ W0, ((w.alloc (.cells #[.bool ab, .int .i64 n, .slice sa len cap] 33)).alloc (.cells #[.int .i64 0, .int .i64 0, .slice none 0 0] 48)).alloc (.cells #[.pointer none, .pointer (some ⟨w.heap.size + 1, 0, none⟩)] 24) = W0 := ⟨_, rfl⟩
  rw [hW] at hb1 hb2 hb3 k0
  go_enter Try.func5, Try.ntmps5
  go_wp2_with fail
  clear hW
  go_loopw [15] (fun i wr => ∃ j : Nat, j ≤ 2 ∧ i = .int .i64 j ∧ Kept [] W0 wr) (fun i _ => 2 - (RowKit.intOf i).toNat)
  case atStart => exact ⟨0, by omega, rfl, Kept.refl _ _⟩
  case round =>
    obtain ⟨j, hj, rfl, hk⟩ := hrel
    by_cases hlt : j < 2
    · obtain ⟨p, hp, hN⟩ : ∃ p, wr.cell? ⟨w.heap.size + 2, j, none⟩ = some (.pointer p) ∧ NoOut wr p := by
        have hc := (hb3.kept hk (by simp)).cell j
        rcases (by omega : j = 0 ∨ j = 1) with rfl | rfl
        · exact ⟨none, hc, .inl rfl⟩
        · exact ⟨_, hc, .inr ⟨_, rfl, hb2.kept hk (by simp)⟩⟩
      have i1 : (j : Int) < 2 := by omega
      have hm1 : Hid (2 - (j + 1) < 2 - j) := by show _ < _; omega
      have c1 : wr.cell? ⟨w.heap.size, 1, none⟩ = some (.int .i64 n) := ((hb1.kept hk (by simp)).cell 1).trans rfl
      have c2 : wr.cell? ⟨w.heap.size, 2, none⟩ = some (.slice sa len cap) := ((hb1.kept hk (by simp)).cell 2).trans rfl
      have qp := push_none p (.slice sa len cap) wr hN
      have qb := body_none p n wr hN
      have qa := acked_none p n wr hN
      have qw := window_none p wr hN
      have ql := len_none p wr hN
      have qf := full_none p wr hN
      clear hb1 hb2 hb3
      go_wp2_with (first
        | (go_at_call 12; refine qp.mono ?_; rintro e wr ⟨rfl, rfl⟩)
        | (go_at_call 14; refine qb.mono ?_; rintro e wr ⟨rfl, rfl⟩)
        | (go_at_call 10; refine qa.mono ?_; rintro e wr ⟨rfl, rfl⟩)
        | (go_at_call 19; refine qw.mono ?_; rintro e wr ⟨rfl, rfl⟩)
        | (go_at_call 16; refine ql.mono ?_; rintro e wr ⟨rfl, rfl⟩)
        | (go_at_call 17; refine qf.mono ?_; rintro e w4 ⟨rfl, hk4⟩))
      go_roundw
      case rel => exact ⟨j + 1, by omega, by go_num, hk.trans hk4⟩
      case measure => simpa [RowKit.intOf] using hm1.out
    · obtain rfl : j = 2 := by omega
      have q := lives_any wr
      clear hb1 hb2 hb3
      go_wp2_with (go_at_call 6; refine q.mono ?_; rintro e w1 ⟨rfl, hk1⟩)
      go_ret
      exact ⟨rfl, (k0.trans hk).trans hk1⟩
end Go.Proofs.Ytmibcnefonmmgaa.Outbox
