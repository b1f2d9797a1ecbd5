/-
  Numbers that came in; the walks of InboxTakes, InboxOnce and InboxNone.
-/
import Derived.Test.YtnghfkmaadoppaaIbB
namespace Go.Proofs.Ytnghfkmaadoppaa.Inbox
open Go.RowKit

/-- The slice holds the numbers zs, in a block below n where there is one. -/
def IntsAt (n : Nat) (W : World) (a : Option Addr) (len : Nat) (zs : List Int) : Prop :=
  zs.length = len ∧ (len = 0 ∨ ∃ b off, a = some ⟨b, off, none⟩ ∧ b < n ∧ ∀ j, j < len → W.cell? ⟨b, off + j, none⟩ = some (.int .i64 (zs[j]?.getD 0)))
theorem IntsAt.kept {n : Nat} {A B : World} {a : Option Addr} {len : Nat} {zs : List Int} (h : IntsAt n A a len zs) (hk : Kept [] A B) (hn : n ≤ A.heap.size) : IntsAt n B a len zs :=
  ⟨h.1, h.2.imp id fun ⟨b, off, e, hb, hc⟩ => ⟨b, off, e, hb, fun j hj => (World.cell?_of_block (hk.block b (by omega) (by simp))).trans (hc j hj)⟩⟩

set_option maxRecDepth 100000 in
/-- InboxNone -/
theorem none_walk (n : Int) (w : World) :
    Calls Try.prog 5 #[.int .i64 n] w fun e w' => e = .returned (.bool true) ∧ Kept [] w w' := by
  have k1 := kept_alloc [] w (.cells #[.bool false, .int .i64 0] 33)
  have hb1 := blk_new w 33 #[.bool false, .int .i64 0]
  have k2 := kept_alloc [] (w.alloc (.cells #[.bool false, .int .i64 0] 33)) (.cells #[.pointer none, .pointer (some ⟨w.heap.size, 0, none⟩)] 24)
  have hb2 := blk_new (w.alloc (.cells #[.bool false, .int .i64 0] 33)) 24 #[.pointer none, .pointer (some ⟨w.heap.size, 0, none⟩)]
  rw [World.size_alloc] at hb2
  replace hb1 := hb1.kept k2 (by simp)
  have k0 := k1.trans k2
  clear k1 k2
  obtain ⟨W0, hW⟩ : ∃ W0, (w.alloc (.cells #[.bool false, .int .i64 0] 33)).alloc (.cells #[.pointer none, .pointer (some ⟨w.heap.size, 0, none⟩)] 24) = W0 := ⟨_, rfl⟩
  rw [hW] at hb1 hb2 k0
  go_enter Try.func5, Try.ntmps5
  go_wp2_with fail
  clear hW
  go_loopw [11] (fun i wr => ∃ j : Nat, j ≤ 2 ∧ i = .int .i64 j ∧ Kept [] W0 wr) (fun i _ => 2 - (RowKit.intOf i).toNat)
  case atStart => exact ⟨0, by omega, rfl, Kept.refl _ _⟩
  case round =>
    obtain ⟨j, hj, rfl, hk⟩ := hrel
    by_cases hlt : j < 2
    · obtain ⟨p, hp, hN⟩ : ∃ p, wr.cell? ⟨w.heap.size + 1, j, none⟩ = some (.pointer p) ∧ NoIn wr p := by
        have hc := (hb2.kept hk (by simp)).cell j
        rcases (by omega : j = 0 ∨ j = 1) with rfl | rfl
        · exact ⟨none, hc, .inl rfl⟩
        · exact ⟨_, hc, .inr ⟨_, rfl, hb1.kept hk (by simp)⟩⟩
      have i1 : (j : Int) < 2 := by omega
      have hm1 : Hid (2 - (j + 1) < 2 - j) := by show _ < _; omega
      have qt := fun z => take_none p z wr hN
      have qa := ack_none p wr hN
      clear hb1 hb2
      go_wp2_with (first
        | (go_at_call 8; refine (qt _).mono ?_; rintro e wr ⟨rfl, rfl⟩)
        | (go_at_call 10; refine qa.mono ?_; rintro e wr ⟨rfl, rfl⟩))
      go_roundw
      case rel => exact ⟨j + 1, by omega, by go_num, hk⟩
      case measure => simpa [RowKit.intOf] using hm1.out
    · obtain rfl : j = 2 := by omega
      have q := lives_any wr
      clear hb1 hb2
      go_wp2_with (go_at_call 6; refine q.mono ?_; rintro e w1 ⟨rfl, hk1⟩)
      go_ret
      exact ⟨rfl, (k0.trans hk).trans hk1⟩
set_option maxRecDepth 100000 in
/-- InboxOnce, of more numbers than it plays -/
theorem once_early (a : Option Addr) (len cap : Nat) (w : World) (h : 300 < len) :
    Calls Try.prog 4 #[.slice a len cap] w fun e w' => e = .returned (.bool true) ∧ Kept [] w w' := by
  have i1 : (300 : Int) < (len : Int) := by omega
  have q := lives_any w
  go_enter Try.func4, Try.ntmps4
  go_wp2_with (go_at_call 6; refine q.mono ?_; rintro e w1 ⟨rfl, hk1⟩)
  go_ret
  exact ⟨rfl, hk1⟩
set_option maxRecDepth 100000 in
/-- InboxTakes, of more numbers than it plays -/
theorem takes_early (a : Option Addr) (len cap : Nat) (w : World) (h : 300 < len) :
    Calls Try.prog 3 #[.slice a len cap] w fun e w' => e = .returned (.bool true) ∧ Kept [] w w' := by
  have i1 : (300 : Int) < (len : Int) := by omega
  have q := lives_any w
  go_enter Try.func3, Try.ntmps3
  go_wp2_with (go_at_call 6; refine q.mono ?_; rintro e w1 ⟨rfl, hk1⟩)
  go_ret
  exact ⟨rfl, hk1⟩
set_option maxRecDepth 100000 in
/-- InboxOnce -/
theorem once_play (a : Option Addr) (len cap : Nat) (zs : List Int) (hl : len ≤ 300) (w : World) (hz : IntsAt w.heap.size w a len zs) :
    Calls Try.prog 4 #[.slice a len cap] w fun e w' => e = .returned (.bool true) ∧ Kept [] w w' := by
  have i0 : ¬ ((300 : Int) < (len : Int)) := by omega
  have qn := new_any w
  replace hz : Hid (IntsAt w.heap.size w a len zs) := hz
  go_enter Try.func4, Try.ntmps4
  go_wp2_with (go_at_call 7; refine qn.mono ?_; rintro e w1 ⟨rfl, h1, hs1, hk1⟩; clear qn)
  go_loopw [14, 4] (fun i v wr => ∃ j L : Nat, j ≤ len ∧ i = .int .i64 j ∧ v = .int .i64 L ∧ InAt wr w.heap.size L ∧ Kept [] w wr) (fun i _ _ => len - (RowKit.intOf i).toNat)
  case atStart => exact ⟨0, 0, by omega, rfl, rfl, h1, hk1⟩
  case round =>
    clear h1 hk1 hs1
    obtain ⟨j, L, hj, rfl, rfl, hI, hk⟩ := hrel
    by_cases hlt : j < len
    · rcases (hz.out.kept hk (Nat.le_refl _)).2 with e0 | ⟨b, off, rfl, hb, hc⟩
      · omega
      · have c1 := hc j hlt
        obtain ⟨z, hzj⟩ : ∃ z, zs[j]?.getD 0 = z := ⟨_, rfl⟩
        rw [hzj] at c1
        have i1 : (j : Int) < (len : Int) := by omega
        have hm1 : Hid (len - (j + 1) < len - j) := by show _ < _; omega
        clear hc hzj
        have q1 := take_any z wr hI
        cases ht : takeB L z with
        | false =>
          have eL : takeL L z = L := by simp [takeL, ht]
          rw [ht, eL] at q1
          have q2 := fun W (h : InAt W w.heap.size L) => ack_any W h
          have q3 := fun W (h : InAt W w.heap.size L) => take_any (L : Int) W h
          rw [takeB_last, show takeL L (L : Int) = L from by simp [takeL, takeB_last]] at q3
          clear ht eL
          go_wp2_with (first
            | (go_at_call 8; refine q1.mono ?_; rintro e w2 ⟨rfl, h2, hk2⟩; clear q1)
            | (go_at_call 10; refine (q2 _ h2).mono ?_; rintro e w2 ⟨rfl, rfl⟩; clear q2)
            | (go_at_call 8; refine (q3 _ h2).mono ?_; rintro e w3 ⟨rfl, h3, hk3⟩; clear q3))
          go_roundw
          case rel => exact ⟨j + 1, L, by omega, by go_num, rfl, h3, hk.young (hk2.trans hk3) (Nat.le_refl _)⟩
          case measure => simpa [RowKit.intOf] using hm1.out
        | true =>
          have eL : takeL L z = L + 1 := by simp [takeL, ht]
          obtain ⟨hLt, rfl⟩ := takeB_is ht
          rw [ht, eL] at q1
          have q2 := fun W (h : InAt W w.heap.size (L + 1)) => ack_any W h
          have q3 := fun W (h : InAt W w.heap.size (L + 1)) => take_any ((L + 1 : Nat) : Int) W h
          rw [takeB_last, show takeL (L + 1) ((L + 1 : Nat) : Int) = L + 1 from by simp only [takeL, takeB_last]; rfl] at q3
          rw [Int.natCast_add, Int.natCast_one] at q2 q3
          have hsub : (L : Int) + 1 - (L : Int) = 1 := by omega
          have hLi : (L : Int) < 2147483647 := by omega
          clear ht eL
          go_wp2_with (first
            | (go_at_call 8; refine q1.mono ?_; rintro e w2 ⟨rfl, h2, hk2⟩; clear q1)
            | (go_at_call 10; refine (q2 _ h2).mono ?_; rintro e w2 ⟨rfl, rfl⟩; clear q2)
            | (go_at_call 8; refine (q3 _ h2).mono ?_; rintro e w3 ⟨rfl, h3, hk3⟩; clear q3))
          go_roundw
          case rel => exact ⟨j + 1, L + 1, by omega, by go_num, by go_num, h3, hk.young (hk2.trans hk3) (Nat.le_refl _)⟩
          case measure => simpa [RowKit.intOf] using hm1.out
    · obtain rfl : j = len := by omega
      have q := lives_any wr
      go_wp2_with (go_at_call 6; refine q.mono ?_; rintro e w4 ⟨rfl, hk4⟩)
      go_ret
      exact ⟨rfl, hk.trans hk4⟩
end Go.Proofs.Ytnghfkmaadoppaa.Inbox
