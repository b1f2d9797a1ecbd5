/-
  Plain facts on Start and Retire that end well, on masks, and on how many operations are spent; the walk of lives; the walks of the document's Look, Start, Retire.
-/
import Derived.Test.YtfiofdmefgkloaaGreatMetaA
namespace Go.Proofs.YtfiofdmefgkloaaGreat
open Go.RowKit Go.Maps Go.Shelf
open Math

theorem log_ops (s : Dk) (m : Nat) : (logS s m).ops ≤ s.ops + 2 := by
  have := put_ops s 2 4 m
  unfold logS
  split
  · omega
  · split
    · omega
    · omega
theorem next_ops (s : Dk) : (nextS s).ops ≤ s.ops + 2 := by
  have := put_ops s 0 2 (boot s + 1)
  unfold nextS
  split <;> omega
theorem ret_ops (s : Dk) (m : Nat) : (retS s m).ops ≤ s.ops + 4 := by
  have h1 := map_ops s m
  have h2 := log_ops (mapS s m) 0
  unfold retS
  split <;> omega
theorem Three.told {s : Dk} {c b l m : Nat} (h : Three s c b l m) (hb : s.broken = false) (h32 : b < 4294967296) : YtfiofdmefgkloaaGreat.boot s = b := by
  unfold YtfiofdmefgkloaaGreat.boot
  rw [(h.tells hb).1]
  exact Nat.mod_eq_of_lt h32
/-- A Start that ends well. -/
theorem Three.started {s : Dk} {c b l m : Nat} (h : Three s c b l m) (hb : s.broken = false) (hc : c + 1 < 4294967296) (hbb : b < 4294967295) (hf : s.fuse < 0) :
    nextE s = 0 ∧ Three (nextS s) (c + 1) (b + 1) l m ∧ (nextS s).broken = false ∧ (nextS s).fuse = s.fuse ∧ startB s = b + 1 ∧ startL s = l ∧ startD s = m := by
  obtain ⟨p1, p2, p3, p4⟩ := h.booted hb hc hbb (.inl hf)
  unfold startB startL startD
  rw [if_pos p1, if_pos p1, if_pos p1]
  exact ⟨p1, p2, p3, p4 hf, p2.told p3 (by omega), (p2.tells p3).2.1, (p2.tells p3).2.2⟩
/-- A Retire that ends well. -/
theorem Three.retired {s : Dk} {c b l m : Nat} (h : Three s c b l m) (hb : s.broken = false) (hc : c + 2 < 4294967296) (z : Nat) (hz : z < 18446744073709551616) (hf : s.fuse < 0) :
    retE s z = 0 ∧ Three (retS s z) (c + 2) b 0 z ∧ (retS s z).broken = false ∧ (retS s z).fuse = s.fuse := by
  obtain ⟨p1, p2, p3, p4, _⟩ := h.mapped hb (by omega) z hz (.inl hf)
  have f1 := p4 hf
  obtain ⟨r1, r2, r3, r4, _⟩ := p2.logged p3 (by omega) 0 (by omega) (.inl (by rw [f1]; exact hf))
  unfold retE retS
  rw [if_pos p1, if_pos p1]
  exact ⟨r1, r2, r3, (r4 (by rw [f1]; exact hf)).trans f1⟩
/-- Masks: what is all in another. -/
theorem and_of_in {x y : Nat} (h : ∀ j, x.testBit j = true → y.testBit j = true) : y &&& x = x := by
  apply Nat.eq_of_testBit_eq
  intro j
  rw [Nat.testBit_and]
  cases hx : x.testBit j with
  | false => simp
  | true => simp [h j hx]
theorem andNot_of_in {x y : Nat} (hx : x < 18446744073709551616) (hy : y < 18446744073709551616) (h : ∀ j, x.testBit j = true → y.testBit j = true) : x &&& (18446744073709551615 - y) = 0 := by
  have e := Bits.Math.and_add_andNot 64 x y hx hy
  have e1 := and_of_in h
  rw [Nat.and_comm] at e1
  rw [e1] at e
  have e2 : x + (x &&& (18446744073709551615 - y)) = x := e
  omega
theorem or_lt64 {x y : Nat} (hx : x < 18446744073709551616) (hy : y < 18446744073709551616) : x ||| y < 18446744073709551616 := Nat.or_lt_two_pow (n := 64) hx hy

set_option maxRecDepth 100000 in
set_option maxHeartbeats 1000000 in
/-- the document's Retire -/
theorem refRetire_any (r g cap : Nat) (s : Dk) (m : Nat) (hm : m < 18446744073709551616) (hops : s.ops ≤ 999996) (w : World) (h : RefAt w r g cap s) :
    Calls Tryz.prog 41 #[.pointer (some ⟨r, 0, none⟩), .int .u64 (m : Int)] w fun e w' => e = .returned (.int .i64 (retE s m : Nat)) ∧ RefAt w' r g cap (retS s m) ∧ Kept [r, g] w w' := by
  have ho := map_ops s m
  have q1 := refPut11_any r g cap s m hm (by omega) w h
  have q2 := fun W (h : RefAt W r g cap (mapS s m)) => refPut10_any r g cap (mapS s m) 0 (by decide) (by omega) W h
  unfold retE retS
  clear ho hops
  generalize logS (mapS s m) 0 = s2 at *
  generalize logE (mapS s m) 0 = e2 at *
  generalize mapS s m = s1 at *
  generalize mapE s m = e1 at *
  by_cases he : e1 = 0
  · subst he
    rw [if_pos rfl, if_pos rfl]
    go_enter Tryz.func41, Tryz.ntmps41
    go_wp2_with (first
      | (go_at_call 83; refine q1.mono ?_; rintro e w1 ⟨rfl, hD1, hk1⟩)
      | (go_at_call 84; refine (q2 _ hD1).mono ?_; rintro e w2 ⟨rfl, hD2, hk2⟩))
    go_ret
    exact ⟨rfl, hD2, hk1.trans hk2⟩
  · rw [if_neg he, if_neg he]
    have he' : ((e1 : Int) != 0) = true := by simp; omega
    go_enter Tryz.func41, Tryz.ntmps41
    go_wp2_with (first
      | (go_at_call 83; refine q1.mono ?_; rintro e w1 ⟨rfl, hD1, hk1⟩))
    go_ret
    exact ⟨rfl, hD1, hk1⟩
end Go.Proofs.YtfiofdmefgkloaaGreat
