/-
  Plain facts on Start and Retire that end well, on masks, and on how many operations are spent; the walk of lives; the walks of the document's Look, Start, Retire.
-/
import Derived.Test.YtpimfhchimafiaaMetaA
namespace Go.Proofs.Ytpimfhchimafiaa
open Go.RowKit Go.Maps Go.Shelf
open Math

theorem log_ops (s : Dk) (m : Nat) : (logS s m).ops ≤ s.ops + 2 := by
  have := put_ops s 2 4 m
  unfold logS
  split
  · omega
  · split
    · omega
    · omega
theorem next_ops (s : Dk) : (nextS s).ops ≤ s.ops + 2 := by
  have := put_ops s 0 2 (boot s + 1)
  unfold nextS
  split <;> omega
theorem ret_ops (s : Dk) (m : Nat) : (retS s m).ops ≤ s.ops + 4 := by
  have h1 := map_ops s m
  have h2 := log_ops (mapS s m) 0
  unfold retS
  split <;> omega
theorem Three.told {s : Dk} {c b l m : Nat} (h : Three s c b l m) (hb : s.broken = false) (h32 : b < 4294967296) : Ytpimfhchimafiaa.boot s = b := by
  unfold Ytpimfhchimafiaa.boot
  rw [(h.tells hb).1]
  exact Nat.mod_eq_of_lt h32
/-- A Start that ends well. -/
theorem Three.started {s : Dk} {c b l m : Nat} (h : Three s c b l m) (hb : s.broken = false) (hc : c + 1 < 4294967296) (hbb : b < 4294967295) (hf : s.fuse < 0) :
    nextE s = 0 ∧ Three (nextS s) (c + 1) (b + 1) l m ∧ (nextS s).broken = false ∧ (nextS s).fuse = s.fuse ∧ startB s = b + 1 ∧ startL s = l ∧ startD s = m := by
  obtain ⟨p1, p2, p3, p4⟩ := h.booted hb hc hbb (.inl hf)
  unfold startB startL startD
  rw [if_pos p1, if_pos p1, if_pos p1]
  exact ⟨p1, p2, p3, p4 hf, p2.told p3 (by omega), (p2.tells p3).2.1, (p2.tells p3).2.2⟩
/-- A Retire that ends well. -/
theorem Three.retired {s : Dk} {c b l m : Nat} (h : Three s c b l m) (hb : s.broken = false) (hc : c + 2 < 4294967296) (z : Nat) (hz : z < 18446744073709551616) (hf : s.fuse < 0) :
    retE s z = 0 ∧ Three (retS s z) (c + 2) b 0 z ∧ (retS s z).broken = false ∧ (retS s z).fuse = s.fuse := by
  obtain ⟨p1, p2, p3, p4, _⟩ := h.mapped hb (by omega) z hz (.inl hf)
  have f1 := p4 hf
  obtain ⟨r1, r2, r3, r4, _⟩ := p2.logged p3 (by omega) 0 (by omega) (.inl (by rw [f1]; exact hf))
  unfold retE retS
  rw [if_pos p1, if_pos p1]
  exact ⟨r1, r2, r3, (r4 (by rw [f1]; exact hf)).trans f1⟩
/-- Masks: what is all in another. -/
theorem and_of_in {x y : Nat} (h : ∀ j, x.testBit j = true → y.testBit j = true) : y &&& x = x := by
  apply Nat.eq_of_testBit_eq
  intro j
  rw [Nat.testBit_and]
  cases hx : x.testBit j with
  | false => simp
  | true => simp [h j hx]
theorem andNot_of_in {x y : Nat} (hx : x < 18446744073709551616) (hy : y < 18446744073709551616) (h : ∀ j, x.testBit j = true → y.testBit j = true) : x &&& (18446744073709551615 - y) = 0 := by
  have e := Bits.Math.and_add_andNot 64 x y hx hy
  have e1 := and_of_in h
  rw [Nat.and_comm] at e1
  rw [e1] at e
  have e2 : x + (x &&& (18446744073709551615 - y)) = x := e
  omega
theorem or_lt64 {x y : Nat} (hx : x < 18446744073709551616) (hy : y < 18446744073709551616) : x ||| y < 18446744073709551616 := Nat.or_lt_two_pow (n := 64) hx hy

set_option maxRecDepth 100000 in
set_option maxHeartbeats 1000000 in
/-- lives -/
theorem metaLives_any (w : World) : Calls Try.prog 5 #[] w fun e w' => e = .returned (.bool true) ∧ Kept [] w w' := by
  have q1 := new_any 12 (by decide) (by decide) w
  obtain ⟨a1, a2, a3, a4, a5, a6, a7⟩ := (three_made 12 (by decide) (by decide)).started rfl (by decide) (by decide) (by decide)
  have q2 := fun W (h : DiskAt W (w.heap.size + 2) w.heap.size (w.heap.size + 1) (made 12)) => start_any _ _ _ (made 12) (by decide) W h
  rw [a1, a5, a6, a7] at q2
  have o1 : (nextS (made 12)).ops ≤ 2 := next_ops (made 12)
  have f1 : (nextS (made 12)).fuse = -1 := a4
  clear a1 a4 a5 a6 a7
  generalize nextS (made 12) = s1 at *
  obtain ⟨b1, b2, b3, _⟩ := a2.retired a3 (by decide) 7 (by decide) (by rw [f1]; decide)
  have q3 := fun W (h : DiskAt W (w.heap.size + 2) w.heap.size (w.heap.size + 1) s1) => retire_any _ _ _ s1 7 (by decide) (by omega) W h
  rw [b1] at q3
  clear b1 a2 a3 o1 f1
  generalize retS s1 7 = s2 at *
  have q4 := fun W (h : DiskAt W (w.heap.size + 2) w.heap.size (w.heap.size + 1) s2) => look_any _ _ _ s2 W h
  rw [b2.told b3 (by decide), (b2.tells b3).2.1, (b2.tells b3).2.2] at q4
  clear b2 b3
  have q5 := fun W => mine_any 0 3 4 (by decide) (by decide) W
  have q6 := fun W => same_meta 1 0 7 W
  go_enter Try.func5, Try.ntmps5
  go_wp2_with (first
    | (go_at_call 6; refine q1.mono ?_; rintro e w1 ⟨rfl, hD1, hk1⟩; have hlt := hD1.lt)
    | (go_at_call 7; refine (q2 _ hD1).mono ?_; rintro e w2 ⟨rfl, hD2, hk2⟩; have hka := kept_alloc [] w2 (.cells #[.int .u32 1, .int .u64 0, .int .u64 0] 32); have hb2 := blk_new w2 32 #[.int .u32 1, .int .u64 0, .int .u64 0]; have hsz := hk2.size)
    | (go_at_call 11; refine (q3 _ (hD2.kept hka (by simp) (by simp) (by simp))).mono ?_; rintro e w3 ⟨rfl, hD3, hk3⟩; have c3 := (hb2.kept hk3 (by simp; omega)).cell 0; simp at c3)
    | (go_at_call 13; refine (q4 _ hD3).mono ?_; rintro e w4 ⟨rfl, hk4⟩)
    | (go_at_call 14; refine (q5 _).mono ?_; rintro e w5 ⟨rfl, hk5⟩))
  go_ret
  exact ⟨rfl, ((((hk1.young3 hk2 (by omega) (by omega) (by omega)).trans hka).young3 hk3 (by omega) (by omega) (by omega)).trans hk4).trans hk5⟩

end Go.Proofs.Ytpimfhchimafiaa
