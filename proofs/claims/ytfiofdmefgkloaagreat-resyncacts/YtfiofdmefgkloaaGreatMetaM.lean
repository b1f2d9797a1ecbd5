import Derived.Test.YtfiofdmefgkloaaGreatSlots2
import Derived.Test.YtfiofdmefgkloaaGreatSuper1
import Derived.Test.YtfiofdmefgkloaaGreatAct1
import Derived.Test.YtfiofdmefgkloaaGreatDirtyM
/-
  Plain facts on what a node knows of itself: three rings on one disk; what a Retire leaves, and a crash within it. No program is named here.
-/
namespace Go.Proofs.YtfiofdmefgkloaaGreat
open Math

/-- Three rings at rest: the boot's word b, the log's l, the bitmap's m, each put c times at most. -/
structure Three (s : Dk) (c b l m : Nat) : Prop where
  boot : ∃ n, n ≤ c ∧ Still s 0 2 n b
  log : ∃ n, n ≤ c ∧ Still s 2 4 n l
  map : ∃ n, n ≤ c ∧ Still s 6 2 n m
theorem three_made (N : Nat) (h1 : 8 ≤ N) (h2 : N ≤ 1024) : Three (made N) 0 0 0 0 :=
  ⟨⟨0, Nat.le_refl _, still_made N 0 2 (by omega) h2 (by omega) (by omega) (by omega)⟩, ⟨0, Nat.le_refl _, still_made N 2 4 (by omega) h2 (by omega) (by omega) (by omega)⟩, ⟨0, Nat.le_refl _, still_made N 6 2 (by omega) h2 (by omega) (by omega) (by omega)⟩⟩
theorem Three.mono {s : Dk} {c c' b l m : Nat} (h : Three s c b l m) (hc : c ≤ c') : Three s c' b l m := by
  obtain ⟨⟨n1, h1, a1⟩, ⟨n2, h2, a2⟩, ⟨n3, h3, a3⟩⟩ := h
  exact ⟨⟨n1, by omega, a1⟩, ⟨n2, by omega, a2⟩, ⟨n3, by omega, a3⟩⟩
theorem Three.fused {s : Dk} {c b l m : Nat} (h : Three s c b l m) (k : Int) (h0 : -9223372036854775808 ≤ k) (h1 : k ≤ 9223372036854775807) : Three (Math.fused s k) c b l m := by
  obtain ⟨⟨n1, c1, a1⟩, ⟨n2, c2, a2⟩, ⟨n3, c3, a3⟩⟩ := h
  exact ⟨⟨n1, c1, a1.fused k h0 h1⟩, ⟨n2, c2, a2.fused k h0 h1⟩, ⟨n3, c3, a3.fused k h0 h1⟩⟩
theorem Three.crashed {s : Dk} {c b l m : Nat} (h : Three s c b l m) (mask : Nat) : Three (Math.crashed s mask) c b l m := by
  obtain ⟨⟨n1, c1, a1⟩, ⟨n2, c2, a2⟩, ⟨n3, c3, a3⟩⟩ := h
  exact ⟨⟨n1, c1, a1.crashed mask⟩, ⟨n2, c2, a2.crashed mask⟩, ⟨n3, c3, a3.crashed mask⟩⟩
/-- What is told of it. -/
theorem Three.tells {s : Dk} {c b l m : Nat} (h : Three s c b l m) (hb : s.broken = false) : latestY s 0 2 = b ∧ latestY s 2 4 = l ∧ latestY s 6 2 = m := by
  obtain ⟨⟨n1, c1, a1⟩, ⟨n2, c2, a2⟩, ⟨n3, c3, a3⟩⟩ := h
  exact ⟨a1.latestY hb, a2.latestY hb, a3.latestY hb⟩
/-- The log's Put, that ends well. -/
theorem Three.logged {s : Dk} {c b l m : Nat} (h : Three s c b l m) (hb : s.broken = false) (hc : c + 1 < 4294967296) (z : Nat) (hz : z < 18446744073709551616) (hf : s.fuse < 0 ∨ 2 ≤ s.fuse) :
    logE s z = 0 ∧ Three (logS s z) (c + 1) b z m ∧ (logS s z).broken = false ∧ (s.fuse < 0 → (logS s z).fuse = s.fuse) ∧ (0 ≤ s.fuse → s.fuse - 2 ≤ (logS s z).fuse ∧ (logS s z).fuse ≤ s.fuse) := by
  have ht := (h.tells hb).2.1
  obtain ⟨⟨n1, c1, a1⟩, ⟨n2, c2, a2⟩, ⟨n3, c3, a3⟩⟩ := h
  unfold logE logS
  rw [hb, ht]
  simp only [Bool.false_eq_true, if_false]
  by_cases e : l = z
  · rw [if_pos e, if_pos e]
    subst e
    exact ⟨rfl, ⟨⟨n1, by omega, a1⟩, ⟨n2, by omega, a2⟩, ⟨n3, by omega, a3⟩⟩, hb, fun _ => rfl, fun _ => ⟨by omega, by omega⟩⟩
  · rw [if_neg e, if_neg e]
    obtain ⟨p1, p2, p3, p4, p5⟩ := a2.put_ok hb (by omega) z hz hf
    refine ⟨p1, ⟨⟨n1, by omega, a1.put_other hb a2 (by omega) z hf (by omega)⟩, ⟨n2 + 1, by omega, p2⟩, ⟨n3, by omega, a3.put_other hb a2 (by omega) z hf (by omega)⟩⟩, p3, fun hneg => p4.trans (if_pos hneg), fun hpos => ?_⟩
    have p4' : (putS s 2 4 z).fuse = s.fuse - 2 := p4.trans (if_neg (by omega))
    omega
/-- The bitmap's Put, that ends well. -/
theorem Three.mapped {s : Dk} {c b l m : Nat} (h : Three s c b l m) (hb : s.broken = false) (hc : c + 1 < 4294967296) (z : Nat) (hz : z < 18446744073709551616) (hf : s.fuse < 0 ∨ 2 ≤ s.fuse) :
    mapE s z = 0 ∧ Three (mapS s z) (c + 1) b l z ∧ (mapS s z).broken = false ∧ (s.fuse < 0 → (mapS s z).fuse = s.fuse) ∧ (0 ≤ s.fuse → s.fuse - 2 ≤ (mapS s z).fuse ∧ (mapS s z).fuse ≤ s.fuse) := by
  have ht := (h.tells hb).2.2
  obtain ⟨⟨n1, c1, a1⟩, ⟨n2, c2, a2⟩, ⟨n3, c3, a3⟩⟩ := h
  unfold mapE mapS
  rw [hb, ht]
  simp only [Bool.false_eq_true, if_false]
  by_cases e : m = z
  · rw [if_pos e, if_pos e]
    subst e
    exact ⟨rfl, ⟨⟨n1, by omega, a1⟩, ⟨n2, by omega, a2⟩, ⟨n3, by omega, a3⟩⟩, hb, fun _ => rfl, fun _ => ⟨by omega, by omega⟩⟩
  · rw [if_neg e, if_neg e]
    obtain ⟨p1, p2, p3, p4, p5⟩ := a3.put_ok hb (by omega) z hz hf
    refine ⟨p1, ⟨⟨n1, by omega, a1.put_other hb a3 (by omega) z hf (by omega)⟩, ⟨n2, by omega, a2.put_other hb a3 (by omega) z hf (by omega)⟩, ⟨n3 + 1, by omega, p2⟩⟩, p3, fun hneg => p4.trans (if_pos hneg), fun hpos => ?_⟩
    have p4' : (putS s 6 2 z).fuse = s.fuse - 2 := p4.trans (if_neg (by omega))
    omega
/-- A start, that ends well. -/
theorem Three.booted {s : Dk} {c b l m : Nat} (h : Three s c b l m) (hb : s.broken = false) (hc : c + 1 < 4294967296) (hbb : b < 4294967295) (hf : s.fuse < 0 ∨ 2 ≤ s.fuse) :
    nextE s = 0 ∧ Three (nextS s) (c + 1) (b + 1) l m ∧ (nextS s).broken = false ∧ (s.fuse < 0 → (nextS s).fuse = s.fuse) := by
  have ht := (h.tells hb).1
  obtain ⟨⟨n1, c1, a1⟩, ⟨n2, c2, a2⟩, ⟨n3, c3, a3⟩⟩ := h
  have hbo : YtfiofdmefgkloaaGreat.boot s = b := by unfold YtfiofdmefgkloaaGreat.boot; rw [ht]; omega
  unfold nextE nextS
  rw [hbo, if_neg (by omega), if_neg (by omega)]
  obtain ⟨p1, p2, p3, p4, p5⟩ := a1.put_ok hb (by omega) (b + 1) (by omega) hf
  exact ⟨p1, ⟨⟨n1 + 1, by omega, p2⟩, ⟨n2, by omega, a2.put_other hb a1 (by omega) (b + 1) hf (by omega)⟩, ⟨n3, by omega, a3.put_other hb a1 (by omega) (b + 1) hf (by omega)⟩⟩, p3, fun hneg => p4.trans (if_pos hneg)⟩
/-- A crash within the log's Put, wherever. -/
theorem Three.log_crash {s : Dk} {c b l m : Nat} (h : Three s c b l m) (hb : s.broken = false) (hc : c + 1 < 4294967296) (z : Nat) (hz : z < 18446744073709551616) (hf : 0 ≤ s.fuse) (mask : Nat) :
    ∃ l', (l' = l ∨ l' = z) ∧ Three (Math.crashed (logS s z) mask) (c + 1) b l' m ∧ (logE s z = 0 → l' = z) := by
  by_cases f2 : 2 ≤ s.fuse
  · obtain ⟨p1, p2, _⟩ := h.logged hb hc z hz (.inr f2)
    exact ⟨z, .inr rfl, p2.crashed mask, fun _ => rfl⟩
  have ht := (h.tells hb).2.1
  obtain ⟨⟨n1, c1, a1⟩, ⟨n2, c2, a2⟩, ⟨n3, c3, a3⟩⟩ := id h
  unfold logE logS
  rw [hb, ht]
  simp only [Bool.false_eq_true, if_false]
  by_cases e : l = z
  · rw [if_pos e, if_pos e]
    exact ⟨z, .inr rfl, (by subst e; exact (h.crashed mask).mono (by omega)), fun _ => rfl⟩
  · rw [if_neg e, if_neg e]
    have k1 := a1.put_other_crash hb a2 (by omega) z hf (by omega) mask
    have k3 := a3.put_other_crash hb a2 (by omega) z hf (by omega) mask
    by_cases f0 : s.fuse = 0
    · obtain ⟨p1, p2⟩ := a2.put_burnt hb (by omega) z f0
      have p2' : putS s 2 4 z = Math.burnt s := p2
      have p1' : putE s 2 4 z = 3 := p1
      refine ⟨l, .inl rfl, ⟨⟨n1, by omega, k1⟩, ⟨n2, by omega, ?_⟩, ⟨n3, by omega, k3⟩⟩, fun he => by rw [p1'] at he; omega⟩
      rw [p2']
      exact a2.burnt.crashed mask
    · obtain ⟨p1, p2, _⟩ := a2.put_torn hb (by omega) z hz (by omega) mask
      have p1' : putE s 2 4 z = 3 := p1
      rcases p2 with p2 | p2
      · exact ⟨l, .inl rfl, ⟨⟨n1, by omega, k1⟩, ⟨n2, by omega, p2⟩, ⟨n3, by omega, k3⟩⟩, fun he => by rw [p1'] at he; omega⟩
      · exact ⟨z, .inr rfl, ⟨⟨n1, by omega, k1⟩, ⟨n2 + 1, by omega, p2⟩, ⟨n3, by omega, k3⟩⟩, fun _ => rfl⟩
/-- A crash within the bitmap's Put that did not end well, wherever. -/
theorem Three.map_crash {s : Dk} {c b l m : Nat} (h : Three s c b l m) (hb : s.broken = false) (hc : c + 1 < 4294967296) (z : Nat) (hz : z < 18446744073709551616) (hf : 0 ≤ s.fuse) (mask : Nat) :
    ∃ m', (m' = m ∨ m' = z) ∧ Three (Math.crashed (mapS s z) mask) (c + 1) b l m' ∧ (mapE s z = 0 → m' = z) := by
  by_cases f2 : 2 ≤ s.fuse
  · obtain ⟨p1, p2, _⟩ := h.mapped hb hc z hz (.inr f2)
    exact ⟨z, .inr rfl, p2.crashed mask, fun _ => rfl⟩
  have ht := (h.tells hb).2.2
  obtain ⟨⟨n1, c1, a1⟩, ⟨n2, c2, a2⟩, ⟨n3, c3, a3⟩⟩ := id h
  unfold mapE mapS
  rw [hb, ht]
  simp only [Bool.false_eq_true, if_false]
  by_cases e : m = z
  · rw [if_pos e, if_pos e]
    exact ⟨z, .inr rfl, (by subst e; exact (h.crashed mask).mono (by omega)), fun _ => rfl⟩
  · rw [if_neg e, if_neg e]
    have k1 := a1.put_other_crash hb a3 (by omega) z hf (by omega) mask
    have k2 := a2.put_other_crash hb a3 (by omega) z hf (by omega) mask
    by_cases f0 : s.fuse = 0
    · obtain ⟨p1, p2⟩ := a3.put_burnt hb (by omega) z f0
      have p2' : putS s 6 2 z = Math.burnt s := p2
      have p1' : putE s 6 2 z = 3 := p1
      refine ⟨m, .inl rfl, ⟨⟨n1, by omega, k1⟩, ⟨n2, by omega, k2⟩, ⟨n3, by omega, ?_⟩⟩, fun he => by rw [p1'] at he; omega⟩
      rw [p2']
      exact a3.burnt.crashed mask
    · obtain ⟨p1, p2, _⟩ := a3.put_torn hb (by omega) z hz (by omega) mask
      have p1' : putE s 6 2 z = 3 := p1
      rcases p2 with p2 | p2
      · exact ⟨m, .inl rfl, ⟨⟨n1, by omega, k1⟩, ⟨n2, by omega, k2⟩, ⟨n3, by omega, p2⟩⟩, fun he => by rw [p1'] at he; omega⟩
      · exact ⟨z, .inr rfl, ⟨⟨n1, by omega, k1⟩, ⟨n2, by omega, k2⟩, ⟨n3 + 1, by omega, p2⟩⟩, fun _ => rfl⟩

/-- Retire: the bitmap's Put, then the log's of nothing. -/
def retE (s : Dk) (z : Nat) : Nat := if mapE s z = 0 then logE (mapS s z) 0 else mapE s z
def retS (s : Dk) (z : Nat) : Dk := if mapE s z = 0 then logS (mapS s z) 0 else mapS s z
/-- What a crash within a Retire leaves, wherever it falls. -/
theorem Three.retire_crash {s : Dk} {c b l m : Nat} (h : Three s c b l m) (hb : s.broken = false) (hc : c + 2 < 4294967296) (z : Nat) (hz : z < 18446744073709551616) (hf : 0 ≤ s.fuse) (mask : Nat) :
    ∃ l' m', Three (Math.crashed (retS s z) mask) (c + 2) b l' m' ∧ ((l' = l ∧ (m' = m ∨ m' = z)) ∨ (l' = 0 ∧ m' = z)) ∧ (retE s z = 0 → l' = 0 ∧ m' = z) ∧ (4 ≤ s.fuse → retE s z = 0) := by
  unfold retE retS
  by_cases e : mapE s z = 0
  · rw [if_pos e, if_pos e]
    -- the bitmap's Put ended well: either it was done with two operations, or it was none
    have hmid : ∃ f, Three (mapS s z) (c + 1) b l z ∧ (mapS s z).broken = false ∧ (mapS s z).fuse = f ∧ 0 ≤ f ∧ (4 ≤ s.fuse → 2 ≤ f) := by
      by_cases f2 : 2 ≤ s.fuse
      · obtain ⟨_, p2, p3, _, p5⟩ := h.mapped hb (by omega) z hz (.inr f2)
        have := p5 hf
        exact ⟨_, p2, p3, rfl, by omega, by omega⟩
      · have ht := (h.tells hb).2.2
        have hs : mapS s z = s := by
          unfold mapE at e
          unfold mapS
          rw [hb, ht] at e ⊢
          simp only [Bool.false_eq_true, if_false] at e ⊢
          by_cases em : m = z
          · rw [if_pos em]
          · rw [if_neg em] at e
            obtain ⟨n3, c3, a3⟩ := h.map
            by_cases f0 : s.fuse = 0
            · have p1' : putE s 6 2 z = 3 := (a3.put_burnt hb (by omega) z f0).1
              rw [p1'] at e
              omega
            · have p1' : putE s 6 2 z = 3 := (a3.put_torn hb (by omega) z hz (by omega) 0).1
              rw [p1'] at e
              omega
        have hm : m = z := by
          unfold mapE at e
          rw [hb, ht] at e
          simp only [Bool.false_eq_true, if_false] at e
          by_cases em : m = z
          · exact em
          · rw [if_neg em] at e
            obtain ⟨n3, c3, a3⟩ := h.map
            by_cases f0 : s.fuse = 0
            · have p1' : putE s 6 2 z = 3 := (a3.put_burnt hb (by omega) z f0).1
              rw [p1'] at e
              omega
            · have p1' : putE s 6 2 z = 3 := (a3.put_torn hb (by omega) z hz (by omega) 0).1
              rw [p1'] at e
              omega
        rw [hs]
        subst hm
        exact ⟨_, h.mono (by omega), hb, rfl, hf, by omega⟩
    obtain ⟨f, q2, q3, rfl, q4, q5⟩ := hmid
    obtain ⟨l', hl', r2, r3⟩ := q2.log_crash q3 (by omega) 0 (by omega) q4 mask
    refine ⟨l', z, r2, ?_, fun he => ⟨r3 he, rfl⟩, fun h4 => ?_⟩
    · rcases hl' with rfl | rfl
      · exact .inl ⟨rfl, .inr rfl⟩
      · exact .inr ⟨rfl, rfl⟩
    · exact (q2.logged q3 (by omega) 0 (by omega) (.inr (q5 h4))).1
  · rw [if_neg e, if_neg e]
    obtain ⟨m', hm', r2, _⟩ := h.map_crash hb (by omega) z hz hf mask
    refine ⟨l, m', r2.mono (by omega), .inl ⟨rfl, hm'⟩, fun he => absurd he e, fun h4 => absurd (h.mapped hb (by omega) z hz (.inr (by omega))).1 e⟩
/-- P13.3: where the mask has all that may be unlike, nothing of it is lost, and nothing else comes. -/
theorem retire_keeps {l m z l' m' : Nat} (h : (l' = l ∧ (m' = m ∨ m' = z)) ∨ (l' = 0 ∧ m' = z)) (hz : ∀ j, (l ||| m).testBit j = true → z.testBit j = true) :
    (∀ j, (l ||| m).testBit j = true → (l' ||| m').testBit j = true) ∧ ∀ j, (l' ||| m').testBit j = true → (l ||| m).testBit j = true ∨ z.testBit j = true := by
  rcases h with ⟨rfl, rfl | rfl⟩ | ⟨rfl, rfl⟩
  · exact ⟨fun j hj => hj, fun j hj => .inl hj⟩
  · refine ⟨fun j hj => ?_, fun j hj => ?_⟩
    · have := hz j hj
      simp [Nat.testBit_or, this]
    · simp only [Nat.testBit_or, Bool.or_eq_true] at hj ⊢
      rcases hj with hj | hj
      · exact .inl (.inl hj)
      · exact .inr hj
  · refine ⟨fun j hj => ?_, fun j hj => ?_⟩
    · have := hz j hj
      simp [this]
    · simp only [Nat.testBit_or, Bool.or_eq_true, Nat.zero_testBit, Bool.false_eq_true, false_or] at hj
      exact .inr hj
end Go.Proofs.YtfiofdmefgkloaaGreat

