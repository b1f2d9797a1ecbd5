import Derived.Test.YtfiofdmefgkloaaGreatSlots2
import Derived.Test.YtfiofdmefgkloaaGreatBitsMath
/-
  Plain facts on the bitmap: what a put that ends well tells, what a crash within a put leaves, what is left when all are cleared. No program is named here.
-/
namespace Go.Proofs.YtfiofdmefgkloaaGreat
open Math

/-- What a disk tells behind a put that ends well: the next number, and the word. -/
theorem put_tells {s : Dk} (h : Valid s) (base r : Int) (y : Nat) (hy : y < 18446744073709551616) (he : putE s base r y = 0) :
    latestN (putS s base r y) base r = latestN s base r + 1 ∧ latestY (putS s base r y) base r = y ∧ (putS s base r y).broken = false := by
  have hlt := latestN_lt h base r
  unfold putE at he
  by_cases hh : hasRing s base r = true
  · rw [if_pos hh] at he
    by_cases hb : s.broken = true
    · rw [if_pos hb] at he
      exact absurd he (by decide)
    rw [if_neg hb] at he
    by_cases hm : latestN s base r = 4294967295
    · rw [if_pos hm] at he
      exact absurd he (by decide)
    rw [if_neg hm] at he
    have eS : putS s base r y = putsS s (putK s base r) (putX s base r y) := by
      unfold putS
      rw [if_pos hh, if_neg hb, if_neg hm]
    unfold putsE at he
    by_cases hw : wroteE s (putK s base r) = 0
    · rw [if_pos hw] at he
      have hi : inside s (putK s base r) = true := by
        unfold wroteE at hw
        by_cases hi : inside s (putK s base r) = true
        · exact hi
        · rw [if_neg hi] at hw
          exact absurd hw (by decide)
      have hwo : ¬ (worn s = true) := by
        unfold wroteE at hw
        rw [if_pos hi] at hw
        intro g
        rw [if_pos g] at hw
        exact absurd hw (by decide)
      have eW : wroteS s (putK s base r) (putX s base r y) = laid (done s) (putK s base r) (putX s base r y) := by
        unfold wroteS
        rw [if_pos hi, if_neg hwo]
      rw [eW] at he
      have hfl : ¬ (worn (laid (done s) (putK s base r) (putX s base r y)) = true) := by
        unfold flushE at he
        intro g
        rw [if_pos g] at he
        exact absurd he (by decide)
      have e : putS s base r y = spent (done (laid (done s) (putK s base r) (putX s base r y))) full := by
        rw [eS]
        unfold putsS
        rw [if_pos hw, eW]
        unfold flushS
        rw [if_neg hfl]
      have hb' : s.broken = false := by simpa using hb
      have hb2 : (putS s base r y).broken = false := by
        rw [e]
        exact hb'
      have hsz : (putS s base r y).size = s.size := by rw [e]; rfl
      have hh' : hasRing (putS s base r y) base r = true := by
        have : hasRing (putS s base r y) base r = hasRing s base r := by
          unfold hasRing
          rw [hsz]
        rw [this]
        exact hh
      have hin : ∀ k, inside (putS s base r y) k = inside s k := fun k => by
        unfold inside
        rw [hsz]
      have hrd : ∀ k, readL (putS s base r y) k = if inside s k then settled (done (laid (done s) (putK s base r) (putX s base r y))) full k else nought := fun k => by
        unfold readL
        rw [hin, hb2, e]
        rfl
      have hrk : readL (putS s base r y) (putK s base r) = putX s base r y := by
        rw [hrd, if_pos hi]
        exact settled_full (upd_same _ _ _)
      have hro : ∀ k, k ≠ putK s base r → readL (putS s base r y) k = readL s k := fun k hk => by
        rw [hrd]
        unfold readL
        by_cases hik : inside s k = true
        · rw [if_pos hik, if_pos hik, hb']
          have hu : (done (laid (done s) (putK s base r) (putX s base r y))).fresh k = s.fresh k := upd_other _ _ hk
          cases hf : s.fresh k with
          | none => exact settled_none (hu.trans hf)
          | some x => exact settled_full (hu.trans hf)
        · rw [if_neg hik, if_neg hik]
      obtain ⟨B, rfl⟩ : ∃ B : Nat, base = B := ⟨base.toNat, by simp [hasRing] at hh; omega⟩
      obtain ⟨R, rfl⟩ : ∃ R : Nat, r = R := ⟨r.toNat, by simp [hasRing] at hh; omega⟩
      have hR : 2 ≤ R := by simp [hasRing] at hh; omega
      have hN : latestN s B R = (latest s B R).1 := by
        unfold latestN
        rw [if_pos hh]
        rfl
      have hl : IsLatest (ringOf s B) R (latestN s B R) (latest s B R).2 := by
        rw [hN]
        exact is_search (ringOf s B) R
      have hkk : putK s B R = ((B + (latestN s B R + 1) % R : Nat) : Int) := by
        unfold putK
        omega
      have hl2 := hl.put y (by omega) hy (ringOf (putS s B R y) B) (by
        show readL _ _ = _
        rw [← hkk, hrk]
        rfl) (fun i hi ne => hro _ (by rw [hkk]; omega))
      have hs := search_is (by omega) hl2
      refine ⟨?_, ?_, hb2⟩
      · show (if hasRing (putS s B R y) B R then _ else _) = _
        rw [if_pos hh']
        exact congrArg Prod.fst hs
      · show (if hasRing (putS s B R y) B R then _ else _) = _
        rw [if_pos hh']
        exact congrArg Prod.snd hs
    · rw [if_neg hw] at he
      exact absurd he hw
  · rw [if_neg hh] at he
    exact absurd he (by decide)

/-- A Put to the bitmap: its error, the disk behind it. -/
def mapE (s : Dk) (m : Nat) : Nat := if s.broken then 3 else if latestY s 6 2 = m then 0 else putE s 6 2 m
def mapS (s : Dk) (m : Nat) : Dk := if s.broken then s else if latestY s 6 2 = m then s else putS s 6 2 m
/-- A Clear: what is put, what is told. -/
def clearM (s : Dk) (e : Int) : Nat := Bits.Math.without (latestY s 6 2) e
def clearX (s : Dk) (e : Int) : Nat := if mapE s (clearM s e) = 0 then clearM s e else 0
theorem clearM_lt {s : Dk} (h : Valid s) (e : Int) : clearM s e < 18446744073709551616 := Bits.Math.without_lt _ _ (latestY_lt h 6 2)
theorem map_tells {s : Dk} (h : Valid s) (m : Nat) (hm : m < 18446744073709551616) (he : mapE s m = 0) : latestY (mapS s m) 6 2 = m := by
  unfold mapE at he
  unfold mapS
  by_cases hb : s.broken = true
  · rw [if_pos hb] at he
    exact absurd he (by decide)
  · rw [if_neg hb] at he ⊢
    by_cases hg : latestY s 6 2 = m
    · rw [if_pos hg]
      exact hg
    · rw [if_neg hg] at he ⊢
      exact (put_tells h 6 2 m hm he).2.1

/-- The same set again is no write. -/
theorem Still.map_same {s : Dk} {n y : Nat} (h : Still s 6 2 n y) (hb : s.broken = false) : mapE s y = 0 ∧ mapS s y = s := by
  have e : YtfiofdmefgkloaaGreat.latestY s 6 2 = y := h.latestY hb
  unfold mapE mapS
  rw [hb, e]
  simp
theorem Still.map_other {s : Dk} {n y m : Nat} (h : Still s 6 2 n y) (hb : s.broken = false) (hm : y ≠ m) : mapE s m = putE s 6 2 m ∧ mapS s m = putS s 6 2 m := by
  have e : YtfiofdmefgkloaaGreat.latestY s 6 2 = y := h.latestY hb
  unfold mapE mapS
  rw [hb, e, if_neg hm, if_neg hm]
  exact ⟨rfl, rfl⟩
/-- A Put that ends well. -/
theorem Still.map_ok {s : Dk} {n y : Nat} (h : Still s 6 2 n y) (hb : s.broken = false) (hn : n + 1 < 4294967296) (m : Nat) (hm : m < 18446744073709551616) (hf : s.fuse < 0 ∨ 2 ≤ s.fuse) :
    mapE s m = 0 ∧ (∃ n', n' ≤ n + 1 ∧ Still (mapS s m) 6 2 n' m) ∧ (mapS s m).broken = false ∧ (s.fuse < 0 → (mapS s m).fuse = s.fuse) ∧ (mapS s m).ops ≤ s.ops + 2 := by
  by_cases e : y = m
  · subst e
    obtain ⟨e1, e2⟩ := h.map_same hb
    rw [e1, e2]
    exact ⟨rfl, ⟨n, by omega, h⟩, hb, fun _ => rfl, by omega⟩
  · obtain ⟨e1, e2⟩ := h.map_other hb e
    obtain ⟨a1, a2, a3, a4, a5⟩ := h.put_ok hb hn m hm hf
    rw [e1, e2]
    exact ⟨a1, ⟨n + 1, Nat.le_refl _, a2⟩, a3, fun g => a4.trans (if_pos g), Nat.le_of_eq a5⟩
/-- What a crash within a Put leaves: the old set, or the new one. -/
theorem Still.map_crash {s : Dk} {n a : Nat} (h : Still s 6 2 n a) (hb : s.broken = false) (hn : n + 1 < 4294967296) (b : Nat) (hbb : b < 18446744073709551616) (hf : 0 ≤ s.fuse) (mask : Nat) :
    ∃ n' now : Nat, n' ≤ n + 1 ∧ Still (Math.crashed (mapS s b) mask) 6 2 n' now ∧ (now = a ∨ now = b) ∧ (mapS s b).ops ≤ s.ops + 2 := by
  by_cases e : a = b
  · subst e
    obtain ⟨e1, e2⟩ := h.map_same hb
    rw [e2]
    exact ⟨n, a, by omega, h.crashed mask, .inl rfl, by omega⟩
  · obtain ⟨e1, e2⟩ := h.map_other hb e
    rw [e2]
    by_cases f2 : 2 ≤ s.fuse
    · obtain ⟨a1, a2, _, _, a5⟩ := h.put_ok hb hn b hbb (.inr f2)
      exact ⟨n + 1, b, Nat.le_refl _, a2.crashed mask, .inr rfl, Nat.le_of_eq a5⟩
    · by_cases f0 : s.fuse = 0
      · obtain ⟨a1, a2⟩ := h.put_burnt hb hn b f0
        have a2' : putS s 6 2 b = Math.burnt s := a2
        rw [a2']
        exact ⟨n, a, by omega, h.burnt.crashed mask, .inl rfl, Nat.le_add_right _ _⟩
      · obtain ⟨a1, a2, a3⟩ := h.put_torn hb hn b hbb (by omega) mask
        have a3' : (putS s 6 2 b).ops = s.ops + 1 := a3
        rcases a2 with a2 | a2
        · exact ⟨n, a, by omega, a2, .inl rfl, by omega⟩
        · exact ⟨n + 1, b, Nat.le_refl _, a2, .inr rfl, by omega⟩

theorem put_ops (s : Dk) (base z : Int) (y : Nat) : (putS s base z y).ops ≤ s.ops + 2 := by
  unfold putS
  split
  · split
    · exact Nat.le_add_right _ _
    · split
      · exact Nat.le_add_right _ _
      · unfold putsS
        have h1 := wrote_ops s (putK s base z) (putX s base z y)
        split
        · unfold flushS
          split
          · show (wroteS s _ _).ops ≤ _
            omega
          · show (wroteS s _ _).ops + 1 ≤ _
            omega
        · omega
  · exact Nat.le_add_right _ _
theorem map_ops (s : Dk) (m : Nat) : (mapS s m).ops ≤ s.ops + 2 := by
  unfold mapS
  split
  · exact Nat.le_add_right _ _
  · split
    · exact Nat.le_add_right _ _
    · exact put_ops s 6 2 m

/-- What is left of a set when these numbers are taken out of it. -/
def strip (s : Nat) (l : List Nat) : Nat := l.foldl (fun a (i : Nat) => Bits.Math.without a (i : Int)) s
theorem strip_snoc (s : Nat) (l : List Nat) (i : Nat) : strip s (l ++ [i]) = Bits.Math.without (strip s l) (i : Int) := by simp [strip]
theorem strip_lt (s : Nat) (h : s < 18446744073709551616) (l : List Nat) : strip s l < 18446744073709551616 := by
  induction l generalizing s with
  | nil => exact h
  | cons i l ih => exact ih _ (Bits.Math.without_lt _ _ h)
theorem without_bit (s : Nat) (i : Nat) (hi : i < 64) (j : Nat) (hj : j < 64) : (Bits.Math.without s (i : Int)).testBit j = (s.testBit j && decide (j ≠ i)) := by
  unfold Bits.Math.without
  rw [Bits.Math.one_in (by omega) (by omega), Nat.testBit_and]
  have e : 18446744073709551615 - 2 ^ (i : Int).toNat = 2 ^ 64 - (2 ^ i + 1) := by simp
  rw [e, Nat.testBit_two_pow_sub_succ (Nat.pow_lt_pow_right (by omega) hi), Nat.testBit_two_pow]
  by_cases h : i = j
  · subst h
    simp
  · have : j ≠ i := fun g => h g.symm
    simp [h, this, hj]
theorem strip_bit (s : Nat) (l : List Nat) (hl : ∀ i ∈ l, i < 64) (j : Nat) (hj : j < 64) : (strip s l).testBit j = (s.testBit j && decide (j ∉ l)) := by
  induction l generalizing s with
  | nil => simp [strip]
  | cons i l ih =>
    have := ih (Bits.Math.without s (i : Int)) (fun x hx => hl x (by simp [hx]))
    show (strip (Bits.Math.without s (i : Int)) l).testBit j = _
    rw [this, without_bit s i (hl i (by simp)) j hj]
    by_cases h1 : j = i <;> by_cases h2 : j ∈ l <;> simp [h1, h2]
/-- Cleared one by one all are gone. -/
theorem strip_all (now mask : Nat) (h : now < 18446744073709551616) (hs : ∀ j, j < 64 → now.testBit j = true → mask.testBit j = true) : strip now (Bits.Math.elems mask) = 0 := by
  have hlt := strip_lt now h (Bits.Math.elems mask)
  apply Nat.eq_of_testBit_eq
  intro j
  rw [Nat.zero_testBit]
  by_cases hj : j < 64
  · rw [strip_bit now _ (Bits.Math.elems_lt mask) j hj]
    cases hn : now.testBit j with
    | false => rfl
    | true =>
      have := hs j hj hn
      simp [Bits.Math.elems, Bits.Math.lst, hj, this]
  · exact Nat.testBit_lt_two_pow (Nat.lt_of_lt_of_le hlt (Nat.pow_le_pow_right (n := 2) (by omega) (show 64 ≤ j by omega)))
theorem without_sub (mask : Nat) (e : Int) (j : Nat) (h : (Bits.Math.without mask e).testBit j = true) : mask.testBit j = true := by
  unfold Bits.Math.without at h
  rw [Nat.testBit_and] at h
  simp at h
  exact h.1
end Go.Proofs.YtfiofdmefgkloaaGreat

