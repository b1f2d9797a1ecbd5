/-
  Texts of ours, joined: SlotD, SlotE, Ring2, Ring3.
-/
import Derived.Test.YtpimfhchimafiaaSlots1
/-
  The walks of the document's ring: ring, Place, Latest.
-/
namespace Go.Proofs.Ytpimfhchimafiaa
open Go.RowKit Go.Maps Go.Shelf
open Math

theorem has_is {s : Dk} (hv : Valid s) {base r : Int} (h : hasRing s base r = true) : isRing base r = true := by
  have v2 := hv.top
  simp only [hasRing, isRing, Bool.and_eq_true, decide_eq_true_eq] at *
  omega

end Go.Proofs.Ytpimfhchimafiaa

/-
  The walk of the document's Put.
-/
namespace Go.Proofs.Ytpimfhchimafiaa
open Go.RowKit Go.Maps Go.Shelf
open Math

end Go.Proofs.Ytpimfhchimafiaa

/-
  Plain facts on a ring of records: what a put does, and what a crash within it leaves. No program is named here.
-/
namespace Go.Proofs.Ytpimfhchimafiaa
open Math

/-- A disk for which nothing is cached, and the latest record of its ring. -/
structure Still (s : Dk) (B R n y : Nat) : Prop where
  valid : Valid s
  none : ∀ k, s.fresh k = none
  low : 2 ≤ R
  high : R ≤ 8
  room : B + R ≤ s.size
  ring : IsLatest (fun i => s.safe ((B + i : Nat) : Int)) R n y
theorem Still.has {s : Dk} {B R n y : Nat} (h : Still s B R n y) : hasRing s B R = true := by
  have h1 := h.low
  have h2 := h.high
  have h3 := h.room
  simp [hasRing]
  omega
theorem Still.told {s : Dk} {B R n y : Nat} (h : Still s B R n y) (hb : s.broken = false) : latest s B R = (n, y) := by
  have h1 := h.low
  have h3 := h.room
  refine search_is (by omega) (h.ring.congr (by omega) (fun i hi => ?_))
  have hin : inside s ((B + i : Nat) : Int) = true := by simp [inside]; omega
  show readL s _ = _
  rw [readL, if_pos hin, hb, h.none]
  rfl
theorem Still.latestN {s : Dk} {B R n y : Nat} (h : Still s B R n y) (hb : s.broken = false) : latestN s B R = n := by
  unfold Ytpimfhchimafiaa.latestN
  rw [if_pos h.has]
  have := congrArg Prod.fst (h.told hb)
  simpa using this
theorem Still.latestY {s : Dk} {B R n y : Nat} (h : Still s B R n y) (hb : s.broken = false) : latestY s B R = y := by
  unfold Ytpimfhchimafiaa.latestY
  rw [if_pos h.has]
  have := congrArg Prod.snd (h.told hb)
  simpa using this
theorem still_made (N B R : Nat) (h1 : 1 ≤ N) (h2 : N ≤ 1024) (h3 : 2 ≤ R) (h4 : R ≤ 8) (h5 : B + R ≤ N) : Still (made N) B R 0 0 :=
  ⟨valid_made N h1 h2, fun _ => rfl, h3, h4, h5, ⟨fun i _ _ => by show num nought ≤ 0; rw [num_nought]; exact Nat.le_refl _, .inl ⟨rfl, rfl⟩⟩⟩
theorem Still.fused {s : Dk} {B R n y : Nat} (h : Still s B R n y) (k : Int) (h0 : -9223372036854775808 ≤ k) (h1 : k ≤ 9223372036854775807) : Still (fused s k) B R n y :=
  ⟨valid_fused h.valid h0 h1, h.none, h.low, h.high, h.room, h.ring⟩
/-- Nothing is cached: a crash takes nothing. -/
theorem Still.crashed {s : Dk} {B R n y : Nat} (h : Still s B R n y) (mask : Nat) : Still (crashed s mask) B R n y := by
  have e : (Math.crashed s mask).safe = s.safe := by
    funext k
    exact settled_none (h.none k)
  refine ⟨valid_crashed h.valid mask, fun _ => rfl, h.low, h.high, h.room, ?_⟩
  rw [e]
  exact h.ring
theorem Still.burnt {s : Dk} {B R n y : Nat} (h : Still s B R n y) : Still (burnt s) B R n y := ⟨valid_burnt h.valid, h.none, h.low, h.high, h.room, h.ring⟩

/-- Where the next record goes. -/
def nextK (B R n : Nat) : Int := (B : Int) + ((n + 1 : Nat) : Int) % (R : Int)
theorem nextK_is (B R n : Nat) : nextK B R n = ((B + (n + 1) % R : Nat) : Int) := by
  unfold nextK
  omega
theorem Still.nextK_in {s : Dk} {B R n y : Nat} (h : Still s B R n y) : 0 ≤ nextK B R n ∧ nextK B R n < s.size := by
  have h1 := h.low
  have h3 := h.room
  have := Nat.mod_lt (n + 1) (show 0 < R by omega)
  rw [nextK_is]
  omega
/-- The ring, with the next record in its place. -/
theorem Still.next {s : Dk} {B R n y : Nat} (h : Still s B R n y) (z : Nat) (hn : n + 1 < 4294967296) (hz : z < 18446744073709551616) (f : Int → List Nat)
    (hk : f (nextK B R n) = record (n + 1) z) (ho : ∀ k, k ≠ nextK B R n → f k = s.safe k) : IsLatest (fun i => f ((B + i : Nat) : Int)) R (n + 1) z := by
  refine h.ring.put z hn hz _ ?_ (fun i hi ne => ?_)
  · show f _ = _
    rw [← nextK_is, hk]
  · refine ho _ ?_
    rw [nextK_is]
    omega

/-- What Put comes to. -/
theorem Still.put_is {s : Dk} {B R n y : Nat} (h : Still s B R n y) (hb : s.broken = false) (hn : n + 1 < 4294967296) (z : Nat) :
    putE s B R z = putsE s (nextK B R n) (record (n + 1) z) ∧ putS s B R z = putsS s (nextK B R n) (record (n + 1) z) := by
  have e := h.latestN hb
  unfold putE putS
  rw [if_pos h.has, if_pos h.has, hb, e]
  have e2 : ¬ (n = 4294967295) := by omega
  have e3 : ¬ (false = true) := by decide
  rw [if_neg e3, if_neg e3, if_neg e2, if_neg e2]
  unfold putK putX nextK
  rw [e]
  exact ⟨rfl, rfl⟩
theorem Still.put_burnt {s : Dk} {B R n y : Nat} (h : Still s B R n y) (hb : s.broken = false) (hn : n + 1 < 4294967296) (z : Nat) (hf : s.fuse = 0) : putE s B R z = 3 ∧ putS s B R z = Math.burnt s := by
  obtain ⟨e1, e2⟩ := h.put_is hb hn z
  have hin : inside s (nextK B R n) = true := by simp [inside]; exact h.nextK_in
  have hw : worn s = true := by simp [worn, hf]
  rw [e1, e2]
  unfold putsE putsS wroteE wroteS
  rw [if_pos hin, if_pos hw, if_pos hin, if_pos hw]
  exact ⟨rfl, rfl⟩
theorem Still.put_wrote {s : Dk} {B R n y : Nat} (h : Still s B R n y) (hb : s.broken = false) (hn : n + 1 < 4294967296) (z : Nat) (hf : s.fuse ≠ 0) :
    putE s B R z = flushE (laid (done s) (nextK B R n) (record (n + 1) z)) ∧ putS s B R z = flushS (laid (done s) (nextK B R n) (record (n + 1) z)) := by
  obtain ⟨e1, e2⟩ := h.put_is hb hn z
  have hin : inside s (nextK B R n) = true := by simp [inside]; exact h.nextK_in
  have hw : ¬ (worn s = true) := by simp [worn, hf, hb]
  rw [e1, e2]
  unfold putsE putsS wroteE wroteS
  rw [if_pos hin, if_neg hw, if_pos hin, if_neg hw]
  exact ⟨rfl, rfl⟩
/-- A put that ends well. -/
theorem Still.put_ok {s : Dk} {B R n y : Nat} (h : Still s B R n y) (hb : s.broken = false) (hn : n + 1 < 4294967296) (z : Nat) (hz : z < 18446744073709551616) (hf : s.fuse < 0 ∨ 2 ≤ s.fuse) :
    putE s B R z = 0 ∧ Still (putS s B R z) B R (n + 1) z ∧ (putS s B R z).broken = false ∧ (putS s B R z).fuse = (if s.fuse < 0 then s.fuse else s.fuse - 2) ∧ (putS s B R z).ops = s.ops + 2 := by
  obtain ⟨e1, e2⟩ := h.put_wrote hb hn z (by omega)
  have hv := h.nextK_in
  have hw : ¬ (worn (laid (done s) (nextK B R n) (record (n + 1) z)) = true) := by
    simp [worn, laid, done, hb]
    omega
  rw [e1, e2]
  unfold flushE flushS
  rw [if_neg hw, if_neg hw]
  refine ⟨rfl, ⟨?_, fun _ => rfl, h.low, h.high, h.room, ?_⟩, hb, ?_, rfl⟩
  · exact valid_spent (valid_done (valid_laid (valid_done h.valid) hv.1 hv.2 (sec_record _ _))) _
  · refine h.next z hn hz _ ?_ (fun k hk => ?_)
    · exact settled_full (upd_same _ _ _)
    · exact settled_none ((upd_other _ _ hk).trans (h.none k))
  · show (if 0 < (done s).fuse then (done s).fuse - 1 else (done s).fuse) = _
    unfold done
    simp only []
    split <;> split <;> (try split) <;> omega
/-- A put whose flush is not done: a crash leaves the old word, or the new one. -/
theorem Still.put_torn {s : Dk} {B R n y : Nat} (h : Still s B R n y) (hb : s.broken = false) (hn : n + 1 < 4294967296) (z : Nat) (hz : z < 18446744073709551616) (hf : s.fuse = 1) (mask : Nat) :
    putE s B R z = 3 ∧ (Still (Math.crashed (putS s B R z) mask) B R n y ∨ Still (Math.crashed (putS s B R z) mask) B R (n + 1) z) ∧ (putS s B R z).ops = s.ops + 1 := by
  obtain ⟨e1, e2⟩ := h.put_wrote hb hn z (by omega)
  have hv := h.nextK_in
  have hw : worn (laid (done s) (nextK B R n) (record (n + 1) z)) = true := by
    simp [worn, laid, done, hf]
  rw [e1, e2]
  unfold flushE flushS
  rw [if_pos hw, if_pos hw]
  refine ⟨rfl, ?_, rfl⟩
  have hva := valid_crashed (valid_burnt (valid_laid (valid_done h.valid) hv.1 hv.2 (sec_record (n + 1) z))) mask
  have ho : ∀ k, k ≠ nextK B R n → (Math.crashed (Math.burnt (laid (done s) (nextK B R n) (record (n + 1) z))) mask).safe k = s.safe k := fun k hk =>
    settled_none ((upd_other _ _ hk).trans (h.none k))
  have hx : (Math.crashed (Math.burnt (laid (done s) (nextK B R n) (record (n + 1) z))) mask).safe (nextK B R n) = record (n + 1) z ∨ (Math.crashed (Math.burnt (laid (done s) (nextK B R n) (record (n + 1) z))) mask).safe (nextK B R n) = s.safe (nextK B R n) := by
    show settled _ _ _ = _ ∨ settled _ _ _ = _
    unfold settled
    rw [show (Math.burnt (laid (done s) (nextK B R n) (record (n + 1) z))).fresh (nextK B R n) = some (record (n + 1) z) from upd_same _ _ _]
    simp only []
    split
    · exact .inl rfl
    · exact .inr rfl
  rcases hx with hx | hx
  · right
    exact ⟨hva, fun _ => rfl, h.low, h.high, h.room, h.next z hn hz _ hx ho⟩
  · left
    refine ⟨hva, fun _ => rfl, h.low, h.high, h.room, ?_⟩
    have e : (Math.crashed (Math.burnt (laid (done s) (nextK B R n) (record (n + 1) z))) mask).safe = s.safe := by
      funext k
      by_cases hk : k = nextK B R n
      · rw [hk]
        exact hx
      · exact ho k hk
    rw [e]
    exact h.ring
end Go.Proofs.Ytpimfhchimafiaa

/-
  Plain facts on two rings of one disk: what is put into one leaves the other's latest record as it was. No program is named here.
-/
namespace Go.Proofs.Ytpimfhchimafiaa
open Math

/-- A place of one ring is none of another's. -/
theorem nextK_off {B R n i B' R' : Nat} (hR : 2 ≤ R) (hi : i < R') (hd : B' + R' ≤ B ∨ B + R ≤ B') : ((B' + i : Nat) : Int) ≠ nextK B R n := by
  have := Nat.mod_lt (n + 1) (show 0 < R by omega)
  rw [nextK_is]
  omega
/-- A put into another ring that ends well. -/
theorem Still.put_other {s : Dk} {B R n y : Nat} (h : Still s B R n y) (hb : s.broken = false) {B' R' n' y' : Nat} (h' : Still s B' R' n' y') (hn : n' + 1 < 4294967296) (z : Nat) (hf : s.fuse < 0 ∨ 2 ≤ s.fuse) (hd : B + R ≤ B' ∨ B' + R' ≤ B) :
    Still (putS s B' R' z) B R n y := by
  obtain ⟨e1, e2⟩ := h'.put_wrote hb hn z (by omega)
  have hv := h'.nextK_in
  have hw : ¬ (worn (laid (done s) (nextK B' R' n') (record (n' + 1) z)) = true) := by
    simp [worn, laid, done, hb]
    omega
  rw [e2]
  unfold flushS
  rw [if_neg hw]
  refine ⟨valid_spent (valid_done (valid_laid (valid_done h.valid) hv.1 hv.2 (sec_record _ _))) _, fun _ => rfl, h.low, h.high, h.room, ?_⟩
  refine h.ring.congr (by have := h.low; omega) (fun i hi => ?_)
  exact settled_none ((upd_other _ _ (nextK_off h'.low hi hd)).trans (h.none _))
/-- A crash within a put into another ring. -/
theorem Still.put_other_crash {s : Dk} {B R n y : Nat} (h : Still s B R n y) (hb : s.broken = false) {B' R' n' y' : Nat} (h' : Still s B' R' n' y') (hn : n' + 1 < 4294967296) (z : Nat) (hf : 0 ≤ s.fuse) (hd : B + R ≤ B' ∨ B' + R' ≤ B) (mask : Nat) :
    Still (Math.crashed (putS s B' R' z) mask) B R n y := by
  by_cases f2 : 2 ≤ s.fuse
  · exact (h.put_other hb h' hn z (.inr f2) hd).crashed mask
  · by_cases f0 : s.fuse = 0
    · rw [(h'.put_burnt hb hn z f0).2]
      exact h.burnt.crashed mask
    · obtain ⟨e1, e2⟩ := h'.put_wrote hb hn z f0
      have hv := h'.nextK_in
      have f1 : s.fuse = 1 := by omega
      have hw : worn (laid (done s) (nextK B' R' n') (record (n' + 1) z)) = true := by
        simp [worn, laid, done, f1]
      rw [e2]
      unfold flushS
      rw [if_pos hw]
      refine ⟨valid_crashed (valid_burnt (valid_laid (valid_done h.valid) hv.1 hv.2 (sec_record (n' + 1) z))) mask, fun _ => rfl, h.low, h.high, h.room, ?_⟩
      refine h.ring.congr (by have := h.low; omega) (fun i hi => ?_)
      exact settled_none ((upd_other _ _ (nextK_off h'.low hi hd)).trans (h.none _))
end Go.Proofs.Ytpimfhchimafiaa

