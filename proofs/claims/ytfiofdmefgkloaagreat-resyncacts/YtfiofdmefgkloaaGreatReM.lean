/-
  Plain facts on a node's disk of 24 sectors at rest: its rings and its data area, what a Retire, a Told and a Put of an extent leave, and what a crash within them leaves. No program is named here.
-/
import Derived.Test.YtfiofdmefgkloaaGreatCpM
import Derived.Test.YtfiofdmefgkloaaGreatMetaB
namespace Go.Proofs.YtfiofdmefgkloaaGreat.Resync
open Math Copying

/-- A disk at rest: the boot's word b, the log's l, the bitmap's m, each ring put c times at most; the sectors of the data area. -/
structure Rest (s : Dk) (c b l m : Nat) (F : Nat → List Nat) : Prop where
  three : Three s c b l m
  size : s.size = 24
  ok : s.broken = false
  area : ∀ i, i < 16 → s.safe (spot 0 i) = F i
theorem Rest.none {s : Dk} {c b l m : Nat} {F : Nat → List Nat} (h : Rest s c b l m F) (k : Int) : s.fresh k = none := by
  obtain ⟨n, _, a⟩ := h.three.map
  exact a.none k
theorem Rest.valid {s : Dk} {c b l m : Nat} {F : Nat → List Nat} (h : Rest s c b l m F) : Valid s := by
  obtain ⟨n, _, a⟩ := h.three.map
  exact a.valid
theorem Rest.mono {s : Dk} {c c' b l m : Nat} {F : Nat → List Nat} (h : Rest s c b l m F) (hc : c ≤ c') : Rest s c' b l m F := ⟨h.three.mono hc, h.size, h.ok, h.area⟩
theorem Rest.fused {s : Dk} {c b l m : Nat} {F : Nat → List Nat} (h : Rest s c b l m F) (k : Int) (h0 : -9223372036854775808 ≤ k) (h1 : k ≤ 9223372036854775807) : Rest (Math.fused s k) c b l m F := ⟨h.three.fused k h0 h1, h.size, h.ok, h.area⟩
theorem Rest.crashed {s : Dk} {c b l m : Nat} {F : Nat → List Nat} (h : Rest s c b l m F) (mask : Nat) : Rest (Math.crashed s mask) c b l m F :=
  ⟨h.three.crashed mask, h.size, rfl, fun i hi => (crashed_safe (h.none _) mask).trans (h.area i hi)⟩
theorem Rest.map_is {s : Dk} {c b l m : Nat} {F : Nat → List Nat} (h : Rest s c b l m F) : latestY s 6 2 = m := (h.three.tells h.ok).2.2
theorem Rest.log_is {s : Dk} {c b l m : Nat} {F : Nat → List Nat} (h : Rest s c b l m F) : latestY s 2 4 = l := (h.three.tells h.ok).2.1
/-- What is read of it. -/
theorem Rest.read {s : Dk} {c b l m : Nat} {F : Nat → List Nat} (h : Rest s c b l m F) (i : Nat) (hi : i < 16) : readL s (spot 0 i) = F i := by
  have hin : inside s (spot 0 i) = true := inside_spot2 (by rw [h.size]; omega)
  unfold readL
  rw [if_pos hin, h.ok, h.none]
  exact h.area i hi
theorem Rest.img {s : Dk} {c b l m : Nat} {F : Nat → List Nat} (h : Rest s c b l m F) : imgL s = flatL F 16 := by
  have hd : dataN s = 16 := by unfold dataN; rw [h.size]
  have hg : Span.Math.good 0 (16 : Nat) (dataN s : Nat) = true := of_good (by rw [hd]; omega)
  unfold imgL gotL
  rw [hd] at hg ⊢
  rw [if_pos hg, h.ok]
  exact flatL_congr (fun i hi => h.read i (by omega))
/-- The bytes of an extent. -/
def extF (F : Nat → List Nat) (e : Nat) : List Nat := flatL (fun i => F (4 * e + i)) 4
theorem Rest.got {s : Dk} {c b l m : Nat} {F : Nat → List Nat} (h : Rest s c b l m F) {e : Nat} (he : e ≤ 3) : gotL s (4 * (e : Int)) 4 = extF F e ∧ gotE s (4 * (e : Int)) 4 = 0 := by
  have hd : dataN s = 16 := by unfold dataN; rw [h.size]
  have hg : Span.Math.good (4 * (e : Int)) 4 (dataN s : Nat) = true := of_good (by rw [hd]; omega)
  unfold gotL gotE
  rw [if_pos hg, if_pos hg, h.ok]
  refine ⟨flatL_congr (fun i hi => ?_), rfl⟩
  have hi4 : i < 4 := hi
  have := h.read (4 * e + i) (by omega)
  unfold readF
  rw [show spot (4 * (e : Int)).toNat i = spot 0 (4 * e + i) by unfold spot; omega]
  exact this
/-- The sectors behind a write of an extent. -/
def putF (F : Nat → List Nat) (e : Nat) (bs : List Nat) (i : Nat) : List Nat := if 4 * e ≤ i ∧ i < 4 * e + 4 then piece bs (i - 4 * e) else F i
theorem extF_same (F : Nat → List Nat) (e : Nat) (bs : List Nat) (hl : bs.length = 64) : extF (putF F e bs) e = bs := by
  unfold extF
  refine (flatL_congr (g := piece bs) (fun i hi => ?_)).trans (pieces (l := 4) (by omega))
  unfold putF
  rw [if_pos (by omega), show 4 * e + i - 4 * e = i by omega]
theorem extF_other (F : Nat → List Nat) {e e' : Nat} (h : e ≠ e') (bs : List Nat) : extF (putF F e bs) e' = extF F e' := by
  unfold extF
  refine flatL_congr (fun i hi => ?_)
  unfold putF
  rw [if_neg (by omega)]
theorem extF_length {F : Nat → List Nat} (h : ∀ i, (F i).length = 16) (e : Nat) : (extF F e).length = 64 := by
  have := flatL_length (f := fun i => F (4 * e + i)) (fun i => h _) 4
  exact this
/-- A put into a ring leaves the data area as it was, behind any crash. -/
theorem put_area {s : Dk} {B R n y : Nat} (h : Still s B R n y) (hB : B + R ≤ 8) (hb : s.broken = false) (hn : n + 1 < 4294967296) (z : Nat) (mask : Nat) {k : Int} (hk : 8 ≤ k) : (crashed (putS s B R z) mask).safe k = s.safe k := by
  have hne : k ≠ nextK B R n := by
    have := Nat.mod_lt (n + 1) (show 0 < R by have := h.low; omega)
    rw [nextK_is]
    omega
  by_cases f0 : s.fuse = 0
  · have e : putS s B R z = burnt s := (h.put_burnt hb hn z f0).2
    rw [e]
    exact crashed_safe (h.none k) mask
  · have e : putS s B R z = flushS (laid (done s) (nextK B R n) (record (n + 1) z)) := (h.put_wrote hb hn z f0).2
    have hfr : (laid (done s) (nextK B R n) (record (n + 1) z)).fresh k = none := (upd_other _ _ hne).trans (h.none k)
    rw [e]
    unfold flushS
    split
    · exact crashed_safe (t := burnt (laid (done s) (nextK B R n) (record (n + 1) z))) hfr mask
    · refine (crashed_safe (t := spent (done (laid (done s) (nextK B R n) (record (n + 1) z))) full) rfl mask).trans ?_
      exact settled_none (s := done (laid (done s) (nextK B R n) (record (n + 1) z))) hfr
theorem putS_size24 (s : Dk) (B R : Int) (z : Nat) : (putS s B R z).size = s.size := by
  have hf : ∀ t : Dk, (flushS t).size = t.size := fun t => by unfold flushS; split <;> rfl
  unfold putS
  split
  · split
    · rfl
    · split
      · rfl
      · unfold putsS
        split
        · rw [hf, wroteS_size]
        · rw [wroteS_size]
  · rfl
theorem map_area {s : Dk} {c b l m : Nat} {F : Nat → List Nat} (h : Rest s c b l m F) (hc : c + 1 < 4294967296) (z mask : Nat) : (mapS s z).size = 24 ∧ ∀ k : Int, 8 ≤ k → (Math.crashed (mapS s z) mask).safe k = s.safe k := by
  obtain ⟨n, hn, a⟩ := h.three.map
  unfold mapS
  rw [h.ok, h.map_is]
  simp only [Bool.false_eq_true, if_false]
  split
  · exact ⟨h.size, fun k _ => crashed_safe (h.none k) mask⟩
  · exact ⟨(putS_size24 _ _ _ _).trans h.size, fun k hk => put_area a (by omega) h.ok (by omega) z mask hk⟩
theorem log_area {s : Dk} {c b l m : Nat} {F : Nat → List Nat} (h : Rest s c b l m F) (hc : c + 1 < 4294967296) (z mask : Nat) : (logS s z).size = 24 ∧ ∀ k : Int, 8 ≤ k → (Math.crashed (logS s z) mask).safe k = s.safe k := by
  obtain ⟨n, hn, a⟩ := h.three.log
  unfold logS
  rw [h.ok, h.log_is]
  simp only [Bool.false_eq_true, if_false]
  split
  · exact ⟨h.size, fun k _ => crashed_safe (h.none k) mask⟩
  · exact ⟨(putS_size24 _ _ _ _).trans h.size, fun k hk => put_area a (by omega) h.ok (by omega) z mask hk⟩
theorem spot_high (i : Nat) : 8 ≤ spot 0 i := by
  unfold spot
  omega
/-- The bitmap's Put: it ends well, or the disk breaks, and a crash leaves the old set, or the new one. -/
theorem Rest.map {s : Dk} {c b l m : Nat} {F : Nat → List Nat} (h : Rest s c b l m F) (hc : c + 1 < 4294967296) (z : Nat) (hz : z < 18446744073709551616) :
    (mapE s z = 0 ∧ Rest (mapS s z) (c + 1) b l z F ∧ (s.fuse < 0 → (mapS s z).fuse < 0)) ∨
    (mapE s z ≠ 0 ∧ 0 ≤ s.fuse ∧ ∀ mask, ∃ m', (m' = m ∨ m' = z) ∧ Rest (Math.crashed (mapS s z) mask) (c + 1) b l m' F) := by
  have ha := fun mask => map_area h hc z mask
  by_cases hf : s.fuse < 0 ∨ 2 ≤ s.fuse
  · obtain ⟨p1, p2, p3, p4, p5⟩ := h.three.mapped h.ok hc z hz hf
    refine .inl ⟨p1, ⟨p2, (ha 0).1, p3, fun i hi => ?_⟩, fun hneg => by rw [p4 hneg]; exact hneg⟩
    have := (ha 0).2 (spot 0 i) (spot_high i)
    obtain ⟨n, _, a⟩ := p2.map
    rw [crashed_safe (a.none _)] at this
    exact this.trans (h.area i hi)
  · by_cases e : mapE s z = 0
    · -- the same set again
      have hs : mapS s z = s ∧ m = z := by
        unfold mapE at e
        unfold mapS
        rw [h.ok, h.map_is] at e ⊢
        simp only [Bool.false_eq_true, if_false] at e ⊢
        by_cases em : m = z
        · rw [if_pos em]
          exact ⟨rfl, em⟩
        · rw [if_neg em] at e
          obtain ⟨n3, c3, a3⟩ := h.three.map
          by_cases f0 : s.fuse = 0
          · have p1' : putE s 6 2 z = 3 := (a3.put_burnt h.ok (by omega) z f0).1
            rw [p1'] at e
            omega
          · have p1' : putE s 6 2 z = 3 := (a3.put_torn h.ok (by omega) z hz (by omega) 0).1
            rw [p1'] at e
            omega
      obtain ⟨hs, rfl⟩ := hs
      rw [hs]
      exact .inl ⟨e, h.mono (by omega), fun g => g⟩
    · refine .inr ⟨e, by omega, fun mask => ?_⟩
      obtain ⟨m', hm, p2, _⟩ := h.three.map_crash h.ok hc z hz (by omega) mask
      exact ⟨m', hm, p2, (ha mask).1, rfl, fun i hi => ((ha mask).2 _ (spot_high i)).trans (h.area i hi)⟩
/-- The log's Put. -/
theorem Rest.log {s : Dk} {c b l m : Nat} {F : Nat → List Nat} (h : Rest s c b l m F) (hc : c + 1 < 4294967296) (z : Nat) (hz : z < 18446744073709551616) :
    (logE s z = 0 ∧ Rest (logS s z) (c + 1) b z m F ∧ (s.fuse < 0 → (logS s z).fuse < 0)) ∨
    (logE s z ≠ 0 ∧ 0 ≤ s.fuse ∧ ∀ mask, ∃ l', (l' = l ∨ l' = z) ∧ Rest (Math.crashed (logS s z) mask) (c + 1) b l' m F) := by
  have ha := fun mask => log_area h hc z mask
  by_cases hf : s.fuse < 0 ∨ 2 ≤ s.fuse
  · obtain ⟨p1, p2, p3, p4, p5⟩ := h.three.logged h.ok hc z hz hf
    refine .inl ⟨p1, ⟨p2, (ha 0).1, p3, fun i hi => ?_⟩, fun hneg => by rw [p4 hneg]; exact hneg⟩
    have := (ha 0).2 (spot 0 i) (spot_high i)
    obtain ⟨n, _, a⟩ := p2.map
    rw [crashed_safe (a.none _)] at this
    exact this.trans (h.area i hi)
  · by_cases e : logE s z = 0
    · have hs : logS s z = s ∧ l = z := by
        unfold logE at e
        unfold logS
        rw [h.ok, h.log_is] at e ⊢
        simp only [Bool.false_eq_true, if_false] at e ⊢
        by_cases em : l = z
        · rw [if_pos em]
          exact ⟨rfl, em⟩
        · rw [if_neg em] at e
          obtain ⟨n3, c3, a3⟩ := h.three.log
          by_cases f0 : s.fuse = 0
          · have p1' : putE s 2 4 z = 3 := (a3.put_burnt h.ok (by omega) z f0).1
            rw [p1'] at e
            omega
          · have p1' : putE s 2 4 z = 3 := (a3.put_torn h.ok (by omega) z hz (by omega) 0).1
            rw [p1'] at e
            omega
      obtain ⟨hs, rfl⟩ := hs
      rw [hs]
      exact .inl ⟨e, h.mono (by omega), fun g => g⟩
    · refine .inr ⟨e, by omega, fun mask => ?_⟩
      obtain ⟨l', hl, p2, _⟩ := h.three.log_crash h.ok hc z hz (by omega) mask
      exact ⟨l', hl, p2, (ha mask).1, rfl, fun i hi => ((ha mask).2 _ (spot_high i)).trans (h.area i hi)⟩
/-- Retire, where the log is empty. -/
theorem Rest.retire {s : Dk} {c b m : Nat} {F : Nat → List Nat} (h : Rest s c b 0 m F) (hc : c + 2 < 4294967296) (z : Nat) (hz : z < 18446744073709551616) :
    (retE s z = 0 ∧ Rest (retS s z) (c + 2) b 0 z F ∧ (s.fuse < 0 → (retS s z).fuse < 0)) ∨
    (retE s z ≠ 0 ∧ 0 ≤ s.fuse ∧ ∀ mask, ∃ m', (m' = m ∨ m' = z) ∧ Rest (Math.crashed (retS s z) mask) (c + 2) b 0 m' F) := by
  unfold retE retS
  rcases h.map (by omega) z hz with ⟨a1, a2, a3⟩ | ⟨a1, a2, a3⟩
  · rw [if_pos a1, if_pos a1]
    rcases a2.log (by omega) 0 (by omega) with ⟨b1, b2, b3⟩ | ⟨b1, b2, b3⟩
    · exact .inl ⟨b1, b2, fun g => b3 (a3 g)⟩
    · refine .inr ⟨b1, ?_, fun mask => ?_⟩
      · by_cases g : s.fuse < 0
        · have := a3 g
          omega
        · omega
      · obtain ⟨l', hl, r⟩ := b3 mask
        obtain rfl : l' = 0 := by omega
        exact ⟨z, .inr rfl, r⟩
  · rw [if_neg a1, if_neg a1]
    refine .inr ⟨a1, a2, fun mask => ?_⟩
    obtain ⟨m', hm, r⟩ := a3 mask
    exact ⟨m', hm, r.mono (by omega)⟩
/-- A Clear. -/
theorem Rest.clear {s : Dk} {c b l m : Nat} {F : Nat → List Nat} (h : Rest s c b l m F) (hc : c + 1 < 4294967296) (hm : m < 18446744073709551616) (e : Int) :
    (mapE s (clearM s e) = 0 ∧ Rest (mapS s (clearM s e)) (c + 1) b l (Bits.Math.without m e) F ∧ (s.fuse < 0 → (mapS s (clearM s e)).fuse < 0)) ∨
    (mapE s (clearM s e) ≠ 0 ∧ 0 ≤ s.fuse ∧ ∀ mask, ∃ m', (m' = m ∨ m' = Bits.Math.without m e) ∧ Rest (Math.crashed (mapS s (clearM s e)) mask) (c + 1) b l m' F) := by
  have e1 : clearM s e = Bits.Math.without m e := by
    unfold clearM
    rw [h.map_is]
  rw [e1]
  exact h.map hc _ (Bits.Math.without_lt _ _ hm)
/-- What stands ahead of the data area is as it was: so are the rings, behind a crash. -/
theorem Still.ahead {s t : Dk} {B R n y : Nat} (h : Still s B R n y) (hB : B + R ≤ 8) (hv : Valid t) (hs : t.size = s.size) (hn : ∀ k, t.fresh k = none) (hr : ∀ k : Int, k < 8 → t.safe k = s.safe k) : Still t B R n y :=
  ⟨hv, hn, h.low, h.high, by rw [hs]; exact h.room, h.ring.congr (by have := h.low; omega) (fun i hi => hr _ (by omega))⟩
theorem Three.ahead {s t : Dk} {c b l m : Nat} (h : Three s c b l m) (hv : Valid t) (hs : t.size = s.size) (hn : ∀ k, t.fresh k = none) (hr : ∀ k : Int, k < 8 → t.safe k = s.safe k) : Three t c b l m := by
  obtain ⟨⟨n1, c1, a1⟩, ⟨n2, c2, a2⟩, ⟨n3, c3, a3⟩⟩ := h
  exact ⟨⟨n1, c1, Still.ahead a1 (by omega) hv hs hn hr⟩, ⟨n2, c2, Still.ahead a2 (by omega) hv hs hn hr⟩, ⟨n3, c3, Still.ahead a3 (by omega) hv hs hn hr⟩⟩
/-- Behind j writes of a row of sectors, whatever the fuse. -/
structure Laid (s t : Dk) (o : Nat) (bs : List Nat) (j : Nat) : Prop where
  safe : t.safe = s.safe
  size : t.size = s.size
  off : ∀ k : Int, (k < spot o 0 ∨ spot o j ≤ k) → t.fresh k = none
  fine : t.broken = false → (s.fuse < 0 → t.fuse < 0) ∧ (0 ≤ s.fuse → 0 ≤ t.fuse) ∧ ∀ i, i < j → t.fresh (spot o i) = some (piece bs i)
  bad : t.broken = true → 0 ≤ s.fuse
theorem laid_of {s : Dk} (hn : ∀ k, s.fresh k = none) (hb : s.broken = false) (o : Nat) (bs : List Nat) : ∀ j, 8 + o + j ≤ s.size → Laid s (wroteL s o bs (List.range j)) o bs j
  | 0, _ => ⟨rfl, rfl, fun k _ => hn k, fun _ => ⟨fun g => g, fun g => g, fun i hi => by omega⟩, fun h => by rw [show (wroteL s o bs (List.range 0)).broken = s.broken from rfl, hb] at h; exact absurd h (by decide)⟩
  | j + 1, hj => by
    have ih := laid_of hn hb o bs j (by omega)
    rw [List.range_succ, wroteL_snoc]
    generalize wroteL s o bs (List.range j) = t at *
    have hin : inside t (spot o j) = true := inside_spot2 (by rw [ih.size]; omega)
    have hoff : ∀ k : Int, (k < spot o 0 ∨ spot o (j + 1) ≤ k) → t.fresh k = none := fun k hk => ih.off k (by simp only [spot] at hk ⊢; omega)
    unfold wroteS
    rw [if_pos hin]
    by_cases hw : worn t = true
    · rw [if_pos hw]
      refine ⟨ih.safe, ih.size, hoff, fun g => absurd g (by show ¬ (true = false); decide), fun _ => ?_⟩
      by_cases htb : t.broken = true
      · exact ih.bad htb
      · have hf : t.fuse = 0 := by simpa [worn, htb] using hw
        by_cases g : s.fuse < 0
        · have := (ih.fine (by simpa using htb)).1 g
          omega
        · omega
    · rw [if_neg hw]
      have hw' : t.broken = false ∧ t.fuse ≠ 0 := by simpa [worn] using hw
      obtain ⟨a, b, c⟩ := ih.fine hw'.1
      refine ⟨ih.safe, ih.size, fun k hk => ?_, fun _ => ⟨fun g => ?_, fun g => ?_, fun i hi => ?_⟩, fun g => ?_⟩
      · show upd t.fresh (spot o j) _ k = _
        rw [upd_other _ _ (by simp only [spot] at hk ⊢; omega)]
        exact hoff k hk
      · show (if 0 < t.fuse then t.fuse - 1 else t.fuse) < 0
        have := a g
        rw [if_neg (by omega)]
        exact this
      · show 0 ≤ (if 0 < t.fuse then t.fuse - 1 else t.fuse)
        have := b g
        split <;> omega
      · show upd t.fresh (spot o j) _ (spot o i) = _
        by_cases e : i = j
        · subst e
          rw [upd_same]
        · rw [upd_other _ _ (by simp only [spot]; omega)]
          exact c i (by omega)
      · rw [show (laid (done t) (spot o j) (piece bs j)).broken = t.broken from rfl, hw'.1] at g
        exact absurd g (by decide)
/-- The steps of a Put of an extent: they end well, or the disk breaks, and a crash leaves the other extents, and of the bitmap the old set, or the new one. -/
theorem Rest.put {s : Dk} {c b l m : Nat} {F : Nat → List Nat} (h : Rest s c b l m F) (hc : c + 1 < 4294967296) (hm : m < 18446744073709551616) (e : Nat) (he : e ≤ 3) (bs : List Nat) (hl : bs.length = 64) (hbs : ∀ x ∈ bs, x < 256) :
    (doneE s e bs = 0 ∧ Rest (doneS s e bs) (c + 1) b l (Bits.Math.without m (e : Int)) (putF F e bs) ∧ (s.fuse < 0 → (doneS s e bs).fuse < 0)) ∨
    (doneE s e bs ≠ 0 ∧ 0 ≤ s.fuse ∧ ∀ mask, ∃ m' F', (m' = m ∨ m' = Bits.Math.without m (e : Int)) ∧ Rest (Math.crashed (doneS s e bs) mask) (c + 1) b l m' F') := by
  have hd : dataN s = 16 := by unfold dataN; rw [h.size]
  have hg : Span.Math.good (4 * (e : Int)) 4 (dataN s : Nat) = true := of_good (by rw [hd]; omega)
  have hto : (4 * (e : Int)).toNat = 4 * e := by omega
  have eS : areaS s (4 * (e : Int)) 4 bs = wroteL s (4 * e) bs (List.range 4) := by
    unfold areaS
    rw [if_pos hg, if_pos (by omega), hto]
    rfl
  have eE : areaE s (4 * (e : Int)) 4 bs = if (wroteL s (4 * e) bs (List.range 4)).broken then 3 else 0 := by
    unfold areaE
    rw [if_pos hg, if_pos (by omega), hto]
    rfl
  have hsz := h.size
  have R := laid_of h.none h.ok (4 * e) bs 4 (by omega)
  have hvt : Valid (wroteL s (4 * e) bs (List.range 4)) := valid_wroteL h.valid (l := 4) hbs (by omega) _ (fun i hi => by simpa using hi)
  unfold doneS doneE
  rw [eS, eE]
  generalize wroteL s (4 * e) bs (List.range 4) = t at *
  -- behind a crash of a disk whose rings are as they were
  have torn : ∀ t' : Dk, Valid t' → t'.size = s.size → t'.safe = s.safe → (∀ k : Int, k < spot (4 * e) 0 ∨ spot (4 * e) 4 ≤ k → t'.fresh k = Option.none) → ∀ mask, Rest (Math.crashed t' mask) (c + 1) b l m (fun i => (Math.crashed t' mask).safe (spot 0 i)) := fun t' v1 z1 f1 n1 mask =>
    ⟨(Three.ahead h.three (valid_crashed v1 mask) z1 (fun _ => rfl) (fun k hk => (crashed_safe (n1 k (.inl (by unfold spot; omega))) mask).trans (by rw [f1]))).mono (by omega), z1.trans hsz, rfl, fun i _ => rfl⟩
  by_cases tb : t.broken = true
  · rw [tb]
    simp only [if_true, show ¬ (3 = 0) by decide, if_false]
    exact .inr ⟨by decide, R.bad tb, fun mask => ⟨m, _, .inl rfl, torn t hvt R.size R.safe R.off mask⟩⟩
  have tb' : t.broken = false := by simpa using tb
  obtain ⟨q1, q2, q3⟩ := R.fine tb'
  rw [tb']
  simp only [Bool.false_eq_true, if_false, if_true]
  by_cases f0 : t.fuse = 0
  · obtain ⟨a, b'⟩ := flush_worn (t := t) f0
    rw [a, b']
    simp only [show ¬ (3 = 0) by decide, if_false]
    refine .inr ⟨by decide, ?_, fun mask => ⟨m, _, .inl rfl, torn (burnt t) (valid_burnt hvt) R.size R.safe R.off mask⟩⟩
    by_cases g : s.fuse < 0
    · have := q1 g
      omega
    · omega
  obtain ⟨a, b'⟩ := flush_is (t := t) tb' f0
  rw [a, b']
  simp only [if_true]
  have hvu : Valid (spent (done t) full) := valid_spent (valid_done hvt) _
  have hU : Rest (spent (done t) full) c b l m (putF F e bs) := by
    refine ⟨Three.ahead h.three hvu R.size (fun _ => rfl) (fun k hk => ?_), R.size.trans hsz, tb', fun i hi => ?_⟩
    · show settled (done t) full k = _
      rw [settled_none (s := done t) (R.off k (.inl (by unfold spot; omega)))]
      show t.safe k = _
      rw [R.safe]
    · unfold putF
      by_cases g : 4 * e ≤ i ∧ i < 4 * e + 4
      · rw [if_pos g]
        have := q3 (i - 4 * e) (by omega)
        rw [show spot (4 * e) (i - 4 * e) = spot 0 i by unfold spot; omega] at this
        exact settled_full (s := done t) this
      · rw [if_neg g]
        show settled (done t) full _ = _
        rw [settled_none (s := done t) (R.off _ (by unfold spot; omega))]
        show t.safe _ = _
        rw [R.safe]
        exact h.area i hi
  have fu : (spent (done t) full).fuse = if 0 < t.fuse then t.fuse - 1 else t.fuse := rfl
  rcases hU.clear hc hm (e : Int) with ⟨b1, b2, b3⟩ | ⟨b1, b2, b3⟩
  · refine .inl ⟨b1, b2, fun g => b3 ?_⟩
    have := q1 g
    rw [fu, if_neg (by omega)]
    exact this
  · refine .inr ⟨b1, ?_, fun mask => ?_⟩
    · by_cases g : s.fuse < 0
      · have := q1 g
        rw [fu, if_neg (by omega)] at b2
        omega
      · omega
    · obtain ⟨m', hm', r⟩ := b3 mask
      exact ⟨m', _, hm', r⟩
end Go.Proofs.YtfiofdmefgkloaaGreat.Resync
