import Derived.Test.YtfiofdmefgkloaaGreatDirtyM
import Derived.Test.YtfiofdmefgkloaaGreatDataM
/-
  Plain facts on an extent that is put: what the steps turn, and what a crash within them leaves. No program is named here.
-/
namespace Go.Proofs.YtfiofdmefgkloaaGreat.Copying
open Math

/-- Nothing is cached, and the disk is not broken: what the ring tells is what is durable. -/
theorem still_of {s : Dk} (hv : Valid s) (hn : ∀ k, s.fresh k = none) (hb : s.broken = false) (hr : 8 ≤ s.size) : Still s 6 2 (latestN s 6 2) (latestY s 6 2) := by
  have hh : hasRing s 6 2 = true := by
    simp [hasRing]
    omega
  refine ⟨hv, hn, by omega, by omega, by omega, ?_⟩
  unfold latestN latestY
  rw [if_pos hh, if_pos hh]
  refine (is_search (ringOf s (6 : Int).toNat) (2 : Int).toNat).congr (by decide) (fun i hi => ?_)
  have hi' : i < 2 := hi
  have hin : inside s ((6 + i : Nat) : Int) = true := by
    simp [inside]
    omega
  show s.safe ((6 + i : Nat) : Int) = readL s ((6 + i : Nat) : Int)
  rw [readL, if_pos hin, hb, hn]
  rfl
theorem inside_spot2 {s : Dk} {o i : Nat} (h : 8 + o + i < s.size) : inside s (spot o i) = true := by
  unfold inside spot
  rw [Bool.and_eq_true, decide_eq_true_iff, decide_eq_true_iff]
  omega
/-- A disk behind j writes of a row of sectors, of which it had none cached. -/
structure Rows (s t : Dk) (o : Nat) (bs : List Nat) (j : Nat) : Prop where
  safe : t.safe = s.safe
  size : t.size = s.size
  off : ∀ k : Int, k < 8 → t.fresh k = none
  fine : (j : Int) ≤ s.fuse → t.broken = false ∧ t.fuse = s.fuse - j ∧ ∀ i, i < j → t.fresh (spot o i) = some (piece bs i)
  bad : s.fuse < j → t.broken = true
theorem rows_of {s : Dk} (hn : ∀ k, s.fresh k = none) (hb : s.broken = false) (hf : 0 ≤ s.fuse) (o : Nat) (bs : List Nat) : ∀ j, 8 + o + j ≤ s.size → Rows s (wroteL s o bs (List.range j)) o bs j
  | 0, _ => ⟨rfl, rfl, fun k _ => hn k, fun _ => ⟨hb, by show s.fuse = _; omega, fun i hi => by omega⟩, fun h => by omega⟩
  | j + 1, hj => by
    have ih := rows_of hn hb hf o bs j (by omega)
    rw [List.range_succ, wroteL_snoc]
    generalize wroteL s o bs (List.range j) = t at *
    have hin : inside t (spot o j) = true := inside_spot2 (by rw [ih.size]; omega)
    unfold wroteS
    rw [if_pos hin]
    by_cases h1 : s.fuse < j
    · have hw : worn t = true := by simp [worn, ih.bad h1]
      rw [if_pos hw]
      exact ⟨ih.safe, ih.size, ih.off, fun h => by omega, fun _ => rfl⟩
    · obtain ⟨a, b, c⟩ := ih.fine (by omega)
      by_cases h2 : s.fuse = j
      · have hw : worn t = true := by simp [worn, b, h2]
        rw [if_pos hw]
        exact ⟨ih.safe, ih.size, ih.off, fun h => by omega, fun _ => rfl⟩
      · have hw : ¬ worn t = true := by simp [worn, a, b]; omega
        rw [if_neg hw]
        refine ⟨ih.safe, ih.size, fun k hk => ?_, fun h => ⟨a, ?_, fun i hi => ?_⟩, fun h => by omega⟩
        · show upd t.fresh (spot o j) _ k = _
          rw [upd_other _ _ (by simp only [spot]; omega)]
          exact ih.off k hk
        · show (if 0 < t.fuse then t.fuse - 1 else t.fuse) = _
          rw [b, if_pos (by omega)]
          omega
        · show upd t.fresh (spot o j) _ (spot o i) = _
          by_cases e : i = j
          · subst e
            rw [upd_same]
          · rw [upd_other _ _ (by simp only [spot]; omega)]
            exact c i (by omega)
/-- What a crash leaves of sectors for which nothing was cached. -/
theorem crashed_safe {t : Dk} {k : Int} (h : t.fresh k = none) (mask : Nat) : (crashed t mask).safe k = t.safe k := settled_none h
/-- The ring is as it was behind a crash, when nothing of it was cached. -/
theorem ring_crash {s t : Dk} {n y : Nat} (h : Still s 6 2 n y) (hv : Valid t) (e1 : t.safe = s.safe) (e2 : t.size = s.size) (e3 : ∀ k : Int, k < 8 → t.fresh k = none) (mask : Nat) : Still (crashed t mask) 6 2 n y := by
  refine ⟨valid_crashed hv mask, fun _ => rfl, by omega, by omega, by have := h.room; show 6 + 2 ≤ t.size; omega, ?_⟩
  refine h.ring.congr (by omega) (fun i hi => ?_)
  rw [crashed_safe (e3 _ (by omega)), e1]
/-- Behind a flush. -/
theorem flush_is {t : Dk} (hb : t.broken = false) (hf : t.fuse ≠ 0) : flushE t = 0 ∧ flushS t = spent (done t) full := by
  have hw : ¬ worn t = true := by simp [worn, hb, hf]
  unfold flushE flushS
  rw [if_neg hw, if_neg hw]
  exact ⟨rfl, rfl⟩
theorem flush_worn {t : Dk} (hf : t.fuse = 0) : flushE t = 3 ∧ flushS t = burnt t := by
  have hw : worn t = true := by simp [worn, hf]
  unfold flushE flushS
  rw [if_pos hw, if_pos hw]
  exact ⟨rfl, rfl⟩
/-- Sectors that hold those bytes, durably. -/
def Holds (s : Dk) (o : Nat) (bs : List Nat) (l : Nat) : Prop := ∀ i, i < l → s.safe (spot o i) = piece bs i
theorem pieces {bs : List Nat} : ∀ {l : Nat}, bs.length = 16 * l → flatL (piece bs) l = bs := fun {l} h => by
  have h2 : ∀ k, k ≤ l → flatL (piece bs) k = bs.take (16 * k) := fun k => by
    induction k with
    | zero => intro _; simp [flatL]
    | succ k ih =>
      intro hk
      rw [flatL, ih (by omega), piece, show 16 * (k + 1) = 16 * k + 16 by omega, List.take_add]
  rw [h2 l (Nat.le_refl _), ← h, List.take_length]
theorem flatL_congr {f g : Nat → List Nat} : ∀ {l : Nat}, (∀ i, i < l → f i = g i) → flatL f l = flatL g l
  | 0, _ => rfl
  | l + 1, h => by rw [flatL, flatL, flatL_congr (fun i hi => h i (by omega)), h l (by omega)]
theorem Holds.got {s : Dk} {o l : Nat} {bs : List Nat} (h : Holds s o bs l) (hb : s.broken = false) (hn : ∀ k, s.fresh k = none) (hl : bs.length = 16 * l) (h1 : 1 ≤ l) (hr : 8 + o + l ≤ s.size) (ht : s.size ≤ 1024) : gotL s o l = bs ∧ gotE s o l = 0 := by
  have hg : Span.Math.good (o : Int) (l : Int) (dataN s : Nat) = true := of_good (by unfold dataN; omega)
  unfold gotL gotE
  rw [if_pos hg, if_pos hg, hb]
  refine ⟨?_, rfl⟩
  show flatL (readF s (o : Int).toNat) (l : Int).toNat = bs
  rw [Int.toNat_natCast, Int.toNat_natCast]
  refine (flatL_congr (fun i hi => ?_)).trans (pieces hl)
  have hin : inside s (spot o i) = true := inside_spot2 (by omega)
  unfold readF readL
  rw [if_pos hin, hb, hn]
  exact h i hi
/-- A put into the ring leaves the other sectors as they were, behind any crash. -/
theorem put_beyond {s : Dk} {n y : Nat} (h : Still s 6 2 n y) (hb : s.broken = false) (hn : n + 1 < 4294967296) (z : Nat) (mask : Nat) {k : Int} (hk : 8 ≤ k) : (crashed (putS s 6 2 z) mask).safe k = s.safe k := by
  have hne : k ≠ nextK 6 2 n := by
    rw [nextK_is]
    omega
  by_cases f0 : s.fuse = 0
  · have e : putS s 6 2 z = burnt s := (h.put_burnt hb hn z f0).2
    rw [e]
    exact crashed_safe (h.none k) mask
  · have e : putS s 6 2 z = flushS (laid (done s) (nextK 6 2 n) (record (n + 1) z)) := (h.put_wrote hb hn z f0).2
    have hfr : (laid (done s) (nextK 6 2 n) (record (n + 1) z)).fresh k = none := (upd_other _ _ hne).trans (h.none k)
    rw [e]
    unfold flushS
    split
    · exact crashed_safe (t := burnt (laid (done s) (nextK 6 2 n) (record (n + 1) z))) hfr mask
    · refine (crashed_safe (t := spent (done (laid (done s) (nextK 6 2 n) (record (n + 1) z))) full) rfl mask).trans ?_
      exact settled_none (s := done (laid (done s) (nextK 6 2 n) (record (n + 1) z))) hfr
theorem put_size (s : Dk) (z : Nat) : (putS s 6 2 z).size = s.size := by
  have hf : ∀ t : Dk, (flushS t).size = t.size := fun t => by unfold flushS; split <;> rfl
  unfold putS
  split
  · split
    · rfl
    · split
      · rfl
      · unfold putsS
        split
        · rw [hf, wroteS_size]
        · rw [wroteS_size]
  · rfl
theorem valid_put {s : Dk} (h : Valid s) (z : Nat) : Valid (putS s 6 2 z) := by
  unfold putS
  split
  · split
    · exact h
    · split
      · exact h
      · unfold putsS
        split
        · exact valid_flush (valid_wrote h _ (sec_record _ _))
        · exact valid_wrote h _ (sec_record _ _)
  · exact h
/-- The steps of a put: the extent's write, the flush, the bitmap. -/
def doneS (s : Dk) (e : Nat) (bs : List Nat) : Dk :=
  if areaE s (4 * (e : Int)) 4 bs = 0 then
    if flushE (areaS s (4 * (e : Int)) 4 bs) = 0 then mapS (flushS (areaS s (4 * (e : Int)) 4 bs)) (clearM (flushS (areaS s (4 * (e : Int)) 4 bs)) (e : Int)) else flushS (areaS s (4 * (e : Int)) 4 bs)
  else areaS s (4 * (e : Int)) 4 bs
def doneE (s : Dk) (e : Nat) (bs : List Nat) : Nat :=
  if areaE s (4 * (e : Int)) 4 bs = 0 then
    if flushE (areaS s (4 * (e : Int)) 4 bs) = 0 then mapE (flushS (areaS s (4 * (e : Int)) 4 bs)) (clearM (flushS (areaS s (4 * (e : Int)) 4 bs)) (e : Int)) else flushE (areaS s (4 * (e : Int)) 4 bs)
  else areaE s (4 * (e : Int)) 4 bs
/-- P29.2: what a crash within a put leaves. -/
theorem put_crash {s : Dk} {n y : Nat} (h : Still s 6 2 n y) (hb : s.broken = false) (hf : 0 ≤ s.fuse) (hn : n + 1 < 4294967296) (e : Nat) (hr : 8 + 4 * e + 4 ≤ s.size) (bs : List Nat) (hl : bs.length = 64) (hbs : ∀ b ∈ bs, b < 256)
    (hy : y < 18446744073709551616) (hne : y ≠ Bits.Math.without y (e : Int)) (mask : Nat) :
    (doneE s e bs = 0 → 7 ≤ s.fuse) ∧ (7 ≤ s.fuse → doneE s e bs = 0) ∧ (crashed (doneS s e bs) mask).size = s.size ∧ Valid (crashed (doneS s e bs) mask) ∧ gotE (crashed (doneS s e bs) mask) (4 * (e : Int)) 4 = 0 ∧
    (7 ≤ s.fuse → gotL (crashed (doneS s e bs) mask) (4 * (e : Int)) 4 = bs ∧ latestY (crashed (doneS s e bs) mask) 6 2 = Bits.Math.without y (e : Int)) ∧
    (gotL (crashed (doneS s e bs) mask) (4 * (e : Int)) 4 = bs ∨ latestY (crashed (doneS s e bs) mask) 6 2 = y) := by
  have hv := h.valid
  have ht := hv.top
  have hg : Span.Math.good (4 * (e : Int)) 4 (dataN s : Nat) = true := of_good (by unfold dataN; omega)
  have hto : (4 * (e : Int)).toNat = 4 * e := by omega
  have eS : areaS s (4 * (e : Int)) 4 bs = wroteL s (4 * e) bs (List.range 4) := by
    unfold areaS
    rw [if_pos hg, if_pos (by omega), hto]
    rfl
  have eE : areaE s (4 * (e : Int)) 4 bs = if (wroteL s (4 * e) bs (List.range 4)).broken then 3 else 0 := by
    unfold areaE
    rw [if_pos hg, if_pos (by omega), hto]
    rfl
  have R := rows_of h.none hb hf (4 * e) bs 4 (by omega)
  have hvt : Valid (wroteL s (4 * e) bs (List.range 4)) := valid_wroteL hv (l := 4) hbs (by omega) _ (fun i hi => by simpa using hi)
  -- what is told of any disk of that size that is not broken
  have gE : ∀ c : Dk, c.size = s.size → c.broken = false → gotE c (4 * (e : Int)) 4 = 0 := fun c h1 h2 => by
    unfold gotE
    rw [if_pos (by have e5 : dataN c = dataN s := by unfold dataN; rw [h1]
                   rw [e5]; exact hg), h2]
    rfl
  unfold doneS doneE
  rw [eS, eE]
  generalize wroteL s (4 * e) bs (List.range 4) = t at *
  by_cases f4 : s.fuse < 4
  · have tb := R.bad (by exact_mod_cast f4)
    rw [tb]
    have hS := ring_crash h hvt R.safe R.size R.off mask
    exact ⟨fun g => by simp at g, fun g => by omega, R.size, valid_crashed hvt mask, gE _ R.size rfl, fun g => by omega, .inr (hS.latestY rfl)⟩
  obtain ⟨tb, tf, tp⟩ := R.fine (by omega)
  rw [tb]
  simp only [Bool.false_eq_true, if_false, if_true]
  by_cases f5 : s.fuse = 4
  · obtain ⟨a, b⟩ := flush_worn (t := t) (by omega)
    rw [a, b]
    have hS := ring_crash h (valid_burnt hvt) (t := burnt t) R.safe R.size R.off mask
    exact ⟨fun g => by simp at g, fun g => by omega, R.size, valid_crashed (valid_burnt hvt) mask, gE _ R.size rfl, fun g => by omega, .inr (hS.latestY rfl)⟩
  obtain ⟨a, b⟩ := flush_is (t := t) tb (by omega)
  rw [a, b]
  simp only [if_true]
  have hvu : Valid (spent (done t) full) := valid_spent (valid_done hvt) _
  have hS : Still (spent (done t) full) 6 2 n y := by
    refine ⟨hvu, fun _ => rfl, by omega, by omega, by have := R.size; show 6 + 2 ≤ t.size; omega, ?_⟩
    refine h.ring.congr (by omega) (fun i hi => ?_)
    show settled (done t) full _ = _
    rw [settled_none (s := done t) (R.off _ (by omega))]
    show t.safe _ = _
    rw [R.safe]
  have hH : Holds (spent (done t) full) (4 * e) bs 4 := fun i hi => settled_full (s := done t) (tp i hi)
  have ub : (spent (done t) full).broken = false := tb
  have uf : (spent (done t) full).fuse = s.fuse - 5 := by
    show (if 0 < t.fuse then t.fuse - 1 else t.fuse) = _
    rw [tf, if_pos (by omega)]
    omega
  have us : (spent (done t) full).size = s.size := R.size
  generalize spent (done t) full = u at *
  have ey : clearM u (e : Int) = Bits.Math.without y (e : Int) := by
    unfold clearM
    rw [show latestY u 6 2 = y from hS.latestY ub]
  rw [ey]
  have hm : Bits.Math.without y (e : Int) < 18446744073709551616 := Bits.Math.without_lt _ _ hy
  generalize Bits.Math.without y (e : Int) = m at *
  obtain ⟨m1, m2⟩ := hS.map_other ub hne
  rw [m1, m2]
  have hsz : (crashed (putS u 6 2 m) mask).size = s.size := (put_size u m).trans us
  have hb2 := fun {k : Int} (hk : 8 ≤ k) => put_beyond hS ub hn m mask hk
  have hH2 : Holds (crashed (putS u 6 2 m) mask) (4 * e) bs 4 := fun i hi => (hb2 (by simp only [spot]; omega)).trans (hH i hi)
  have hgot : gotL (crashed (putS u 6 2 m) mask) (4 * (e : Int)) 4 = bs := by
    have := (hH2.got rfl (fun _ => rfl) (by omega) (by omega) (by omega) (by omega)).1
    simpa using this
  by_cases f7 : 7 ≤ s.fuse
  · obtain ⟨a1, a2, a3, a4, a5⟩ := hS.put_ok ub hn m hm (.inr (by omega))
    have c2 := a2.crashed mask
    exact ⟨fun _ => f7, fun _ => a1, hsz, c2.valid, gE _ hsz rfl, fun _ => ⟨hgot, c2.latestY rfl⟩, .inl hgot⟩
  · by_cases f6 : s.fuse = 5
    · obtain ⟨a1, a2⟩ := hS.put_burnt ub hn m (by omega)
      have a1' : putE u 6 2 m = 3 := a1
      have a2' : putS u 6 2 m = burnt u := a2
      have hvc : Valid (crashed (putS u 6 2 m) mask) := by rw [a2']; exact valid_crashed (valid_burnt hvu) mask
      exact ⟨fun g => absurd (a1'.symm.trans g) (by decide), fun g => by omega, hsz, hvc, gE _ hsz rfl, fun g => by omega, .inl hgot⟩
    · obtain ⟨a1, a2, a3⟩ := hS.put_torn ub hn m hm (by omega) mask
      have a1' : putE u 6 2 m = 3 := a1
      have hvc : Valid (crashed (putS u 6 2 m) mask) := by
        rcases a2 with a2 | a2
        · exact a2.valid
        · exact a2.valid
      exact ⟨fun g => absurd (a1'.symm.trans g) (by decide), fun g => by omega, hsz, hvc, gE _ hsz rfl, fun g => by omega, .inl hgot⟩
/-- What a ring tells hangs on its own sectors alone. -/
theorem latest_congr {s t : Dk} (hs : t.size = s.size) (hr : ∀ k : Int, 6 ≤ k → k < 8 → readL t k = readL s k) : latestN t 6 2 = latestN s 6 2 ∧ latestY t 6 2 = latestY s 6 2 := by
  have hh : hasRing t 6 2 = hasRing s 6 2 := by
    unfold hasRing
    rw [hs]
  have e : latest t (6 : Int).toNat (2 : Int).toNat = latest s (6 : Int).toNat (2 : Int).toNat := by
    refine search_is (by decide) ((is_search (ringOf s (6 : Int).toNat) (2 : Int).toNat).congr (by decide) (fun i hi => ?_))
    have hi' : i < 2 := hi
    show readL t ((6 + i : Nat) : Int) = readL s ((6 + i : Nat) : Int)
    exact hr _ (by omega) (by omega)
  unfold latestN latestY
  rw [hh, e]
  exact ⟨rfl, rfl⟩
/-- A write into the data area leaves the sectors ahead of it as they were. -/
theorem read_ahead {s : Dk} (h : Math.Calm s) (hr : 8 ≤ s.size) {o l : Int} (hg : Span.Math.good o l (dataN s : Nat) = true) (bs : List Nat) {k : Int} (h0 : 0 ≤ k) (h8 : k < 8) : ∀ j, j ≤ l.toNat → readL (wroteL s o.toNat bs (List.range j)) k = readL s k
  | 0, _ => rfl
  | j + 1, hj => by
    have hin := inside_spot hg (i := j) (by omega)
    have hsz := wroteL_size s o.toNat bs (List.range j)
    have hin2 : inside (wroteL s o.toNat bs (List.range j)) (spot o.toNat j) = true := by simpa only [inside, hsz] using hin
    have hk2 : inside (wroteL s o.toNat bs (List.range j)) k = true := by
      unfold inside
      rw [hsz, Bool.and_eq_true, decide_eq_true_iff, decide_eq_true_iff]
      omega
    rw [List.range_succ, wroteL_snoc, read_wrote (h.wroteL _ _ _) hin2 _ _ hk2, if_neg (by simp only [spot]; omega), read_ahead h hr hg bs h0 h8 j (by omega)]
theorem area_is {s : Dk} {o l : Int} {bs : List Nat} (hg : Span.Math.good o l (dataN s : Nat) = true) (hl : (bs.length : Int) = 16 * l) : areaS s o l bs = wroteL s o.toNat bs (List.range l.toNat) := by
  unfold areaS
  rw [if_pos hg, if_pos hl]
/-- What was written is read. -/
theorem got_area {s : Dk} (h : Math.Calm s) {o l : Int} {bs : List Nat} (hg : Span.Math.good o l (dataN s : Nat) = true) (hl : (bs.length : Int) = 16 * l) : gotL (areaS s o l bs) o l = bs ∧ gotE (areaS s o l bs) o l = 0 := by
  have hgo := good_of hg
  have hd : dataN (areaS s o l bs) = dataN s := by unfold dataN; rw [putS_size]
  have hb := (h.put o l bs).1
  unfold gotL gotE
  rw [hd, if_pos hg, if_pos hg, hb]
  refine ⟨?_, rfl⟩
  show flatL (readF (areaS s o l bs) o.toNat) l.toNat = bs
  refine (flatL_congr (fun i hi => ?_)).trans (pieces (l := l.toNat) (by omega))
  rw [area_is hg hl]
  unfold readF
  have hin : inside s (spot 0 (o.toNat + i)) = true := by
    have := inside_spot hg hi
    simpa only [spot, Nat.add_assoc, Nat.zero_add] using this
  have := read_wroteL h hg bs l.toNat (Nat.le_refl _) (o.toNat + i) hin
  rw [if_pos (by omega), show o.toNat + i - o.toNat = i by omega] at this
  rw [show spot o.toNat i = spot 0 (o.toNat + i) by simp only [spot]; omega]
  exact this
theorem not_worn {s : Dk} (h : Math.Calm s) : ¬ worn s = true := by
  have := h.2
  simp [worn, h.1]
  omega
/-- A put into the ring of a calm disk. -/
theorem put_calm {s : Dk} (h : Math.Calm s) (hr : 8 ≤ s.size) (hn : latestN s 6 2 ≠ 4294967295) (z : Nat) : putE s 6 2 z = 0 ∧ Math.Calm (putS s 6 2 z) := by
  have hh : hasRing s 6 2 = true := by
    simp [hasRing]
    omega
  have hb : ¬ s.broken = true := by rw [h.1]; decide
  have hin : inside s (putK s 6 2) = true := by
    unfold inside putK
    rw [Bool.and_eq_true, decide_eq_true_iff, decide_eq_true_iff]
    omega
  have hc := h.wrote (putK s 6 2) (putX s 6 2 z)
  unfold putE putS
  rw [if_pos hh, if_pos hh, if_neg hb, if_neg hb, if_neg hn, if_neg hn]
  have hw0 : wroteE s (putK s 6 2) = 0 := by
    unfold wroteE
    rw [if_pos hin, if_neg (not_worn h)]
  unfold putsE putsS
  rw [if_pos hw0, if_pos hw0]
  obtain ⟨a, b⟩ := flush_is hc.1 (by have := hc.2; omega)
  rw [a, b]
  refine ⟨rfl, hc.1, ?_⟩
  have := hc.2
  show (if 0 < (wroteS s (putK s 6 2) (putX s 6 2 z)).fuse then (wroteS s (putK s 6 2) (putX s 6 2 z)).fuse - 1 else (wroteS s (putK s 6 2) (putX s 6 2 z)).fuse) < 0
  rw [if_neg (by omega)]
  exact this
/-- What CopyingAlike begins with: a disk of 24 with an extent written, the first four out of sync, all of it flushed. -/
theorem begun (e : Nat) (he : e ≤ 3) (cs : List Nat) (hl : cs.length = 64) (hb : ∀ b ∈ cs, b < 256) :
    Math.Calm (mapS (areaS (made 24) (4 * (e : Int)) 4 cs) 15) ∧ mapE (areaS (made 24) (4 * (e : Int)) 4 cs) 15 = 0 ∧ flushE (mapS (areaS (made 24) (4 * (e : Int)) 4 cs) 15) = 0 ∧
    (flushS (mapS (areaS (made 24) (4 * (e : Int)) 4 cs) 15)).broken = false ∧ (flushS (mapS (areaS (made 24) (4 * (e : Int)) 4 cs) 15)).size = 24 ∧ Still (flushS (mapS (areaS (made 24) (4 * (e : Int)) 4 cs) 15)) 6 2 1 15 := by
  have hm := calm_made 24
  have hvm := valid_made 24 (by omega) (by omega)
  have hg : Span.Math.good (4 * (e : Int)) 4 (dataN (made 24) : Nat) = true := of_good (by unfold dataN made; simp; omega)
  have ha := hm.put (4 * (e : Int)) 4 cs
  have hva := valid_putS hvm (4 * (e : Int)) 4 hb
  have hsa : (areaS (made 24) (4 * (e : Int)) 4 cs).size = 24 := putS_size _ _ _ _
  have hst := still_made 24 6 2 (by omega) (by omega) (by omega) (by omega) (by omega)
  have hr : ∀ k : Int, 6 ≤ k → k < 8 → readL (areaS (made 24) (4 * (e : Int)) 4 cs) k = readL (made 24) k := fun k h6 h8 => by
    rw [area_is hg (by omega)]
    exact read_ahead hm (by show 8 ≤ 24; omega) hg cs (by omega) h8 _ (Nat.le_refl _)
  obtain ⟨l1, l2⟩ := latest_congr (s := made 24) hsa hr
  have l1' : latestN (areaS (made 24) (4 * (e : Int)) 4 cs) 6 2 = 0 := l1.trans (hst.latestN rfl)
  have l2' : latestY (areaS (made 24) (4 * (e : Int)) 4 cs) 6 2 = 0 := l2.trans (hst.latestY rfl)
  generalize areaS (made 24) (4 * (e : Int)) 4 cs = a at *
  obtain ⟨p1, p2⟩ := put_calm ha (by omega) (by omega) 15
  have eE : mapE a 15 = 0 := by
    unfold mapE
    rw [ha.1, l2']
    simpa using p1
  have eS : mapS a 15 = putS a 6 2 15 := by
    unfold mapS
    rw [ha.1, l2']
    simp
  obtain ⟨t1, t2, t3⟩ := put_tells hva 6 2 15 (by omega) p1
  rw [l1'] at t1
  have hvp : Valid (putS a 6 2 15) := valid_put hva 15
  have hsp : (putS a 6 2 15).size = 24 := (put_size a 15).trans hsa
  rw [eS]
  generalize putS a 6 2 15 = q at *
  obtain ⟨f1, f2⟩ := flush_is p2.1 (by have := p2.2; omega)
  have hvf := valid_flush hvp
  rw [f1, f2]
  rw [f2] at hvf
  refine ⟨p2, eE, rfl, p2.1, hsp, ?_⟩
  have hq := still_of (s := spent (done q) full) hvf (fun _ => rfl) p2.1 (by show 8 ≤ q.size; omega)
  have hr2 : ∀ k : Int, 6 ≤ k → k < 8 → readL (spent (done q) full) k = readL q k := fun k _ _ => by
    unfold readL
    have hi : inside (spent (done q) full) k = inside q k := rfl
    have hbk : (spent (done q) full).broken = q.broken := rfl
    rw [hi, hbk]
    split
    · split
      · rfl
      · show settled (done q) full k = (q.fresh k).getD (q.safe k)
        cases hx : q.fresh k with
        | none => rw [settled_none (s := done q) hx]; rfl
        | some x => rw [settled_full (s := done q) hx]; rfl
    · rfl
  obtain ⟨m1, m2⟩ := latest_congr (s := q) (t := spent (done q) full) rfl hr2
  rw [m1, m2, t1, t2] at hq
  exact hq
end Go.Proofs.YtfiofdmefgkloaaGreat.Copying

