/-
  Plain facts on a ring of records: its latest one, and what a put turns. No program is named here.
-/
import Derived.Test.YtekjlmnnaaodjaaSealN
import Derived.Test.YtekjlmnnaaodjaaWalksR
namespace Go.Proofs.Ytekjlmnnaaodjaa
open Math

/-- The number and the word that a sector tells; 0 and 0, if it is no record. -/
def num (x : List Nat) : Nat := Seal.toldN x
def word (x : List Nat) : Nat := Seal.toldY x
def record (n y : Nat) : List Nat := Seal.recd n y
theorem sec_record (n y : Nat) : Sec (record n y) := ⟨Seal.recd_length n y, Seal.recd_byte n y⟩
theorem num_record (n y : Nat) (hn : n < 4294967296) (hy : y < 18446744073709551616) : num (record n y) = n := by
  unfold num Seal.toldN record
  rw [if_pos (Seal.sealBack.isRec_recd n y hn hy), Seal.sealBack.opN_recd n y hn]
theorem word_record (n y : Nat) (hn : n < 4294967296) (hy : y < 18446744073709551616) : word (record n y) = y := by
  unfold word Seal.toldY record
  rw [if_pos (Seal.sealBack.isRec_recd n y hn hy), Seal.sealBack.opY_recd n y hy]
theorem num_nought : num nought = 0 := by
  unfold num Seal.toldN
  rw [show nought = Seal.zeros 16 from rfl, Seal.sealBack.isRec_zeros]
  rfl
theorem num_lt {x : List Nat} (h : Sec x) : num x < 4294967296 := by
  unfold num Seal.toldN
  split
  · exact Seal.opN_lt h.2
  · omega
theorem word_lt {x : List Nat} (h : Sec x) : word x < 18446744073709551616 := by
  unfold word Seal.toldY
  split
  · exact Seal.opY_lt h.2
  · omega

/-- One more of the ring's sectors. -/
def better (r i : Nat) (x : List Nat) (l : Nat × Nat) : Nat × Nat := if num x % r = i ∧ l.1 < num x then (num x, word x) else l
def search (f : Nat → List Nat) (r : Nat) : Nat → Nat × Nat
  | 0 => (0, 0)
  | i + 1 => better r i (f i) (search f r i)
/-- The latest record of a ring whose sectors are f. -/
structure IsLatest (f : Nat → List Nat) (r n w : Nat) : Prop where
  top : ∀ i, i < r → num (f i) % r = i → num (f i) ≤ n
  here : (n = 0 ∧ w = 0) ∨ (num (f (n % r)) = n ∧ word (f (n % r)) = w ∧ 0 < n)
theorem search_inv (f : Nat → List Nat) (r n w : Nat) (hr : 0 < r) (h : IsLatest f r n w) : ∀ i, i ≤ r →
    (search f r i).1 ≤ n ∧ (search f r i = (0, 0) ∨ ((search f r i).1 % r < i ∧ 0 < (search f r i).1)) ∧ (n % r < i → search f r i = (n, w))
  | 0, _ => ⟨Nat.zero_le _, .inl rfl, fun h => absurd h (Nat.not_lt_zero _)⟩
  | i + 1, hi => by
    obtain ⟨h1, h2, h3⟩ := search_inv f r n w hr h i (by omega)
    have ht := h.top i (by omega)
    have hh := h.here
    generalize hl : search f r i = l at *
    obtain ⟨a, b⟩ := l
    simp only [search, hl, better] at *
    by_cases hc : num (f i) % r = i ∧ a < num (f i)
    · rw [if_pos hc]
      have hle := ht hc.1
      refine ⟨hle, .inr ⟨?_, ?_⟩, fun hlt => ?_⟩
      · show num (f i) % r < i + 1
        omega
      · show 0 < num (f i)
        omega
      · by_cases e : n % r = i
        · rcases hh with ⟨rfl, _⟩ | ⟨e1, e2, e3⟩
          · omega
          · rw [e] at e1 e2
            rw [e1, e2]
        · have := h3 (by omega)
          injection this with ha hb
          omega
    · rw [if_neg hc]
      refine ⟨h1, ?_, fun hlt => ?_⟩
      · rcases h2 with h2 | ⟨h2, h2'⟩
        · exact .inl h2
        · exact .inr ⟨Nat.lt_succ_of_lt h2, h2'⟩
      · by_cases e : n % r = i
        · rcases hh with ⟨rfl, rfl⟩ | ⟨e1, e2, e3⟩
          · rcases h2 with h2 | ⟨h2, h2'⟩
            · exact h2
            · omega
          · rw [e] at e1 e2
            rw [e1] at hc
            have ha : a = n := by omega
            rcases h2 with h2 | ⟨h2, h2'⟩
            · injection h2 with h4 h5
              omega
            · rw [ha] at h2
              omega
        · exact h3 (by omega)
theorem search_is {f : Nat → List Nat} {r n w : Nat} (hr : 0 < r) (h : IsLatest f r n w) : search f r r = (n, w) :=
  (search_inv f r n w hr h r (Nat.le_refl _)).2.2 (Nat.mod_lt _ hr)
/-- There is a latest one. -/
theorem search_has (f : Nat → List Nat) (r : Nat) : ∀ i, (∀ j, j < i → num (f j) % r = j → num (f j) ≤ (search f r i).1) ∧
    (search f r i = (0, 0) ∨ ∃ j, j < i ∧ (search f r i).1 % r = j ∧ num (f j) = (search f r i).1 ∧ word (f j) = (search f r i).2 ∧ 0 < (search f r i).1)
  | 0 => ⟨fun j hj => absurd hj (Nat.not_lt_zero _), .inl rfl⟩
  | i + 1 => by
    obtain ⟨h1, h2⟩ := search_has f r i
    generalize hl : search f r i = l at *
    obtain ⟨a, b⟩ := l
    simp only [search, hl, better] at *
    by_cases hc : num (f i) % r = i ∧ a < num (f i)
    · rw [if_pos hc]
      refine ⟨fun j hj e => ?_, .inr ⟨i, Nat.lt_succ_self _, hc.1, rfl, rfl, Nat.lt_of_le_of_lt (Nat.zero_le _) hc.2⟩⟩
      by_cases ej : j = i
      · rw [ej]
        exact Nat.le_refl _
      · exact Nat.le_trans (h1 j (by omega) e) (Nat.le_of_lt hc.2)
    · rw [if_neg hc]
      refine ⟨fun j hj e => ?_, ?_⟩
      · by_cases ej : j = i
        · rw [ej] at e ⊢
          show num (f i) ≤ a
          omega
        · exact h1 j (by omega) e
      · rcases h2 with h2 | ⟨j, hj, r1, r2⟩
        · exact .inl h2
        · exact .inr ⟨j, by omega, r1, r2⟩
theorem is_search (f : Nat → List Nat) (r : Nat) : IsLatest f r (search f r r).1 (search f r r).2 := by
  obtain ⟨h1, h2⟩ := search_has f r r
  refine ⟨h1, ?_⟩
  rcases h2 with h2 | ⟨j, hj, r1, r2, r3, r4⟩
  · rw [h2]
    exact .inl ⟨rfl, rfl⟩
  · rw [r1]
    exact .inr ⟨r2, r3, r4⟩
/-- Behind a put. -/
theorem IsLatest.put {f : Nat → List Nat} {r n w : Nat} (h : IsLatest f r n w) (y : Nat) (hn : n + 1 < 4294967296) (hy : y < 18446744073709551616) (g : Nat → List Nat)
    (hg : g ((n + 1) % r) = record (n + 1) y) (ho : ∀ i, i < r → i ≠ (n + 1) % r → g i = f i) : IsLatest g r (n + 1) y := by
  refine ⟨fun i hi e => ?_, .inr ⟨by rw [hg, num_record _ _ hn hy], by rw [hg, word_record _ _ hn hy], by omega⟩⟩
  by_cases ei : i = (n + 1) % r
  · rw [ei, hg, num_record _ _ hn hy]
    exact Nat.le_refl _
  · rw [ho i hi ei] at e ⊢
    exact Nat.le_succ_of_le (h.top i hi e)
theorem IsLatest.congr {f g : Nat → List Nat} {r n w : Nat} (hr : 0 < r) (h : IsLatest f r n w) (e : ∀ i, i < r → g i = f i) : IsLatest g r n w := by
  refine ⟨fun i hi => ?_, ?_⟩
  · rw [e i hi]
    exact h.top i hi
  · rw [e _ (Nat.mod_lt _ hr)]
    exact h.here
theorem search_lt (f : Nat → List Nat) (r : Nat) (hf : ∀ i, Sec (f i)) : ∀ i, (search f r i).1 < 4294967296 ∧ (search f r i).2 < 18446744073709551616
  | 0 => ⟨by simp [search], by simp [search]⟩
  | i + 1 => by
    have h := search_lt f r hf i
    simp only [search, better]
    split
    · exact ⟨num_lt (hf i), word_lt (hf i)⟩
    · exact h

/-- The ring that lies on a disk from base on. -/
def ringOf (s : Dk) (base : Nat) (i : Nat) : List Nat := readL s ((base + i : Nat) : Int)
def latest (s : Dk) (base r : Nat) : Nat × Nat := search (ringOf s base) r r
/-- May it be one, and is it one of this disk? -/
def isRing (base r : Int) : Bool := decide (2 ≤ r) && decide (r ≤ 8) && decide (0 ≤ base) && decide (base ≤ 1024)
def hasRing (s : Dk) (base r : Int) : Bool := decide (2 ≤ r) && decide (r ≤ 8) && decide (0 ≤ base) && decide (base + r ≤ s.size)
def latestN (s : Dk) (base r : Int) : Nat := if hasRing s base r then (latest s base.toNat r.toNat).1 else 0
def latestY (s : Dk) (base r : Int) : Nat := if hasRing s base r then (latest s base.toNat r.toNat).2 else 0
def placeOf (n : Nat) (base r : Int) : Int := if isRing base r then base + (n : Int) % r else 0
/-- Put: the sector, its bytes, the error, the disk behind it. -/
def putK (s : Dk) (base r : Int) : Int := base + ((latestN s base r + 1 : Nat) : Int) % r
def putX (s : Dk) (base r : Int) (y : Nat) : List Nat := record (latestN s base r + 1) y
def putsE (s : Dk) (k : Int) (x : List Nat) : Nat := if wroteE s k = 0 then flushE (wroteS s k x) else wroteE s k
def putsS (s : Dk) (k : Int) (x : List Nat) : Dk := if wroteE s k = 0 then flushS (wroteS s k x) else wroteS s k x
def putE (s : Dk) (base r : Int) (y : Nat) : Nat := if hasRing s base r then if s.broken then 3 else if latestN s base r = 4294967295 then 13 else putsE s (putK s base r) (putX s base r y) else 2
def putS (s : Dk) (base r : Int) (y : Nat) : Dk := if hasRing s base r then if s.broken then s else if latestN s base r = 4294967295 then s else putsS s (putK s base r) (putX s base r y) else s

theorem latestN_lt {s : Dk} (h : Valid s) (base r : Int) : latestN s base r < 4294967296 := by
  unfold latestN
  split
  · exact (search_lt _ _ (fun i => sec_read h _) _).1
  · decide
theorem latestY_lt {s : Dk} (h : Valid s) (base r : Int) : latestY s base r < 18446744073709551616 := by
  unfold latestY
  split
  · exact (search_lt _ _ (fun i => sec_read h _) _).2
  · decide
end Go.Proofs.Ytekjlmnnaaodjaa
