import Derived.Test.YtfiofdmefgkloaaGreatMath
import Derived.Test.YtfiofdmefgkloaaGreatSpanMath
/-
  Plain facts on the data area of a disk: what a write of some sectors leaves, what is read of them. No program is named here.
-/
namespace Go.Proofs.YtfiofdmefgkloaaGreat
namespace Math

/-- The bytes of the i'th sector. -/
def piece (bs : List Nat) (i : Nat) : List Nat := (bs.drop (16 * i)).take 16
theorem piece_length {bs : List Nat} {i l : Nat} (h : bs.length = 16 * l) (hi : i < l) : (piece bs i).length = 16 := by
  simp [piece, h]
  omega
theorem sec_piece {bs : List Nat} (hb : ∀ b ∈ bs, b < 256) {i l : Nat} (h : bs.length = 16 * l) (hi : i < l) : Sec (piece bs i) :=
  ⟨piece_length h hi, fun b hm => hb b (List.mem_of_mem_drop (List.mem_of_mem_take hm))⟩
theorem piece_get {bs : List Nat} {i j : Nat} (hj : j < 16) : (piece bs i)[j]? = bs[16 * i + j]? := by
  unfold piece
  rw [List.getElem?_take_of_lt hj, List.getElem?_drop]

/-- How many sectors the data area has. -/
def dataN (s : Dk) : Nat := s.size - 8
/-- Where the i'th sector of a span stands. -/
def spot (o i : Nat) : Int := ((8 + o + i : Nat) : Int)
/-- Behind a write of the sectors of pre, one behind the other. -/
def wroteL (s : Dk) (o : Nat) (bs : List Nat) (pre : List Nat) : Dk := pre.foldl (fun s i => wroteS s (spot o i) (piece bs i)) s
theorem wroteL_snoc (s : Dk) (o : Nat) (bs pre : List Nat) (i : Nat) : wroteL s o bs (pre ++ [i]) = wroteS (wroteL s o bs pre) (spot o i) (piece bs i) := by simp [wroteL]
theorem wroteS_size (s : Dk) (k : Int) (x : List Nat) : (wroteS s k x).size = s.size := by
  unfold wroteS
  split
  · split <;> rfl
  · rfl
theorem wroteL_size (s : Dk) (o : Nat) (bs : List Nat) : ∀ pre, (wroteL s o bs pre).size = s.size := fun pre => by
  unfold wroteL
  induction pre generalizing s with
  | nil => rfl
  | cons i pre ih => rw [List.foldl_cons, ih, wroteS_size]
theorem wroteS_ops (s : Dk) (k : Int) (x : List Nat) : (wroteS s k x).ops ≤ s.ops + 1 := by
  unfold wroteS
  split
  · split
    · simp [burnt]
    · simp [laid, done]
  · omega
theorem wroteL_ops (s : Dk) (o : Nat) (bs : List Nat) : ∀ pre, (wroteL s o bs pre).ops ≤ s.ops + pre.length := fun pre => by
  unfold wroteL
  induction pre generalizing s with
  | nil => simp
  | cons i pre ih =>
    rw [List.foldl_cons]
    refine Nat.le_trans (ih _) ?_
    have := wroteS_ops s (spot o i) (piece bs i)
    simp
    omega
theorem valid_wroteL {s : Dk} (h : Valid s) {o : Nat} {bs : List Nat} {l : Nat} (hb : ∀ b ∈ bs, b < 256) (hl : bs.length = 16 * l) : ∀ pre : List Nat, (∀ i ∈ pre, i < l) → Valid (wroteL s o bs pre) := fun pre => by
  unfold wroteL
  induction pre generalizing s with
  | nil => exact fun _ => h
  | cons i pre ih =>
    intro hp
    rw [List.foldl_cons]
    exact ih (valid_wrote h _ (sec_piece hb hl (hp i (by simp)))) (fun j hj => hp j (by simp [hj]))
/-- A broken disk stays as it is. -/
theorem wroteS_broken {s : Dk} (h : s.broken = true) (k : Int) (x : List Nat) : wroteS s k x = s := by
  unfold wroteS
  split
  · have hw : worn s = true := by simp [worn, h]
    rw [if_pos hw]
    cases s
    simp [burnt] at *
    first | exact h | exact h.symm
  · rfl
theorem wroteL_broken {s : Dk} (h : s.broken = true) (o : Nat) (bs : List Nat) : ∀ pre, wroteL s o bs pre = s := fun pre => by
  unfold wroteL
  induction pre with
  | nil => rfl
  | cons i pre ih => rw [List.foldl_cons, wroteS_broken h, ih]
theorem wroteL_append (s : Dk) (o : Nat) (bs p q : List Nat) : wroteL s o bs (p ++ q) = wroteL (wroteL s o bs p) o bs q := by simp [wroteL]
/-- What a write inside tells is whether the disk is then broken. -/
theorem wroteE_inside {s : Dk} {k : Int} (x : List Nat) (h : inside s k = true) : wroteE s k = if (wroteS s k x).broken then 3 else 0 := by
  unfold wroteE wroteS
  rw [if_pos h, if_pos h]
  by_cases hw : worn s = true
  · rw [if_pos hw, if_pos hw]
    rfl
  · rw [if_neg hw, if_neg hw]
    have hb : s.broken = false := by
      simp [worn] at hw
      exact hw.1
    have : (laid (done s) k x).broken = false := hb
    rw [this]
    rfl

/-- The whole write: the state behind it, and what it tells. -/
def areaS (s : Dk) (o l : Int) (bs : List Nat) : Dk := if Span.Math.good o l (dataN s : Nat) then if (bs.length : Int) = 16 * l then wroteL s o.toNat bs (List.range l.toNat) else s else s
def areaE (s : Dk) (o l : Int) (bs : List Nat) : Nat := if Span.Math.good o l (dataN s : Nat) then if (bs.length : Int) = 16 * l then if (wroteL s o.toNat bs (List.range l.toNat)).broken then 3 else 0 else 2 else 13
theorem good_of {o l n : Int} (h : Span.Math.good o l n = true) : 0 ≤ o ∧ 1 ≤ l ∧ o + l ≤ n ∧ o ≤ 1073741824 ∧ l ≤ 1073741824 := by
  simp [Span.Math.good, Span.Math.plain] at h
  omega
theorem of_good {o l n : Int} (h : 0 ≤ o ∧ 1 ≤ l ∧ o + l ≤ n ∧ o ≤ 1073741824 ∧ l ≤ 1073741824) : Span.Math.good o l n = true := by
  simp [Span.Math.good, Span.Math.plain]
  omega
theorem putS_size (s : Dk) (o l : Int) (bs : List Nat) : (areaS s o l bs).size = s.size := by
  unfold areaS
  split
  · split
    · exact wroteL_size _ _ _ _
    · rfl
  · rfl
theorem putS_ops (s : Dk) (hs : s.size ≤ 1024) (o l : Int) (bs : List Nat) : (areaS s o l bs).ops ≤ s.ops + 1024 := by
  unfold areaS
  split
  · rename_i hg
    have hg := good_of hg
    split
    · refine Nat.le_trans (wroteL_ops _ _ _ _) ?_
      simp [dataN] at *
      omega
    · omega
  · omega
theorem valid_putS {s : Dk} (h : Valid s) (o l : Int) {bs : List Nat} (hb : ∀ b ∈ bs, b < 256) : Valid (areaS s o l bs) := by
  unfold areaS
  split
  · rename_i hg
    have hg := good_of hg
    split
    · rename_i hl
      exact valid_wroteL h (l := l.toNat) hb (by omega) _ (fun i hi => by simpa using hi)
    · exact h
  · exact h

/-- Bytes of sectors, one behind the other. -/
def flatL (f : Nat → List Nat) : Nat → List Nat
  | 0 => []
  | k + 1 => flatL f k ++ f k
theorem flatL_length {f : Nat → List Nat} (h : ∀ i, (f i).length = 16) : ∀ k, (flatL f k).length = 16 * k
  | 0 => rfl
  | k + 1 => by
    rw [flatL, List.length_append, flatL_length h k, h k]
    omega
theorem flatL_get {f : Nat → List Nat} (h : ∀ i, (f i).length = 16) : ∀ (k i j : Nat), i < k → j < 16 → (flatL f k)[16 * i + j]? = (f i)[j]?
  | 0, _, _, hi, _ => by omega
  | k + 1, i, j, hi, hj => by
    rw [flatL]
    by_cases e : i < k
    · rw [List.getElem?_append_left (by rw [flatL_length h]; omega)]
      exact flatL_get h k i j e hj
    · obtain rfl : i = k := by omega
      rw [List.getElem?_append_right (by rw [flatL_length h]; omega), flatL_length h, show 16 * i + j - 16 * i = j by omega]
theorem flatL_byte {f : Nat → List Nat} (h : ∀ i, ∀ b ∈ f i, b < 256) : ∀ k, ∀ b ∈ flatL f k, b < 256
  | 0, b, hb => by simp [flatL] at hb
  | k + 1, b, hb => by
    rw [flatL, List.mem_append] at hb
    rcases hb with hb | hb
    · exact flatL_byte h k b hb
    · exact h k b hb
/-- What stands at any place of them. -/
theorem flatL_at {f : Nat → List Nat} (h : ∀ i, (f i).length = 16) {k p : Nat} (hp : p < 16 * k) : (flatL f k)[p]? = (f (p / 16))[p % 16]? := by
  have := flatL_get h k (p / 16) (p % 16) (by omega) (by omega)
  rwa [show 16 * (p / 16) + p % 16 = p by omega] at this

/-- What is read of a span's i'th sector. -/
def readF (s : Dk) (o i : Nat) : List Nat := readL s (spot o i)
theorem sec_readF {s : Dk} (h : Valid s) (o i : Nat) : Sec (readF s o i) := sec_read h _
def gotL (s : Dk) (o l : Int) : List Nat := if Span.Math.good o l (dataN s : Nat) then if s.broken then [] else flatL (readF s o.toNat) l.toNat else []
def gotE (s : Dk) (o l : Int) : Nat := if Span.Math.good o l (dataN s : Nat) then if s.broken then 3 else 0 else 13
def imgL (s : Dk) : List Nat := gotL s 0 (dataN s : Nat)
theorem gotL_byte {s : Dk} (h : Valid s) (o l : Int) : ∀ b ∈ gotL s o l, b < 256 := by
  unfold gotL
  split
  · split
    · simp
    · exact flatL_byte (fun i => (sec_readF h _ i).2) _
  · simp
theorem gotL_length {s : Dk} (h : Valid s) (o l : Int) : (gotL s o l).length ≤ 16384 := by
  have := h.top
  unfold gotL
  split
  · rename_i hg
    have hg := good_of hg
    split
    · simp
    · rw [flatL_length (fun i => (sec_readF h _ i).1)]
      simp [dataN] at hg
      omega
  · simp
/-- Each sector of a span that is Good stands inside. -/
theorem inside_spot {s : Dk} {o l : Int} (hg : Span.Math.good o l (dataN s : Nat) = true) {i : Nat} (hi : i < l.toNat) : inside s (spot o.toNat i) = true := by
  have hg := good_of hg
  simp [inside, spot, dataN] at *
  omega

/-- Bytes laid over others, from one place on. -/
def over (L : List Nat) (p : Nat) (l : List Nat) : List Nat := L.take p ++ l ++ L.drop (p + l.length)
theorem over_length {L l : List Nat} {p : Nat} (h : p + l.length ≤ L.length) : (over L p l).length = L.length := by
  simp [over]
  omega
theorem over_get {L l : List Nat} {p : Nat} (h : p + l.length ≤ L.length) (q : Nat) : (over L p l)[q]? = if p ≤ q ∧ q < p + l.length then l[q - p]? else L[q]? := by
  unfold over
  by_cases h1 : q < p
  · rw [if_neg (by omega), List.append_assoc, List.getElem?_append_left (by simp; omega), List.getElem?_take_of_lt h1]
  · by_cases h2 : q < p + l.length
    · rw [if_pos (by omega), List.append_assoc, List.getElem?_append_right (by simp; omega), List.getElem?_append_left (by simp; omega)]
      congr 1
      simp
      omega
    · rw [if_neg (by omega), List.getElem?_append_right (by simp; omega), List.getElem?_drop]
      congr 1
      simp
      omega
/-- The sectors of pre laid over noughts. -/
def fillL (f : Nat → List Nat) (n : Nat) (pre : List Nat) : List Nat := pre.foldl (fun L i => over L (16 * i) (f i)) (List.replicate (16 * n) 0)
theorem fillL_snoc (f : Nat → List Nat) (n : Nat) (pre : List Nat) (i : Nat) : fillL f n (pre ++ [i]) = over (fillL f n pre) (16 * i) (f i) := by simp [fillL]
theorem fillL_length {f : Nat → List Nat} (h : ∀ i, (f i).length = 16) {n : Nat} {pre : List Nat} (hp : ∀ i ∈ pre, i < n) : (fillL f n pre).length = 16 * n := by
  suffices ∀ L : List Nat, L.length = 16 * n → (pre.foldl (fun L i => over L (16 * i) (f i)) L).length = 16 * n by exact this _ (by simp)
  induction pre with
  | nil => exact fun L hL => hL
  | cons i pre ih =>
    intro L hL
    rw [List.foldl_cons]
    have hi := hp i (by simp)
    exact ih (fun j hj => hp j (by simp [hj])) _ (by rw [over_length (by rw [h, hL]; omega), hL])
theorem fillL_byte {f : Nat → List Nat} (hb : ∀ i, ∀ b ∈ f i, b < 256) (n : Nat) (pre : List Nat) : ∀ b ∈ fillL f n pre, b < 256 := by
  suffices ∀ L : List Nat, (∀ b ∈ L, b < 256) → ∀ b ∈ pre.foldl (fun L i => over L (16 * i) (f i)) L, b < 256 by
    exact this _ (fun b hb' => by simp [List.mem_replicate] at hb'; omega)
  induction pre with
  | nil => exact fun L hL => hL
  | cons i pre ih =>
    intro L hL
    rw [List.foldl_cons]
    refine ih _ (fun b hm => ?_)
    simp only [over, List.mem_append] at hm
    rcases hm with (hm | hm) | hm
    · exact hL b (List.mem_of_mem_take hm)
    · exact hb i b hm
    · exact hL b (List.mem_of_mem_drop hm)
/-- All of them in their order: nothing of the noughts is left. -/
theorem fillL_range {f : Nat → List Nat} (h : ∀ i, (f i).length = 16) (n : Nat) : ∀ k, k ≤ n → fillL f n (List.range k) = flatL f k ++ List.replicate (16 * (n - k)) 0
  | 0, _ => by simp [fillL, flatL]
  | k + 1, hk => by
    have hl := flatL_length h k
    rw [List.range_succ, fillL_snoc, fillL_range h n k (by omega), flatL, over]
    have e1 : (flatL f k ++ List.replicate (16 * (n - k)) 0).take (16 * k) = flatL f k := by
      rw [List.take_append_of_le_length (by omega), List.take_of_length_le (by omega)]
    have e2 : (flatL f k ++ List.replicate (16 * (n - k)) 0).drop (16 * k + (f k).length) = List.replicate (16 * (n - (k + 1))) 0 := by
      rw [h k, List.drop_append, hl, List.drop_eq_nil_of_le (by omega), List.nil_append, List.drop_replicate]
      congr 1
      omega
    rw [e1, e2]
theorem fillL_all {f : Nat → List Nat} (h : ∀ i, (f i).length = 16) (n : Nat) : fillL f n (List.range n) = flatL f n := by
  rw [fillL_range h n n (Nat.le_refl _)]
  simp

/-- A disk that works, and will. -/
def Calm (s : Dk) : Prop := s.broken = false ∧ s.fuse < 0
theorem calm_made (n : Nat) : Calm (made n) := ⟨rfl, by simp [made]⟩
theorem Calm.wrote {s : Dk} (h : Calm s) (k : Int) (x : List Nat) : Calm (wroteS s k x) := by
  unfold wroteS
  split
  · have hw : worn s = false := by
      have := h.2
      simp [worn, h.1]
      omega
    rw [hw]
    refine ⟨h.1, ?_⟩
    have := h.2
    simp [laid, done]
    split <;> omega
  · exact h
theorem Calm.wroteL {s : Dk} (h : Calm s) (o : Nat) (bs : List Nat) : ∀ pre, Calm (wroteL s o bs pre) := fun pre => by
  unfold Math.wroteL
  induction pre generalizing s with
  | nil => exact h
  | cons i pre ih => rw [List.foldl_cons]; exact ih (h.wrote _ _)
theorem Calm.put {s : Dk} (h : Calm s) (o l : Int) (bs : List Nat) : Calm (areaS s o l bs) := by
  unfold areaS
  split
  · split
    · exact h.wroteL _ _ _
    · exact h
  · exact h
theorem read_wrote {s : Dk} (h : Calm s) {k : Int} (hk : inside s k = true) (x : List Nat) (j : Int) (hj : inside s j = true) : readL (wroteS s k x) j = if j = k then x else readL s j := by
  have hw : worn s = false := by
    have := h.2
    simp [worn, h.1]
    omega
  have hc := h.wrote k x
  have hi : inside (wroteS s k x) j = true := by
    have e := wroteS_size s k x
    simp only [inside, e] at hj ⊢
    exact hj
  unfold readL
  rw [if_pos hi, if_pos hj, hc.1, h.1]
  have e : wroteS s k x = laid (done s) k x := by unfold wroteS; rw [if_pos hk, hw]; rfl
  rw [e]
  simp only [Bool.false_eq_true, if_false, laid]
  by_cases hjk : j = k
  · subst hjk
    simp [upd_same]
  · rw [upd_other _ _ hjk, if_neg hjk]
    rfl
/-- What is read behind a whole write. -/
theorem read_wroteL {s : Dk} (h : Calm s) {o l : Int} (hg : Span.Math.good o l (dataN s : Nat) = true) (bs : List Nat) : ∀ k, k ≤ l.toNat → ∀ j : Nat, inside s (spot 0 j) = true →
    readL (Math.wroteL s o.toNat bs (List.range k)) (spot 0 j) = if o.toNat ≤ j ∧ j < o.toNat + k then piece bs (j - o.toNat) else readL s (spot 0 j)
  | 0, _, j, _ => by
    rw [if_neg (by omega)]
    rfl
  | k + 1, hk, j, hj => by
    have hin := inside_spot hg (i := k) (by omega)
    have hsz := wroteL_size s o.toNat bs (List.range k)
    have hin2 : inside (Math.wroteL s o.toNat bs (List.range k)) (spot o.toNat k) = true := by simpa only [inside, hsz] using hin
    have hj2 : inside (Math.wroteL s o.toNat bs (List.range k)) (spot 0 j) = true := by simpa only [inside, hsz] using hj
    rw [List.range_succ, wroteL_snoc, read_wrote (h.wroteL _ _ _) hin2 _ _ hj2, read_wroteL h hg bs k (by omega) j hj]
    by_cases e : j = o.toNat + k
    · subst e
      rw [if_pos (by simp only [spot]; omega), if_pos (by omega), show o.toNat + k - o.toNat = k by omega]
    · rw [if_neg (by simp only [spot]; omega)]
      by_cases e2 : o.toNat ≤ j ∧ j < o.toNat + k
      · rw [if_pos e2, if_pos (by omega)]
      · rw [if_neg e2, if_neg (by omega)]
theorem img_calm {s : Dk} (h : Calm s) (h1 : 1 ≤ dataN s) (h2 : dataN s ≤ 1024) : imgL s = flatL (readF s 0) (dataN s) := by
  unfold imgL gotL
  rw [of_good (by omega), h.1]
  simp
/-- P12.3: what was written is there, all else is as it was. -/
theorem img_put {s : Dk} (hv : Valid s) (h : Calm s) (h1 : 1 ≤ dataN s) {o l : Int} {bs : List Nat} (hg : Span.Math.good o l (dataN s : Nat) = true) (hl : (bs.length : Int) = 16 * l) (hb : ∀ b ∈ bs, b < 256) :
    imgL (areaS s o l bs) = over (imgL s) (16 * o.toNat) bs := by
  have hgo := good_of hg
  have htop := hv.top
  have hd : dataN (areaS s o l bs) = dataN s := by unfold dataN; rw [putS_size]
  have hN : dataN s ≤ 1024 := by unfold dataN; omega
  have hin : ∀ j, j < dataN s → inside s (spot 0 j) = true := fun j hj => by
    have hj' : j < s.size - 8 := hj
    simp only [inside, spot, Bool.and_eq_true]
    exact ⟨decide_eq_true (by omega), decide_eq_true (by omega)⟩
  have hv2 := valid_putS hv o l (bs := bs) hb
  have hput : areaS s o l bs = Math.wroteL s o.toNat bs (List.range l.toNat) := by unfold areaS; rw [if_pos hg, if_pos hl]
  rw [img_calm (h.put o l bs) (by omega) (by omega), img_calm h h1 hN, hd]
  have f2 : ∀ i, (readF (areaS s o l bs) 0 i).length = 16 := fun i => (sec_readF hv2 0 i).1
  have f1 : ∀ i, (readF s 0 i).length = 16 := fun i => (sec_readF hv 0 i).1
  have hr : ∀ j, j < dataN s → readF (areaS s o l bs) 0 j = if o.toNat ≤ j ∧ j < o.toNat + l.toNat then piece bs (j - o.toNat) else readF s 0 j := fun j hj => by
    unfold readF
    rw [hput]
    exact read_wroteL h hg bs l.toNat (Nat.le_refl _) j (hin j hj)
  clear hput hin hv hv2 hd
  generalize readF (areaS s o l bs) 0 = A at *
  generalize readF s 0 = B at *
  generalize dataN s = N at *
  have l1 := flatL_length f2 N
  have l2 := flatL_length f1 N
  apply List.ext_getElem?
  intro p
  rw [over_get (by rw [l2]; omega)]
  by_cases hp : p < 16 * N
  · rw [flatL_at f2 hp, hr (p / 16) (by omega)]
    by_cases e : o.toNat ≤ p / 16 ∧ p / 16 < o.toNat + l.toNat
    · rw [if_pos e, if_pos (by omega), piece_get (by omega)]
      congr 1
      omega
    · rw [if_neg e, if_neg (by omega), flatL_at f1 hp]
  · rw [List.getElem?_eq_none (by omega), if_neg (by omega), List.getElem?_eq_none (by omega)]
/-- What is refused changes nothing. -/
theorem put_refused {s : Dk} (h : Calm s) {o l : Int} {bs : List Nat} (he : areaE s o l bs ≠ 0) : areaS s o l bs = s := by
  unfold areaE at he
  unfold areaS
  split
  · rename_i hg
    rw [if_pos hg] at he
    split
    · rename_i hl
      rw [if_pos hl, (h.wroteL _ _ _).1] at he
      exact absurd rfl he
    · rfl
  · rfl
theorem put_done {s : Dk} {o l : Int} {bs : List Nat} (he : areaE s o l bs = 0) : Span.Math.good o l (dataN s : Nat) = true ∧ (bs.length : Int) = 16 * l := by
  unfold areaE at he
  split at he
  · rename_i hg
    split at he
    · exact ⟨hg, by assumption⟩
    · omega
  · omega

end Math
end Go.Proofs.YtfiofdmefgkloaaGreat

