import Derived.Test.YtfiofdmefgkloaaGreatSealMath
/-
  Plain facts of layer 17: a message, whether it may be, its bytes, and the message of some bytes.
-/
namespace Go.Proofs.YtfiofdmefgkloaaGreat.Pack
open Seal.Math

/-- A message: its kind, its number, its place, its mask, its mark, its bytes. -/
structure Ms where
  k : Int
  i : Int
  o : Int
  m : Nat
  s : Bool
  d : List Nat
/-- The message of nothing. -/
def m0 : Ms := ⟨0, 0, 0, 0, false, []⟩
/-- A mark's byte. -/
def bit (s : Bool) : Nat := if s then 1 else 0
theorem bit_lt (s : Bool) : bit s < 256 := by cases s <;> decide
/-- What may be. -/
def Fine (x : Ms) : Prop :=
  1 ≤ x.k ∧ x.k ≤ 8 ∧ (x.k = 1 ∨ x.s = false ∧ x.m = 0) ∧ (2 ≤ x.k ∧ x.k ≤ 5 → 1 ≤ x.i ∧ x.i ≤ 72057594037927935) ∧ (¬ (2 ≤ x.k ∧ x.k ≤ 5) → x.i = 0) ∧
  (x.k = 2 → 0 ≤ x.o ∧ x.o ≤ 255) ∧ (x.k = 6 ∨ x.k = 7 → 0 ≤ x.o ∧ x.o ≤ 63) ∧ (¬ (x.k = 2 ∨ x.k = 6 ∨ x.k = 7) → x.o = 0) ∧
  (x.k = 2 → x.d.length % 16 = 0 ∧ 16 ≤ x.d.length ∧ x.d.length ≤ 128) ∧ (x.k = 6 → x.d.length = 64) ∧ (¬ (x.k = 2 ∨ x.k = 6) → x.d.length = 0)
def fineD (x : Ms) : Decidable (Fine x) := by
  unfold Fine
  infer_instance
def good (x : Ms) : Bool := @decide (Fine x) (fineD x)
theorem good_in {x : Ms} (h : Fine x) : good x = true := @decide_eq_true _ (fineD x) h
theorem good_out {x : Ms} (h : ¬ Fine x) : good x = false := @decide_eq_false _ (fineD x) h
theorem fine_of {x : Ms} (h : good x = true) : Fine x := @of_decide_eq_true _ (fineD x) h
/-- What stands ahead of the bytes. -/
def wasL (x : Ms) : List Nat := if x.k = 1 then bit x.s :: be 8 x.m else []
def idL (x : Ms) : List Nat := if 2 ≤ x.k ∧ x.k ≤ 5 then be 8 (x.i % 18446744073709551616).toNat else []
def offL (x : Ms) : List Nat := if x.k = 2 ∨ x.k = 6 ∨ x.k = 7 then be 2 (x.o % 65536).toNat else []
def hd (x : Ms) : List Nat := x.k.toNat :: (wasL x ++ (idL x ++ offL x))
/-- How many bytes that are. -/
def needN (k : Int) : Nat := 1 + (if k = 1 then 9 else 0) + (if 2 ≤ k ∧ k ≤ 5 then 8 else 0) + (if k = 2 ∨ k = 6 ∨ k = 7 then 2 else 0)
theorem hd_length (x : Ms) : (hd x).length = needN x.k := by
  unfold hd needN
  rw [List.length_cons, List.length_append, List.length_append]
  have h1 : (wasL x).length = if x.k = 1 then 9 else 0 := by
    unfold wasL
    split <;> simp [be_length]
  have h2 : (idL x).length = if 2 ≤ x.k ∧ x.k ≤ 5 then 8 else 0 := by
    unfold idL
    split <;> simp [be_length]
  have h3 : (offL x).length = if x.k = 2 ∨ x.k = 6 ∨ x.k = 7 then 2 else 0 := by
    unfold offL
    split <;> simp [be_length]
  rw [h1, h2, h3]
  omega
theorem hd_byte (x : Ms) (h0 : 0 ≤ x.k) (h1 : x.k < 256) : ∀ b ∈ hd x, b < 256 := by
  intro b hb
  unfold hd at hb
  rw [List.mem_cons, List.mem_append, List.mem_append] at hb
  rcases hb with rfl | hb | hb | hb
  · omega
  · unfold wasL at hb
    split at hb
    · rcases List.mem_cons.1 hb with rfl | hb
      · exact bit_lt _
      · exact be_byte _ _ b hb
    · simp at hb
  · unfold idL at hb
    split at hb
    · exact be_byte _ _ b hb
    · simp at hb
  · unfold offL at hb
    split at hb
    · exact be_byte _ _ b hb
    · simp at hb
/-- A message's bytes. -/
def bytesL (x : Ms) : List Nat := if good x = true then hd x ++ x.d else []
theorem bytesL_in {x : Ms} (h : Fine x) : bytesL x = hd x ++ x.d := if_pos (good_in h)
theorem bytesL_out {x : Ms} (h : ¬ Fine x) : bytesL x = [] := if_neg (by rw [good_out h]; simp)
theorem bytesL_byte (x : Ms) (hd : ∀ b ∈ x.d, b < 256) : ∀ b ∈ bytesL x, b < 256 := by
  intro b hb
  by_cases h : Fine x
  · rw [bytesL_in h, List.mem_append] at hb
    rcases hb with hb | hb
    · exact hd_byte x (by have := h.1; omega) (by have := h.2.1; omega) b hb
    · exact hd b hb
  · rw [bytesL_out h] at hb
    simp at hb
theorem needN_le (k : Int) : 1 ≤ needN k ∧ needN k ≤ 11 := by
  unfold needN
  split <;> split <;> split <;> omega
theorem fine_len {x : Ms} (h : Fine x) : x.d.length ≤ 128 := by
  obtain ⟨_, _, _, _, _, _, _, _, h1, h2, h3⟩ := h
  by_cases e : x.k = 2
  · exact (h1 e).2.2
  · by_cases e2 : x.k = 6
    · rw [h2 e2]
      omega
    · rw [h3 (by omega)]
      omega
theorem bytesL_len (x : Ms) : (bytesL x).length ≤ 139 := by
  by_cases h : Fine x
  · rw [bytesL_in h, List.length_append, hd_length]
    have := fine_len h
    have := needN_le x.k
    omega
  · rw [bytesL_out h]
    simp
theorem bytesL_ne {x : Ms} (h : Fine x) : 0 < (bytesL x).length := by
  rw [bytesL_in h, List.length_append, hd_length]
  have := needN_le x.k
  omega
theorem fine_of_ne {x : Ms} (h : bytesL x ≠ []) : Fine x := by
  by_cases hf : Fine x
  · exact hf
  · exact absurd (bytesL_out hf) h
/-- A word as an int. -/
def sg (n : Nat) : Int := if n < 9223372036854775808 then (n : Int) else (n : Int) - 18446744073709551616
/-- What is left behind the marks, behind the number, behind the place. -/
def r1 (k : Int) (l : List Nat) : List Nat := if k = 1 then l.drop 9 else l
def r2 (k : Int) (l : List Nat) : List Nat := if 2 ≤ k ∧ k ≤ 5 then (r1 k l).drop 8 else r1 k l
def r3 (k : Int) (l : List Nat) : List Nat := if k = 2 ∨ k = 6 ∨ k = 7 then (r2 k l).drop 2 else r2 k l
def readS (k : Int) (l : List Nat) : Bool := if k = 1 then decide (l[0]?.getD 0 = 1) else false
def readM (k : Int) (l : List Nat) : Nat := if k = 1 then val ((l.drop 1).take 8) else 0
def readI (k : Int) (l : List Nat) : Int := if 2 ≤ k ∧ k ≤ 5 then sg (val ((r1 k l).take 8)) else 0
def readO (k : Int) (l : List Nat) : Int := if k = 2 ∨ k = 6 ∨ k = 7 then (val ((r2 k l).take 2) : Int) else 0
/-- The message of what stands behind the kind. -/
def readL (k : Int) (l : List Nat) : Ms := ⟨k, readI k l, readO k l, readM k l, readS k l, r3 k l⟩
/-- The message of some bytes, and the error. -/
def parseM (b : List Nat) : Ms :=
  if 200 < b.length then m0 else
  match b with
  | [] => m0
  | k :: l => if (k :: l).length < needN k then m0 else if bytesL (readL k l) = k :: l then readL k l else m0
def parseE (b : List Nat) : Int :=
  if 200 < b.length then 11 else
  match b with
  | [] => 8
  | k :: l => if (k :: l).length < needN k then 8 else if bytesL (readL k l) = k :: l then 0 else 9
theorem parse_long {b : List Nat} (h : 200 < b.length) : parseM b = m0 ∧ parseE b = 11 := by
  unfold parseM parseE
  rw [if_pos h, if_pos h]
  exact ⟨rfl, rfl⟩
theorem parse_nil : parseM [] = m0 ∧ parseE [] = 8 := ⟨rfl, rfl⟩
theorem parse_short {k : Nat} {l : List Nat} (h0 : (k :: l).length ≤ 200) (h : (k :: l).length < needN k) : parseM (k :: l) = m0 ∧ parseE (k :: l) = 8 := by
  unfold parseM parseE
  rw [if_neg (by omega), if_neg (by omega)]
  simp only [if_pos h, and_self]
theorem parse_bad {k : Nat} {l : List Nat} (h0 : (k :: l).length ≤ 200) (h : ¬ (k :: l).length < needN k) (h2 : bytesL (readL k l) ≠ k :: l) : parseM (k :: l) = m0 ∧ parseE (k :: l) = 9 := by
  unfold parseM parseE
  rw [if_neg (by omega), if_neg (by omega)]
  simp only [if_neg h, if_neg h2, and_self]
theorem parse_ok {k : Nat} {l : List Nat} (h0 : (k :: l).length ≤ 200) (h : ¬ (k :: l).length < needN k) (h2 : bytesL (readL k l) = k :: l) : parseM (k :: l) = readL k l ∧ parseE (k :: l) = 0 := by
  unfold parseM parseE
  rw [if_neg (by omega), if_neg (by omega)]
  simp only [if_neg h, if_pos h2, and_self]
/-- What is a message is the bytes of that message. -/
theorem parse_is {b : List Nat} (h : parseE b = 0) : bytesL (parseM b) = b ∧ Fine (parseM b) := by
  by_cases h0 : 200 < b.length
  · rw [(parse_long h0).2] at h
    simp at h
  · match b, h, h0 with
    | [], h, _ =>
      rw [parse_nil.2] at h
      simp at h
    | k :: l, h, h0 =>
      by_cases h1 : (k :: l).length < needN k
      · rw [(parse_short (by omega) h1).2] at h
        simp at h
      · by_cases h2 : bytesL (readL k l) = k :: l
        · rw [(parse_ok (by omega) h1 h2).1]
          exact ⟨h2, fine_of_ne (by rw [h2]; simp)⟩
        · rw [(parse_bad (by omega) h1 h2).2] at h
          simp at h
theorem val_be2 {x : Nat} (h : x < 65536) : val (be 2 x) = x := by
  rw [val_be, Nat.mod_eq_of_lt (by simpa using h)]
theorem val_be8 {x : Nat} (h : x < 18446744073709551616) : val (be 8 x) = x := by
  rw [val_be, Nat.mod_eq_of_lt (by simpa using h)]
theorem take_front {α : Type} (a b : List α) (n : Nat) (h : a.length = n) : (a ++ b).take n = a := by
  subst h
  simp
theorem drop_front {α : Type} (a b : List α) (n : Nat) (h : a.length = n) : (a ++ b).drop n = b := by
  subst h
  simp
/-- A message that may be comes back. -/
theorem read_back {x : Ms} (h : Fine x) (hm : x.m < 18446744073709551616) : readL x.k (wasL x ++ (idL x ++ offL x) ++ x.d) = x := by
  obtain ⟨k, i, o, m, s, d⟩ := x
  obtain ⟨h1, h2, h3, h4, h5, h6, h7, h8, h9, h10, h11⟩ := h
  simp only at h1 h2 h3 h4 h5 h6 h7 h8 h9 h10 h11 hm ⊢
  have b8 : ∀ y, (be 8 y).length = 8 := fun y => be_length 8 y
  have b2 : ∀ y, (be 2 y).length = 2 := fun y => be_length 2 y
  have e1 : r1 k (wasL ⟨k, i, o, m, s, d⟩ ++ (idL ⟨k, i, o, m, s, d⟩ ++ offL ⟨k, i, o, m, s, d⟩) ++ d) = idL ⟨k, i, o, m, s, d⟩ ++ (offL ⟨k, i, o, m, s, d⟩ ++ d) := by
    unfold r1 wasL
    by_cases e : k = 1
    · simp only [if_pos e]
      rw [List.append_assoc, drop_front _ _ 9 (by rw [List.length_cons, b8]), List.append_assoc]
    · simp only [if_neg e]
      rw [List.nil_append, List.append_assoc]
  have e2 : r2 k (wasL ⟨k, i, o, m, s, d⟩ ++ (idL ⟨k, i, o, m, s, d⟩ ++ offL ⟨k, i, o, m, s, d⟩) ++ d) = offL ⟨k, i, o, m, s, d⟩ ++ d := by
    unfold r2
    rw [e1]
    unfold idL
    by_cases e : 2 ≤ k ∧ k ≤ 5
    · simp only [if_pos e]
      rw [drop_front _ _ 8 (b8 _)]
    · simp only [if_neg e]
      rw [List.nil_append]
  have e3 : r3 k (wasL ⟨k, i, o, m, s, d⟩ ++ (idL ⟨k, i, o, m, s, d⟩ ++ offL ⟨k, i, o, m, s, d⟩) ++ d) = d := by
    unfold r3
    rw [e2]
    unfold offL
    by_cases e : k = 2 ∨ k = 6 ∨ k = 7
    · simp only [if_pos e]
      rw [drop_front _ _ 2 (b2 _)]
    · simp only [if_neg e]
      rw [List.nil_append]
  unfold readL
  rw [e3]
  have eI : readI k (wasL ⟨k, i, o, m, s, d⟩ ++ (idL ⟨k, i, o, m, s, d⟩ ++ offL ⟨k, i, o, m, s, d⟩) ++ d) = i := by
    unfold readI
    rw [e1]
    unfold idL
    by_cases e : 2 ≤ k ∧ k ≤ 5
    · have := h4 e
      simp only [if_pos e]
      rw [take_front _ _ 8 (b8 _), val_be8 (by omega)]
      unfold sg
      rw [if_pos (by omega)]
      omega
    · simp only [if_neg e]
      exact (h5 e).symm
  have eO : readO k (wasL ⟨k, i, o, m, s, d⟩ ++ (idL ⟨k, i, o, m, s, d⟩ ++ offL ⟨k, i, o, m, s, d⟩) ++ d) = o := by
    unfold readO
    rw [e2]
    unfold offL
    by_cases e : k = 2 ∨ k = 6 ∨ k = 7
    · simp only [if_pos e]
      rw [take_front _ _ 2 (b2 _), val_be2 (by omega)]
      rcases e with e | e
      · have := h6 e
        omega
      · have := h7 e
        omega
    · simp only [if_neg e]
      exact (h8 e).symm
  have eM : readM k (wasL ⟨k, i, o, m, s, d⟩ ++ (idL ⟨k, i, o, m, s, d⟩ ++ offL ⟨k, i, o, m, s, d⟩) ++ d) = m := by
    unfold readM wasL
    by_cases e : k = 1
    · simp only [if_pos e]
      rw [List.append_assoc, List.cons_append, List.drop_succ_cons, List.drop_zero, take_front _ _ 8 (b8 _), val_be8 hm]
    · simp only [if_neg e]
      exact ((h3.resolve_left e).2).symm
  have eS : readS k (wasL ⟨k, i, o, m, s, d⟩ ++ (idL ⟨k, i, o, m, s, d⟩ ++ offL ⟨k, i, o, m, s, d⟩) ++ d) = s := by
    unfold readS wasL
    by_cases e : k = 1
    · simp only [if_pos e]
      cases s <;> simp [bit]
    · simp only [if_neg e]
      exact ((h3.resolve_left e).1).symm
  rw [eI, eO, eM, eS]
theorem parse_back {x : Ms} (h : Fine x) (hm : x.m < 18446744073709551616) : parseM (bytesL x) = x ∧ parseE (bytesL x) = 0 := by
  have hl := bytesL_len x
  have hb := bytesL_in h
  have hr := read_back h hm
  have hk : ((x.k.toNat : Nat) : Int) = x.k := by have := h.1; omega
  have hs : bytesL x = x.k.toNat :: (wasL x ++ (idL x ++ offL x) ++ x.d) := by
    rw [hb]
    rfl
  have hn : ¬ (bytesL x).length < needN ((x.k.toNat : Nat) : Int) := by
    rw [hb, List.length_append, hd_length, hk]
    omega
  rw [hs] at hl hn ⊢
  have e : readL ((x.k.toNat : Nat) : Int) (wasL x ++ (idL x ++ offL x) ++ x.d) = x := by rw [hk]; exact hr
  have := parse_ok (by omega) hn (by rw [e]; exact hs)
  rw [e] at this
  exact this
/-- Fewer of a message's bytes are not that message's. -/
theorem parse_cut {x : Ms} (c : Nat) (hc : c < (bytesL x).length) (h : parseE ((bytesL x).take c) = 0) : parseM ((bytesL x).take c) ≠ x := by
  intro e
  have h1 := (parse_is h).1
  rw [e] at h1
  have h2 := congrArg List.length h1
  rw [List.length_take] at h2
  omega
/-- A kind that there is not. -/
theorem not_fine_kind {x : Ms} (h : x.k < 1 ∨ 8 < x.k) : ¬ Fine x := fun hf => by
  have := hf.1
  have := hf.2.1
  omega
theorem needN_out {k : Int} (h : k < 1 ∨ 8 < k) : needN k = 1 := by
  unfold needN
  rw [if_neg (by omega), if_neg (by omega), if_neg (by omega)]
theorem not_fine_id {k : Int} {l : List Nat} (h : 2 ≤ k ∧ k ≤ 5) (hi : 72057594037927935 < val ((r1 k l).take 8)) (hv : val ((r1 k l).take 8) < 18446744073709551616) : ¬ Fine (readL k l) := fun hf => by
  have h4 := hf.2.2.2.1 h
  have e : (readL k l).i = sg (val ((r1 k l).take 8)) := if_pos h
  rw [e] at h4
  unfold sg at h4
  split at h4 <;> omega
end Go.Proofs.YtfiofdmefgkloaaGreat.Pack

