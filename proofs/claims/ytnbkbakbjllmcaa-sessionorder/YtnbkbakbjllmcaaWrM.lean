import Derived.Test.YtnbkbakbjllmcaaSeal2
/-
  Plain facts of layer 18: a packet, whether it may be, its bytes, and the packet of some bytes.
-/
namespace Go.Proofs.Ytnbkbakbjllmcaa.Wire
open Seal (sealed gotE gotL getv)
open Seal.sealBack (turn)
open Seal.Math

/-- A packet: from whom, to whom, its kind, its number, what it answers, its bytes. -/
structure Ps where
  f : Nat
  t : Nat
  k : Int
  s : Int
  a : Int
  d : List Nat
/-- The packet of nothing. -/
def p0 : Ps := ⟨0, 0, 0, 0, 0, []⟩
/-- What may be. -/
def Fine (p : Ps) : Prop :=
  1 ≤ p.f ∧ (0 ≤ p.a ∧ p.a ≤ 2147483647) ∧ (0 ≤ p.s ∧ p.s ≤ 2147483647) ∧
  (p.k = 1 ∧ p.t = 0 ∧ p.s = 0 ∧ p.a = 0 ∧ p.d.length = 0 ∨ p.k = 2 ∧ 1 ≤ p.t ∧ p.s = 0 ∧ p.d.length = 0 ∨ p.k = 3 ∧ 1 ≤ p.t ∧ 1 ≤ p.s ∧ 1 ≤ p.d.length ∧ p.d.length ≤ 200)
def fineD (p : Ps) : Decidable (Fine p) := by
  unfold Fine
  infer_instance
def good (p : Ps) : Bool := @decide (Fine p) (fineD p)
theorem good_in {p : Ps} (h : Fine p) : good p = true := @decide_eq_true _ (fineD p) h
theorem good_out {p : Ps} (h : ¬ Fine p) : good p = false := @decide_eq_false _ (fineD p) h
theorem fine_kind {p : Ps} (h : Fine p) : 1 ≤ p.k ∧ p.k ≤ 3 := by
  obtain ⟨_, _, _, h | h | h⟩ := h
  · rw [h.1]; decide
  · rw [h.1]; decide
  · rw [h.1]; decide
theorem fine_len {p : Ps} (h : Fine p) : p.d.length ≤ 200 := by
  obtain ⟨_, _, _, h | h | h⟩ := h <;> omega
/-- What stands ahead of the body. -/
def hd (p : Ps) : List Nat := be 2 (23 + p.d.length) ++ (be 4 p.f ++ (be 4 p.t ++ (p.k.toNat :: (be 4 p.s.toNat ++ be 4 p.a.toNat))))
theorem hd_length (p : Ps) : (hd p).length = 19 := by simp [hd, be_length]
theorem hd_byte (p : Ps) (h0 : 0 ≤ p.k) (h1 : p.k < 256) : ∀ b ∈ hd p, b < 256 := by
  intro b hb
  unfold hd at hb
  rw [List.mem_append, List.mem_append, List.mem_append, List.mem_cons, List.mem_append] at hb
  rcases hb with hb | hb | hb | rfl | hb | hb
  · exact be_byte _ _ b hb
  · exact be_byte _ _ b hb
  · exact be_byte _ _ b hb
  · omega
  · exact be_byte _ _ b hb
  · exact be_byte _ _ b hb
/-- A packet's bytes. -/
def bytesL (p : Ps) : List Nat := if good p = true then sealed (hd p ++ p.d) else []
theorem bytesL_in {p : Ps} (h : Fine p) : bytesL p = sealed (hd p ++ p.d) := if_pos (good_in h)
theorem bytesL_out {p : Ps} (h : ¬ Fine p) : bytesL p = [] := if_neg (by rw [good_out h]; simp)
theorem bytesL_length {p : Ps} (h : Fine p) : (bytesL p).length = 23 + p.d.length := by
  rw [bytesL_in h, Seal.sealed_length, List.length_append, hd_length]
  omega
theorem bytesL_len (p : Ps) : (bytesL p).length ≤ 223 := by
  by_cases h : Fine p
  · have := bytesL_length h
    have := fine_len h
    omega
  · rw [bytesL_out h]
    simp
theorem body_byte {p : Ps} (h : Fine p) (hd' : ∀ b ∈ p.d, b < 256) : ∀ b ∈ hd p ++ p.d, b < 256 := fun b hb => by
  have := fine_kind h
  exact (List.mem_append.1 hb).elim (hd_byte p (by omega) (by omega) b) (hd' b)
/-- The packet of what is sealed. -/
def readP (x : List Nat) : Ps := ⟨val ((x.drop 2).take 4), val ((x.drop 6).take 4), (x[10]?.getD 0 : Nat), (val ((x.drop 11).take 4) : Nat), (val ((x.drop 15).take 4) : Nat), x.drop 19⟩
/-- The error of some bytes, and the packet. -/
def parseE (b : List Nat) : Int :=
  if b.length < 23 then 8 else if 223 < b.length then 11 else if getv 2 b ≠ b.length then 9 else if gotE b ≠ 0 then (gotE b : Int) else if good (readP (gotL b)) = true then 0 else 9
def parseM (b : List Nat) : Ps := if parseE b = 0 then readP (gotL b) else p0
theorem parseM_in {b : List Nat} (h : parseE b = 0) : parseM b = readP (gotL b) := if_pos h
theorem parseM_out {b : List Nat} (h : parseE b ≠ 0) : parseM b = p0 := if_neg h
theorem got_in {b : List Nat} (h : gotE b = 0) : 4 ≤ b.length ∧ sealed (b.take (b.length - 4)) = b ∧ gotL b = b.take (b.length - 4) := by
  unfold gotE at h
  split at h
  · simp at h
  · split at h
    · rename_i h1 h2
      refine ⟨by omega, h2, ?_⟩
      unfold gotL
      rw [if_neg h1, if_pos h2]
    · simp at h
theorem take_front {α : Type} (a b : List α) (n : Nat) (h : a.length = n) : (a ++ b).take n = a := by
  subst h
  simp
theorem drop_front {α : Type} (a b : List α) (n : Nat) (h : a.length = n) : (a ++ b).drop n = b := by
  subst h
  simp
theorem val_be2 {x : Nat} (h : x < 65536) : val (be 2 x) = x := by
  rw [val_be, Nat.mod_eq_of_lt (by simpa using h)]
theorem val_be4 {x : Nat} (h : x < 4294967296) : val (be 4 x) = x := by
  rw [val_be, Nat.mod_eq_of_lt (by simpa using h)]
/-- A packet that may be comes back from what is sealed. -/
theorem read_back {p : Ps} (h : Fine p) (hf : p.f < 4294967296) (ht : p.t < 4294967296) : readP (hd p ++ p.d) = p := by
  obtain ⟨f, t, k, s, a, d⟩ := p
  have hk := fine_kind h
  obtain ⟨h1, h2, h3, h4⟩ := h
  simp only at h1 h2 h3 h4 hf ht hk
  have b2 : ∀ y, (be 2 y).length = 2 := fun y => be_length 2 y
  have b4 : ∀ y, (be 4 y).length = 4 := fun y => be_length 4 y
  have ex : hd ⟨f, t, k, s, a, d⟩ ++ d = be 2 (23 + d.length) ++ (be 4 f ++ (be 4 t ++ (k.toNat :: (be 4 s.toNat ++ (be 4 a.toNat ++ d))))) := by simp [hd]
  have e2 : (hd ⟨f, t, k, s, a, d⟩ ++ d).drop 2 = be 4 f ++ (be 4 t ++ (k.toNat :: (be 4 s.toNat ++ (be 4 a.toNat ++ d)))) := by
    rw [ex, drop_front _ _ 2 (b2 _)]
  have e6 : (hd ⟨f, t, k, s, a, d⟩ ++ d).drop 6 = be 4 t ++ (k.toNat :: (be 4 s.toNat ++ (be 4 a.toNat ++ d))) := by
    rw [show (6 : Nat) = 2 + 4 from rfl, ← List.drop_drop, e2, drop_front _ _ 4 (b4 _)]
  have e10 : (hd ⟨f, t, k, s, a, d⟩ ++ d).drop 10 = k.toNat :: (be 4 s.toNat ++ (be 4 a.toNat ++ d)) := by
    rw [show (10 : Nat) = 6 + 4 from rfl, ← List.drop_drop, e6, drop_front _ _ 4 (b4 _)]
  have e11 : (hd ⟨f, t, k, s, a, d⟩ ++ d).drop 11 = be 4 s.toNat ++ (be 4 a.toNat ++ d) := by
    rw [show (11 : Nat) = 10 + 1 from rfl, ← List.drop_drop, e10, List.drop_one]
    rfl
  have e15 : (hd ⟨f, t, k, s, a, d⟩ ++ d).drop 15 = be 4 a.toNat ++ d := by
    rw [show (15 : Nat) = 11 + 4 from rfl, ← List.drop_drop, e11, drop_front _ _ 4 (b4 _)]
  have e19 : (hd ⟨f, t, k, s, a, d⟩ ++ d).drop 19 = d := by
    rw [show (19 : Nat) = 15 + 4 from rfl, ← List.drop_drop, e15, drop_front _ _ 4 (b4 _)]
  have eK : (hd ⟨f, t, k, s, a, d⟩ ++ d)[10]?.getD 0 = k.toNat := by
    have := congrArg (fun l : List Nat => l[0]?.getD 0) e10
    simp only [List.getElem?_drop, Nat.add_zero, List.getElem?_cons_zero, Option.getD_some] at this
    exact this
  unfold readP
  rw [e2, e6, e11, e15, e19, eK, take_front _ _ 4 (b4 _), take_front _ _ 4 (b4 _), take_front _ _ 4 (b4 _), take_front _ _ 4 (b4 _), val_be4 hf, val_be4 ht, val_be4 (by omega), val_be4 (by omega)]
  have u1 : ((k.toNat : Nat) : Int) = k := by omega
  have u2 : ((s.toNat : Nat) : Int) = s := by omega
  have u3 : ((a.toNat : Nat) : Int) = a := by omega
  rw [u1, u2, u3]
theorem first_two {p : Ps} (h : Fine p) : (bytesL p).take 2 = be 2 (23 + p.d.length) := by
  have e : bytesL p = be 2 (23 + p.d.length) ++ (be 4 p.f ++ (be 4 p.t ++ (p.k.toNat :: (be 4 p.s.toNat ++ (be 4 p.a.toNat ++ (p.d ++ Seal.le4 (Seal.more 0 (hd p ++ p.d)))))))) := by
    rw [bytesL_in h]
    unfold sealed
    conv => lhs; arg 1; unfold hd
    simp
  rw [e, take_front _ _ 2 (be_length 2 _)]
theorem first_num {p : Ps} (h : Fine p) : getv 2 (bytesL p) = (bytesL p).length := by
  have := fine_len h
  have hl := bytesL_length h
  rw [Seal.getv_in (by omega), first_two h, val_be2 (by omega), hl]
theorem parse_back {p : Ps} (h : Fine p) (hf : p.f < 4294967296) (ht : p.t < 4294967296) : parseM (bytesL p) = p ∧ parseE (bytesL p) = 0 := by
  have hl := bytesL_length h
  have := fine_len h
  have hr := read_back h hf ht
  have hg : gotE (bytesL p) = 0 := by rw [bytesL_in h]; exact Seal.sealBack.gotE_sealed _
  have hG : gotL (bytesL p) = hd p ++ p.d := by rw [bytesL_in h]; exact Seal.sealBack.gotL_sealed _
  have he : parseE (bytesL p) = 0 := by
    unfold parseE
    rw [if_neg (by omega), if_neg (by omega), if_neg (by rw [first_num h]; simp), if_neg (by rw [hg]; simp), if_pos (by rw [hG, hr]; exact good_in h)]
  exact ⟨by rw [parseM_in he, hG, hr], he⟩
end Go.Proofs.Ytnbkbakbjllmcaa.Wire

