/-
  Plain: which of the items that wait may go on; the first that may.
-/
import Derived.Test.YtfmhifhgmkffhaaSpanMath
namespace Go.Proofs.Ytfmhifhgmkffhaa.Wait
open Span.Math

/-- An item. -/
structure It where
  t : Int
  k : Int
  o : Int
  l : Int
def ov (x y : It) : Bool := over y.o y.l x.o x.l
def wov (x y : It) : Bool := y.k == 1 && over y.o y.l x.o x.l
def sov (x : It) (s : Int × Int) : Bool := over s.1 s.2 x.o x.l
def isW (y : It) : Bool := y.k == 1
def less (x y : It) : Bool := decide (y.t < x.t)
/-- What holds x up: ahead of it, flying, waiting here. -/
def h1 (x y : It) : Bool := y.k == 1 && (x.k == 2 || over y.o y.l x.o x.l)
def h2 (x y : It) : Bool := (x.k == 2 && decide (y.t < x.t)) || (x.k != 2 && over y.o y.l x.o x.l)
def h3 (x : It) (s : Int × Int) : Bool := x.k == 1 && over s.1 s.2 x.o x.l
def mayX (x : It) (A F : List It) (S : List (Int × Int)) : Bool := decide (0 ≤ x.k ∧ x.k ≤ 2) && (!(A.any (h1 x)) && (!(F.any (h2 x)) && !(S.any (h3 x))))
def mayN (L F : List It) (S : List (Int × Int)) (j : Nat) : Bool :=
  match L[j]? with
  | none => false
  | some x => mayX x (L.take j) F S
def mayZ (L F : List It) (S : List (Int × Int)) (i : Int) : Bool := if i < 0 then false else mayN L F S i.toNat

theorem mayX_bad {x : It} (h : x.k < 0 ∨ 2 < x.k) (A F : List It) (S : List (Int × Int)) : mayX x A F S = false := by
  have : decide (0 ≤ x.k ∧ x.k ≤ 2) = false := decide_eq_false (by omega)
  simp only [mayX, this, Bool.false_and]
theorem any_false {α : Type} (l : List α) (f : α → Bool) (h : ∀ y, f y = false) : l.any f = false := by
  induction l with
  | nil => rfl
  | cons y l ih => simp [h y, ih]
theorem mayX_read {x : It} (h : x.k = 0) (A F : List It) (S : List (Int × Int)) : mayX x A F S = !([F.any (ov x), A.any (wov x)].any id) := by
  have e1 : h1 x = wov x := by funext y; simp [h1, wov, h]
  have e2 : h2 x = ov x := by funext y; simp [h2, ov, h]
  have e3 := any_false S (h3 x) (fun y => by simp [h3, h])
  unfold mayX
  rw [e1, e2, e3]
  simp [h]
  cases A.any (wov x) <;> cases F.any (ov x) <;> rfl
theorem mayX_write {x : It} (h : x.k = 1) (A F : List It) (S : List (Int × Int)) : mayX x A F S = !([F.any (ov x), A.any (wov x), S.any (sov x)].any id) := by
  have e1 : h1 x = wov x := by funext y; simp [h1, wov, h]
  have e2 : h2 x = ov x := by funext y; simp [h2, ov, h]
  have e3 : h3 x = sov x := by funext y; simp [h3, sov, h]
  unfold mayX
  rw [e1, e2, e3]
  simp [h]
  cases A.any (wov x) <;> cases F.any (ov x) <;> cases S.any (sov x) <;> rfl
theorem mayX_flush {x : It} (h : x.k = 2) (A F : List It) (S : List (Int × Int)) : mayX x A F S = !([A.any isW, F.any (less x)].any id) := by
  have e1 : h1 x = isW := by funext y; simp [h1, isW, h]
  have e2 : h2 x = less x := by funext y; simp [h2, less, h]
  have e3 := any_false S (h3 x) (fun y => by simp [h3, h])
  unfold mayX
  rw [e1, e2, e3]
  simp [h]
theorem mayZ_out {L : List It} {i : Int} (h : i < 0 ∨ (L.length : Int) ≤ i) (F : List It) (S : List (Int × Int)) : mayZ L F S i = false := by
  unfold mayZ
  split
  · rfl
  · unfold mayN
    rw [List.getElem?_eq_none (by omega)]
theorem mayZ_nat (L F : List It) (S : List (Int × Int)) (j : Nat) : mayZ L F S (j : Int) = mayN L F S j := by
  unfold mayZ
  rw [if_neg (by omega)]
  simp
theorem mayN_some {L : List It} {j : Nat} {x : It} (h : L[j]? = some x) (F : List It) (S : List (Int × Int)) : mayN L F S j = mayX x (L.take j) F S := by
  unfold mayN
  rw [h]

/-- The first of the places from f on. -/
def IsFirst (m : Nat → Bool) (n : Nat) (f : Int) (r : Int) (ok : Bool) : Prop :=
  (ok = true ∧ ∃ j : Nat, r = j ∧ 0 ≤ f ∧ f ≤ j ∧ j < n ∧ m j = true ∧ ∀ i : Nat, f ≤ i → i < j → m i = false) ∨ (ok = false ∧ r = 0 ∧ (0 ≤ f → ∀ i : Nat, f ≤ i → i < n → m i = false))
theorem first_one {m : Nat → Bool} {n : Nat} {f r r' : Int} {ok ok' : Bool} (h : IsFirst m n f r ok) (h' : IsFirst m n f r' ok') : r = r' ∧ ok = ok' := by
  rcases h with ⟨rfl, j, rfl, h1, h2, h3, h4, h5⟩ | ⟨rfl, rfl, h5⟩ <;> rcases h' with ⟨rfl, j', rfl, g1, g2, g3, g4, g5⟩ | ⟨rfl, rfl, g5⟩
  · rcases Nat.lt_trichotomy j j' with c | c | c
    · rw [g5 j h2 c] at h4
      cases h4
    · subst c
      exact ⟨rfl, rfl⟩
    · rw [h5 j' g2 c] at g4
      cases g4
  · rw [g5 h1 j h2 h3] at h4
    cases h4
  · rw [h5 g1 j' g2 g3] at g4
    cases g4
  · exact ⟨rfl, rfl⟩

/-- A kind as WaitFirst makes it. -/
def kf (k : Int) : Int := if k < 0 then Int.tmod (-(Int.tmod k 3)) 3 else Int.tmod k 3
theorem kf_in (k : Int) : 0 ≤ kf k ∧ kf k ≤ 2 := by
  unfold kf
  split
  · have e : Int.tmod k 3 = -(Int.tmod (-k) 3) := by rw [Int.neg_tmod, Int.neg_neg]
    rw [e, Int.neg_neg]
    have h1 : 0 ≤ Int.tmod (-k) 3 := Int.tmod_nonneg 3 (by omega)
    have h2 : Int.tmod (Int.tmod (-k) 3) 3 < 3 := Int.tmod_lt_of_pos _ (by omega)
    have h3 : 0 ≤ Int.tmod (Int.tmod (-k) 3) 3 := Int.tmod_nonneg 3 h1
    omega
  · have h1 : 0 ≤ Int.tmod k 3 := Int.tmod_nonneg 3 (by omega)
    have h2 : Int.tmod k 3 < 3 := Int.tmod_lt_of_pos _ (by omega)
    omega
def kfI (x : It) : It := ⟨x.t, kf x.k, x.o, x.l⟩
/-- The first of all may go on. -/
theorem may_head {L : List It} (h : 0 < L.length) (hk : ∀ x ∈ L, 0 ≤ x.k ∧ x.k ≤ 2) : mayN L [] [] 0 = true := by
  obtain ⟨x, hx⟩ : ∃ x, L[0]? = some x := ⟨_, List.getElem?_eq_getElem h⟩
  rw [mayN_some hx]
  have hm := hk x (List.mem_of_getElem? hx)
  simp [mayX, hm]
def meetsB (o l p m : Int) : Bool := plain o l && (plain p m && (decide (0 < l) && (decide (0 < m) && (decide (o < p + m) && decide (p < o + l)))))
theorem over_of_meets {o l p m : Int} (h : meetsB o l p m = true) : over o l p m = true := by
  unfold meetsB at h
  simp only [Bool.and_eq_true, decide_eq_true_eq] at h
  obtain ⟨h1, h2, h3, h4, h5, h6⟩ := h
  refine over_true h1 h2 ?_
  have := of_plain h1
  have := of_plain h2
  omega
theorem may_behind {L : List It} {j i : Nat} {x y : It} (hx : L[i]? = some x) (hy : L[j]? = some y) (hji : j < i) (hw : y.k = 1) (hm : meetsB y.o y.l x.o x.l = true) : mayN L [] [] i = false := by
  rw [mayN_some hx]
  have hmem : y ∈ L.take i := by
    have : (L.take i)[j]? = some y := by rw [List.getElem?_take_of_lt hji]; exact hy
    exact List.mem_of_getElem? this
  have : (L.take i).any (h1 x) = true := List.any_eq_true.2 ⟨y, hmem, by simp [h1, hw, over_of_meets hm]⟩
  unfold mayX
  rw [this]
  simp
end Go.Proofs.Ytfmhifhgmkffhaa.Wait
