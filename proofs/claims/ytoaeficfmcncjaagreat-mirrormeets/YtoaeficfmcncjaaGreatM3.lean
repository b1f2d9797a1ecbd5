/-
 Plain facts on spans by their ids in order: which stands ahead, where one stands, what is put in and taken out, who overlaps. No program is named here.
-/
import Derived.Test.YtoaeficfmcncjaaGreatM2
import Derived.Test.YtoaeficfmcncjaaGreatM1
namespace Go.Proofs.YtoaeficfmcncjaaGreat.Itree
structure It where
 o : Int
 l : Int
 i : Int
 deriving DecidableEq
structure It.Ok (x : It) : Prop where
 o0 : -9223372036854775808 ≤ x.o
 o1 : x.o ≤ 9223372036854775807
 l0 : -9223372036854775808 ≤ x.l
 l1 : x.l ≤ 9223372036854775807
 i0 : -9223372036854775808 ≤ x.i
 i1 : x.i ≤ 9223372036854775807
def ahead (a b : It) : Bool := if a.o = b.o then (if a.l = b.l then decide (a.i < b.i) else decide (a.l < b.l)) else decide (a.o < b.o)
theorem ahead_iff (a b : It) : ahead a b = true ↔ a.o < b.o ∨ (a.o = b.o ∧ (a.l < b.l ∨ (a.l = b.l ∧ a.i < b.i))) := by
 unfold ahead
 by_cases h1 : a.o = b.o
 ·rw [if_pos h1]
  by_cases h2 : a.l = b.l
  ·rw [if_pos h2, decide_eq_true_iff]
   omega
  ·rw [if_neg h2, decide_eq_true_iff]
   omega
 ·rw [if_neg h1, decide_eq_true_iff]
  omega
theorem It.eq_iff (a b : It) : a = b ↔ a.o = b.o ∧ a.l = b.l ∧ a.i = b.i := by
 constructor
 ·rintro rfl
  exact ⟨rfl, rfl, rfl⟩
 ·obtain ⟨o, l, i⟩ := a
  obtain ⟨o', l', i'⟩ := b
  rintro ⟨h1, h2, h3⟩
  simp at h1 h2 h3
  rw [h1, h2, h3]
theorem ahead_irrefl (a : It) : ahead a a = false := by
 cases h : ahead a a with
 | false => rfl
 | true =>
  rw [ahead_iff] at h
  omega
theorem ahead_trans {a b c : It} (h : ahead a b = true) (k : ahead b c = true) : ahead a c = true := by
 rw [ahead_iff] at *
 omega
theorem ahead_asymm {a b : It} (h : ahead a b = true) : ahead b a = false := by
 cases k : ahead b a with
 | false => rfl
 | true =>
  have := ahead_trans h k
  rw [ahead_irrefl] at this
  cases this
theorem ahead_total (a b : It) : ahead a b = true ∨ a = b ∨ ahead b a = true := by
 rw [ahead_iff, ahead_iff, It.eq_iff]
 omega
def Sorted (L : List It) : Prop := L.Pairwise fun a b => ahead a b = true
theorem Sorted.nil : Sorted [] := List.Pairwise.nil
theorem sorted_append {A B : List It} : Sorted (A ++ B) ↔ Sorted A ∧ Sorted B ∧ ∀ a ∈ A, ∀ b ∈ B, ahead a b = true := List.pairwise_append
theorem sorted_cons {x : It} {B : List It} : Sorted (x :: B) ↔ (∀ b ∈ B, ahead x b = true) ∧ Sorted B := List.pairwise_cons
def place (L : List It) (x : It) : Nat := (L.takeWhile fun a => ahead a x).length
theorem place_le (L : List It) (x : It) : place L x ≤ L.length := by
 unfold place
 exact (List.takeWhile_sublist _).length_le
theorem place_of {A B : List It} {x : It} (h1 : ∀ a ∈ A, ahead a x = true) (h2 : ∀ b, B.head? = some b → ahead b x = false) : place (A ++ B) x = A.length := by
 unfold place
 induction A with
 | nil =>
  cases B with
  | nil => rfl
  | cons b B =>
   have := h2 b rfl
   simp [this]
 | cons a A ih =>
  have ha := h1 a (by simp)
  simp only [List.cons_append, List.takeWhile_cons, ha, if_true, List.length_cons]
  rw [ih fun a' h => h1 a' (by simp [h])]
theorem place_ahead (L : List It) (x : It) (j : Nat) (hj : j < place L x) : ∃ a, L[j]? = some a ∧ ahead a x = true := by
 unfold place at hj
 induction L generalizing j with
 | nil => simp at hj
 | cons a L ih =>
  by_cases h : ahead a x = true
  ·cases j with
   | zero => exact ⟨a, rfl, h⟩
   | succ j =>
    simp only [List.takeWhile_cons, h, if_true, List.length_cons] at hj
    exact ih j (by omega)
  ·simp [h] at hj
theorem place_not (L : List It) (x a : It) (h : L[place L x]? = some a) : ahead a x = false := by
 unfold place at h
 induction L with
 | nil => simp at h
 | cons b L ih =>
  by_cases hb : ahead b x = true
  ·simp only [List.takeWhile_cons, hb, if_true, List.length_cons, List.getElem?_cons_succ] at h
   exact ih h
  ·have hb' : ahead b x = false := by simpa using hb
   simp only [List.takeWhile_cons, hb', Bool.false_eq_true, if_false, List.length_nil, List.getElem?_cons_zero, Option.some.injEq] at h
   rw [← h]
   exact hb'
def there (L : List It) (x : It) : Bool := decide (L[place L x]? = some x)
def good (x : It) : Bool := Span.Math.plain x.o x.l && decide (1 ≤ x.l)
def insOk (L : List It) (x : It) : Bool := good x && !there L x
def insL (L : List It) (x : It) : List It := if insOk L x then L.take (place L x) ++ x :: L.drop (place L x) else L
def delL (L : List It) (x : It) : List It := if there L x then L.take (place L x) ++ L.drop (place L x + 1) else L
def ovL (L : List It) (p m : Int) : List Int := (L.filter fun x => Span.Math.over x.o x.l p m).map (·.i)
theorem there_mid {A B : List It} {x : It} (h : Sorted (A ++ x :: B)) : place (A ++ x :: B) x = A.length ∧ there (A ++ x :: B) x = true := by
 have e : place (A ++ x :: B) x = A.length := place_of (fun a ha => (sorted_append.1 h).2.2 a ha x (by simp)) (fun b hb => by simp at hb; rw [← hb]; exact ahead_irrefl x)
 refine ⟨e, ?_⟩
 unfold there
 rw [e]
 simp
theorem there_not {A B : List It} {x : It} (h1 : ∀ a ∈ A, ahead a x = true) (h2 : ∀ b ∈ B, ahead x b = true) : place (A ++ B) x = A.length ∧ there (A ++ B) x = false := by
 have e : place (A ++ B) x = A.length := place_of h1 (fun b hb => ahead_asymm (h2 b (List.mem_of_mem_head? hb)))
 refine ⟨e, ?_⟩
 unfold there
 rw [e]
 rw [decide_eq_false_iff_not, List.getElem?_append_right (Nat.le_refl _), Nat.sub_self]
 intro hx
 have hm : x ∈ B := List.mem_of_getElem? hx
 have := h2 x hm
 rw [ahead_irrefl] at this
 cases this
theorem there_iff {L : List It} (h : Sorted L) (x : It) : there L x = true ↔ x ∈ L := by
 constructor
 ·intro ht
  exact List.mem_of_getElem? (of_decide_eq_true ht)
 ·intro hx
  obtain ⟨A, B, rfl⟩ := List.append_of_mem hx
  exact (there_mid h).2
theorem ins_mid {A B : List It} {x : It} (h1 : ∀ a ∈ A, ahead a x = true) (h2 : ∀ b ∈ B, ahead x b = true) (hg : good x = true) : insOk (A ++ B) x = true ∧ insL (A ++ B) x = A ++ x :: B := by
 obtain ⟨e1, e2⟩ := there_not h1 h2
 have e3 : insOk (A ++ B) x = true := by
  unfold insOk
  rw [hg, e2]
  rfl
 refine ⟨e3, ?_⟩
 unfold insL
 rw [if_pos e3, e1, List.take_left, List.drop_left]
theorem del_mid {A B : List It} {x : It} (h : Sorted (A ++ x :: B)) : delL (A ++ x :: B) x = A ++ B := by
 obtain ⟨e1, e2⟩ := there_mid h
 unfold delL
 rw [if_pos e2, e1, List.take_left]
 congr 1
 rw [← List.drop_drop, List.drop_left]
 rfl
theorem ins_there {L : List It} {x : It} (h : there L x = true ∨ good x = false) : insOk L x = false ∧ insL L x = L := by
 have e : insOk L x = false := by
  unfold insOk
  rcases h with h | h
  ·rw [h]
   simp
  ·rw [h]
   rfl
 refine ⟨e, ?_⟩
 unfold insL
 rw [if_neg (by rw [e]; decide)]
theorem del_not {L : List It} {x : It} (h : there L x = false) : delL L x = L := by
 unfold delL
 rw [if_neg (by rw [h]; decide)]
theorem sorted_split {L : List It} (h : Sorted L) (x : It) : (∀ a ∈ L.take (place L x), ahead a x = true) ∧ (there L x = false → ∀ b ∈ L.drop (place L x), ahead x b = true) := by
 constructor
 ·intro a ha
  obtain ⟨j, hj⟩ := List.getElem?_of_mem ha
  rw [List.getElem?_take] at hj
  split at hj
  ·rename_i hlt
   obtain ⟨a', h1, h2⟩ := place_ahead L x j hlt
   rw [h1] at hj
   simp at hj
   rw [← hj]
   exact h2
  ·cases hj
 ·intro ht b hb
  obtain ⟨j, hj⟩ := List.getElem?_of_mem hb
  rw [List.getElem?_drop] at hj
  have hlt : place L x < L.length := by
   have := (List.getElem?_eq_some_iff.1 hj).1
   omega
  have h0 := List.getElem?_eq_getElem hlt
  have hn := place_not L x _ h0
  have hx : L[place L x] ≠ x := fun e => by
   unfold there at ht
   rw [h0, e] at ht
   simp at ht
  have hf : ahead x L[place L x] = true := by
   rcases ahead_total L[place L x] x with h | h | h
   ·rw [h] at hn
    cases hn
   ·exact absurd h hx
   ·exact h
  cases j with
  | zero =>
   rw [Nat.add_zero, h0] at hj
   simp at hj
   rw [← hj]
   exact hf
  | succ j =>
   have hpw := List.pairwise_iff_getElem.1 h (place L x) (place L x + (j + 1)) hlt (List.getElem?_eq_some_iff.1 hj).1 (by omega)
   have hb' := (List.getElem?_eq_some_iff.1 hj).2
   rw [hb'] at hpw
   exact ahead_trans hf hpw
theorem ins_sorted {L : List It} (h : Sorted L) (x : It) : Sorted (insL L x) := by
 unfold insL
 by_cases e : insOk L x = true
 ·rw [if_pos e]
  have ht : there L x = false := by
   unfold insOk at e
   cases k : there L x with
   | false => rfl
   | true => rw [k] at e; simp at e
  obtain ⟨p1, p2⟩ := sorted_split h x
  have hL := List.take_append_drop (place L x) L
  rw [← hL] at h
  obtain ⟨s1, s2, s3⟩ := sorted_append.1 h
  refine sorted_append.2 ⟨s1, sorted_cons.2 ⟨p2 ht, s2⟩, fun a ha b hb => ?_⟩
  rcases List.mem_cons.1 hb with rfl | hb
  ·exact p1 a ha
  ·exact s3 a ha b hb
 ·rw [if_neg e]
  exact h
theorem del_sorted {L : List It} (h : Sorted L) (x : It) : Sorted (delL L x) := by
 unfold delL
 by_cases e : there L x = true
 ·rw [if_pos e]
  refine List.Pairwise.sublist ?_ h
  have := List.take_append_drop (place L x) L
  conv => rhs; rw [← this]
  refine List.Sublist.append_left ?_ _
  exact List.drop_sublist_drop_left _ (Nat.le_succ _)
 ·rw [if_neg e]
  exact h
theorem ins_length (L : List It) (x : It) : (insL L x).length = L.length + (if insOk L x then 1 else 0) := by
 have := place_le L x
 unfold insL
 split
 ·simp
  omega
 ·rfl
theorem del_length (L : List It) (x : It) : (delL L x).length = L.length - (if there L x then 1 else 0) := by
 unfold delL
 split
 ·rename_i h
  have hx : L[place L x]? = some x := of_decide_eq_true h
  have := (List.getElem?_eq_some_iff.1 hx).1
  simp
  omega
 ·rfl
theorem mem_ins {L : List It} {x y : It} (h : y ∈ insL L x) : y = x ∧ good x = true ∨ y ∈ L := by
 unfold insL at h
 split at h
 ·rename_i hk
  rcases List.mem_append.1 h with h | h
  ·exact .inr (List.mem_of_mem_take h)
  ·rcases List.mem_cons.1 h with rfl | h
   ·refine .inl ⟨rfl, ?_⟩
    unfold insOk at hk
    simp at hk
    exact hk.1
   ·exact .inr (List.mem_of_mem_drop h)
 ·exact .inr h
theorem ins_there_after {L : List It} (h : Sorted L) {x : It} (hg : good x = true) : x ∈ insL L x := by
 unfold insL
 by_cases e : insOk L x = true
 ·rw [if_pos e]
  simp
 ·rw [if_neg e]
  have : there L x = true := by
   unfold insOk at e
   rw [hg] at e
   simpa using e
  exact (there_iff h x).1 this
theorem ov_append (A B : List It) (p m : Int) : ovL (A ++ B) p m = ovL A p m ++ ovL B p m := by simp [ovL]
theorem ov_cons (x : It) (B : List It) (p m : Int) : ovL (x :: B) p m = (if Span.Math.over x.o x.l p m then [x.i] else []) ++ ovL B p m := by
 unfold ovL
 rw [List.filter_cons]
 split <;> simp
theorem ov_none_low {A : List It} {p m : Int} (h : ∀ a ∈ A, a.o + a.l ≤ p) : ovL A p m = [] := by
 unfold ovL
 rw [List.filter_eq_nil_iff.2]
 ·rfl
 ·intro a ha ho
  have := h a ha
  obtain ⟨_, _, h3⟩ := Span.Math.over_plain ho
  omega
theorem ov_none_high {A : List It} {p m : Int} (h : ∀ a ∈ A, p + m ≤ a.o) : ovL A p m = [] := by
 unfold ovL
 rw [List.filter_eq_nil_iff.2]
 ·rfl
 ·intro a ha ho
  have := h a ha
  obtain ⟨_, _, h3⟩ := Span.Math.over_plain ho
  omega
theorem ov_not_plain {A : List It} {p m : Int} (h : Span.Math.plain p m = false) : ovL A p m = [] := by
 unfold ovL
 rw [List.filter_eq_nil_iff.2]
 ·rfl
 ·intro a _ ho
  obtain ⟨_, h2, _⟩ := Span.Math.over_plain ho
  rw [h] at h2
  cases h2
theorem ov_mem {L : List It} {x : It} (hx : x ∈ L) {p m : Int} (h : Span.Math.over x.o x.l p m = true) : x.i ∈ ovL L p m := by
 unfold ovL
 exact List.mem_map.2 ⟨x, List.mem_filter.2 ⟨hx, h⟩, rfl⟩
end Go.Proofs.YtoaeficfmcncjaaGreat.Itree
namespace Go.Proofs.YtoaeficfmcncjaaGreat.Flight
open Table (Rising look ins del tks)
open Itree (It Sorted insOk insL there delL ovL good)
structure Fw where
 o : Int
 l : Int
 bs : List Nat
 st : Int
def busy (L : List (Int × Fw)) (p m : Int) : Bool := L.any fun x => Span.Math.over x.2.o x.2.l p m
def addOk (L : List (Int × Fw)) (t o l : Int) : Bool := decide (1 ≤ t) && ((look L t).isNone && (Span.Math.plain o l && (decide (1 ≤ l) && !busy L o l)))
def addL (L : List (Int × Fw)) (t o l : Int) (bs : List Nat) : List (Int × Fw) := if addOk L t o l then ins L t ⟨o, l, bs, 0⟩ else L
def turnOk (L : List (Int × Fw)) (t s : Int) : Bool := (look L t).isSome && decide (0 ≤ s ∧ s ≤ 2)
def setSt (L : List (Int × Fw)) (t s : Int) : List (Int × Fw) := L.map fun x => if x.1 = t then (x.1, { x.2 with st := s }) else x
def turnL (L : List (Int × Fw)) (t s : Int) : List (Int × Fw) := if turnOk L t s then setSt L t s else L
def endOk (L : List (Int × Fw)) (t : Int) : Bool := (look L t).isSome
def endL (L : List (Int × Fw)) (t : Int) : List (Int × Fw) := if endOk L t then del L t else L
def exts (L : List (Int × Fw)) : Nat := L.foldl (fun n x => n ||| Span.Math.ext x.2.o x.2.l) 0
theorem setSt_tks (L : List (Int × Fw)) (t s : Int) : tks (setSt L t s) = tks L := by
 unfold tks setSt
 rw [List.map_map]
 refine List.map_congr_left fun x _ => ?_
 simp only [Function.comp]
 split <;> rfl
theorem setSt_length (L : List (Int × Fw)) (t s : Int) : (setSt L t s).length = L.length := by simp [setSt]
theorem setSt_rising {L : List (Int × Fw)} (h : Rising L) (t s : Int) : Rising (setSt L t s) := by
 have e := setSt_tks L t s
 have h1 : (tks L).Pairwise (· < ·) := List.pairwise_map.2 h
 rw [← e] at h1
 exact List.pairwise_map.1 h1
theorem look_setSt (L : List (Int × Fw)) (t s k : Int) : look (setSt L t s) k = (look L k).map fun w => if k = t then { w with st := s } else w := by
 induction L with
 | nil => rfl
 | cons x L ih =>
  show look ((if x.1 = t then (x.1, { x.2 with st := s }) else x) :: setSt L t s) k = _
  have e1 : (if x.1 = t then (x.1, { x.2 with st := s }) else x).1 = x.1 := by split <;> rfl
  rw [look, look, e1]
  by_cases h : x.1 = k
  ·rw [if_pos h, if_pos h]
   subst h
   by_cases ht : x.1 = t
   ·simp [ht]
   ·simp [ht]
  ·rw [if_neg h, if_neg h, ih]
theorem look_some {L : List (Int × Fw)} (h : Rising L) {x : Int × Fw} (hx : x ∈ L) : look L x.1 = some x.2 := by
 induction L with
 | nil => cases hx
 | cons y L ih =>
  obtain ⟨h1, h2⟩ := List.pairwise_cons.1 h
  rw [look]
  rcases List.mem_cons.1 hx with e | e
  ·rw [e, if_pos rfl]
  ·have := h1 x e
   rw [if_neg (by omega)]
   exact ih h2 e
theorem busy_iff {L : List (Int × Fw)} (h : Rising L) (p m : Int) : busy L p m = true ↔ ∃ t w, look L t = some w ∧ Span.Math.over w.o w.l p m = true := by
 unfold busy
 rw [List.any_eq_true]
 constructor
 ·rintro ⟨x, hx, ho⟩
  exact ⟨x.1, x.2, look_some h hx, ho⟩
 ·rintro ⟨t, w, hw, ho⟩
  exact ⟨(t, w), Table.look_mem hw, ho⟩
structure Good (L : List (Int × Fw)) : Prop where
 rising : Rising L
 apart : L.Pairwise fun x y => Span.Math.over x.2.o x.2.l y.2.o y.2.l = false
 fine : ∀ x ∈ L, 1 ≤ x.1 ∧ Span.Math.plain x.2.o x.2.l = true ∧ 1 ≤ x.2.l ∧ 0 ≤ x.2.st ∧ x.2.st ≤ 2
theorem good_nil : Good [] := ⟨List.Pairwise.nil, List.Pairwise.nil, by simp⟩
theorem of_addOk {L : List (Int × Fw)} {t o l : Int} (h : addOk L t o l = true) : 1 ≤ t ∧ look L t = none ∧ Span.Math.plain o l = true ∧ 1 ≤ l ∧ busy L o l = false := by
 unfold addOk at h
 simp only [Bool.and_eq_true, decide_eq_true_eq, Option.isNone_iff_eq_none, Bool.not_eq_true'] at h
 exact ⟨h.1, h.2.1, h.2.2.1, h.2.2.2.1, h.2.2.2.2⟩
theorem Good.add {L : List (Int × Fw)} (h : Good L) (t o l : Int) (bs : List Nat) : Good (addL L t o l bs) := by
 unfold addL
 split
 ·rename_i ha
  obtain ⟨h1, h2, h3, h4, h5⟩ := of_addOk ha
  have hb : ∀ x ∈ L, Span.Math.over x.2.o x.2.l o l = false := fun x hx => by
   have := List.any_eq_false.1 h5 x hx
   simpa using this
  refine ⟨Table.ins_rising h.rising h2 _, ?_, fun x hx => ?_⟩
  ·unfold ins
   have hp := h.apart
   rw [← List.take_append_drop (Table.place L t) L, List.pairwise_append] at hp
   rw [List.pairwise_append, List.pairwise_cons]
   refine ⟨hp.1, ⟨fun y hy => ?_, hp.2.1⟩, fun x hx y hy => ?_⟩
   ·show Span.Math.over o l y.2.o y.2.l = false
    rw [Span.Math.over_comm]
    exact hb y (List.mem_of_mem_drop hy)
   ·rcases List.mem_cons.1 hy with e | e
    ·subst e
     exact hb x (List.mem_of_mem_take hx)
    ·exact hp.2.2 x hx y e
  ·rcases Table.mem_ins hx with e | e
   ·subst e
    exact ⟨h1, h3, h4, Int.le_refl _, by show (0 : Int) ≤ 2; omega⟩
   ·exact h.fine x e
 ·exact h
theorem Good.turn {L : List (Int × Fw)} (h : Good L) (t s : Int) : Good (turnL L t s) := by
 unfold turnL
 split
 ·rename_i ha
  unfold turnOk at ha
  simp only [Bool.and_eq_true, decide_eq_true_eq] at ha
  refine ⟨setSt_rising h.rising t s, ?_, fun x hx => ?_⟩
  ·unfold setSt
   rw [List.pairwise_map]
   refine h.apart.imp fun {x y} hxy => ?_
   have e1 : ∀ z : Int × Fw, (if z.1 = t then (z.1, { z.2 with st := s }) else z).2.o = z.2.o ∧ (if z.1 = t then (z.1, { z.2 with st := s }) else z).2.l = z.2.l := fun z => by split <;> exact ⟨rfl, rfl⟩
   rw [(e1 x).1, (e1 x).2, (e1 y).1, (e1 y).2]
   exact hxy
  ·obtain ⟨y, hy, rfl⟩ := List.mem_map.1 hx
   have := h.fine y hy
   split
   ·exact ⟨this.1, this.2.1, this.2.2.1, ha.2.1, ha.2.2⟩
   ·exact this
 ·exact h
theorem Good.endd {L : List (Int × Fw)} (h : Good L) (t : Int) : Good (endL L t) := by
 unfold endL
 split
 ·refine ⟨Table.del_rising h.rising t, ?_, fun x hx => h.fine x (Table.mem_del hx)⟩
  unfold del
  have hp := h.apart
  rw [← List.take_append_drop (Table.place L t) L, List.pairwise_append] at hp
  rw [List.pairwise_append]
  have hs : ∀ y, y ∈ L.drop (Table.place L t + 1) → y ∈ L.drop (Table.place L t) := fun y hy => by
   rw [← List.drop_drop] at hy
   exact List.mem_of_mem_drop hy
  refine ⟨hp.1, ?_, fun x hx y hy => hp.2.2 x hx y (hs y hy)⟩
  rw [← List.drop_drop]
  exact hp.2.1.sublist (List.drop_sublist _ _)
 ·exact h
structure Tree (M : List It) (L : List (Int × Fw)) : Prop where
 sorted : Sorted M
 mem : ∀ x : It, x ∈ M ↔ ∃ w, look L x.i = some w ∧ w.o = x.o ∧ w.l = x.l
theorem tree_nil : Tree [] [] := ⟨Sorted.nil, fun x => ⟨fun h => (by cases h), fun ⟨w, h, _⟩ => (by cases h)⟩⟩
theorem Tree.busy {M : List It} {L : List (Int × Fw)} (h : Tree M L) (hr : Rising L) (p m : Int) : decide (0 < (ovL M p m).length) = busy L p m := by
 have key : 0 < (ovL M p m).length ↔ Flight.busy L p m = true := by
  rw [busy_iff hr]
  unfold ovL
  rw [List.length_map, List.length_pos_iff_exists_mem]
  constructor
  ·rintro ⟨x, hx⟩
   obtain ⟨h1, h2⟩ := List.mem_filter.1 hx
   obtain ⟨w, hw, e1, e2⟩ := (h.mem x).1 h1
   exact ⟨x.i, w, hw, by rw [e1, e2]; exact h2⟩
  ·rintro ⟨t, w, hw, ho⟩
   exact ⟨⟨w.o, w.l, t⟩, List.mem_filter.2 ⟨(h.mem ⟨w.o, w.l, t⟩).2 ⟨w, hw, rfl, rfl⟩, ho⟩⟩
 cases hb : Flight.busy L p m with
 | true => exact decide_eq_true (key.2 hb)
 | false => exact decide_eq_false fun hp => by rw [key.1 hp] at hb; cases hb
theorem mem_insL {M : List It} (hs : Sorted M) {x : It} (h : insOk M x = true) (y : It) : y ∈ insL M x ↔ y = x ∨ y ∈ M := by
 have hg : good x = true := by
  unfold insOk at h
  simp only [Bool.and_eq_true] at h
  exact h.1
 constructor
 ·intro hy
  rcases Itree.mem_ins hy with e | e
  ·exact .inl e.1
  ·exact .inr e
 ·rintro (e | e)
  ·subst e
   exact Itree.ins_there_after hs hg
  ·unfold insL
   rw [if_pos h]
   rw [← List.take_append_drop (Itree.place M x) M] at e
   rcases List.mem_append.1 e with e | e
   ·exact List.mem_append_left _ e
   ·exact List.mem_append_right _ (List.mem_cons_of_mem _ e)
theorem mem_delL {M : List It} (hs : Sorted M) {x : It} (h : x ∈ M) (y : It) : y ∈ delL M x ↔ y ≠ x ∧ y ∈ M := by
 obtain ⟨A, B, rfl⟩ := List.append_of_mem h
 rw [Itree.del_mid hs]
 obtain ⟨_, h2, h3⟩ := Itree.sorted_append.1 hs
 obtain ⟨h4, _⟩ := Itree.sorted_cons.1 h2
 constructor
 ·intro hy
  rcases List.mem_append.1 hy with e | e
  ·refine ⟨fun he => ?_, List.mem_append_left _ e⟩
   subst he
   have := h3 y e y (by simp)
   rw [Itree.ahead_irrefl] at this
   cases this
  ·refine ⟨fun he => ?_, List.mem_append_right _ (List.mem_cons_of_mem _ e)⟩
   subst he
   have := h4 y e
   rw [Itree.ahead_irrefl] at this
   cases this
 ·rintro ⟨hne, hy⟩
  rcases List.mem_append.1 hy with e | e
  ·exact List.mem_append_left _ e
  ·rcases List.mem_cons.1 e with e | e
   ·exact absurd e hne
   ·exact List.mem_append_right _ e
theorem Tree.add {M : List It} {L : List (Int × Fw)} (h : Tree M L) {t o l : Int} (ha : addOk L t o l = true) (bs : List Nat) : insOk M ⟨o, l, t⟩ = true ∧ Tree (insL M ⟨o, l, t⟩) (addL L t o l bs) := by
 obtain ⟨h1, h2, h3, h4, h5⟩ := of_addOk ha
 have hg : good ⟨o, l, t⟩ = true := by
  unfold good
  simp only [Bool.and_eq_true, decide_eq_true_eq]
  exact ⟨h3, h4⟩
 have hn : there M ⟨o, l, t⟩ = false := by
  cases e : there M ⟨o, l, t⟩ with
  | false => rfl
  | true =>
   obtain ⟨w, hw, _⟩ := (h.mem _).1 ((Itree.there_iff h.sorted _).1 e)
   simp only at hw
   rw [h2] at hw
   cases hw
 have ho : insOk M ⟨o, l, t⟩ = true := by
  unfold insOk
  rw [hg, hn]
  rfl
 refine ⟨ho, Itree.ins_sorted h.sorted _, fun x => ?_⟩
 rw [mem_insL h.sorted ho]
 unfold addL
 rw [if_pos ha, Table.look_ins h2]
 by_cases e : x.i = t
 ·rw [if_pos e]
  constructor
  ·rintro (e' | e')
   ·subst e'
    exact ⟨_, rfl, rfl, rfl⟩
   ·obtain ⟨w, hw, _⟩ := (h.mem x).1 e'
    rw [e, h2] at hw
    cases hw
  ·rintro ⟨w, hw, e1, e2⟩
   injection hw with hw
   subst hw
   left
   rw [Itree.It.eq_iff]
   exact ⟨e1.symm, e2.symm, e⟩
 ·rw [if_neg e, h.mem x]
  constructor
  ·rintro (e' | e')
   ·subst e'
    exact absurd rfl e
   ·exact e'
  ·exact .inr
theorem Tree.endd {M : List It} {L : List (Int × Fw)} (h : Tree M L) (hr : Rising L) {t : Int} {w : Fw} (hw : look L t = some w) : there M ⟨w.o, w.l, t⟩ = true ∧ Tree (delL M ⟨w.o, w.l, t⟩) (endL L t) := by
 have hm : (⟨w.o, w.l, t⟩ : It) ∈ M := (h.mem _).2 ⟨w, hw, rfl, rfl⟩
 refine ⟨(Itree.there_iff h.sorted _).2 hm, Itree.del_sorted h.sorted _, fun x => ?_⟩
 rw [mem_delL h.sorted hm]
 unfold endL endOk
 rw [hw]
 show _ ↔ ∃ v, look (if true = true then del L t else L) x.i = some v ∧ _
 rw [if_pos rfl, Table.look_del hr (by rw [hw]; rfl), h.mem x]
 by_cases e : x.i = t
 ·rw [if_pos e]
  constructor
  ·rintro ⟨hne, v, hv, e1, e2⟩
   rw [e, hw] at hv
   injection hv with hv
   subst hv
   exact absurd ((Itree.It.eq_iff _ _).2 ⟨e1.symm, e2.symm, e⟩) hne
  ·rintro ⟨v, hv, _⟩
   cases hv
 ·rw [if_neg e]
  constructor
  ·exact fun hx => hx.2
  ·exact fun hx => ⟨fun he => e (by rw [he]), hx⟩
theorem Tree.turn {M : List It} {L : List (Int × Fw)} (h : Tree M L) (t s : Int) : Tree M (turnL L t s) := by
 refine ⟨h.sorted, fun x => ?_⟩
 unfold turnL
 split
 ·rw [look_setSt, h.mem x]
  constructor
  ·rintro ⟨w, hw, e1, e2⟩
   rw [hw]
   refine ⟨_, rfl, ?_, ?_⟩
   ·split <;> exact e1
   ·split <;> exact e2
  ·rintro ⟨w, hw, e1, e2⟩
   cases hl : look L x.i with
   | none => rw [hl] at hw; cases hw
   | some v =>
    rw [hl] at hw
    simp only [Option.map_some] at hw
    injection hw with hw
    subst hw
    refine ⟨v, rfl, ?_, ?_⟩
    ·rw [← e1]
     split <;> rfl
    ·rw [← e2]
     split <;> rfl
 ·exact h.mem x
end Go.Proofs.YtoaeficfmcncjaaGreat.Flight
