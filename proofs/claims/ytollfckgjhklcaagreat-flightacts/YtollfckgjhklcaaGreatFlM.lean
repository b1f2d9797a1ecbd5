import Derived.Test.YtollfckgjhklcaaGreatTbM
import Derived.Test.YtollfckgjhklcaaGreatItM
/-
  Plain facts on own writes that are on their way, by rising tickets: what is put in, turned and taken out, who overlaps, and the tree that has their spans. No program is named here.
-/
namespace Go.Proofs.YtollfckgjhklcaaGreat.Flight
open Table (Rising look ins del tks)
open Itree (It Sorted insOk insL there delL ovL good)

/-- A write: its span, its bytes, its state. -/
structure Fw where
  o : Int
  l : Int
  bs : List Nat
  st : Int
def busy (L : List (Int × Fw)) (p m : Int) : Bool := L.any fun x => Span.Math.over x.2.o x.2.l p m
def addOk (L : List (Int × Fw)) (t o l : Int) : Bool := decide (1 ≤ t) && ((look L t).isNone && (Span.Math.plain o l && (decide (1 ≤ l) && !busy L o l)))
def addL (L : List (Int × Fw)) (t o l : Int) (bs : List Nat) : List (Int × Fw) := if addOk L t o l then ins L t ⟨o, l, bs, 0⟩ else L
def turnOk (L : List (Int × Fw)) (t s : Int) : Bool := (look L t).isSome && decide (0 ≤ s ∧ s ≤ 2)
/-- The state under a ticket. -/
def setSt (L : List (Int × Fw)) (t s : Int) : List (Int × Fw) := L.map fun x => if x.1 = t then (x.1, { x.2 with st := s }) else x
def turnL (L : List (Int × Fw)) (t s : Int) : List (Int × Fw) := if turnOk L t s then setSt L t s else L
def endOk (L : List (Int × Fw)) (t : Int) : Bool := (look L t).isSome
def endL (L : List (Int × Fw)) (t : Int) : List (Int × Fw) := if endOk L t then del L t else L
/-- The extents of all. -/
def exts (L : List (Int × Fw)) : Nat := L.foldl (fun n x => n ||| Span.Math.ext x.2.o x.2.l) 0

theorem setSt_tks (L : List (Int × Fw)) (t s : Int) : tks (setSt L t s) = tks L := by
  unfold tks setSt
  rw [List.map_map]
  refine List.map_congr_left fun x _ => ?_
  simp only [Function.comp]
  split <;> rfl
theorem setSt_length (L : List (Int × Fw)) (t s : Int) : (setSt L t s).length = L.length := by simp [setSt]
theorem setSt_rising {L : List (Int × Fw)} (h : Rising L) (t s : Int) : Rising (setSt L t s) := by
  have e := setSt_tks L t s
  have h1 : (tks L).Pairwise (· < ·) := List.pairwise_map.2 h
  rw [← e] at h1
  exact List.pairwise_map.1 h1
theorem look_setSt (L : List (Int × Fw)) (t s k : Int) : look (setSt L t s) k = (look L k).map fun w => if k = t then { w with st := s } else w := by
  induction L with
  | nil => rfl
  | cons x L ih =>
    show look ((if x.1 = t then (x.1, { x.2 with st := s }) else x) :: setSt L t s) k = _
    have e1 : (if x.1 = t then (x.1, { x.2 with st := s }) else x).1 = x.1 := by split <;> rfl
    rw [look, look, e1]
    by_cases h : x.1 = k
    · rw [if_pos h, if_pos h]
      subst h
      by_cases ht : x.1 = t
      · simp [ht]
      · simp [ht]
    · rw [if_neg h, if_neg h, ih]
theorem look_some {L : List (Int × Fw)} (h : Rising L) {x : Int × Fw} (hx : x ∈ L) : look L x.1 = some x.2 := by
  induction L with
  | nil => cases hx
  | cons y L ih =>
    obtain ⟨h1, h2⟩ := List.pairwise_cons.1 h
    rw [look]
    rcases List.mem_cons.1 hx with e | e
    · rw [e, if_pos rfl]
    · have := h1 x e
      rw [if_neg (by omega)]
      exact ih h2 e
theorem busy_iff {L : List (Int × Fw)} (h : Rising L) (p m : Int) : busy L p m = true ↔ ∃ t w, look L t = some w ∧ Span.Math.over w.o w.l p m = true := by
  unfold busy
  rw [List.any_eq_true]
  constructor
  · rintro ⟨x, hx, ho⟩
    exact ⟨x.1, x.2, look_some h hx, ho⟩
  · rintro ⟨t, w, hw, ho⟩
    exact ⟨(t, w), Table.look_mem hw, ho⟩
/-- What is there is as it may be. -/
structure Good (L : List (Int × Fw)) : Prop where
  rising : Rising L
  apart : L.Pairwise fun x y => Span.Math.over x.2.o x.2.l y.2.o y.2.l = false
  fine : ∀ x ∈ L, 1 ≤ x.1 ∧ Span.Math.plain x.2.o x.2.l = true ∧ 1 ≤ x.2.l ∧ 0 ≤ x.2.st ∧ x.2.st ≤ 2
theorem good_nil : Good [] := ⟨List.Pairwise.nil, List.Pairwise.nil, by simp⟩
theorem of_addOk {L : List (Int × Fw)} {t o l : Int} (h : addOk L t o l = true) : 1 ≤ t ∧ look L t = none ∧ Span.Math.plain o l = true ∧ 1 ≤ l ∧ busy L o l = false := by
  unfold addOk at h
  simp only [Bool.and_eq_true, decide_eq_true_eq, Option.isNone_iff_eq_none, Bool.not_eq_true'] at h
  exact ⟨h.1, h.2.1, h.2.2.1, h.2.2.2.1, h.2.2.2.2⟩
theorem Good.add {L : List (Int × Fw)} (h : Good L) (t o l : Int) (bs : List Nat) : Good (addL L t o l bs) := by
  unfold addL
  split
  · rename_i ha
    obtain ⟨h1, h2, h3, h4, h5⟩ := of_addOk ha
    have hb : ∀ x ∈ L, Span.Math.over x.2.o x.2.l o l = false := fun x hx => by
      have := List.any_eq_false.1 h5 x hx
      simpa using this
    refine ⟨Table.ins_rising h.rising h2 _, ?_, fun x hx => ?_⟩
    · unfold ins
      have hp := h.apart
      rw [← List.take_append_drop (Table.place L t) L, List.pairwise_append] at hp
      rw [List.pairwise_append, List.pairwise_cons]
      refine ⟨hp.1, ⟨fun y hy => ?_, hp.2.1⟩, fun x hx y hy => ?_⟩
      · show Span.Math.over o l y.2.o y.2.l = false
        rw [Span.Math.over_comm]
        exact hb y (List.mem_of_mem_drop hy)
      · rcases List.mem_cons.1 hy with e | e
        · subst e
          exact hb x (List.mem_of_mem_take hx)
        · exact hp.2.2 x hx y e
    · rcases Table.mem_ins hx with e | e
      · subst e
        exact ⟨h1, h3, h4, Int.le_refl _, by show (0 : Int) ≤ 2; omega⟩
      · exact h.fine x e
  · exact h
theorem Good.turn {L : List (Int × Fw)} (h : Good L) (t s : Int) : Good (turnL L t s) := by
  unfold turnL
  split
  · rename_i ha
    unfold turnOk at ha
    simp only [Bool.and_eq_true, decide_eq_true_eq] at ha
    refine ⟨setSt_rising h.rising t s, ?_, fun x hx => ?_⟩
    · unfold setSt
      rw [List.pairwise_map]
      refine h.apart.imp fun {x y} hxy => ?_
      have e1 : ∀ z : Int × Fw, (if z.1 = t then (z.1, { z.2 with st := s }) else z).2.o = z.2.o ∧ (if z.1 = t then (z.1, { z.2 with st := s }) else z).2.l = z.2.l := fun z => by split <;> exact ⟨rfl, rfl⟩
      rw [(e1 x).1, (e1 x).2, (e1 y).1, (e1 y).2]
      exact hxy
    · obtain ⟨y, hy, rfl⟩ := List.mem_map.1 hx
      have := h.fine y hy
      split
      · exact ⟨this.1, this.2.1, this.2.2.1, ha.2.1, ha.2.2⟩
      · exact this
  · exact h
theorem Good.endd {L : List (Int × Fw)} (h : Good L) (t : Int) : Good (endL L t) := by
  unfold endL
  split
  · refine ⟨Table.del_rising h.rising t, ?_, fun x hx => h.fine x (Table.mem_del hx)⟩
    unfold del
    have hp := h.apart
    rw [← List.take_append_drop (Table.place L t) L, List.pairwise_append] at hp
    rw [List.pairwise_append]
    have hs : ∀ y, y ∈ L.drop (Table.place L t + 1) → y ∈ L.drop (Table.place L t) := fun y hy => by
      rw [← List.drop_drop] at hy
      exact List.mem_of_mem_drop hy
    refine ⟨hp.1, ?_, fun x hx y hy => hp.2.2 x hx y (hs y hy)⟩
    rw [← List.drop_drop]
    exact hp.2.1.sublist (List.drop_sublist _ _)
  · exact h
/-- A tree that has the spans of what is there, each under its ticket. -/
structure Tree (M : List It) (L : List (Int × Fw)) : Prop where
  sorted : Sorted M
  mem : ∀ x : It, x ∈ M ↔ ∃ w, look L x.i = some w ∧ w.o = x.o ∧ w.l = x.l
theorem tree_nil : Tree [] [] := ⟨Sorted.nil, fun x => ⟨fun h => (by cases h), fun ⟨w, h, _⟩ => (by cases h)⟩⟩
theorem Tree.busy {M : List It} {L : List (Int × Fw)} (h : Tree M L) (hr : Rising L) (p m : Int) : decide (0 < (ovL M p m).length) = busy L p m := by
  have key : 0 < (ovL M p m).length ↔ Flight.busy L p m = true := by
    rw [busy_iff hr]
    unfold ovL
    rw [List.length_map, List.length_pos_iff_exists_mem]
    constructor
    · rintro ⟨x, hx⟩
      obtain ⟨h1, h2⟩ := List.mem_filter.1 hx
      obtain ⟨w, hw, e1, e2⟩ := (h.mem x).1 h1
      exact ⟨x.i, w, hw, by rw [e1, e2]; exact h2⟩
    · rintro ⟨t, w, hw, ho⟩
      exact ⟨⟨w.o, w.l, t⟩, List.mem_filter.2 ⟨(h.mem ⟨w.o, w.l, t⟩).2 ⟨w, hw, rfl, rfl⟩, ho⟩⟩
  cases hb : Flight.busy L p m with
  | true => exact decide_eq_true (key.2 hb)
  | false => exact decide_eq_false fun hp => by rw [key.1 hp] at hb; cases hb
theorem mem_insL {M : List It} (hs : Sorted M) {x : It} (h : insOk M x = true) (y : It) : y ∈ insL M x ↔ y = x ∨ y ∈ M := by
  have hg : good x = true := by
    unfold insOk at h
    simp only [Bool.and_eq_true] at h
    exact h.1
  constructor
  · intro hy
    rcases Itree.mem_ins hy with e | e
    · exact .inl e.1
    · exact .inr e
  · rintro (e | e)
    · subst e
      exact Itree.ins_there_after hs hg
    · unfold insL
      rw [if_pos h]
      rw [← List.take_append_drop (Itree.place M x) M] at e
      rcases List.mem_append.1 e with e | e
      · exact List.mem_append_left _ e
      · exact List.mem_append_right _ (List.mem_cons_of_mem _ e)
theorem mem_delL {M : List It} (hs : Sorted M) {x : It} (h : x ∈ M) (y : It) : y ∈ delL M x ↔ y ≠ x ∧ y ∈ M := by
  obtain ⟨A, B, rfl⟩ := List.append_of_mem h
  rw [Itree.del_mid hs]
  obtain ⟨_, h2, h3⟩ := Itree.sorted_append.1 hs
  obtain ⟨h4, _⟩ := Itree.sorted_cons.1 h2
  constructor
  · intro hy
    rcases List.mem_append.1 hy with e | e
    · refine ⟨fun he => ?_, List.mem_append_left _ e⟩
      subst he
      have := h3 y e y (by simp)
      rw [Itree.ahead_irrefl] at this
      cases this
    · refine ⟨fun he => ?_, List.mem_append_right _ (List.mem_cons_of_mem _ e)⟩
      subst he
      have := h4 y e
      rw [Itree.ahead_irrefl] at this
      cases this
  · rintro ⟨hne, hy⟩
    rcases List.mem_append.1 hy with e | e
    · exact List.mem_append_left _ e
    · rcases List.mem_cons.1 e with e | e
      · exact absurd e hne
      · exact List.mem_append_right _ e
/-- Behind an Add that is done. -/
theorem Tree.add {M : List It} {L : List (Int × Fw)} (h : Tree M L) {t o l : Int} (ha : addOk L t o l = true) (bs : List Nat) : insOk M ⟨o, l, t⟩ = true ∧ Tree (insL M ⟨o, l, t⟩) (addL L t o l bs) := by
  obtain ⟨h1, h2, h3, h4, h5⟩ := of_addOk ha
  have hg : good ⟨o, l, t⟩ = true := by
    unfold good
    simp only [Bool.and_eq_true, decide_eq_true_eq]
    exact ⟨h3, h4⟩
  have hn : there M ⟨o, l, t⟩ = false := by
    cases e : there M ⟨o, l, t⟩ with
    | false => rfl
    | true =>
      obtain ⟨w, hw, _⟩ := (h.mem _).1 ((Itree.there_iff h.sorted _).1 e)
      simp only at hw
      rw [h2] at hw
      cases hw
  have ho : insOk M ⟨o, l, t⟩ = true := by
    unfold insOk
    rw [hg, hn]
    rfl
  refine ⟨ho, Itree.ins_sorted h.sorted _, fun x => ?_⟩
  rw [mem_insL h.sorted ho]
  unfold addL
  rw [if_pos ha, Table.look_ins h2]
  by_cases e : x.i = t
  · rw [if_pos e]
    constructor
    · rintro (e' | e')
      · subst e'
        exact ⟨_, rfl, rfl, rfl⟩
      · obtain ⟨w, hw, _⟩ := (h.mem x).1 e'
        rw [e, h2] at hw
        cases hw
    · rintro ⟨w, hw, e1, e2⟩
      injection hw with hw
      subst hw
      left
      rw [Itree.It.eq_iff]
      exact ⟨e1.symm, e2.symm, e⟩
  · rw [if_neg e, h.mem x]
    constructor
    · rintro (e' | e')
      · subst e'
        exact absurd rfl e
      · exact e'
    · exact .inr
/-- Behind an End that is done. -/
theorem Tree.endd {M : List It} {L : List (Int × Fw)} (h : Tree M L) (hr : Rising L) {t : Int} {w : Fw} (hw : look L t = some w) : there M ⟨w.o, w.l, t⟩ = true ∧ Tree (delL M ⟨w.o, w.l, t⟩) (endL L t) := by
  have hm : (⟨w.o, w.l, t⟩ : It) ∈ M := (h.mem _).2 ⟨w, hw, rfl, rfl⟩
  refine ⟨(Itree.there_iff h.sorted _).2 hm, Itree.del_sorted h.sorted _, fun x => ?_⟩
  rw [mem_delL h.sorted hm]
  unfold endL endOk
  rw [hw]
  show _ ↔ ∃ v, look (if true = true then del L t else L) x.i = some v ∧ _
  rw [if_pos rfl, Table.look_del hr (by rw [hw]; rfl), h.mem x]
  by_cases e : x.i = t
  · rw [if_pos e]
    constructor
    · rintro ⟨hne, v, hv, e1, e2⟩
      rw [e, hw] at hv
      injection hv with hv
      subst hv
      exact absurd ((Itree.It.eq_iff _ _).2 ⟨e1.symm, e2.symm, e⟩) hne
    · rintro ⟨v, hv, _⟩
      cases hv
  · rw [if_neg e]
    constructor
    · exact fun hx => hx.2
    · exact fun hx => ⟨fun he => e (by rw [he]), hx⟩
/-- Behind a Turn. -/
theorem Tree.turn {M : List It} {L : List (Int × Fw)} (h : Tree M L) (t s : Int) : Tree M (turnL L t s) := by
  refine ⟨h.sorted, fun x => ?_⟩
  unfold turnL
  split
  · rw [look_setSt, h.mem x]
    constructor
    · rintro ⟨w, hw, e1, e2⟩
      rw [hw]
      refine ⟨_, rfl, ?_, ?_⟩
      · split <;> exact e1
      · split <;> exact e2
    · rintro ⟨w, hw, e1, e2⟩
      cases hl : look L x.i with
      | none => rw [hl] at hw; cases hw
      | some v =>
        rw [hl] at hw
        simp only [Option.map_some] at hw
        injection hw with hw
        subst hw
        refine ⟨v, rfl, ?_, ?_⟩
        · rw [← e1]
          split <;> rfl
        · rw [← e2]
          split <;> rfl
  · exact h.mem x
end Go.Proofs.YtollfckgjhklcaaGreat.Flight

