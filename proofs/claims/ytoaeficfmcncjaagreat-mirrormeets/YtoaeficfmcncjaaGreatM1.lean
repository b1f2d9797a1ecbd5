/-
 Plain facts on things by their tickets, rising: where one stands, what is there, what is put in and taken out. No program is named here.
-/
namespace Go.Proofs.YtoaeficfmcncjaaGreat.Table
section
variable {α β : Type}
def Rising (L : List (Int × α)) : Prop := L.Pairwise fun p q => p.1 < q.1
def place : List (Int × α) → Int → Nat
 | [], _ => 0
 | p :: L, t => if p.1 < t then place L t + 1 else 0
def look : List (Int × α) → Int → Option α
 | [], _ => none
 | p :: L, t => if p.1 = t then some p.2 else look L t
def ins (L : List (Int × α)) (t : Int) (x : α) : List (Int × α) := L.take (place L t) ++ (t, x) :: L.drop (place L t)
def del (L : List (Int × α)) (t : Int) : List (Int × α) := L.take (place L t) ++ L.drop (place L t + 1)
def tks (L : List (Int × α)) : List Int := L.map (·.1)
theorem place_le (L : List (Int × α)) (t : Int) : place L t ≤ L.length := by
 induction L with
 | nil => exact Nat.le_refl _
 | cons p L ih =>
  unfold place
  split
  ·simpa using ih
  ·exact Nat.zero_le _
theorem look_none_of {L : List (Int × α)} {t : Int} (h : ∀ p ∈ L, p.1 ≠ t) : look L t = none := by
 induction L with
 | nil => rfl
 | cons p L ih =>
  unfold look
  rw [if_neg (h p (by simp))]
  exact ih fun q hq => h q (by simp [hq])
theorem look_place (L : List (Int × α)) (h : Rising L) (t : Int) : look L t = (L[place L t]?).bind fun a => if a.1 = t then some a.2 else none := by
 induction L with
 | nil => rfl
 | cons p L ih =>
  obtain ⟨h1, h2⟩ := List.pairwise_cons.1 h
  unfold place look
  by_cases hlt : p.1 < t
  ·rw [if_pos hlt, if_neg (by omega)]
   simpa using ih h2
  ·rw [if_neg hlt]
   by_cases he : p.1 = t
   ·simp [he]
   ·rw [if_neg he]
    simp [he]
    exact look_none_of fun q hq => by have := h1 q hq; omega
theorem look_at {L : List (Int × α)} (h : Rising L) {t : Int} {x : α} (hx : look L t = some x) : L[place L t]? = some (t, x) := by
 rw [look_place L h] at hx
 cases hp : L[place L t]? with
 | none => rw [hp] at hx; simp at hx
 | some a =>
  rw [hp] at hx
  simp at hx
  obtain ⟨a1, a2⟩ := a
  simp at hx
  rw [hx.1, hx.2]
theorem mem_tks {L : List (Int × α)} {t : Int} : t ∈ tks L ↔ (look L t).isSome = true := by
 induction L with
 | nil => simp [tks, look]
 | cons p L ih =>
  unfold look
  by_cases h : p.1 = t
  ·simp [tks, h]
  ·rw [if_neg h, ← ih]
   simp [tks, Ne.symm h]
theorem rising_ends (L : List (Int × α)) (h : Rising L) (t : Int) : (∀ p ∈ L.take (place L t), p.1 < t) ∧ ∀ p ∈ L.drop (place L t), t ≤ p.1 := by
 induction L with
 | nil => simp
 | cons q L ih =>
  obtain ⟨h1, h2⟩ := List.pairwise_cons.1 h
  unfold place
  by_cases hlt : q.1 < t
  ·rw [if_pos hlt]
   obtain ⟨i1, i2⟩ := ih h2
   refine ⟨fun p hp => ?_, fun p hp => i2 p (by simpa using hp)⟩
   rw [List.take_succ_cons] at hp
   rcases List.mem_cons.1 hp with rfl | hp
   ·exact hlt
   ·exact i1 p hp
  ·rw [if_neg hlt]
   refine ⟨by simp, fun p hp => ?_⟩
   rw [List.drop_zero] at hp
   rcases List.mem_cons.1 hp with rfl | hp
   ·omega
   ·have := h1 p hp
    omega
theorem look_append (A B : List (Int × α)) (t : Int) : look (A ++ B) t = (look A t).or (look B t) := by
 induction A with
 | nil => rfl
 | cons p A ih =>
  show look (p :: (A ++ B)) t = _
  rw [look, look]
  by_cases h : p.1 = t
  ·simp [h]
  ·rw [if_neg h, if_neg h, ih]
theorem look_split (L : List (Int × α)) (n : Nat) (t : Int) : look L t = (look (L.take n) t).or (look (L.drop n) t) := by
 rw [← look_append, List.take_append_drop]
theorem drop_place {L : List (Int × α)} (h : Rising L) {t : Int} {x : α} (hx : look L t = some x) : L.drop (place L t) = (t, x) :: L.drop (place L t + 1) := by
 have e := look_at h hx
 obtain ⟨hlt, e2⟩ := List.getElem?_eq_some_iff.1 e
 rw [List.drop_eq_getElem_cons hlt, e2]
theorem ins_rising {L : List (Int × α)} (h : Rising L) {t : Int} (hx : look L t = none) (x : α) : Rising (ins L t x) := by
 obtain ⟨h1, h2⟩ := rising_ends L h t
 have h3 : ∀ p ∈ L.drop (place L t), t < p.1 := fun p hp => by
  have := h2 p hp
  have : p.1 ≠ t := fun e => by
   have hm : t ∈ tks L := List.mem_map.2 ⟨p, List.mem_of_mem_drop hp, e⟩
   rw [mem_tks, hx] at hm
   cases hm
  omega
 unfold ins Rising
 rw [List.pairwise_append, List.pairwise_cons]
 refine ⟨h.sublist (List.take_sublist _ _), ⟨fun p hp => h3 p hp, h.sublist (List.drop_sublist _ _)⟩, fun a ha b hb => ?_⟩
 have := h1 a ha
 rcases List.mem_cons.1 hb with rfl | hb
 ·exact this
 ·have := h3 b hb
  omega
theorem del_rising {L : List (Int × α)} (h : Rising L) (t : Int) : Rising (del L t) := by
 obtain ⟨h1, h2⟩ := rising_ends L h t
 unfold del Rising
 rw [List.pairwise_append]
 refine ⟨h.sublist (List.take_sublist _ _), h.sublist (List.drop_sublist _ _), fun a ha b hb => ?_⟩
 have := h1 a ha
 have hb' : b ∈ L.drop (place L t) := by
  rw [← List.drop_drop] at hb
  exact List.mem_of_mem_drop hb
 have := h2 b hb'
 omega
theorem look_ins {L : List (Int × α)} {t : Int} (hx : look L t = none) (x : α) (k : Int) : look (ins L t x) k = if k = t then some x else look L k := by
 unfold ins
 rw [look_append]
 have e := look_split L (place L t) k
 by_cases hk : k = t
 ·subst hk
  rw [if_pos rfl]
  have : look (L.take (place L k)) k = none := by
   rw [e] at hx
   cases h : look (L.take (place L k)) k with
   | none => rfl
   | some y => rw [h] at hx; simp at hx
  rw [this]
  simp [look]
 ·rw [if_neg hk, e]
  congr 1
  rw [look, if_neg (Ne.symm hk)]
theorem look_del {L : List (Int × α)} (h : Rising L) {t : Int} (hx : (look L t).isSome = true) (k : Int) : look (del L t) k = if k = t then none else look L k := by
 obtain ⟨x, hx⟩ := Option.isSome_iff_exists.1 hx
 have hd := drop_place h hx
 obtain ⟨h1, h2⟩ := rising_ends L h t
 have h3 : ∀ p ∈ L.drop (place L t + 1), p.1 ≠ t := fun p hp => by
  have hr : Rising (L.drop (place L t)) := h.sublist (List.drop_sublist _ _)
  rw [hd] at hr
  have := (List.pairwise_cons.1 hr).1 p hp
  simp at this
  omega
 unfold del
 rw [look_append]
 by_cases hk : k = t
 ·subst hk
  rw [if_pos rfl, look_none_of (fun p hp => by have := h1 p hp; omega), look_none_of h3]
  rfl
 ·rw [if_neg hk, look_split L (place L t) k, hd]
  congr 1
  rw [look, if_neg (Ne.symm hk)]
theorem ins_length (L : List (Int × α)) (t : Int) (x : α) : (ins L t x).length = L.length + 1 := by
 have := place_le L t
 simp [ins]
 omega
theorem del_length {L : List (Int × α)} (h : Rising L) {t : Int} (hx : (look L t).isSome = true) : (del L t).length + 1 = L.length := by
 obtain ⟨x, hx⟩ := Option.isSome_iff_exists.1 hx
 have := (List.getElem?_eq_some_iff.1 (look_at h hx)).1
 simp [del]
 omega
theorem mem_ins {L : List (Int × α)} {t : Int} {x : α} {p : Int × α} (h : p ∈ ins L t x) : p = (t, x) ∨ p ∈ L := by
 rcases List.mem_append.1 h with h | h
 ·exact .inr (List.mem_of_mem_take h)
 ·rcases List.mem_cons.1 h with h | h
  ·exact .inl h
  ·exact .inr (List.mem_of_mem_drop h)
theorem mem_del {L : List (Int × α)} {t : Int} {p : Int × α} (h : p ∈ del L t) : p ∈ L := by
 rcases List.mem_append.1 h with h | h
 ·exact List.mem_of_mem_take h
 ·exact List.mem_of_mem_drop h
theorem tks_nodup {L : List (Int × α)} (h : Rising L) : (tks L).Nodup := List.pairwise_map.2 (h.imp fun h => by omega)
def over (f : α → β) (L : List (Int × α)) : List (Int × β) := L.map fun p => (p.1, f p.2)
theorem look_mem {L : List (Int × α)} {t : Int} {x : α} (h : look L t = some x) : (t, x) ∈ L := by
 induction L with
 | nil => cases h
 | cons p L ih =>
  unfold look at h
  by_cases hp : p.1 = t
  ·rw [if_pos hp] at h
   injection h with h
   rw [← hp, ← h]
   exact List.mem_cons_self
  ·rw [if_neg hp] at h
   exact List.mem_cons_of_mem _ (ih h)
end
end Go.Proofs.YtoaeficfmcncjaaGreat.Table
