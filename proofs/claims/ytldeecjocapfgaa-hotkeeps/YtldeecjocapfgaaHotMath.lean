/-
  Plain facts on the extents that are hot: an order as a list of numbers below 64, its set, who fits, who leaves, and what a use makes of it.
-/
import Derived.Test.YtldeecjocapfgaaBitsMath
namespace Go.Proofs.Ytldeecjocapfgaa.Hot
open Bits.Math

/-- The set of a list's numbers. -/
def mask (l : List Nat) : Nat := ofL (l.map Int.ofNat)
theorem mask_lt (l : List Nat) : mask l < 18446744073709551616 := ofL_lt _
theorem mask_nil : mask [] = 0 := rfl
theorem mask_bit (l : List Nat) (h : ∀ x ∈ l, x < 64) (j : Nat) : (mask l).testBit j = decide (j ∈ l) := by
  unfold mask ofL
  rw [testBit_foldl j l 0 h]
  simp
theorem mem_elems (x j : Nat) : j ∈ elems x ↔ j < 64 ∧ x.testBit j = true := by simp [elems, lst]
theorem elems_nodup (x : Nat) : (elems x).Nodup := by
  unfold elems lst
  exact List.Pairwise.filter _ List.nodup_range
theorem mask_elems (x : Nat) (h : x < 18446744073709551616) : mask (elems x) = x := ofL_elems x h
theorem elems_len (x : Nat) : (elems x).length ≤ 64 := by
  rw [← pop_elems]
  exact pop_le x

/-- An order of extents: each once. -/
structure Good (l : List Nat) : Prop where
  nodup : l.Nodup
  lt : ∀ x ∈ l, x < 64
theorem Good.elems (x : Nat) : Good (elems x) := ⟨elems_nodup x, elems_lt x⟩
theorem Good.nil : Good [] := ⟨List.nodup_nil, fun _ h => by cases h⟩
theorem Good.sub {l k : List Nat} (h : Good l) (hs : k.Sublist l) : Good k := ⟨h.nodup.sublist hs, fun x hx => h.lt x (hs.subset hx)⟩

theorem pop_of {x : Nat} {l : List Nat} (hn : l.Nodup) (hm : ∀ j, j ∈ l ↔ j < 64 ∧ x.testBit j = true) : pop x = l.length := by
  rw [pop_elems]
  exact List.Perm.length_eq ((List.perm_ext_iff_of_nodup (elems_nodup x) hn).2 fun j => by rw [mem_elems, hm])
theorem pop_mask {l : List Nat} (h : Good l) : pop (mask l) = l.length :=
  pop_of h.nodup fun j => by
    rw [mask_bit l h.lt]
    simp
    exact h.lt j
theorem Good.len {l : List Nat} (h : Good l) : l.length ≤ 64 := by
  rw [← pop_mask h]
  exact pop_le _
theorem pop_mono {a b : Nat} (h : ∀ j, j < 64 → a.testBit j = true → b.testBit j = true) : pop a ≤ pop b := by
  rw [pop_elems, pop_elems]
  unfold elems lst
  rw [← List.countP_eq_length_filter, ← List.countP_eq_length_filter]
  exact List.countP_mono_left fun x hx hp => h x (by simpa using hx) hp

/-- May an extent leave? -/
def may (need busy x : Nat) : Bool := !(need.testBit x || busy.testBit x)
/-- Are there too many, together with those that are needed? -/
def over (most need : Nat) (l : List Nat) : Bool := decide (most < pop (mask l ||| need))
/-- Do those that are needed, and the set's own that are busy, fit? -/
def fits (most need busy : Nat) (l : List Nat) : Bool := decide (pop (need ||| (mask l &&& busy)) ≤ most)

/-- Whoever may leave does so, the first one first, until there is room. -/
def evict (most need busy : Nat) : List Nat → List Nat → List Nat
  | k, [] => k
  | k, e :: r => if (over most need (k ++ e :: r) && may need busy e) = true then evict most need busy k r else evict most need busy (k ++ [e]) r

section
variable {most need busy : Nat}

theorem evict_done (r : List Nat) : ∀ k : List Nat, over most need (k ++ r) = false → evict most need busy k r = k ++ r := by
  induction r with
  | nil => intro k _; simp [evict]
  | cons e r ih =>
    intro k h
    have h' : over most need ((k ++ [e]) ++ r) = false := by rw [List.append_assoc]; exact h
    unfold evict
    rw [if_neg (by rw [h]; simp), ih (k ++ [e]) h', List.append_assoc]
    rfl
theorem evict_pass : ∀ (m k r : List Nat), (∀ x ∈ m, may need busy x = false) → evict most need busy k (m ++ r) = evict most need busy (k ++ m) r
  | [], k, r, _ => by simp
  | e :: m, k, r, h => by
    have h0 := h e (by simp)
    rw [List.cons_append]
    simp only [evict]
    rw [if_neg (by rw [h0]; simp), evict_pass m (k ++ [e]) r (fun x hx => h x (by simp [hx]))]
    simp
theorem evict_sub : ∀ (r k : List Nat), (evict most need busy k r).Sublist (k ++ r)
  | [], k => by simp [evict]
  | e :: r, k => by
    simp only [evict]
    split
    · exact (evict_sub r k).trans (List.Sublist.append_left (List.sublist_cons_self e r) k)
    · have := evict_sub r (k ++ [e])
      simpa using this
theorem evict_has : ∀ (r k : List Nat) (x : Nat), x ∈ k ∨ (x ∈ r ∧ may need busy x = false) → x ∈ evict most need busy k r
  | [], k, x, h => by
    rcases h with h | ⟨h, _⟩
    · simpa [evict] using h
    · cases h
  | e :: r, k, x, h => by
    simp only [evict]
    split
    · rename_i hc
      refine evict_has r k x ?_
      rcases h with h | ⟨h, hm⟩
      · exact .inl h
      · rcases List.mem_cons.1 h with e1 | e1
        · subst e1
          rw [hm] at hc
          simp at hc
        · exact .inr ⟨e1, hm⟩
    · refine evict_has r (k ++ [e]) x ?_
      rcases h with h | ⟨h, hm⟩
      · exact .inl (by simp [h])
      · rcases List.mem_cons.1 h with e1 | e1
        · exact .inl (by simp [e1])
        · exact .inr ⟨e1, hm⟩

/-- Where none of the set may leave, there is room: for they fit. -/
theorem room {l0 l : List Nat} (hf : fits most need busy l0 = true) (h0 : Good l0) (hs : ∀ x ∈ l, x ∈ l0) (hn : ∀ x ∈ l, may need busy x = false) : over most need l = false := by
  have hf' : pop (need ||| (mask l0 &&& busy)) ≤ most := by simpa [fits] using hf
  have : pop (mask l ||| need) ≤ pop (need ||| (mask l0 &&& busy)) := pop_mono fun j _ hb => by
    rw [Nat.testBit_or, mask_bit l (fun x hx => h0.lt x (hs x hx))] at hb
    rw [Nat.testBit_or, Nat.testBit_and, mask_bit l0 h0.lt]
    by_cases hj : j ∈ l
    · have a := hn j hj
      have b := hs j hj
      simp [may] at a
      cases c : need.testBit j
      · simp [b, a c]
      · simp
    · simp [hj] at hb
      simp [hb]
  simp [over]
  omega
theorem evict_fit {l0 : List Nat} (hf : fits most need busy l0 = true) (h0 : Good l0) : ∀ (r k : List Nat), (∀ x ∈ k ++ r, x ∈ l0) → (∀ x ∈ k, may need busy x = false) → over most need (evict most need busy k r) = false
  | [], k, hs, hn => by
    simp only [evict]
    exact room hf h0 (by simpa using hs) hn
  | e :: r, k, hs, hn => by
    cases ho : over most need (k ++ e :: r) with
    | false => rw [evict_done _ _ ho, ho]
    | true =>
      simp only [evict]
      cases hm : may need busy e with
      | true =>
        rw [if_pos (by rw [ho]; rfl)]
        exact evict_fit hf h0 r k (fun x hx => hs x (by
          rcases List.mem_append.1 hx with h | h
          · simp [h]
          · simp [h])) hn
      | false =>
        rw [if_neg (by simp)]
        exact evict_fit hf h0 r (k ++ [e]) (by simpa using hs) (fun x hx => by
          rcases List.mem_append.1 hx with h | h
          · exact hn x h
          · rw [List.mem_singleton.1 h]; exact hm)
/-- One is always found. -/
theorem found {l0 l : List Nat} (hf : fits most need busy l0 = true) (h0 : Good l0) (hs : ∀ x ∈ l, x ∈ l0) (ho : over most need l = true) : l.findIdx (may need busy) < l.length := by
  rw [List.findIdx_lt_length]
  apply Classical.byContradiction
  intro hc
  have : over most need l = false := room hf h0 hs fun x hx => by
    cases hm : may need busy x with
    | false => rfl
    | true => exact (hc ⟨x, hx, hm⟩).elim
  rw [this] at ho
  cases ho
theorem erase_parts (l : List Nat) (i : Nat) : l.eraseIdx i = l.take i ++ l.drop (i + 1) := List.eraseIdx_eq_take_drop_succ l i
/-- The program's step: the first that may leave does. -/
theorem evict_step {l : List Nat} (ho : over most need l = true) (hi : l.findIdx (may need busy) < l.length) :
    evict most need busy [] (l.eraseIdx (l.findIdx (may need busy))) = evict most need busy [] l := by
  obtain ⟨i, hI⟩ : ∃ i, l.findIdx (may need busy) = i := ⟨_, rfl⟩
  have hm : may need busy (l[l.findIdx (may need busy)]'hi) = true := List.findIdx_getElem (w := hi)
  have hb : ∀ x ∈ l.take i, may need busy x = false := fun x hx => by
    obtain ⟨j, hj, rfl⟩ := List.getElem_of_mem hx
    rw [List.length_take] at hj
    have := List.not_of_lt_findIdx (p := may need busy) (xs := l) (i := j) (by omega)
    simpa using this
  simp only [hI] at hm hi ⊢
  have hp : l = l.take i ++ l[i] :: l.drop (i + 1) := by simp
  rw [erase_parts, evict_pass _ _ _ hb]
  conv => rhs; rw [hp, evict_pass _ _ _ hb]
  simp only [List.nil_append]
  conv => rhs; simp only [evict]
  rw [if_pos]
  rw [← hp, ho, hm]
  rfl
end

/-- Those that are not needed. -/
def rest (need : Nat) (l : List Nat) : List Nat := l.filter fun x => !need.testBit x
/-- What a use that fits makes of the order. -/
def used (most need busy : Nat) (l : List Nat) : List Nat := rest need (evict most need busy [] l) ++ elems need
theorem evict_good {most need busy : Nat} {l : List Nat} (h : Good l) : Good (evict most need busy [] l) := h.sub (by simpa using evict_sub (most := most) (need := need) (busy := busy) l [])
theorem used_good {most need busy : Nat} {l : List Nat} (h : Good l) : Good (used most need busy l) := by
  have g := evict_good (most := most) (need := need) (busy := busy) h
  constructor
  · unfold used rest
    rw [List.nodup_append]
    refine ⟨g.nodup.filter _, elems_nodup need, fun a ha b hb e => ?_⟩
    subst e
    simp at ha
    have := ((mem_elems need a).1 hb).2
    rw [ha.2] at this
    cases this
  · intro x hx
    rcases List.mem_append.1 hx with h1 | h1
    · exact g.lt x (List.mem_filter.1 h1).1
    · exact elems_lt need x h1
theorem mem_used {most need busy : Nat} {l : List Nat} (h : Good l) (x : Nat) : x ∈ used most need busy l ↔ (x ∈ evict most need busy [] l ∨ (x < 64 ∧ need.testBit x = true)) := by
  unfold used rest
  rw [List.mem_append, List.mem_filter, mem_elems]
  have g := (evict_good (most := most) (need := need) (busy := busy) h).lt x
  constructor
  · rintro (h1 | h1)
    · exact .inl h1.1
    · exact .inr h1
  · rintro (h1 | h1)
    · cases hb : need.testBit x with
      | false => exact .inl ⟨h1, rfl⟩
      | true => exact .inr ⟨g h1, rfl⟩
    · exact .inr h1
theorem used_len {most need busy : Nat} {l : List Nat} (h : Good l) (hf : fits most need busy l = true) : (used most need busy l).length ≤ most := by
  have g := used_good (most := most) (need := need) (busy := busy) h
  have g' := evict_good (most := most) (need := need) (busy := busy) h
  have ho := evict_fit hf h l [] (fun x hx => by simpa using hx) (fun x hx => by cases hx)
  have : pop (mask (evict most need busy [] l) ||| need) = (used most need busy l).length := pop_of g.nodup fun j => by
    rw [mem_used h, Nat.testBit_or, mask_bit _ g'.lt]
    have := g'.lt j
    simp
    constructor
    · rintro (h1 | h1)
      · exact ⟨this h1, .inl h1⟩
      · exact ⟨h1.1, .inr h1.2⟩
    · rintro ⟨h0, h1 | h1⟩
      · exact .inl h1
      · exact .inr ⟨h0, h1⟩
  simp [over] at ho
  omega

/-- The program's second loop: behind k rounds. -/
def gone (l d : List Nat) : List Nat := l.filter fun x => !d.contains x
theorem gone_nil (l : List Nat) : gone l [] = l := by simp [gone]
theorem gone_sub (l d : List Nat) : (gone l d).Sublist l := List.filter_sublist
theorem gone_snoc {l : List Nat} (h : l.Nodup) (d : List Nat) (e : Nat) : (gone l d).eraseIdx ((gone l d).idxOf e) = gone l (d ++ [e]) := by
  rw [← List.erase_eq_eraseIdx_of_idxOf rfl, List.Nodup.erase_eq_filter (h.sublist (gone_sub l d))]
  unfold gone
  rw [List.filter_filter]
  congr 1
  funext x
  by_cases hx : x = e <;> simp [hx]
theorem gone_filter (l d : List Nat) (e : Nat) : (gone l d).filter (fun x => x != e) = gone l (d ++ [e]) := by
  unfold gone
  rw [List.filter_filter]
  congr 1
  funext x
  by_cases hx : x = e <;> simp [hx]
theorem gone_mem {l d : List Nat} {x : Nat} (h : x ∈ l) (hd : x ∉ d) : x ∈ gone l d := by
  unfold gone
  simp [h, hd]
theorem gone_needed {l : List Nat} (hl : ∀ x ∈ l, x < 64) (need : Nat) : gone l (elems (need &&& mask l)) = rest need l := by
  unfold gone rest
  apply List.filter_congr
  intro x hx
  have := hl x hx
  cases hb : need.testBit x with
  | false =>
    have : ¬ x ∈ elems (need &&& mask l) := by rw [mem_elems, Nat.testBit_and, hb]; simp
    simp [this]
  | true =>
    have : x ∈ elems (need &&& mask l) := by rw [mem_elems, Nat.testBit_and, hb, mask_bit l hl]; simp [hx, this]
    simp [this]
theorem gone_elems {l : List Nat} (hl : ∀ x ∈ l, x < 64) (need : Nat) : gone l (elems need) = rest need l := by
  unfold gone rest
  apply List.filter_congr
  intro x hx
  have := hl x hx
  cases hb : need.testBit x with
  | false =>
    have : ¬ x ∈ elems need := by rw [mem_elems, hb]; simp
    simp [this]
  | true =>
    have : x ∈ elems need := by rw [mem_elems, hb]; simp [this]
    simp [this]
/-- The document's second loop: one round. -/
theorem ref_snoc (l d : List Nat) (e : Nat) (he : e ∉ d) : (gone l d ++ d).filter (fun x => x != e) ++ [e] = gone l (d ++ [e]) ++ (d ++ [e]) := by
  rw [List.filter_append, gone_filter]
  have : d.filter (fun x => x != e) = d := by
    rw [List.filter_eq_self]
    intro x hx
    simp
    intro h
    exact he (h ▸ hx)
  rw [this]
  simp
theorem filter_parts {k r : List Nat} {e : Nat} (h : (k ++ e :: r).Nodup) : (k ++ e :: r).filter (fun x => x != e) = k ++ r := by
  rw [List.nodup_append, List.nodup_cons] at h
  obtain ⟨_, ⟨h1, _⟩, h2⟩ := h
  rw [List.filter_append, List.filter_cons]
  have a : k.filter (fun x => x != e) = k := by
    rw [List.filter_eq_self]
    intro x hx
    simp
    exact h2 x hx e (by simp)
  have b : r.filter (fun x => x != e) = r := by
    rw [List.filter_eq_self]
    intro x hx
    simp
    intro hh
    exact h1 (hh ▸ hx)
  simp [a, b]
theorem take_not_mem {d : List Nat} (h : d.Nodup) {k : Nat} (hk : k < d.length) : d[k] ∉ d.take k := by
  intro hm
  obtain ⟨j, hj, e⟩ := List.getElem_of_mem hm
  rw [List.length_take] at hj
  rw [List.getElem_take] at e
  have := (List.getElem_inj h).1 e
  omega
/-- The document's count of who must fit. -/
theorem ref_fits {l : List Nat} (h : Good l) (need busy : Nat) : pop (need ||| (mask l &&& busy)) = (elems need).length + (l.filter fun x => busy.testBit x && !need.testBit x).length := by
  rw [← List.length_append]
  refine pop_of ?_ fun j => ?_
  · rw [List.nodup_append]
    refine ⟨elems_nodup need, h.nodup.filter _, fun a ha b hb e => ?_⟩
    subst e
    simp at hb
    have := ((mem_elems need a).1 ha).2
    rw [hb.2.2] at this
    cases this
  · have hlt := h.lt j
    rw [List.mem_append, mem_elems, List.mem_filter, Nat.testBit_or, Nat.testBit_and, mask_bit l h.lt]
    cases need.testBit j <;> cases busy.testBit j <;> simp <;> exact hlt

end Go.Proofs.Ytldeecjocapfgaa.Hot
