import Derived.Test.YtollfckgjhklcaaGreatSpanMath
/-
  Plain facts on spans by their ids in order: which stands ahead, where one stands, what is put in and taken out, who overlaps. No program is named here.
-/
namespace Go.Proofs.YtollfckgjhklcaaGreat.Itree

/-- A span, and its id. -/
structure It where
  o : Int
  l : Int
  i : Int
  deriving DecidableEq
structure It.Ok (x : It) : Prop where
  o0 : -9223372036854775808 ≤ x.o
  o1 : x.o ≤ 9223372036854775807
  l0 : -9223372036854775808 ≤ x.l
  l1 : x.l ≤ 9223372036854775807
  i0 : -9223372036854775808 ≤ x.i
  i1 : x.i ≤ 9223372036854775807
/-- Which stands ahead? -/
def ahead (a b : It) : Bool := if a.o = b.o then (if a.l = b.l then decide (a.i < b.i) else decide (a.l < b.l)) else decide (a.o < b.o)
theorem ahead_iff (a b : It) : ahead a b = true ↔ a.o < b.o ∨ (a.o = b.o ∧ (a.l < b.l ∨ (a.l = b.l ∧ a.i < b.i))) := by
  unfold ahead
  by_cases h1 : a.o = b.o
  · rw [if_pos h1]
    by_cases h2 : a.l = b.l
    · rw [if_pos h2, decide_eq_true_iff]
      omega
    · rw [if_neg h2, decide_eq_true_iff]
      omega
  · rw [if_neg h1, decide_eq_true_iff]
    omega
theorem It.eq_iff (a b : It) : a = b ↔ a.o = b.o ∧ a.l = b.l ∧ a.i = b.i := by
  constructor
  · rintro rfl
    exact ⟨rfl, rfl, rfl⟩
  · obtain ⟨o, l, i⟩ := a
    obtain ⟨o', l', i'⟩ := b
    rintro ⟨h1, h2, h3⟩
    simp at h1 h2 h3
    rw [h1, h2, h3]
theorem ahead_irrefl (a : It) : ahead a a = false := by
  cases h : ahead a a with
  | false => rfl
  | true =>
    rw [ahead_iff] at h
    omega
theorem ahead_trans {a b c : It} (h : ahead a b = true) (k : ahead b c = true) : ahead a c = true := by
  rw [ahead_iff] at *
  omega
theorem ahead_asymm {a b : It} (h : ahead a b = true) : ahead b a = false := by
  cases k : ahead b a with
  | false => rfl
  | true =>
    have := ahead_trans h k
    rw [ahead_irrefl] at this
    cases this
/-- One of two stands ahead, or they are one. -/
theorem ahead_total (a b : It) : ahead a b = true ∨ a = b ∨ ahead b a = true := by
  rw [ahead_iff, ahead_iff, It.eq_iff]
  omega
/-- In order, each once. -/
def Sorted (L : List It) : Prop := L.Pairwise fun a b => ahead a b = true
theorem Sorted.nil : Sorted [] := List.Pairwise.nil
theorem sorted_append {A B : List It} : Sorted (A ++ B) ↔ Sorted A ∧ Sorted B ∧ ∀ a ∈ A, ∀ b ∈ B, ahead a b = true := List.pairwise_append
theorem sorted_cons {x : It} {B : List It} : Sorted (x :: B) ↔ (∀ b ∈ B, ahead x b = true) ∧ Sorted B := List.pairwise_cons

/-- Where it stands, or would. -/
def place (L : List It) (x : It) : Nat := (L.takeWhile fun a => ahead a x).length
theorem place_le (L : List It) (x : It) : place L x ≤ L.length := by
  unfold place
  exact (List.takeWhile_sublist _).length_le
theorem place_of {A B : List It} {x : It} (h1 : ∀ a ∈ A, ahead a x = true) (h2 : ∀ b, B.head? = some b → ahead b x = false) : place (A ++ B) x = A.length := by
  unfold place
  induction A with
  | nil =>
    cases B with
    | nil => rfl
    | cons b B =>
      have := h2 b rfl
      simp [this]
  | cons a A ih =>
    have ha := h1 a (by simp)
    simp only [List.cons_append, List.takeWhile_cons, ha, if_true, List.length_cons]
    rw [ih fun a' h => h1 a' (by simp [h])]
/-- All ahead of the place are ahead, and the one at it is not. -/
theorem place_ahead (L : List It) (x : It) (j : Nat) (hj : j < place L x) : ∃ a, L[j]? = some a ∧ ahead a x = true := by
  unfold place at hj
  induction L generalizing j with
  | nil => simp at hj
  | cons a L ih =>
    by_cases h : ahead a x = true
    · cases j with
      | zero => exact ⟨a, rfl, h⟩
      | succ j =>
        simp only [List.takeWhile_cons, h, if_true, List.length_cons] at hj
        exact ih j (by omega)
    · simp [h] at hj
theorem place_not (L : List It) (x a : It) (h : L[place L x]? = some a) : ahead a x = false := by
  unfold place at h
  induction L with
  | nil => simp at h
  | cons b L ih =>
    by_cases hb : ahead b x = true
    · simp only [List.takeWhile_cons, hb, if_true, List.length_cons, List.getElem?_cons_succ] at h
      exact ih h
    · have hb' : ahead b x = false := by simpa using hb
      simp only [List.takeWhile_cons, hb', Bool.false_eq_true, if_false, List.length_nil, List.getElem?_cons_zero, Option.some.injEq] at h
      rw [← h]
      exact hb'
/-- What is known of it. -/
def there (L : List It) (x : It) : Bool := decide (L[place L x]? = some x)
def good (x : It) : Bool := Span.Math.plain x.o x.l && decide (1 ≤ x.l)
def insOk (L : List It) (x : It) : Bool := good x && !there L x
def insL (L : List It) (x : It) : List It := if insOk L x then L.take (place L x) ++ x :: L.drop (place L x) else L
def delL (L : List It) (x : It) : List It := if there L x then L.take (place L x) ++ L.drop (place L x + 1) else L
def ovL (L : List It) (p m : Int) : List Int := (L.filter fun x => Span.Math.over x.o x.l p m).map (·.i)
def idsL (L : List It) : List Int := L.map (·.i)

theorem there_mid {A B : List It} {x : It} (h : Sorted (A ++ x :: B)) : place (A ++ x :: B) x = A.length ∧ there (A ++ x :: B) x = true := by
  have e : place (A ++ x :: B) x = A.length := place_of (fun a ha => (sorted_append.1 h).2.2 a ha x (by simp)) (fun b hb => by simp at hb; rw [← hb]; exact ahead_irrefl x)
  refine ⟨e, ?_⟩
  unfold there
  rw [e]
  simp
theorem there_not {A B : List It} {x : It} (h1 : ∀ a ∈ A, ahead a x = true) (h2 : ∀ b ∈ B, ahead x b = true) : place (A ++ B) x = A.length ∧ there (A ++ B) x = false := by
  have e : place (A ++ B) x = A.length := place_of h1 (fun b hb => ahead_asymm (h2 b (List.mem_of_mem_head? hb)))
  refine ⟨e, ?_⟩
  unfold there
  rw [e]
  rw [decide_eq_false_iff_not, List.getElem?_append_right (Nat.le_refl _), Nat.sub_self]
  intro hx
  have hm : x ∈ B := List.mem_of_getElem? hx
  have := h2 x hm
  rw [ahead_irrefl] at this
  cases this
theorem there_iff {L : List It} (h : Sorted L) (x : It) : there L x = true ↔ x ∈ L := by
  constructor
  · intro ht
    exact List.mem_of_getElem? (of_decide_eq_true ht)
  · intro hx
    obtain ⟨A, B, rfl⟩ := List.append_of_mem hx
    exact (there_mid h).2
/-- Put in between. -/
theorem ins_mid {A B : List It} {x : It} (h1 : ∀ a ∈ A, ahead a x = true) (h2 : ∀ b ∈ B, ahead x b = true) (hg : good x = true) : insOk (A ++ B) x = true ∧ insL (A ++ B) x = A ++ x :: B := by
  obtain ⟨e1, e2⟩ := there_not h1 h2
  have e3 : insOk (A ++ B) x = true := by
    unfold insOk
    rw [hg, e2]
    rfl
  refine ⟨e3, ?_⟩
  unfold insL
  rw [if_pos e3, e1, List.take_left, List.drop_left]
/-- Taken out. -/
theorem del_mid {A B : List It} {x : It} (h : Sorted (A ++ x :: B)) : delL (A ++ x :: B) x = A ++ B := by
  obtain ⟨e1, e2⟩ := there_mid h
  unfold delL
  rw [if_pos e2, e1, List.take_left]
  congr 1
  rw [← List.drop_drop, List.drop_left]
  rfl
theorem ins_there {L : List It} {x : It} (h : there L x = true ∨ good x = false) : insOk L x = false ∧ insL L x = L := by
  have e : insOk L x = false := by
    unfold insOk
    rcases h with h | h
    · rw [h]
      simp
    · rw [h]
      rfl
  refine ⟨e, ?_⟩
  unfold insL
  rw [if_neg (by rw [e]; decide)]
theorem del_not {L : List It} {x : It} (h : there L x = false) : delL L x = L := by
  unfold delL
  rw [if_neg (by rw [h]; decide)]
theorem sorted_split {L : List It} (h : Sorted L) (x : It) : (∀ a ∈ L.take (place L x), ahead a x = true) ∧ (there L x = false → ∀ b ∈ L.drop (place L x), ahead x b = true) := by
  constructor
  · intro a ha
    obtain ⟨j, hj⟩ := List.getElem?_of_mem ha
    rw [List.getElem?_take] at hj
    split at hj
    · rename_i hlt
      obtain ⟨a', h1, h2⟩ := place_ahead L x j hlt
      rw [h1] at hj
      simp at hj
      rw [← hj]
      exact h2
    · cases hj
  · intro ht b hb
    obtain ⟨j, hj⟩ := List.getElem?_of_mem hb
    rw [List.getElem?_drop] at hj
    have hlt : place L x < L.length := by
      have := (List.getElem?_eq_some_iff.1 hj).1
      omega
    have h0 := List.getElem?_eq_getElem hlt
    have hn := place_not L x _ h0
    have hx : L[place L x] ≠ x := fun e => by
      unfold there at ht
      rw [h0, e] at ht
      simp at ht
    have hf : ahead x L[place L x] = true := by
      rcases ahead_total L[place L x] x with h | h | h
      · rw [h] at hn
        cases hn
      · exact absurd h hx
      · exact h
    cases j with
    | zero =>
      rw [Nat.add_zero, h0] at hj
      simp at hj
      rw [← hj]
      exact hf
    | succ j =>
      have hpw := List.pairwise_iff_getElem.1 h (place L x) (place L x + (j + 1)) hlt (List.getElem?_eq_some_iff.1 hj).1 (by omega)
      have hb' := (List.getElem?_eq_some_iff.1 hj).2
      rw [hb'] at hpw
      exact ahead_trans hf hpw
theorem ins_sorted {L : List It} (h : Sorted L) (x : It) : Sorted (insL L x) := by
  unfold insL
  by_cases e : insOk L x = true
  · rw [if_pos e]
    have ht : there L x = false := by
      unfold insOk at e
      cases k : there L x with
      | false => rfl
      | true => rw [k] at e; simp at e
    obtain ⟨p1, p2⟩ := sorted_split h x
    have hL := List.take_append_drop (place L x) L
    rw [← hL] at h
    obtain ⟨s1, s2, s3⟩ := sorted_append.1 h
    refine sorted_append.2 ⟨s1, sorted_cons.2 ⟨p2 ht, s2⟩, fun a ha b hb => ?_⟩
    rcases List.mem_cons.1 hb with rfl | hb
    · exact p1 a ha
    · exact s3 a ha b hb
  · rw [if_neg e]
    exact h
theorem del_sorted {L : List It} (h : Sorted L) (x : It) : Sorted (delL L x) := by
  unfold delL
  by_cases e : there L x = true
  · rw [if_pos e]
    refine List.Pairwise.sublist ?_ h
    have := List.take_append_drop (place L x) L
    conv => rhs; rw [← this]
    refine List.Sublist.append_left ?_ _
    exact List.drop_sublist_drop_left _ (Nat.le_succ _)
  · rw [if_neg e]
    exact h
theorem ins_length (L : List It) (x : It) : (insL L x).length = L.length + (if insOk L x then 1 else 0) := by
  have := place_le L x
  unfold insL
  split
  · simp
    omega
  · rfl
theorem del_length (L : List It) (x : It) : (delL L x).length = L.length - (if there L x then 1 else 0) := by
  unfold delL
  split
  · rename_i h
    have hx : L[place L x]? = some x := of_decide_eq_true h
    have := (List.getElem?_eq_some_iff.1 hx).1
    simp
    omega
  · rfl
theorem mem_ins {L : List It} {x y : It} (h : y ∈ insL L x) : y = x ∧ good x = true ∨ y ∈ L := by
  unfold insL at h
  split at h
  · rename_i hk
    rcases List.mem_append.1 h with h | h
    · exact .inr (List.mem_of_mem_take h)
    · rcases List.mem_cons.1 h with rfl | h
      · refine .inl ⟨rfl, ?_⟩
        unfold insOk at hk
        simp at hk
        exact hk.1
      · exact .inr (List.mem_of_mem_drop h)
  · exact .inr h
theorem mem_del {L : List It} {x y : It} (h : y ∈ delL L x) : y ∈ L := by
  unfold delL at h
  split at h
  · rcases List.mem_append.1 h with h | h
    · exact List.mem_of_mem_take h
    · exact List.mem_of_mem_drop h
  · exact h
/-- What is put in is there, and found. -/
theorem ins_there_after {L : List It} (h : Sorted L) {x : It} (hg : good x = true) : x ∈ insL L x := by
  unfold insL
  by_cases e : insOk L x = true
  · rw [if_pos e]
    simp
  · rw [if_neg e]
    have : there L x = true := by
      unfold insOk at e
      rw [hg] at e
      simpa using e
    exact (there_iff h x).1 this
theorem ov_append (A B : List It) (p m : Int) : ovL (A ++ B) p m = ovL A p m ++ ovL B p m := by simp [ovL]
theorem ov_cons (x : It) (B : List It) (p m : Int) : ovL (x :: B) p m = (if Span.Math.over x.o x.l p m then [x.i] else []) ++ ovL B p m := by
  unfold ovL
  rw [List.filter_cons]
  split <;> simp
/-- Where no one overlaps: all end ahead, or all begin behind. -/
theorem ov_none_low {A : List It} {p m : Int} (h : ∀ a ∈ A, a.o + a.l ≤ p) : ovL A p m = [] := by
  unfold ovL
  rw [List.filter_eq_nil_iff.2]
  · rfl
  · intro a ha ho
    have := h a ha
    obtain ⟨_, _, h3⟩ := Span.Math.over_plain ho
    omega
theorem ov_none_high {A : List It} {p m : Int} (h : ∀ a ∈ A, p + m ≤ a.o) : ovL A p m = [] := by
  unfold ovL
  rw [List.filter_eq_nil_iff.2]
  · rfl
  · intro a ha ho
    have := h a ha
    obtain ⟨_, _, h3⟩ := Span.Math.over_plain ho
    omega
theorem ov_not_plain {A : List It} {p m : Int} (h : Span.Math.plain p m = false) : ovL A p m = [] := by
  unfold ovL
  rw [List.filter_eq_nil_iff.2]
  · rfl
  · intro a _ ho
    obtain ⟨_, h2, _⟩ := Span.Math.over_plain ho
    rw [h] at h2
    cases h2
theorem ov_mem {L : List It} {x : It} (hx : x ∈ L) {p m : Int} (h : Span.Math.over x.o x.l p m = true) : x.i ∈ ovL L p m := by
  unfold ovL
  exact List.mem_map.2 ⟨x, List.mem_filter.2 ⟨hx, h⟩, rfl⟩
/-- It is found by itself, and by each of its sectors. -/
theorem over_self {x : It} (hg : good x = true) : Span.Math.over x.o x.l x.o x.l = true := by
  unfold good at hg
  simp at hg
  refine Span.Math.over_true hg.1 hg.1 ?_
  omega
theorem over_sector {x : It} (hg : good x = true) {a : Int} (h0 : 0 ≤ a) (h1 : a < x.l) (h2 : x.o + a ≤ 1073741824) : Span.Math.over x.o x.l (x.o + a) 1 = true := by
  unfold good at hg
  simp at hg
  have := Span.Math.of_plain hg.1
  refine Span.Math.over_true hg.1 (Span.Math.plain_of (by omega)) ?_
  omega
end Go.Proofs.YtollfckgjhklcaaGreat.Itree

