/-
  The walks of Meet, Overlap and Holds on both sides, and of the small functions that Meet stands on: what each call answers, in the plain words of the Math text.
-/
import Derived.Test.YtakljofmnpagpaaWalksA
import Derived.Laws.ResultCell
import Derived.Laws.Rows
import Derived.Deep.QuietTactic
import Derived.BigQuiet
namespace Go.Proofs.Ytakljofmnpagpaa
open Go.RowKit
open Math

/-- A span as a value. -/
abbrev sp (o l : Int) : Value := .agg #[.int .i64 o, .int .i64 l]

/-- row.first -/
theorem first_any (o l : Int) (w : World) :
    Calls Try.prog 26 #[.agg #[.int .i64 o, .int .i64 l]] w fun e w' => e = .returned (.int .i64 o) ∧ Below w.heap.size w w' := by
  go_enter Try.func26, Try.ntmps26
  go_wp2
  go_ret
  exact ⟨rfl, below_new _ _⟩

/-- row.end -/
theorem rowEnd_any (o l : Int) (w : World) :
    Calls Try.prog 28 #[.agg #[.int .i64 o, .int .i64 l]] w fun e w' => e = .returned (.int .i64 (endN o l)) ∧ Below w.heap.size w w' := by
  have hb := below_new w (.cells #[.int .i64 o, .int .i64 l] 41)
  go_enter Try.func28, Try.ntmps28
  go_wp2_with (go_at_call 8; refine (end_any _ _ _).mono ?_; rintro e w1 ⟨rfl, hB⟩)
  go_ret
  exact ⟨rfl, hb.trans (hB.mono hb.size)⟩

/-- span.later, of two method values -/
theorem later_any (o l p m : Int) (w : World) :
    Calls Try.prog 25 #[.func (.func 26) #[.agg #[.int .i64 o, .int .i64 l]] #[], .func (.func 26) #[.agg #[.int .i64 p, .int .i64 m]] #[]] w fun e w' => e = .returned (.int .i64 (max o p)) ∧ Below w.heap.size w w' := by
  have hb := Below.refl w.heap.size w
  go_enter Try.func25, Try.ntmps25
  go_wp2_with (go_at_call 26; refine (first_any _ _ _).mono ?_; rintro e w1 ⟨rfl, hB⟩; replace hb := hb.trans (hB.mono hb.size); clear hB)
  all_goals (go_ret; exact ⟨ret_int (by omega), hb⟩)

/-- span.earlier, of two method values -/
theorem earlier_any (o l p m : Int) (w : World) :
    Calls Try.prog 27 #[.func (.func 28) #[.agg #[.int .i64 o, .int .i64 l]] #[], .func (.func 28) #[.agg #[.int .i64 p, .int .i64 m]] #[]] w fun e w' => e = .returned (.int .i64 (min (endN o l) (endN p m))) ∧ Below w.heap.size w w' := by
  have hb := Below.refl w.heap.size w
  go_enter Try.func27, Try.ntmps27
  go_wp2_with (go_at_call 28; refine (rowEnd_any _ _ _).mono ?_; rintro e w1 ⟨rfl, hB⟩; replace hb := hb.trans (hB.mono hb.size); clear hB)
  all_goals (go_ret; exact ⟨ret_int (by omega), hb⟩)

/-- Behind a call's head: its two spans and a span of its own lie in three new blocks. -/
structure Two (w : World) (o l p m : Int) (W : World) : Prop where
  below : Below w.heap.size w W
  room : w.heap.size + 1 + 1 < W.heap.size
  one : Box W w.heap.size (.int .i64 o) (.int .i64 l)
  two : Box W (w.heap.size + 1) (.int .i64 p) (.int .i64 m)
  made : W.heap[w.heap.size + 1 + 1]? = some (.cells #[.int .i64 0, .int .i64 0] 23 (0, 0))
theorem Two.after {w W W' : World} {o l p m : Int} (h : Two w o l p m W) (hB : Below W.heap.size W W') : Two w o l p m W' :=
  have r := h.room
  have g := hB.size
  ⟨h.below.trans (hB.mono h.below.size), by omega, h.one.below hB (by omega), h.two.below hB (by omega), by rw [hB.block _ (by omega)]; exact h.made⟩
theorem Two.drewN {w W : World} {o l p m : Int} (h : Two w o l p m W) (n : Nat) : Two w o l p m (W.drewN n) := ⟨⟨h.below.os, h.below.tape, h.below.output, h.below.size, h.below.block⟩, h.room, h.one, h.two, h.made⟩
theorem two_new (w : World) (o l p m : Int) : Two w o l p m (((w.alloc (.cells #[.int .i64 o, .int .i64 l] 23)).alloc (.cells #[.int .i64 p, .int .i64 m] 23)).alloc (.cells #[.int .i64 0, .int .i64 0] 23)) := by
  have b1 := below_new w (.cells #[.int .i64 o, .int .i64 l] 23)
  have b2 := below_new (w.alloc (.cells #[.int .i64 o, .int .i64 l] 23)) (.cells #[.int .i64 p, .int .i64 m] 23)
  have b3 := below_new ((w.alloc (.cells #[.int .i64 o, .int .i64 l] 23)).alloc (.cells #[.int .i64 p, .int .i64 m] 23)) (.cells #[.int .i64 0, .int .i64 0] 23)
  have x1 := box_new w (.int .i64 o) (.int .i64 l) 23
  have x2 := box_new (w.alloc (.cells #[.int .i64 o, .int .i64 l] 23)) (.int .i64 p) (.int .i64 m) 23
  have s1 : (w.alloc (.cells #[.int .i64 o, .int .i64 l] 23)).heap.size = w.heap.size + 1 := by simp
  have s2 : ((w.alloc (.cells #[.int .i64 o, .int .i64 l] 23)).alloc (.cells #[.int .i64 p, .int .i64 m] 23)).heap.size = w.heap.size + 1 + 1 := by simp
  have m3 := heap_alloc_new ((w.alloc (.cells #[.int .i64 o, .int .i64 l] 23)).alloc (.cells #[.int .i64 p, .int .i64 m] 23)) (.cells #[.int .i64 0, .int .i64 0] 23)
  rw [s2] at m3
  rw [s1] at x2
  exact ⟨(b1.trans (b2.mono (by omega))).trans (b3.mono (by omega)), by simp, (x1.below b2 (by omega)).below b3 (by omega), x2.below b3 (by omega), m3⟩
theorem Two.cells {w W : World} {o l p m : Int} (h : Two w o l p m W) :
    W.cell? ⟨w.heap.size, 0, none⟩ = some (.int .i64 o) ∧ W.cell? ⟨w.heap.size, 1, none⟩ = some (.int .i64 l) ∧ W.cell? ⟨w.heap.size + 1, 0, none⟩ = some (.int .i64 p) ∧ W.cell? ⟨w.heap.size + 1, 1, none⟩ = some (.int .i64 m) ∧
    W.frozen? ⟨w.heap.size + 1 + 1, 0, none⟩ = false ∧ W.frozen? ⟨w.heap.size + 1 + 1, 1, none⟩ = false ∧ W.cell? ⟨w.heap.size + 1 + 1, 0, none⟩ = some (.int .i64 0) ∧ W.cell? ⟨w.heap.size + 1 + 1, 1, none⟩ = some (.int .i64 0) := by
  refine ⟨h.one.1, h.one.2, h.two.1, h.two.2, ?_, ?_, ?_, ?_⟩ <;> simp [World.frozen?, World.cell?, h.made]


theorem ret_span {a b a' b' : Int} {v : Value} (ha : a = a') (hb : b = b') : Ending.returned (.tuple #[.agg #[.int .i64 a, .int .i64 b], v]) = .returned (.tuple #[.agg #[.int .i64 a', .int .i64 b'], v]) := by rw [ha, hb]
theorem set0 {w : World} {b : Nat} {x y u : Value} {t : TypeId} (h : w.heap[b]? = some (.cells #[x, y] t (0, 0))) : (w.setCell ⟨b, 0, none⟩ u).heap[b]? = some (.cells #[u, y] t (0, 0)) := by
  have hlt := lt_of_block h
  have h' : w.heap[b] = .cells #[x, y] t (0, 0) := by simpa [Array.getElem?_eq_getElem hlt] using h
  show (w.heap.modify b _)[b]? = _
  rw [Array.getElem?_eq_getElem (by simpa using hlt), Array.getElem_modify_self, h']
  rfl
theorem set1 {w : World} {b : Nat} {x y u : Value} {t : TypeId} (h : w.heap[b]? = some (.cells #[x, y] t (0, 0))) : (w.setCell ⟨b, 1, none⟩ u).heap[b]? = some (.cells #[x, u] t (0, 0)) := by
  have hlt := lt_of_block h
  have h' : w.heap[b] = .cells #[x, y] t (0, 0) := by simpa [Array.getElem?_eq_getElem hlt] using h
  show (w.heap.modify b _)[b]? = _
  rw [Array.getElem?_eq_getElem (by simpa using hlt), Array.getElem_modify_self, h']
  rfl
theorem size23 : (Try.prog.info? 23).map (·.size) = some 2 := by kernel_rfl
/-- What a call hands back: the span that it laid, and a second result. -/
theorem results_pair {fn : Func} {p u : Tmp} (h : fn.results = #[.cell p 23, .tmp u]) (tmps : Array Value) (w : World) (g : Nat) (a b : Value)
    (hp : tmps.getD p undef = .pointer (some ⟨g, 0, none⟩)) (hg : w.heap[g]? = some (.cells #[a, b] 23 (0, 0))) :
    (results fn tmps).run Try.prog w = .ok (.tuple #[.agg #[a, b], tmps.getD u undef]) w := by
  have hl := run_loadVar_row (P := Try.prog) w g 23 23 #[a, b] (0, 0) _ hg Try.underlying23 (by rfl) size23
  rw [results_cell_tmp h, hp]
  simp [asAddr, hl, Result.andThen]


set_option maxHeartbeats 1000000 in
theorem meet_notA (o l p m : Int) (w : World) (hp : plain o l = false) :
    Calls Try.prog 17 #[.agg #[.int .i64 o, .int .i64 l], .agg #[.int .i64 p, .int .i64 m]] w fun e w' => e = .returned (.tuple #[.agg #[.int .i64 (mOff o l p m), .int .i64 (mLen o l p m)], .bool (over o l p m)]) ∧ Below w.heap.size w w' := by
  have ho : over o l p m = false := over_false (.inl hp)
  rw [mOff_false ho, mLen_false ho, ho]
  have hT := two_new w o l p m
  have pa := plain_any o l
  rw [hp] at pa
  go_enter Try.func17, Try.ntmps17
  go_wp2_with (first
    | (go_at_call 6; refine (pa _).mono ?_; rintro e w1 ⟨rfl, hB⟩; replace hT := hT.after hB; obtain ⟨c1, c2, c3, c4, c5, c6, c7, c8⟩ := hT.cells; clear pa hB))
  refine bodyPost_ret (results_pair rfl _ _ (w.heap.size + 1 + 1) _ _ rfl (set1 (set0 hT.made))) rfl ⟨rfl, ?_⟩
  exact (hT.below.setCell (by simp; omega) _).setCell (by simp; omega) _

set_option maxHeartbeats 1000000 in
theorem meet_notB (o l p m : Int) (w : World) (hp : plain o l = true) (hq : plain p m = false) :
    Calls Try.prog 17 #[.agg #[.int .i64 o, .int .i64 l], .agg #[.int .i64 p, .int .i64 m]] w fun e w' => e = .returned (.tuple #[.agg #[.int .i64 (mOff o l p m), .int .i64 (mLen o l p m)], .bool (over o l p m)]) ∧ Below w.heap.size w w' := by
  have ho : over o l p m = false := over_false (.inr (.inl hq))
  rw [mOff_false ho, mLen_false ho, ho]
  have hT := two_new w o l p m
  have pa := plain_any o l
  have pb := plain_any p m
  rw [hp] at pa
  rw [hq] at pb
  go_enter Try.func17, Try.ntmps17
  go_wp2_with (first
    | (go_at_call 6; refine (pa _).mono ?_; rintro e w1 ⟨rfl, hB⟩; replace hT := hT.after hB; obtain ⟨c1, c2, c3, c4, c5, c6, c7, c8⟩ := hT.cells; clear pa hB)
    | (go_at_call 6; refine (pb _).mono ?_; rintro e w1 ⟨rfl, hB⟩; replace hT := hT.after hB; obtain ⟨c1, c2, c3, c4, c5, c6, c7, c8⟩ := hT.cells; clear pb hB))
  refine bodyPost_ret (results_pair rfl _ _ (w.heap.size + 1 + 1) _ _ rfl (set1 (set0 hT.made))) rfl ⟨rfl, ?_⟩
  exact (hT.below.setCell (by simp; omega) _).setCell (by simp; omega) _

set_option maxHeartbeats 1000000 in
theorem meet_apart (o l p m : Int) (w : World) (hp : plain o l = true) (hq : plain p m = true) (hm : min (o + l) (p + m) ≤ max o p) :
    Calls Try.prog 17 #[.agg #[.int .i64 o, .int .i64 l], .agg #[.int .i64 p, .int .i64 m]] w fun e w' => e = .returned (.tuple #[.agg #[.int .i64 (mOff o l p m), .int .i64 (mLen o l p m)], .bool (over o l p m)]) ∧ Below w.heap.size w w' := by
  have ho : over o l p m = false := over_false (.inr (.inr hm))
  rw [mOff_false ho, mLen_false ho, ho]
  have hT := two_new w o l p m
  have pa := plain_any o l
  have pb := plain_any p m
  rw [hp] at pa
  rw [hq] at pb
  have ec := earlier_any o l p m
  rw [show endN o l = o + l from by unfold endN; rw [hp]; rfl, show endN p m = p + m from by unfold endN; rw [hq]; rfl] at ec
  have hpp := of_plain hp
  have hqq := of_plain hq
  clear hp hq ho
  go_enter Try.func17, Try.ntmps17
  go_wp2_with (first
    | (go_at_call 6; refine (pa _).mono ?_; rintro e w1 ⟨rfl, hB⟩; replace hT := hT.after hB; obtain ⟨c1, c2, c3, c4, c5, c6, c7, c8⟩ := hT.cells; clear pa hB)
    | (go_at_call 6; refine (pb _).mono ?_; rintro e w1 ⟨rfl, hB⟩; replace hT := hT.after hB; obtain ⟨c1, c2, c3, c4, c5, c6, c7, c8⟩ := hT.cells; clear pb hB)
    | (go_at_call 25; refine (later_any _ _ _ _ _).mono ?_; rintro e w1 ⟨rfl, hB⟩; replace hT := hT.after hB; obtain ⟨c1, c2, c3, c4, c5, c6, c7, c8⟩ := hT.cells; clear hB)
    | (go_at_call 27; refine (ec _).mono ?_; rintro e w1 ⟨rfl, hB⟩; replace hT := hT.after hB; obtain ⟨c1, c2, c3, c4, c5, c6, c7, c8⟩ := hT.cells; clear hB))
  refine bodyPost_ret (results_pair rfl _ _ (w.heap.size + 1 + 1) _ _ rfl (set1 (set0 hT.made))) rfl ⟨rfl, ?_⟩
  exact (hT.below.setCell (by simp; omega) _).setCell (by simp; omega) _
set_option maxHeartbeats 1000000 in
theorem meet_meet (o l p m : Int) (w : World) (hp : plain o l = true) (hq : plain p m = true) (hm : max o p < min (o + l) (p + m)) :
    Calls Try.prog 17 #[.agg #[.int .i64 o, .int .i64 l], .agg #[.int .i64 p, .int .i64 m]] w fun e w' => e = .returned (.tuple #[.agg #[.int .i64 (mOff o l p m), .int .i64 (mLen o l p m)], .bool (over o l p m)]) ∧ Below w.heap.size w w' := by
  have ho : over o l p m = true := over_true hp hq hm
  rw [mOff_true ho, mLen_true ho, ho]
  have hT := two_new w o l p m
  have pa := plain_any o l
  have pb := plain_any p m
  rw [hp] at pa
  rw [hq] at pb
  have ec := earlier_any o l p m
  rw [show endN o l = o + l from by unfold endN; rw [hp]; rfl, show endN p m = p + m from by unfold endN; rw [hq]; rfl] at ec
  have hpp := of_plain hp
  have hqq := of_plain hq
  clear hp hq ho
  go_enter Try.func17, Try.ntmps17
  go_wp2_with (first
    | (go_at_call 6; refine (pa _).mono ?_; rintro e w1 ⟨rfl, hB⟩; replace hT := hT.after hB; obtain ⟨c1, c2, c3, c4, c5, c6, c7, c8⟩ := hT.cells; clear pa hB)
    | (go_at_call 6; refine (pb _).mono ?_; rintro e w1 ⟨rfl, hB⟩; replace hT := hT.after hB; obtain ⟨c1, c2, c3, c4, c5, c6, c7, c8⟩ := hT.cells; clear pb hB)
    | (go_at_call 25; refine (later_any _ _ _ _ _).mono ?_; rintro e w1 ⟨rfl, hB⟩; replace hT := hT.after hB; obtain ⟨c1, c2, c3, c4, c5, c6, c7, c8⟩ := hT.cells; clear hB)
    | (go_at_call 27; refine (ec _).mono ?_; rintro e w1 ⟨rfl, hB⟩; replace hT := hT.after hB; obtain ⟨c1, c2, c3, c4, c5, c6, c7, c8⟩ := hT.cells; clear hB))
  refine bodyPost_ret (results_pair rfl _ _ (w.heap.size + 1 + 1) _ _ rfl (set1 (set0 hT.made))) rfl ⟨rfl, ?_⟩
  exact (hT.below.setCell (by simp; omega) _).setCell (by simp; omega) _
/-- span.Meet -/
theorem meet_any (o l p m : Int) (w : World) :
    Calls Try.prog 17 #[.agg #[.int .i64 o, .int .i64 l], .agg #[.int .i64 p, .int .i64 m]] w fun e w' => e = .returned (.tuple #[.agg #[.int .i64 (mOff o l p m), .int .i64 (mLen o l p m)], .bool (over o l p m)]) ∧ Below w.heap.size w w' := by
  cases hp : plain o l with
  | false => exact meet_notA o l p m w hp
  | true =>
    cases hq : plain p m with
    | false => exact meet_notB o l p m w hp hq
    | true =>
      by_cases hm : max o p < min (o + l) (p + m)
      · exact meet_meet o l p m w hp hq hm
      · exact meet_apart o l p m w hp hq (by omega)

set_option maxHeartbeats 1000000 in
theorem refMeet_notA (o l p m : Int) (w : World) (hp : plain o l = false) :
    Calls Try.prog 18 #[.agg #[.int .i64 o, .int .i64 l], .agg #[.int .i64 p, .int .i64 m]] w fun e w' => e = .returned (.tuple #[.agg #[.int .i64 (mOff o l p m), .int .i64 (mLen o l p m)], .bool (over o l p m)]) ∧ Below w.heap.size w w' := by
  have ho : over o l p m = false := over_false (.inl hp)
  rw [mOff_false ho, mLen_false ho, ho]
  have hT := two_new w o l p m
  have pa := refPlain_any o l
  rw [hp] at pa
  go_enter Try.func18, Try.ntmps18
  go_wp2_with (first
    | (go_at_call 7; refine (pa _).mono ?_; rintro e w1 ⟨rfl, hB⟩; replace hT := hT.after hB; obtain ⟨c1, c2, c3, c4, c5, c6, c7, c8⟩ := hT.cells; clear pa hB))
  refine bodyPost_ret (results_pair rfl _ _ (w.heap.size + 1 + 1) _ _ rfl (set1 (set0 hT.made))) rfl ⟨rfl, ?_⟩
  exact (hT.below.setCell (by simp; omega) _).setCell (by simp; omega) _

set_option maxHeartbeats 1000000 in
theorem refMeet_notB (o l p m : Int) (w : World) (hp : plain o l = true) (hq : plain p m = false) :
    Calls Try.prog 18 #[.agg #[.int .i64 o, .int .i64 l], .agg #[.int .i64 p, .int .i64 m]] w fun e w' => e = .returned (.tuple #[.agg #[.int .i64 (mOff o l p m), .int .i64 (mLen o l p m)], .bool (over o l p m)]) ∧ Below w.heap.size w w' := by
  have ho : over o l p m = false := over_false (.inr (.inl hq))
  rw [mOff_false ho, mLen_false ho, ho]
  have hT := two_new w o l p m
  have pa := refPlain_any o l
  have pb := refPlain_any p m
  rw [hp] at pa
  rw [hq] at pb
  go_enter Try.func18, Try.ntmps18
  go_wp2_with (first
    | (go_at_call 7; refine (pa _).mono ?_; rintro e w1 ⟨rfl, hB⟩; replace hT := hT.after hB; obtain ⟨c1, c2, c3, c4, c5, c6, c7, c8⟩ := hT.cells; clear pa hB)
    | (go_at_call 7; refine (pb _).mono ?_; rintro e w1 ⟨rfl, hB⟩; replace hT := hT.after hB; obtain ⟨c1, c2, c3, c4, c5, c6, c7, c8⟩ := hT.cells; clear pb hB))
  refine bodyPost_ret (results_pair rfl _ _ (w.heap.size + 1 + 1) _ _ rfl (set1 (set0 hT.made))) rfl ⟨rfl, ?_⟩
  exact (hT.below.setCell (by simp; omega) _).setCell (by simp; omega) _

set_option maxHeartbeats 1000000 in
theorem refMeet_apart (o l p m : Int) (w : World) (hp : plain o l = true) (hq : plain p m = true) (hm : min (o + l) (p + m) ≤ max o p) :
    Calls Try.prog 18 #[.agg #[.int .i64 o, .int .i64 l], .agg #[.int .i64 p, .int .i64 m]] w fun e w' => e = .returned (.tuple #[.agg #[.int .i64 (mOff o l p m), .int .i64 (mLen o l p m)], .bool (over o l p m)]) ∧ Below w.heap.size w w' := by
  have ho : over o l p m = false := over_false (.inr (.inr hm))
  rw [mOff_false ho, mLen_false ho, ho]
  have hT := two_new w o l p m
  have pa := refPlain_any o l
  have pb := refPlain_any p m
  rw [hp] at pa
  rw [hq] at pb
  have hpp := of_plain hp
  have hqq := of_plain hq
  clear hp hq ho
  go_enter Try.func18, Try.ntmps18
  go_wp2_with (first
    | (go_at_call 7; refine (pa _).mono ?_; rintro e w1 ⟨rfl, hB⟩; replace hT := hT.after hB; obtain ⟨c1, c2, c3, c4, c5, c6, c7, c8⟩ := hT.cells; clear pa hB)
    | (go_at_call 7; refine (pb _).mono ?_; rintro e w1 ⟨rfl, hB⟩; replace hT := hT.after hB; obtain ⟨c1, c2, c3, c4, c5, c6, c7, c8⟩ := hT.cells; clear pb hB))
  go_quiet (fail)
  replace hT := hT.drewN nq
  go_wp2
  all_goals
    refine bodyPost_ret (results_pair rfl _ _ (w.heap.size + 1 + 1) _ _ rfl (set1 (set0 hT.made))) rfl ⟨?_, ?_⟩
    · exact ret_span (by omega) (by omega)
    · exact (hT.below.setCell (by simp; omega) _).setCell (by simp; omega) _
set_option maxHeartbeats 1000000 in
theorem refMeet_meet (o l p m : Int) (w : World) (hp : plain o l = true) (hq : plain p m = true) (hm : max o p < min (o + l) (p + m)) :
    Calls Try.prog 18 #[.agg #[.int .i64 o, .int .i64 l], .agg #[.int .i64 p, .int .i64 m]] w fun e w' => e = .returned (.tuple #[.agg #[.int .i64 (mOff o l p m), .int .i64 (mLen o l p m)], .bool (over o l p m)]) ∧ Below w.heap.size w w' := by
  have ho : over o l p m = true := over_true hp hq hm
  rw [mOff_true ho, mLen_true ho, ho]
  have hT := two_new w o l p m
  have pa := refPlain_any o l
  have pb := refPlain_any p m
  rw [hp] at pa
  rw [hq] at pb
  have hpp := of_plain hp
  have hqq := of_plain hq
  clear hp hq ho
  go_enter Try.func18, Try.ntmps18
  go_wp2_with (first
    | (go_at_call 7; refine (pa _).mono ?_; rintro e w1 ⟨rfl, hB⟩; replace hT := hT.after hB; obtain ⟨c1, c2, c3, c4, c5, c6, c7, c8⟩ := hT.cells; clear pa hB)
    | (go_at_call 7; refine (pb _).mono ?_; rintro e w1 ⟨rfl, hB⟩; replace hT := hT.after hB; obtain ⟨c1, c2, c3, c4, c5, c6, c7, c8⟩ := hT.cells; clear pb hB))
  go_quiet (fail)
  replace hT := hT.drewN nq
  go_wp2
  all_goals
    refine bodyPost_ret (results_pair rfl _ _ (w.heap.size + 1 + 1) _ _ rfl (set1 (set0 hT.made))) rfl ⟨?_, ?_⟩
    · exact ret_span (by omega) (by omega)
    · exact (hT.below.setCell (by simp; omega) _).setCell (by simp; omega) _
/-- twainref04.Meet -/
theorem refMeet_any (o l p m : Int) (w : World) :
    Calls Try.prog 18 #[.agg #[.int .i64 o, .int .i64 l], .agg #[.int .i64 p, .int .i64 m]] w fun e w' => e = .returned (.tuple #[.agg #[.int .i64 (mOff o l p m), .int .i64 (mLen o l p m)], .bool (over o l p m)]) ∧ Below w.heap.size w w' := by
  cases hp : plain o l with
  | false => exact refMeet_notA o l p m w hp
  | true =>
    cases hq : plain p m with
    | false => exact refMeet_notB o l p m w hp hq
    | true =>
      by_cases hm : max o p < min (o + l) (p + m)
      · exact refMeet_meet o l p m w hp hq hm
      · exact refMeet_apart o l p m w hp hq (by omega)

end Go.Proofs.Ytakljofmnpagpaa
