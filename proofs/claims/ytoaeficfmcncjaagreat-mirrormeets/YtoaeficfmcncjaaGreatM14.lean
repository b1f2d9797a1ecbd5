/-
 Texts of ours, joined: SpanA, SpanB, SpanC, SpanD.
-/
import Derived.Test.YtoaeficfmcncjaaGreatProg
import Derived.WalkSpells
import Derived.WalkLawsBesides
import Derived.BigQuiet
import Derived.Deep.RegionWith
import Derived.Deep.CutRange
import Derived.Test.YtoaeficfmcncjaaGreatM2
/-
 The walks of Plain, End and Good, of Row, and of the document's Of and what it stands on: what each call answers, in the plain words of the Math text.
-/
namespace Go.Proofs.YtoaeficfmcncjaaGreat.Span
open Go.RowKit
open Math
theorem below_new (w : World) (o : Obj) : Below w.heap.size w (w.alloc o) := (Below.refl _ _).alloc (Nat.le_refl _) _
def Box (W : World) (n : Nat) (a b : Value) : Prop := W.cell? ⟨n, 0, none⟩ = some a ∧ W.cell? ⟨n, 1, none⟩ = some b
theorem box_new (w : World) (a b : Value) (t : TypeId) : Box (w.alloc (.cells #[a, b] t)) w.heap.size a b := by
 exact ⟨cell_two_new w a b t 0 a rfl, cell_two_new w a b t 1 b rfl⟩
theorem Box.below {W W' : World} {n m : Nat} {a b : Value} (h : Box W n a b) (hB : Below m W W') (hn : n < m) : Box W' n a b :=
 ⟨(hB.cell (p := ⟨n, 0, none⟩) hn).trans h.1, (hB.cell (p := ⟨n, 1, none⟩) hn).trans h.2⟩
section
set_option maxRecDepth 100000
theorem plain_any (o l : Int) (w : World) :
  Calls Tryz.prog 181 #[.agg #[.int .i64 o, .int .i64 l]] w fun e w' => e = .returned (.bool (plain o l)) ∧ Below w.heap.size w w' := by
 by_cases h1 : 0 ≤ o
 ·by_cases h2 : o ≤ 1073741824
  ·by_cases h3 : 0 ≤ l
   ·by_cases h4 : l ≤ 1073741824
    ·rw [plain_of ⟨h1, h2, h3, h4⟩]
     go_enter Tryz.func181, Tryz.ntmps181
     go_wp2
     go_ret
     exact ⟨rfl, below_new _ _⟩
    ·rw [plain_not (by omega)]
     go_enter Tryz.func181, Tryz.ntmps181
     go_wp2
     go_ret
     exact ⟨rfl, below_new _ _⟩
   ·rw [plain_not (by omega)]
    go_enter Tryz.func181, Tryz.ntmps181
    go_wp2
    go_ret
    exact ⟨rfl, below_new _ _⟩
  ·rw [plain_not (by omega)]
   go_enter Tryz.func181, Tryz.ntmps181
   go_wp2
   go_ret
   exact ⟨rfl, below_new _ _⟩
 ·rw [plain_not (by omega)]
  go_enter Tryz.func181, Tryz.ntmps181
  go_wp2
  go_ret
  exact ⟨rfl, below_new _ _⟩
theorem end_any (o l : Int) (w : World) :
  Calls Tryz.prog 182 #[.agg #[.int .i64 o, .int .i64 l]] w fun e w' => e = .returned (.int .i64 (endN o l)) ∧ Below w.heap.size w w' := by
 have hb := below_new w (.cells #[.int .i64 o, .int .i64 l] 44)
 have hx := box_new w (.int .i64 o) (.int .i64 l) 44
 cases hp : plain o l with
 | false =>
  have he : endN o l = 0 := by unfold endN; rw [hp]; rfl
  rw [he]
  go_enter Tryz.func182, Tryz.ntmps182
  go_wp2_with (go_at_call 181; refine (plain_any _ _ _).mono ?_; rw [hp]; rintro e w1 ⟨rfl, hB⟩)
  go_ret
  exact ⟨rfl, hb.trans (hB.mono hb.size)⟩
 | true =>
  have he : endN o l = o + l := by unfold endN; rw [hp]; rfl
  rw [he]
  have hq := of_plain hp
  go_enter Tryz.func182, Tryz.ntmps182
  go_wp2_with (go_at_call 181; refine (plain_any _ _ _).mono ?_; rw [hp]; rintro e w1 ⟨rfl, hB⟩; obtain ⟨hx0, hx1⟩ := hx.below hB (by simp))
  go_ret
  exact ⟨rfl, hb.trans (hB.mono hb.size)⟩
theorem good_any (o l n : Int) (w : World) :
  Calls Tryz.prog 124 #[.agg #[.int .i64 o, .int .i64 l], .int .i64 n] w fun e w' => e = .returned (.bool (good o l n)) ∧ Below w.heap.size w w' := by
 have hb := below_new w (.cells #[.int .i64 o, .int .i64 l] 44)
 have hx := box_new w (.int .i64 o) (.int .i64 l) 44
 cases hp : plain o l with
 | false =>
  have hg : good o l n = false := by unfold good; rw [hp]; rfl
  rw [hg]
  go_enter Tryz.func124, Tryz.ntmps124
  go_wp2_with (go_at_call 181; refine (plain_any _ _ _).mono ?_; rw [hp]; rintro e w1 ⟨rfl, hB⟩; obtain ⟨hx0, hx1⟩ := hx.below hB (by simp); replace hb := hb.trans (hB.mono hb.size))
  go_ret
  exact ⟨rfl, hb⟩
 | true =>
  have hq := of_plain hp
  have he : endN o l = o + l := by unfold endN; rw [hp]; rfl
  by_cases h1 : 1 ≤ l
  ·have hg : good o l n = decide (o + l ≤ n) := by unfold good; rw [hp]; simp [h1]
   rw [hg]
   go_enter Tryz.func124, Tryz.ntmps124
   go_wp2_with (first | (go_at_call 181; refine (plain_any _ _ _).mono ?_; rw [hp]; rintro e w1 ⟨rfl, hB⟩; obtain ⟨hx0, hx1⟩ := hx.below hB (by simp); replace hb := hb.trans (hB.mono hb.size)) | (go_at_call 182; refine (end_any _ _ _).mono ?_; rw [he]; rintro e w2 ⟨rfl, hB2⟩; replace hb := hb.trans (hB2.mono hb.size)))
   go_ret
   exact ⟨rfl, hb⟩
  ·have hg : good o l n = false := by unfold good; rw [hp]; simp [h1]
   rw [hg]
   go_enter Tryz.func124, Tryz.ntmps124
   go_wp2_with (go_at_call 181; refine (plain_any _ _ _).mono ?_; rw [hp]; rintro e w1 ⟨rfl, hB⟩; obtain ⟨hx0, hx1⟩ := hx.below hB (by simp); replace hb := hb.trans (hB.mono hb.size))
   go_ret
   exact ⟨rfl, hb⟩
end
theorem ret_int {k : IntKind} {a b : Int} (h : a = b) : Ending.returned (.int k a) = .returned (.int k b) := by rw [h]
theorem ret_bool {a b : Bool} (h : a = b) : Ending.returned (.bool a) = .returned (.bool b) := by rw [h]
set_option maxRecDepth 100000 in
theorem rowOut_any (f n : Int) (w : World) (hf : n < 1 ∨ f < 0 ∨ 63 < f) :
  Calls Tryz.prog 184 #[.int .i64 f, .int .i64 n] w fun e w' => e = .returned (.int .u64 0) ∧ w' = w := by
 by_cases ha : n < 1
 ·go_enter Tryz.func184, Tryz.ntmps184
  go_wp2
  go_ret
  exact ⟨rfl, rfl⟩
 ·by_cases hb : f < 0
  ·go_enter Tryz.func184, Tryz.ntmps184
   go_wp2
   go_ret
   exact ⟨rfl, rfl⟩
  ·have hc : 64 ≤ f := by omega
   go_enter Tryz.func184, Tryz.ntmps184
   go_wp2
   go_ret
   exact ⟨rfl, rfl⟩
theorem row_u64 (f n : Nat) (hn : n ≤ 64) (h : f + n ≤ 64) : IntKind.u64.wrap ((18446744073709551615 : Int) / 2 ^ (64 - n) * 2 ^ f) = ((row f n : Nat) : Int) := by
 have a := full_div n (by omega)
 have b : ((18446744073709551615 : Int) / 2 ^ (64 - n) * 2 ^ f) = ((18446744073709551615 / 2 ^ (64 - n) * 2 ^ f : Nat) : Int) := by
  simp
 have c := row_lt64 h
 rw [b, a, IntKind.wrap_u64]
 show (((row f n : Nat) : Int) % 18446744073709551616) = _
 omega
set_option maxRecDepth 100000 in
theorem rowIn_any (f : Nat) (n : Int) (w : World) (hf : f < 64) (h3 : 1 ≤ n) :
  Calls Tryz.prog 184 #[.int .i64 f, .int .i64 n] w fun e w' => e = .returned (.int .u64 (row f (min n.toNat (64 - f)))) ∧ w' = w := by
 by_cases ha : n ≤ 64 - f
 ·have e := row_u64 f n.toNat (by omega) (by omega)
  have e1 : min n.toNat (64 - f) = n.toNat := by omega
  have e2 : 64 - n.toNat = (64 - n).toNat := by omega
  rw [e2] at e
  rw [e1]
  clear e1 e2
  go_enter Tryz.func184, Tryz.ntmps184
  go_wp2
  go_ret
  exact ⟨rfl, rfl⟩
 ·have e := row_u64 f (64 - f) (by omega) (by omega)
  have e1 : min n.toNat (64 - f) = 64 - f := by omega
  rw [e1]
  clear e1
  go_enter Tryz.func184, Tryz.ntmps184
  go_wp2
  go_ret
  exact ⟨rfl, rfl⟩
end Go.Proofs.YtoaeficfmcncjaaGreat.Span
namespace Go.Proofs.YtoaeficfmcncjaaGreat.Span
open Go.RowKit
open Math
section
set_option maxRecDepth 100000
theorem first_any (o l : Int) (w : World) :
  Calls Tryz.prog 263 #[.agg #[.int .i64 o, .int .i64 l]] w fun e w' => e = .returned (.int .i64 o) ∧ Below w.heap.size w w' := by
 go_enter Tryz.func263, Tryz.ntmps263
 go_wp2
 go_ret
 exact ⟨rfl, below_new _ _⟩
theorem rowEnd_any (o l : Int) (w : World) :
  Calls Tryz.prog 265 #[.agg #[.int .i64 o, .int .i64 l]] w fun e w' => e = .returned (.int .i64 (endN o l)) ∧ Below w.heap.size w w' := by
 have hb := below_new w (.cells #[.int .i64 o, .int .i64 l] 337)
 go_enter Tryz.func265, Tryz.ntmps265
 go_wp2_with (go_at_call 182; refine (end_any _ _ _).mono ?_; rintro e w1 ⟨rfl, hB⟩)
 go_ret
 exact ⟨rfl, hb.trans (hB.mono hb.size)⟩
theorem later_any (o l p m : Int) (w : World) :
  Calls Tryz.prog 262 #[.func (.func 263) #[.agg #[.int .i64 o, .int .i64 l]] #[], .func (.func 263) #[.agg #[.int .i64 p, .int .i64 m]] #[]] w fun e w' => e = .returned (.int .i64 (max o p)) ∧ Below w.heap.size w w' := by
 have hb := Below.refl w.heap.size w
 go_enter Tryz.func262, Tryz.ntmps262
 go_wp2_with (go_at_call 263; refine (first_any _ _ _).mono ?_; rintro e w1 ⟨rfl, hB⟩; replace hb := hb.trans (hB.mono hb.size); clear hB)
 all_goals (go_ret; exact ⟨ret_int (by omega), hb⟩)
theorem earlier_any (o l p m : Int) (w : World) :
  Calls Tryz.prog 264 #[.func (.func 265) #[.agg #[.int .i64 o, .int .i64 l]] #[], .func (.func 265) #[.agg #[.int .i64 p, .int .i64 m]] #[]] w fun e w' => e = .returned (.int .i64 (min (endN o l) (endN p m))) ∧ Below w.heap.size w w' := by
 have hb := Below.refl w.heap.size w
 go_enter Tryz.func264, Tryz.ntmps264
 go_wp2_with (go_at_call 265; refine (rowEnd_any _ _ _).mono ?_; rintro e w1 ⟨rfl, hB⟩; replace hb := hb.trans (hB.mono hb.size); clear hB)
 all_goals (go_ret; exact ⟨ret_int (by omega), hb⟩)
end
structure Two (w : World) (o l p m : Int) (W : World) : Prop where
 below : Below w.heap.size w W
 room : w.heap.size + 1 + 1 < W.heap.size
 one : Box W w.heap.size (.int .i64 o) (.int .i64 l)
 two : Box W (w.heap.size + 1) (.int .i64 p) (.int .i64 m)
 made : W.heap[w.heap.size + 1 + 1]? = some (.cells #[.int .i64 0, .int .i64 0] 44 (0, 0))
theorem Two.after {w W W' : World} {o l p m : Int} (h : Two w o l p m W) (hB : Below W.heap.size W W') : Two w o l p m W' :=
 have r := h.room
 have g := hB.size
 ⟨h.below.trans (hB.mono h.below.size), by omega, h.one.below hB (by omega), h.two.below hB (by omega), by rw [hB.block _ (by omega)]; exact h.made⟩
theorem two_new (w : World) (o l p m : Int) : Two w o l p m (((w.alloc (.cells #[.int .i64 o, .int .i64 l] 44)).alloc (.cells #[.int .i64 p, .int .i64 m] 44)).alloc (.cells #[.int .i64 0, .int .i64 0] 44)) := by
 have b1 := below_new w (.cells #[.int .i64 o, .int .i64 l] 44)
 have b2 := below_new (w.alloc (.cells #[.int .i64 o, .int .i64 l] 44)) (.cells #[.int .i64 p, .int .i64 m] 44)
 have b3 := below_new ((w.alloc (.cells #[.int .i64 o, .int .i64 l] 44)).alloc (.cells #[.int .i64 p, .int .i64 m] 44)) (.cells #[.int .i64 0, .int .i64 0] 44)
 have x1 := box_new w (.int .i64 o) (.int .i64 l) 44
 have x2 := box_new (w.alloc (.cells #[.int .i64 o, .int .i64 l] 44)) (.int .i64 p) (.int .i64 m) 44
 have s1 : (w.alloc (.cells #[.int .i64 o, .int .i64 l] 44)).heap.size = w.heap.size + 1 := by simp
 have s2 : ((w.alloc (.cells #[.int .i64 o, .int .i64 l] 44)).alloc (.cells #[.int .i64 p, .int .i64 m] 44)).heap.size = w.heap.size + 1 + 1 := by simp
 have m3 := heap_alloc_new ((w.alloc (.cells #[.int .i64 o, .int .i64 l] 44)).alloc (.cells #[.int .i64 p, .int .i64 m] 44)) (.cells #[.int .i64 0, .int .i64 0] 44)
 rw [s2] at m3
 rw [s1] at x2
 exact ⟨(b1.trans (b2.mono (by omega))).trans (b3.mono (by omega)), by simp, (x1.below b2 (by omega)).below b3 (by omega), x2.below b3 (by omega), m3⟩
theorem Two.cells {w W : World} {o l p m : Int} (h : Two w o l p m W) :
  W.cell? ⟨w.heap.size, 0, none⟩ = some (.int .i64 o) ∧ W.cell? ⟨w.heap.size, 1, none⟩ = some (.int .i64 l) ∧ W.cell? ⟨w.heap.size + 1, 0, none⟩ = some (.int .i64 p) ∧ W.cell? ⟨w.heap.size + 1, 1, none⟩ = some (.int .i64 m) ∧
  W.frozen? ⟨w.heap.size + 1 + 1, 0, none⟩ = false ∧ W.frozen? ⟨w.heap.size + 1 + 1, 1, none⟩ = false ∧ W.cell? ⟨w.heap.size + 1 + 1, 0, none⟩ = some (.int .i64 0) ∧ W.cell? ⟨w.heap.size + 1 + 1, 1, none⟩ = some (.int .i64 0) := by
 refine ⟨h.one.1, h.one.2, h.two.1, h.two.2, ?_, ?_, ?_, ?_⟩ <;> simp [World.frozen?, World.cell?, h.made]
theorem set0 {w : World} {b : Nat} {x y u : Value} {t : TypeId} (h : w.heap[b]? = some (.cells #[x, y] t (0, 0))) : (w.setCell ⟨b, 0, none⟩ u).heap[b]? = some (.cells #[u, y] t (0, 0)) := by
 have hlt := lt_of_block h
 have h' : w.heap[b] = .cells #[x, y] t (0, 0) := by simpa [Array.getElem?_eq_getElem hlt] using h
 show (w.heap.modify b _)[b]? = _
 rw [Array.getElem?_eq_getElem (by simpa using hlt), Array.getElem_modify_self, h']
 rfl
theorem set1 {w : World} {b : Nat} {x y u : Value} {t : TypeId} (h : w.heap[b]? = some (.cells #[x, y] t (0, 0))) : (w.setCell ⟨b, 1, none⟩ u).heap[b]? = some (.cells #[x, u] t (0, 0)) := by
 have hlt := lt_of_block h
 have h' : w.heap[b] = .cells #[x, y] t (0, 0) := by simpa [Array.getElem?_eq_getElem hlt] using h
 show (w.heap.modify b _)[b]? = _
 rw [Array.getElem?_eq_getElem (by simpa using hlt), Array.getElem_modify_self, h']
 rfl
section
set_option maxRecDepth 100000
theorem size23 : (Tryz.prog.info? 44).map (·.size) = some 2 := by kernel_rfl
theorem results_pair {fn : Func} {p u : Tmp} (h : fn.results = #[.cell p 44, .tmp u]) (tmps : Array Value) (w : World) (g : Nat) (a b : Value)
  (hp : tmps.getD p undef = .pointer (some ⟨g, 0, none⟩)) (hg : w.heap[g]? = some (.cells #[a, b] 44 (0, 0))) :
  (results fn tmps).run Tryz.prog w = .ok (.tuple #[.agg #[a, b], tmps.getD u undef]) w := by
 have hl := run_loadVar_row (P := Tryz.prog) w g 44 44 #[a, b] (0, 0) _ hg Tryz.underlying44 (by rfl) size23
 rw [results_cell_tmp h, hp]
 simp [asAddr, hl, Result.andThen]
set_option maxHeartbeats 1000000 in
theorem meet_notA (o l p m : Int) (w : World) (hp : plain o l = false) :
  Calls Tryz.prog 224 #[.agg #[.int .i64 o, .int .i64 l], .agg #[.int .i64 p, .int .i64 m]] w fun e w' => e = .returned (.tuple #[.agg #[.int .i64 (mOff o l p m), .int .i64 (mLen o l p m)], .bool (over o l p m)]) ∧ Below w.heap.size w w' := by
 have ho : over o l p m = false := over_false (.inl hp)
 rw [mOff_false ho, mLen_false ho, ho]
 have hT := two_new w o l p m
 have pa := plain_any o l
 rw [hp] at pa
 go_enter Tryz.func224, Tryz.ntmps224
 go_wp2_with (first
  | (go_at_call 181; refine (pa _).mono ?_; rintro e w1 ⟨rfl, hB⟩; replace hT := hT.after hB; obtain ⟨c1, c2, c3, c4, c5, c6, c7, c8⟩ := hT.cells; clear pa hB))
 refine bodyPost_ret (results_pair rfl _ _ (w.heap.size + 1 + 1) _ _ rfl (set1 (set0 hT.made))) rfl ⟨rfl, ?_⟩
 exact (hT.below.setCell (by simp; omega) _).setCell (by simp; omega) _
set_option maxHeartbeats 1000000 in
theorem meet_notB (o l p m : Int) (w : World) (hp : plain o l = true) (hq : plain p m = false) :
  Calls Tryz.prog 224 #[.agg #[.int .i64 o, .int .i64 l], .agg #[.int .i64 p, .int .i64 m]] w fun e w' => e = .returned (.tuple #[.agg #[.int .i64 (mOff o l p m), .int .i64 (mLen o l p m)], .bool (over o l p m)]) ∧ Below w.heap.size w w' := by
 have ho : over o l p m = false := over_false (.inr (.inl hq))
 rw [mOff_false ho, mLen_false ho, ho]
 have hT := two_new w o l p m
 have pa := plain_any o l
 have pb := plain_any p m
 rw [hp] at pa
 rw [hq] at pb
 go_enter Tryz.func224, Tryz.ntmps224
 go_wp2_with (first
  | (go_at_call 181; refine (pa _).mono ?_; rintro e w1 ⟨rfl, hB⟩; replace hT := hT.after hB; obtain ⟨c1, c2, c3, c4, c5, c6, c7, c8⟩ := hT.cells; clear pa hB)
  | (go_at_call 181; refine (pb _).mono ?_; rintro e w1 ⟨rfl, hB⟩; replace hT := hT.after hB; obtain ⟨c1, c2, c3, c4, c5, c6, c7, c8⟩ := hT.cells; clear pb hB))
 refine bodyPost_ret (results_pair rfl _ _ (w.heap.size + 1 + 1) _ _ rfl (set1 (set0 hT.made))) rfl ⟨rfl, ?_⟩
 exact (hT.below.setCell (by simp; omega) _).setCell (by simp; omega) _
set_option maxHeartbeats 1000000 in
theorem meet_apart (o l p m : Int) (w : World) (hp : plain o l = true) (hq : plain p m = true) (hm : min (o + l) (p + m) ≤ max o p) :
  Calls Tryz.prog 224 #[.agg #[.int .i64 o, .int .i64 l], .agg #[.int .i64 p, .int .i64 m]] w fun e w' => e = .returned (.tuple #[.agg #[.int .i64 (mOff o l p m), .int .i64 (mLen o l p m)], .bool (over o l p m)]) ∧ Below w.heap.size w w' := by
 have ho : over o l p m = false := over_false (.inr (.inr hm))
 rw [mOff_false ho, mLen_false ho, ho]
 have hT := two_new w o l p m
 have pa := plain_any o l
 have pb := plain_any p m
 rw [hp] at pa
 rw [hq] at pb
 have ec := earlier_any o l p m
 rw [show endN o l = o + l from by unfold endN; rw [hp]; rfl, show endN p m = p + m from by unfold endN; rw [hq]; rfl] at ec
 have hpp := of_plain hp
 have hqq := of_plain hq
 clear hp hq ho
 go_enter Tryz.func224, Tryz.ntmps224
 go_wp2_with (first
  | (go_at_call 181; refine (pa _).mono ?_; rintro e w1 ⟨rfl, hB⟩; replace hT := hT.after hB; obtain ⟨c1, c2, c3, c4, c5, c6, c7, c8⟩ := hT.cells; clear pa hB)
  | (go_at_call 181; refine (pb _).mono ?_; rintro e w1 ⟨rfl, hB⟩; replace hT := hT.after hB; obtain ⟨c1, c2, c3, c4, c5, c6, c7, c8⟩ := hT.cells; clear pb hB)
  | (go_at_call 262; refine (later_any _ _ _ _ _).mono ?_; rintro e w1 ⟨rfl, hB⟩; replace hT := hT.after hB; obtain ⟨c1, c2, c3, c4, c5, c6, c7, c8⟩ := hT.cells; clear hB)
  | (go_at_call 264; refine (ec _).mono ?_; rintro e w1 ⟨rfl, hB⟩; replace hT := hT.after hB; obtain ⟨c1, c2, c3, c4, c5, c6, c7, c8⟩ := hT.cells; clear hB))
 refine bodyPost_ret (results_pair rfl _ _ (w.heap.size + 1 + 1) _ _ rfl (set1 (set0 hT.made))) rfl ⟨rfl, ?_⟩
 exact (hT.below.setCell (by simp; omega) _).setCell (by simp; omega) _
set_option maxHeartbeats 1000000 in
theorem meet_meet (o l p m : Int) (w : World) (hp : plain o l = true) (hq : plain p m = true) (hm : max o p < min (o + l) (p + m)) :
  Calls Tryz.prog 224 #[.agg #[.int .i64 o, .int .i64 l], .agg #[.int .i64 p, .int .i64 m]] w fun e w' => e = .returned (.tuple #[.agg #[.int .i64 (mOff o l p m), .int .i64 (mLen o l p m)], .bool (over o l p m)]) ∧ Below w.heap.size w w' := by
 have ho : over o l p m = true := over_true hp hq hm
 rw [mOff_true ho, mLen_true ho, ho]
 have hT := two_new w o l p m
 have pa := plain_any o l
 have pb := plain_any p m
 rw [hp] at pa
 rw [hq] at pb
 have ec := earlier_any o l p m
 rw [show endN o l = o + l from by unfold endN; rw [hp]; rfl, show endN p m = p + m from by unfold endN; rw [hq]; rfl] at ec
 have hpp := of_plain hp
 have hqq := of_plain hq
 clear hp hq ho
 go_enter Tryz.func224, Tryz.ntmps224
 go_wp2_with (first
  | (go_at_call 181; refine (pa _).mono ?_; rintro e w1 ⟨rfl, hB⟩; replace hT := hT.after hB; obtain ⟨c1, c2, c3, c4, c5, c6, c7, c8⟩ := hT.cells; clear pa hB)
  | (go_at_call 181; refine (pb _).mono ?_; rintro e w1 ⟨rfl, hB⟩; replace hT := hT.after hB; obtain ⟨c1, c2, c3, c4, c5, c6, c7, c8⟩ := hT.cells; clear pb hB)
  | (go_at_call 262; refine (later_any _ _ _ _ _).mono ?_; rintro e w1 ⟨rfl, hB⟩; replace hT := hT.after hB; obtain ⟨c1, c2, c3, c4, c5, c6, c7, c8⟩ := hT.cells; clear hB)
  | (go_at_call 264; refine (ec _).mono ?_; rintro e w1 ⟨rfl, hB⟩; replace hT := hT.after hB; obtain ⟨c1, c2, c3, c4, c5, c6, c7, c8⟩ := hT.cells; clear hB))
 refine bodyPost_ret (results_pair rfl _ _ (w.heap.size + 1 + 1) _ _ rfl (set1 (set0 hT.made))) rfl ⟨rfl, ?_⟩
 exact (hT.below.setCell (by simp; omega) _).setCell (by simp; omega) _
theorem meet_any (o l p m : Int) (w : World) :
  Calls Tryz.prog 224 #[.agg #[.int .i64 o, .int .i64 l], .agg #[.int .i64 p, .int .i64 m]] w fun e w' => e = .returned (.tuple #[.agg #[.int .i64 (mOff o l p m), .int .i64 (mLen o l p m)], .bool (over o l p m)]) ∧ Below w.heap.size w w' := by
 cases hp : plain o l with
 | false => exact meet_notA o l p m w hp
 | true =>
  cases hq : plain p m with
  | false => exact meet_notB o l p m w hp hq
  | true =>
   by_cases hm : max o p < min (o + l) (p + m)
   ·exact meet_meet o l p m w hp hq hm
   ·exact meet_apart o l p m w hp hq (by omega)
end
end Go.Proofs.YtoaeficfmcncjaaGreat.Span
namespace Go.Proofs.YtoaeficfmcncjaaGreat.Span
open Go.RowKit
open Math
structure Pair (w : World) (o l p m : Int) (W : World) : Prop where
 below : Below w.heap.size w W
 room : w.heap.size + 1 < W.heap.size
 one : Box W w.heap.size (.int .i64 o) (.int .i64 l)
 two : Box W (w.heap.size + 1) (.int .i64 p) (.int .i64 m)
theorem Pair.after {w W W' : World} {o l p m : Int} (h : Pair w o l p m W) (hB : Below W.heap.size W W') : Pair w o l p m W' :=
 have r := h.room
 have g := hB.size
 ⟨h.below.trans (hB.mono h.below.size), by omega, h.one.below hB (by omega), h.two.below hB (by omega)⟩
theorem pair_new (w : World) (o l p m : Int) : Pair w o l p m ((w.alloc (.cells #[.int .i64 o, .int .i64 l] 44)).alloc (.cells #[.int .i64 p, .int .i64 m] 44)) := by
 have b1 := below_new w (.cells #[.int .i64 o, .int .i64 l] 44)
 have b2 := below_new (w.alloc (.cells #[.int .i64 o, .int .i64 l] 44)) (.cells #[.int .i64 p, .int .i64 m] 44)
 have x1 := box_new w (.int .i64 o) (.int .i64 l) 44
 have x2 := box_new (w.alloc (.cells #[.int .i64 o, .int .i64 l] 44)) (.int .i64 p) (.int .i64 m) 44
 have s1 : (w.alloc (.cells #[.int .i64 o, .int .i64 l] 44)).heap.size = w.heap.size + 1 := by simp
 rw [s1] at x2
 exact ⟨b1.trans (b2.mono (by omega)), by simp, x1.below b2 (by omega), x2⟩
theorem Pair.cells {w W : World} {o l p m : Int} (h : Pair w o l p m W) :
  W.cell? ⟨w.heap.size, 0, none⟩ = some (.int .i64 o) ∧ W.cell? ⟨w.heap.size, 1, none⟩ = some (.int .i64 l) ∧ W.cell? ⟨w.heap.size + 1, 0, none⟩ = some (.int .i64 p) ∧ W.cell? ⟨w.heap.size + 1, 1, none⟩ = some (.int .i64 m) :=
 ⟨h.one.1, h.one.2, h.two.1, h.two.2⟩
section
set_option maxRecDepth 100000
theorem overlap_any (o l p m : Int) (w : World) :
  Calls Tryz.prog 178 #[.agg #[.int .i64 o, .int .i64 l], .agg #[.int .i64 p, .int .i64 m]] w fun e w' => e = .returned (.bool (over o l p m)) ∧ Below w.heap.size w w' := by
 have hP := pair_new w o l p m
 go_enter Tryz.func178, Tryz.ntmps178
 go_wp2_with (go_at_call 224; refine (meet_any _ _ _ _ _).mono ?_; rintro e w1 ⟨rfl, hB⟩; replace hP := hP.after hB; clear hB)
 go_ret
 exact ⟨rfl, hP.below.alloc (by have := hP.room; omega) _⟩
theorem holds_any (o l p m : Int) (w : World) :
  Calls Tryz.prog 250 #[.agg #[.int .i64 o, .int .i64 l], .agg #[.int .i64 p, .int .i64 m]] w fun e w' => e = .returned (.bool (holds o l p m)) ∧ Below w.heap.size w w' := by
 have hP := pair_new w o l p m
 have mc := meet_any o l p m
 cases ho : over o l p m with
 | false =>
  rw [ho] at mc
  have hh : holds o l p m = false := by unfold holds; rw [ho]; rfl
  rw [hh]
  go_enter Tryz.func250, Tryz.ntmps250
  go_wp2_with (go_at_call 224; refine (mc _).mono ?_; rintro e w1 ⟨rfl, hB⟩; replace hP := hP.after hB; obtain ⟨c1, c2, c3, c4⟩ := hP.cells; clear hB)
  go_ret
  exact ⟨rfl, hP.below.alloc (by have := hP.room; omega) _⟩
 | true =>
  rw [ho] at mc
  have hh : holds o l p m = (mOff o l p m == p && mLen o l p m == m) := by unfold holds; rw [ho]; rfl
  rw [hh]
  go_enter Tryz.func250, Tryz.ntmps250
  go_wp2_with (go_at_call 224; refine (mc _).mono ?_; rintro e w1 ⟨rfl, hB⟩; replace hP := hP.after hB; have hr := hP.room; have d3 := fun x => (hP.after (below_new w1 x)).cells.2.2.1; have d4 := fun x => (hP.after (below_new w1 x)).cells.2.2.2; clear hB)
  all_goals (go_ret; refine ⟨ret_bool ?_, hP.below.alloc (by omega) _⟩; clear mc d3 d4; simp [*])
theorem row_ext {o l : Int} (h : plain o l = true) (hl : 1 ≤ l) (w : World) :
  Calls Tryz.prog 184 #[.int .i64 (o / 4), .int .i64 ((o + l - 1) / 4 - o / 4 + 1)] w fun e w' => e = .returned (.int .u64 (ext o l)) ∧ w' = w := by
 have hp := of_plain h
 by_cases ho : o < 256
 ·have q := rowIn_any (o / 4).toNat ((o + l - 1) / 4 - o / 4 + 1) w (by omega) (by omega)
  rw [show (((o / 4).toNat : Nat) : Int) = o / 4 from by omega, ← ext_row h hl ho] at q
  exact q
 ·have q := rowOut_any (o / 4) ((o + l - 1) / 4 - o / 4 + 1) w (by omega)
  rw [ext_zero (.inr (.inr (by omega)))]
  exact q
theorem extents_any (o l : Int) (w : World) :
  Calls Tryz.prog 128 #[.agg #[.int .i64 o, .int .i64 l]] w fun e w' => e = .returned (.int .u64 (ext o l)) ∧ Below w.heap.size w w' := by
 have hb := below_new w (.cells #[.int .i64 o, .int .i64 l] 44)
 have hx := box_new w (.int .i64 o) (.int .i64 l) 44
 have pc := plain_any o l
 cases hp : plain o l with
 | false =>
  rw [hp] at pc
  rw [ext_zero (.inl hp)]
  go_enter Tryz.func128, Tryz.ntmps128
  go_wp2_with (go_at_call 181; refine (pc _).mono ?_; rintro e w1 ⟨rfl, hB⟩; replace hb := hb.trans (hB.mono hb.size))
  go_ret
  exact ⟨rfl, hb⟩
 | true =>
  rw [hp] at pc
  have hq := of_plain hp
  by_cases hl : l = 0
  ·subst hl
   have hz : ext o 0 = 0 := ext_zero (.inr (.inl (by omega)))
   rw [hz]
   go_enter Tryz.func128, Tryz.ntmps128
   go_wp2_with (go_at_call 181; refine (pc _).mono ?_; rintro e w1 ⟨rfl, hB⟩; obtain ⟨c1, c2⟩ := hx.below hB (by simp); replace hb := hb.trans (hB.mono hb.size))
   go_ret
   exact ⟨rfl, hb⟩
  ·have rc := fun w' => row_ext hp (by omega) w'
   have ec := end_any o l
   rw [show endN o l = o + l from by unfold endN; rw [hp]; rfl] at ec
   clear hp
   go_enter Tryz.func128, Tryz.ntmps128
   go_wp2_with (first
    | (go_at_call 181; refine (pc _).mono ?_; rintro e w1 ⟨rfl, hB⟩; replace hx := hx.below hB (by simp); obtain ⟨c1, c2⟩ := hx; replace hb := hb.trans (hB.mono hb.size); clear hB)
    | (go_at_call 182; refine (ec _).mono ?_; rintro e w1 ⟨rfl, hB⟩; replace hb := hb.trans (hB.mono hb.size); clear hB)
    | (go_at_call 184; refine (rc _).mono ?_; rintro e w1 ⟨rfl, rfl⟩))
   go_ret
   exact ⟨rfl, hb⟩
end
end Go.Proofs.YtoaeficfmcncjaaGreat.Span
namespace Go.Proofs.YtoaeficfmcncjaaGreat.Span
open Go.RowKit
open Math
def enc (i : Nat) : Value := .int .i64 (i : Int)
end Go.Proofs.YtoaeficfmcncjaaGreat.Span
