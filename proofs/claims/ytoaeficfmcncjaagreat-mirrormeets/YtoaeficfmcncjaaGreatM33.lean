/-
 Texts of ours, joined: HotA, HotB, HotC.
-/
import Derived.Deep.RegionHeld3
import Derived.Deep.RegionLawGrows
import Derived.Deep.WholeRow
import Derived.Laws.AppendOwnNone
import Derived.Lib.AppendZeros
import Derived.Deep.AppendLies
import Derived.Test.YtoaeficfmcncjaaGreatM21
import Derived.Test.YtoaeficfmcncjaaGreatM5
/-
 An order in memory: a slice of numbers, and the set that holds it; what stays where it was; the walks of New, made, Mask, Order and Load, the program's and the document's.
-/
namespace Go.Proofs.YtoaeficfmcncjaaGreat.Hot
open Go.RowKit
open Bits Bits.Math
structure Kept (L : List Nat) (w w' : World) : Prop where
 os : w'.os = w.os
 tape : w'.tape = w.tape
 output : w'.output = w.output
 size : w.heap.size ≤ w'.heap.size
 block : ∀ k, k < w.heap.size → k ∉ L → w'.heap[k]? = w.heap[k]?
theorem Kept.trans {L : List Nat} {a b c : World} (h : Kept L a b) (k : Kept L b c) : Kept L a c :=
 ⟨k.os.trans h.os, k.tape.trans h.tape, k.output.trans h.output, Nat.le_trans h.size k.size, fun i hi hL => (k.block i (Nat.lt_of_lt_of_le hi h.size) hL).trans (h.block i hi hL)⟩
theorem Kept.of_below {w w' : World} (h : Below w.heap.size w w') (L : List Nat) : Kept L w w' := ⟨h.os, h.tape, h.output, h.size, fun k hk _ => h.block k hk⟩
theorem Kept.below {L : List Nat} {w w' : World} (h : Kept L w w') {n : Nat} (hn : n ≤ w.heap.size) (hL : ∀ k ∈ L, n ≤ k) : Below n w w' :=
 ⟨h.os, h.tape, h.output, h.size, fun k hk => h.block k (by omega) (fun hm => by have := hL k hm; omega)⟩
theorem Kept.of_grown_none {w w' : World} (h : w.grownBy w' none) (L : List Nat) : Kept L w w' := ⟨h.os, h.tape, h.output, h.size, fun k hk _ => h.block k hk (fun e => by cases e)⟩
theorem kept_alloc (L : List Nat) (w : World) (o : Obj) : Kept L w (w.alloc o) := Kept.of_below ((Below.refl _ _).alloc (Nat.le_refl _) _) L
theorem kept_drew (L : List Nat) (w : World) : Kept L w w.drew := ⟨rfl, rfl, rfl, Nat.le_refl _, fun _ _ _ => rfl⟩
theorem kept_set {L : List Nat} {g : Nat} (hL : g ∈ L) (w : World) (j : Nat) (u : Value) : Kept L w (w.setCell ⟨g, j, none⟩ u) :=
 ⟨rfl, rfl, rfl, by simp [World.setCell], fun k _ hk => Below.heap_setCell _ _ _ _ (fun e => hk (e ▸ hL))⟩
def Blk (W : World) (g : Nat) (t : TypeId) (cs : Array Value) : Prop := W.heap[g]? = some (.cells cs t (0, 0))
theorem Blk.lt {W : World} {g : Nat} {t : TypeId} {cs : Array Value} (h : Blk W g t cs) : g < W.heap.size := (Array.getElem?_eq_some_iff.1 h).1
theorem Blk.cell {W : World} {g : Nat} {t : TypeId} {cs : Array Value} (h : Blk W g t cs) (j : Nat) : W.cell? ⟨g, j, none⟩ = cs[j]? := cell_of_row W g j _ t (0, 0) h
theorem Blk.frozen {W : World} {g : Nat} {t : TypeId} {cs : Array Value} (h : Blk W g t cs) (j : Nat) : W.frozen? ⟨g, j, none⟩ = false := by
 unfold Blk at h
 simp [World.frozen?, h]
theorem Blk.kept {L : List Nat} {A B : World} {g : Nat} {t : TypeId} {cs : Array Value} (h : Blk A g t cs) (hK : Kept L A B) (hg : g ∉ L) : Blk B g t cs := (hK.block g h.lt hg).trans h
theorem Blk.set {W : World} {g : Nat} {t : TypeId} {cs : Array Value} (h : Blk W g t cs) (j : Nat) (u : Value) : Blk (W.setCell ⟨g, j, none⟩ u) g t (cs.setIfInBounds j u) := by
 unfold Blk at *
 rw [setCell_eq_setRow W g j _ t (0, 0) _ h, setRow_heap W g _ _ t _ h]
theorem blk_new (w : World) (t : TypeId) (cs : Array Value) : Blk (w.alloc (.cells cs t)) w.heap.size t cs := heap_alloc_last w _
def Nums (n₀ : Nat) (W : World) (v : Value) (l : List Nat) : Prop :=
 ∃ a cap, v = .slice a l.length cap ∧ l.length ≤ cap ∧ ((a = none ∧ cap = 0) ∨ ∃ b off, a = some ⟨b, off, none⟩ ∧ n₀ ≤ b ∧ (∃ cur, Blk W b 3 cur) ∧
  ∀ j, j < l.length → W.cell? ⟨b, off + j, none⟩ = some (.int .i64 ((l[j]?.getD 0 : Nat) : Int)))
theorem Nums.nil (n₀ : Nat) (W : World) : Nums n₀ W (.slice none 0 0) [] := ⟨none, 0, rfl, Nat.le_refl _, .inl ⟨rfl, rfl⟩⟩
theorem Nums.kept {L : List Nat} {A B : World} {n₀ : Nat} {v : Value} {l : List Nat} (h : Nums n₀ A v l) (hK : Kept L A B) (hL : ∀ k ∈ L, k < n₀) : Nums n₀ B v l := by
 obtain ⟨a, cap, e, hc, h | ⟨b, off, e2, h0, h1, h2⟩⟩ := h
 ·exact ⟨a, cap, e, hc, .inl h⟩
 ·obtain ⟨cur, hBk⟩ := h1
  have h1 := hBk.lt
  refine ⟨a, cap, e, hc, .inr ⟨b, off, e2, h0, ⟨cur, hBk.kept hK (fun hm => by have := hL b hm; omega)⟩, fun j hj => ?_⟩⟩
  have hb := hK.block b h1 (fun hm => by have := hL b hm; omega)
  exact (World.cell?_of_block (a := ⟨b, off + j, none⟩) hb).trans (h2 j hj)
theorem Nums.mono {n m : Nat} {W : World} {v : Value} {l : List Nat} (h : Nums n W v l) (hm : m ≤ n) : Nums m W v l := by
 obtain ⟨a, cap, e, hc, h | ⟨b, off, e2, h0, h1, h2⟩⟩ := h
 ·exact ⟨a, cap, e, hc, .inl h⟩
 ·exact ⟨a, cap, e, hc, .inr ⟨b, off, e2, Nat.le_trans hm h0, h1, h2⟩⟩
theorem nat_get (l : List Nat) (j : Nat) : (l.map Int.ofNat)[j]?.getD 0 = ((l[j]?.getD 0 : Nat) : Int) := by
 rw [List.getElem?_map]
 cases l[j]? <;> rfl
theorem Nums.ints {n₀ : Nat} {W : World} {v : Value} {l : List Nat} (h : Nums n₀ W v l) : IntsAt W.heap.size W v (l.map Int.ofNat) := by
 obtain ⟨a, cap, e, hc, ⟨_, h⟩ | ⟨b, off, e2, h0, h1, h2⟩⟩ := h
 ·refine ⟨a, cap, by simpa using e, .inl ?_⟩
  have : l = [] := List.eq_nil_of_length_eq_zero (by omega)
  rw [this]
  rfl
 ·refine ⟨a, cap, by simpa using e, .inr ⟨b, off, e2, h1.choose_spec.lt, fun j hj => ?_⟩⟩
  rw [h2 j (by simpa using hj), nat_get]
theorem enc_int (l : List Nat) (j : Nat) (h : j < l.length) : (l.map enc)[j]? = some (.int .i64 ((l[j]?.getD 0 : Nat) : Int)) := by simp [h, enc]
theorem enc_one (l : List Nat) : ∀ v ∈ l.map enc, v.oneCell' = true := by
 intro u hu
 simp at hu
 obtain ⟨x, _, rfl⟩ := hu
 rfl
theorem nums_of_owns {W : World} {base n₀ : Nat} {v : Value} {l : List Nat} (h : W.ownsRow base 3 1 v l.length (l.map enc)) (hn : n₀ ≤ base) : Nums n₀ W v l := by
 obtain ⟨_, ⟨rfl, h0⟩ | ⟨g, cap, cur, rfl, hb, hg, h1, h2, h3, h4⟩⟩ := h
 ·have : l = [] := List.eq_nil_of_length_eq_zero h0
  subst this
  exact Nums.nil _ _
 ·refine ⟨_, cap, rfl, h1, .inr ⟨g, 0, rfl, by omega, ⟨_, hg⟩, fun j hj => ?_⟩⟩
  rw [cell_of_row W g (0 + j) _ 3 (0, 0) hg]
  have e := congrArg (fun t => t[j]?) h4
  simp only [Nat.mul_one] at e
  rw [List.getElem?_take_of_lt hj, enc_int l j hj] at e
  simpa using e
structure SetAt (W : World) (p n₀ most : Nat) (v : Value) (l : List Nat) : Prop where
 cells : Blk W p 208 #[.int .i64 (most : Int), v]
 low : p < n₀
 high : n₀ ≤ W.heap.size
 nums : Nums n₀ W v l
 good : Good l
 one : 1 ≤ most
 top : most ≤ 16
theorem SetAt.kept {L : List Nat} {A B : World} {p n₀ most : Nat} {v : Value} {l : List Nat} (h : SetAt A p n₀ most v l) (hK : Kept L A B) (hp : p ∉ L) (hL : ∀ k ∈ L, k < n₀) : SetAt B p n₀ most v l :=
 ⟨h.cells.kept hK hp, h.low, Nat.le_trans h.high hK.size, h.nums.kept hK hL, h.good, h.one, h.top⟩
theorem SetAt.below {A B : World} {p n₀ most : Nat} {v : Value} {l : List Nat} (h : SetAt A p n₀ most v l) (hB : Below A.heap.size A B) : SetAt B p n₀ most v l := h.kept (Kept.of_below hB []) (by simp) (by simp)
theorem SetAt.cell {W : World} {p n₀ most : Nat} {v : Value} {l : List Nat} (h : SetAt W p n₀ most v l) : W.cell? ⟨p, 0, none⟩ = some (.int .i64 (most : Int)) ∧ W.cell? ⟨p, 1, none⟩ = some v := ⟨h.cells.cell 0, h.cells.cell 1⟩
theorem SetAt.put {W : World} {p n₀ most : Nat} {v v' : Value} {l l' : List Nat} (h : SetAt W p n₀ most v l) (hn : Nums n₀ W v' l') (hg : Good l') : SetAt (W.setCell ⟨p, 1, none⟩ v') p n₀ most v' l' :=
 ⟨h.cells.set 1 v', h.low, by simp [World.setCell]; exact h.high, hn.kept (kept_set (L := [p]) (by simp) W 1 v') (by simpa using h.low), hg, h.one, h.top⟩
section
set_option maxRecDepth 100000
theorem new_ok (most : Nat) (w : World) (h1 : 1 ≤ most) (h2 : most ≤ 16) :
  Calls Tryz.prog 92 #[.int .i64 (most : Int)] w fun e w' => e = .returned (.tuple #[.pointer (some ⟨w.heap.size, 0, none⟩), .int .i64 0]) ∧ w' = w.alloc (.cells #[.int .i64 (most : Int), .slice none 0 0] 208) := by
 go_enter Tryz.func92, Tryz.ntmps92
 go_wp2
 all_goals first | omega | (go_ret2; exact ⟨rfl, rfl⟩)
theorem made_any (p n₀ most : Nat) (v : Value) (l : List Nat) (w : World) (h : SetAt w p n₀ most v l) :
  Calls Tryz.prog 112 #[.pointer (some ⟨p, 0, none⟩)] w fun e w' => e = .returned (.bool true) ∧ w' = w := by
 have c0 := h.cell.1
 have hp := h.one
 go_enter Tryz.func112, Tryz.ntmps112
 go_wp2
 go_ret
 exact ⟨by simp; omega, rfl⟩
theorem mask_any (p n₀ most : Nat) (v : Value) (l : List Nat) (w : World) (h : SetAt w p n₀ most v l) :
  Calls Tryz.prog 57 #[.pointer (some ⟨p, 0, none⟩)] w fun e w' => e = .returned (.int .u64 (mask l)) ∧ Below w.heap.size w w' := by
 have c1 := h.cell.2
 have q := made_any p n₀ most v l w h
 have hl := h.good.len
 have o := of_any v (l.map Int.ofNat) w (by simp; omega) h.nums.ints
 go_enter Tryz.func57, Tryz.ntmps57
 go_wp2_with (first | (go_at_call 112; refine q.mono ?_; rintro e w ⟨rfl, rfl⟩) | (go_at_call 113; refine o.mono ?_; rintro e w' ⟨rfl, hB⟩))
 go_ret
 exact ⟨rfl, hB⟩
theorem load_any (p n₀ most : Nat) (v : Value) (l : List Nat) (m : Nat) (hm : m < 18446744073709551616) (w : World) (h : SetAt w p n₀ most v l) :
  Calls Tryz.prog 91 #[.pointer (some ⟨p, 0, none⟩), .int .u64 (m : Int)] w fun e w' => e = .returned (.tuple #[]) ∧ (∃ v', SetAt w' p n₀ most v' (elems m)) ∧ Kept [p] w w' := by
 have q := made_any p n₀ most v l w h
 have o := list_any m w hm
 go_enter Tryz.func91, Tryz.ntmps91
 go_wp2_with (first | (go_at_call 112; refine q.mono ?_; rintro e w ⟨rfl, rfl⟩) | (go_at_call 152; refine o.mono ?_; rintro e w1 ⟨v1, rfl, hr, hB⟩; have n1 := nums_of_owns hr h.high; obtain ⟨a1, cap1, e1, -⟩ := id n1; subst e1; have h1 := h.below hB; have f1 := h1.cells.frozen 1; have c1 := h1.cell.2))
 go_end0
 exact ⟨rfl, ⟨_, h1.put n1 (Good.elems m)⟩, (Kept.of_below hB [p]).trans (kept_set (by simp) _ _ _)⟩
end
end Go.Proofs.YtoaeficfmcncjaaGreat.Hot
namespace Go.Proofs.YtoaeficfmcncjaaGreat.Hot
open Go.RowKit
open Bits Bits.Math
theorem addr_add (b off j : Nat) : (⟨b, off, none⟩ : Addr).add j = ⟨b, off + j, none⟩ := by
 unfold Addr.add
 split <;> simp_all
section
variable {ops : Array Oper} {rest : List Oper} {o : Oper} {a : Act} {w : World} {Q : Exit → Act → World → Prop}
set_option maxRecDepth 100000 in
theorem wpList_append_nums (hgd : o.guard = none) (s x : Operand) (ho : o.op = .call { callee := .builtin .append, args := #[s, x], argTypes := #[85, 85] })
  (base n₀ : Nat) (v u : Value) (l k : List Nat) (hs : a.eval s = v) (hown : w.ownsRow base 3 1 v l.length (l.map enc)) (hx : a.eval x = u) (hu : Nums n₀ w u k) (hlen : l.length + k.length ≤ 1000) (hb : base ≤ w.heap.size)
  (h : ∀ v' w', w'.ownsRow base 3 1 v' (l ++ k).length ((l ++ k).map enc) → w.grownBy w' v.ownBlock → wpList Tryz.prog ops Q rest (a.put o.dst v') w') : wpList Tryz.prog ops Q (o :: rest) a w := by
 obtain ⟨i0, hi, hz0, hz1, hz2⟩ := info_parts Tryz.info3
 obtain ⟨ao, cap, rfl, hc, ⟨rfl, rfl⟩ | ⟨b, off, rfl, _, _, h2⟩⟩ := hu
 ·obtain rfl : k = [] := List.eq_nil_of_length_eq_zero (by omega)
  refine wpList_append_own_none hgd s x 85 ho base 3 i0 1 Tryz.underlying85 hi v l.length (l.map enc) hs hown hx ?_
  exact h v w (by simpa using hown) ⟨rfl, rfl, rfl, Nat.le_refl _, fun _ _ _ => rfl⟩
 ·refine wpList_append_own _ hgd s x 85 ho base 3 i0 (.int .i64 0) 1 8 Tryz.underlying85 hi hz0 hz1 hz2 rfl (by decide) v l.length (l.map enc) hs hown ⟨b, off, none⟩ k.length cap (k.map enc) hx (by simp) ?_ (enc_one k) (by unfold maxLen; omega) (by omega) hb ?_
  ·intro j u hu
   rw [addr_add]
   have hj : j < k.length := by
    have := (List.getElem?_eq_some_iff.1 hu).1
    simpa using this
   rw [h2 j hj, ← hu, enc_int k j hj]
  ·intro v' w' h3 h4 _
   exact h v' w' (by simpa using h3) h4
end
theorem below_grown {w w' : World} {v : Value} {base n : Nat} {l : List Value} {k : Nat} (hown : w.ownsRow base 3 1 v k l) (hg : w.grownBy w' v.ownBlock) (hn : n ≤ base) (hb : base ≤ w.heap.size) : Below n w w' :=
 ⟨hg.os, hg.tape, hg.output, hg.size, fun j hj => hg.block j (by omega) (fun e => by have := (hown.lt j e.symm).1; omega)⟩
set_option maxRecDepth 100000 in
theorem index_any (n₀ : Nat) (v : Value) (l : List Nat) (x : Nat) (w : World) (h : Nums n₀ w v l) (hl : l.length ≤ 64) (hx : x ∈ l) :
  Calls Tryz.prog 189 #[v, .int .i64 (x : Int)] w fun e w' => e = .returned (.int .i64 (l.idxOf x : Nat)) ∧ w' = w := by
 have hi : l.idxOf x < l.length := List.idxOf_lt_length_of_mem hx
 obtain ⟨ao, cap, rfl, hc, ⟨rfl, rfl⟩ | ⟨b, off, rfl, hb0, ⟨_, hBk⟩, h2⟩⟩ := h
 ·omega
 ·have hb := hBk.lt
  clear hBk
  have hne : ∀ k, k < l.idxOf x → ((x : Int) == ((l[k]?.getD 0 : Nat) : Int)) = false := fun k hk => by
   have := List.not_of_lt_findIdx (p := (· == x)) (xs := l) (i := k) hk
   have hk2 : k < l.length := by omega
   simp [hk2] at this ⊢
   intro e
   exact this (by omega)
  have heq : ((x : Int) == ((l[l.idxOf x]?.getD 0 : Nat) : Int)) = true := by
   have := List.getElem_idxOf (x := x) (xs := l) hi
   simp [hi]
  obtain ⟨len, hlen⟩ : ∃ len, l.length = len := ⟨_, rfl⟩
  obtain ⟨i, hI⟩ : ∃ i, l.idxOf x = i := ⟨_, rfl⟩
  rw [hlen] at hi hl h2 ⊢
  rw [hI] at hi hne heq ⊢
  go_enter Tryz.func189, Tryz.ntmps189
  go_wp2
  go_loop [8] (fun j => ∃ k : Nat, k ≤ i ∧ j = .int .i64 k) (fun j => i - (intOf j).toNat)
  case atStart => exact ⟨0, Nat.zero_le _, rfl⟩
  case round =>
   obtain ⟨k, hk, rfl⟩ := hrel
   have hcx := h2 k (by omega)
   have hlt : (k : Int) < (len : Int) := by omega
   by_cases hki : k < i
   ·have hnk := hne k hki
    clear h2 hne heq
    generalize ((l[k]?.getD 0 : Nat) : Int) = y at *
    go_wp2
    go_round
    case rel => exact ⟨k + 1, by omega, by go_num⟩
    case measure => simp [intOf]; omega
   ·obtain rfl : k = i := by omega
    clear h2 hne
    generalize ((l[k]?.getD 0 : Nat) : Int) = y at *
    go_wp2
    go_ret
    exact ⟨rfl, rfl⟩
theorem has_or (need busy x : Nat) (hx : x < 64) : (!has (need ||| busy) (x : Int)) = may need busy x := by
 rw [has_nat hx, Nat.testBit_or]
 rfl
section
set_option maxRecDepth 100000
theorem leave_any (g h need busy x : Nat) (hn : need < 18446744073709551616) (hb : busy < 18446744073709551616) (hx : x < 64) (w : World) (c1 : w.cell? ⟨g, 0, none⟩ = some (.int .u64 (need : Int))) (c2 : w.cell? ⟨h, 0, none⟩ = some (.int .u64 (busy : Int))) :
  Calls Tryz.prog 185 #[.int .i64 (x : Int), .pointer (some ⟨g, 0, none⟩), .pointer (some ⟨h, 0, none⟩)] w fun e w' => e = .returned (.bool (may need busy x)) ∧ w' = w := by
 have e1 := u64_or_nat need busy hn hb
 have q := fun w => has_any (need ||| busy) (x : Int) w (Nat.or_lt_two_pow (n := 64) hn hb)
 go_enter Tryz.func185, Tryz.ntmps185
 go_wp2_with (go_at_call 186; refine (q _).mono ?_; rintro e w ⟨rfl, rfl⟩)
 go_ret
 exact ⟨ret_bool (has_or need busy x hx), rfl⟩
theorem indexFunc_any (g h n₀ need busy : Nat) (v : Value) (l : List Nat) (w : World) (hN : Nums n₀ w v l) (hg : Good l) (hn : need < 18446744073709551616) (hb : busy < 18446744073709551616)
  (c1 : w.cell? ⟨g, 0, none⟩ = some (.int .u64 (need : Int))) (c2 : w.cell? ⟨h, 0, none⟩ = some (.int .u64 (busy : Int))) (hi : l.findIdx (may need busy) < l.length) :
  Calls Tryz.prog 188 #[v, .func (.func 185) #[] #[.pointer (some ⟨g, 0, none⟩), .pointer (some ⟨h, 0, none⟩)]] w fun e w' => e = .returned (.int .i64 (l.findIdx (may need busy) : Nat)) ∧ w' = w := by
 have hl := hg.len
 obtain ⟨ao, cap, rfl, hc, ⟨rfl, rfl⟩ | ⟨b, off, rfl, hb0, ⟨_, hBk⟩, h2⟩⟩ := hN
 ·omega
 ·have hbl := hBk.lt
  clear hBk
  have hne : ∀ k, k < l.findIdx (may need busy) → may need busy (l[k]?.getD 0) = false := fun k hk => by
   have := List.not_of_lt_findIdx (p := may need busy) (xs := l) (i := k) hk
   have hk2 : k < l.length := by omega
   simpa [hk2] using this
  have heq : may need busy (l[l.findIdx (may need busy)]?.getD 0) = true := by
   have : may need busy (l[l.findIdx (may need busy)]'hi) = true := List.findIdx_getElem (w := hi)
   simpa [hi] using this
  have hx : ∀ k, k < l.length → l[k]?.getD 0 < 64 := fun k hk => by
   have := hg.lt l[k] (List.getElem_mem hk)
   simpa [hk] using this
  obtain ⟨len, hlen⟩ : ∃ len, l.length = len := ⟨_, rfl⟩
  obtain ⟨i, hI⟩ : ∃ i, l.findIdx (may need busy) = i := ⟨_, rfl⟩
  rw [hlen] at hi hl h2 hx ⊢
  rw [hI] at hi hne heq ⊢
  go_enter Tryz.func188, Tryz.ntmps188
  go_wp2
  go_loop [8] (fun j => ∃ k : Nat, k ≤ i ∧ j = .int .i64 k) (fun j => i - (intOf j).toNat)
  case atStart => exact ⟨0, Nat.zero_le _, rfl⟩
  case round =>
   obtain ⟨k, hk, rfl⟩ := hrel
   have hcx := h2 k (by omega)
   have hlt : (k : Int) < (len : Int) := by omega
   have hx64 := hx k (by omega)
   by_cases hki : k < i
   ·have hnk := hne k hki
    clear h2 hne heq hx
    generalize l[k]?.getD 0 = y at *
    have q := leave_any g h need busy y hn hb hx64 w c1 c2
    rw [hnk] at q
    go_wp2_with (go_at_call 185; refine q.mono ?_; rintro e w ⟨rfl, rfl⟩)
    go_round
    case rel => exact ⟨k + 1, by omega, by go_num⟩
    case measure => simp [intOf]; omega
   ·obtain rfl : k = i := by omega
    clear h2 hne hx
    generalize l[k]?.getD 0 = y at *
    have q := leave_any g h need busy y hn hb hx64 w c1 c2
    rw [heq] at q
    go_wp2_with (go_at_call 185; refine q.mono ?_; rintro e w ⟨rfl, rfl⟩)
    go_ret
    exact ⟨rfl, rfl⟩
theorem grow_any (n : Nat) (w : World) (hn : n ≤ 1000) :
  Calls Tryz.prog 225 #[.slice none 0 0, .int .i64 (n : Int)] w fun e w' => ∃ v, e = .returned v ∧ w'.ownsRow w.heap.size 3 1 v 0 [] ∧ Below w.heap.size w w' := by
 by_cases h0 : n = 0
 ·subst h0
  go_enter Tryz.func225, Tryz.ntmps225
  go_wp2
  go_ret
  exact ⟨_, rfl, World.ownsRow_nil _ _ _ _, Below.refl _ _⟩
 ·obtain ⟨i0, hi, hz0, hz1, hz2⟩ := info_parts Tryz.info3
  have h1 : ¬ ((n : Int) < 0) := by omega
  have h4 : (n : Int) > 0 := by omega
  have hr := Lib.run_append_nil_zeros (P := Tryz.prog) w 85 3 85 3 i0 (.int .i64 0) .i64 .i64 Tryz.underlying85 Tryz.underlying3 hi hz0 n (by omega) (by omega) (by omega) (by rw [hz2]; omega)
  have hG0 := grownCap_ge w n 0 3
  have hG1 := grownCap_le_maxLen w n 0 3 (by unfold maxLen; omega)
  generalize grownCap w n 0 3 = G at *
  have hs : (Builtin.zeroCells (Value.int .i64 0).cells n ++ Builtin.zeroCells (Value.int .i64 0).cells (G - n)).size = G * 1 := by
   simp [Builtin.zeroCells, Value.cells]
   omega
  generalize (Builtin.zeroCells (Value.int .i64 0).cells n ++ Builtin.zeroCells (Value.int .i64 0).cells (G - n)) = cs at *
  have r0 := World.ownsRow_made (e := 3) (size := 1) (base := w.heap.size) w.drew cs G (Nat.le_refl _) hG1 hs
  have hG2 : G ≤ 9223372036854775807 := by unfold maxLen at hG1; omega
  clear hG1 hs
  go_enter Tryz.func225, Tryz.ntmps225
  go_wp2_with (at_builtin; refine Lib.wpList_append_run _ rfl _ _ _ _ rfl _ _ rfl rfl _ _ hr ?_)
  all_goals (go_ret; exact ⟨_, rfl, r0, (Kept.trans (kept_drew [] w) (kept_alloc [] _ _)).below (Nat.le_refl _) (by simp)⟩)
end
end Go.Proofs.YtoaeficfmcncjaaGreat.Hot
namespace Go.Proofs.YtoaeficfmcncjaaGreat.Hot
open Go.RowKit
open Bits Bits.Math
set_option maxRecDepth 100000 in
set_option maxHeartbeats 1000000 in
theorem concat_any (g n₀ n₁ : Nat) (v1 v2 : Value) (l1 l2 : List Nat) (w : World) (hg : g < w.heap.size) (c0 : w.cell? ⟨g, 0, none⟩ = some v1) (c1 : w.cell? ⟨g, 1, none⟩ = some v2) (h1 : Nums n₀ w v1 l1) (h2 : Nums n₁ w v2 l2)
  (hl1 : l1.length ≤ 64) (hl2 : l2.length ≤ 64) :
  Calls Tryz.prog 190 #[.slice (some ⟨g, 0, none⟩) 2 2] w fun e w' => ∃ v', e = .returned v' ∧ Nums w.heap.size w' v' (l1 ++ l2) ∧ Below w.heap.size w w' := by
 obtain ⟨a1, k1, e1, -⟩ := id h1
 obtain ⟨a2, k2, e2, -⟩ := id h2
 subst e1 e2
 have hN1 : Hid (Nums n₀ w (.slice a1 l1.length k1) l1) := h1
 have hN2 : Hid (Nums n₁ w (.slice a2 l2.length k2) l2) := h2
 clear h1 h2
 obtain ⟨m1, hm1⟩ : ∃ m1, l1.length = m1 := ⟨_, rfl⟩
 obtain ⟨m2, hm2⟩ : ∃ m2, l2.length = m2 := ⟨_, rfl⟩
 rw [hm1] at hN1 c0 hl1
 rw [hm2] at hN2 c1 hl2
 replace hm1 : Hid (l1.length = m1) := hm1
 replace hm2 : Hid (l2.length = m2) := hm2
 go_enter Tryz.func190, Tryz.ntmps190
 go_wp2
 go_loop [3, 11] (fun x i => (i = .int .i64 0 ∧ x = .int .i64 0) ∨ (i = .int .i64 1 ∧ x = .int .i64 (m1 : Int)) ∨ (i = .int .i64 2 ∧ x = .int .i64 ((m1 + m2 : Nat) : Int))) (fun _ i => 2 - (intOf i).toNat)
 case atStart => exact .inl ⟨rfl, rfl⟩
 case round =>
  rcases hrel with ⟨rfl, rfl⟩ | ⟨rfl, rfl⟩ | ⟨rfl, rfl⟩
  ·have z : ¬ ((m1 : Int) < 0) := by omega
   go_wp2
   go_round
   case rel => exact .inr (.inl ⟨rfl, rfl⟩)
   case measure => simp [intOf]
  ·have z : ¬ ((m1 : Int) + (m2 : Int) < 0) := by omega
   go_wp2
   go_round
   case rel => exact .inr (.inr ⟨rfl, by simp⟩)
   case measure => simp [intOf]
  ·have q := fun w => grow_any (m1 + m2) w (by omega)
   go_wp2_with (go_at_call 225; refine (q _).mono ?_; rintro e w1 ⟨v, rfl, hr, hB⟩)
   go_loopw [6, 27] (fun x i wr => ∃ (k : Nat) (l : List Nat), (k = 0 ∧ l = [] ∨ k = 1 ∧ l = l1 ∨ k = 2 ∧ l = l1 ++ l2) ∧ i = .int .i64 k ∧ wr.ownsRow w.heap.size 3 1 x l.length (l.map enc) ∧ Below w.heap.size w wr) (fun _ i _ => 2 - (intOf i).toNat)
   case atStart => exact ⟨0, [], .inl ⟨rfl, rfl⟩, rfl, by simpa using hr, hB⟩
   case round =>
    obtain ⟨k, l, hkl, rfl, hown, hB'⟩ := hrel
    have d0 := (hB'.cell (p := ⟨g, 0, none⟩) hg).trans c0
    have d1 := (hB'.cell (p := ⟨g, 1, none⟩) hg).trans c1
    have hsz := hB'.size
    have n1 : Hid (Nums n₀ wr (.slice a1 m1 k1) l1) := hN1.out.kept (Kept.of_below hB' []) (by simp)
    have n2 : Hid (Nums n₁ wr (.slice a2 m2 k2) l2) := hN2.out.kept (Kept.of_below hB' []) (by simp)
    rcases hkl with ⟨rfl, rfl⟩ | ⟨rfl, rfl⟩ | ⟨rfl, rfl⟩
    ·have hl : Hid (([] : List Nat).length + l1.length ≤ 1000) := (show ([] : List Nat).length + l1.length ≤ 1000 by rw [hm1.out]; simp; omega)
     go_wp2_with (at_builtin; refine wpList_append_nums rfl _ _ rfl w.heap.size n₀ _ _ [] l1 rfl hown rfl n1.out hl.out hsz ?_; intro v2 w2 hr2 hg2)
     go_roundw
     case rel => exact ⟨1, l1, .inr (.inl ⟨rfl, rfl⟩), rfl, hr2, hB'.trans (below_grown hown hg2 (Nat.le_refl _) hsz)⟩
     case measure => simp [intOf]
    ·have hl : Hid (l.length + l2.length ≤ 1000) := (show l.length + l2.length ≤ 1000 by rw [hm1.out, hm2.out]; omega)
     go_wp2_with (at_builtin; refine wpList_append_nums rfl _ _ rfl w.heap.size n₁ _ _ l l2 rfl hown rfl n2.out hl.out hsz ?_; intro v2 w2 hr2 hg2)
     go_roundw
     case rel => exact ⟨2, l ++ l2, .inr (.inr ⟨rfl, rfl⟩), rfl, hr2, hB'.trans (below_grown hown hg2 (Nat.le_refl _) hsz)⟩
     case measure => simp [intOf]
    ·go_wp2
     go_ret
     exact ⟨_, rfl, nums_of_owns hown (Nat.le_refl _), hB'⟩
set_option maxRecDepth 100000 in
set_option maxHeartbeats 1000000 in
theorem cut_any (p n₀ most : Nat) (v : Value) (l : List Nat) (i : Nat) (hi : i < l.length) (w : World) (h : SetAt w p n₀ most v l) :
  Calls Tryz.prog 187 #[.pointer (some ⟨p, 0, none⟩), .int .i64 (i : Int)] w fun e w' => e = .returned (.tuple #[]) ∧ (∃ v', SetAt w' p n₀ most v' (l.eraseIdx i)) ∧ Kept [p] w w' := by
 have hl := h.good.len
 have c1 := h.cell.2
 obtain ⟨ao, cap, rfl, hc, ⟨rfl, rfl⟩ | ⟨b, off, rfl, hb0, ⟨curb, hBk⟩, h2⟩⟩ := id h.nums
 ·omega
 ·have hb := hBk.lt
  replace hBk : Hid (Blk w b 3 curb) := hBk
  obtain ⟨len, hlen⟩ : ∃ len, l.length = len := ⟨_, rfl⟩
  rw [hlen] at hi hl hc h2 c1 h
  replace hlen : Hid (l.length = len) := hlen
  have i0 : (0 : Int) ≤ (i : Int) := by omega
  have i1 : (i : Int) ≤ (cap : Int) := by omega
  have i2 : (0 : Int) ≤ (i : Int) + 1 := by omega
  have i3 : (i : Int) + 1 ≤ (len : Int) := by omega
  have i4 : IntKind.i64.wrap ((i : Int) + 1) = (i : Int) + 1 := by rw [IntKind.wrap_i64]; omega
  have i5 : ((i : Int) + 1).toNat = i + 1 := by omega
  obtain ⟨t0, hi0, hz0, hz1, hz2⟩ := info_parts Tryz.info3
  obtain ⟨A, eA, hA⟩ : ∃ A : Addr, (if cap = i + 1 then some (⟨b, off, none⟩ : Addr) else some ⟨b, off + (i + 1), none⟩) = some A ∧ ∀ j, j < len - (i + 1) → A.add j = ⟨b, off + (i + 1 + j), none⟩ := by
   refine ⟨if cap = i + 1 then ⟨b, off, none⟩ else ⟨b, off + (i + 1), none⟩, by split <;> rfl, fun j hj => ?_⟩
   rw [if_neg (by omega), addr_add]
   simp
  have hd := h.kept (kept_drew [] w) (by simp) (by simp)
  have e0 : ∀ (W : World) (x y : Nat), W.setCells x y [] = W := fun W x y => rfl
  have gd : Good (l.eraseIdx i) := h.good.sub (List.eraseIdx_sublist l i)
  by_cases hm : len = i + 1
  ·have hm0 : len - (i + 1) = 0 := by omega
   have nn : Nums n₀ w.drew (.slice (some ⟨b, off, none⟩) i i) (l.eraseIdx i) := by
    have e : l.eraseIdx i = l.take i := by
     rw [erase_parts, List.drop_of_length_le (by rw [hlen.out]; omega), List.append_nil]
    have e2 : (l.take i).length = i := by rw [List.length_take, hlen.out]; omega
    rw [e]
    refine ⟨_, i, by rw [e2], by omega, .inr ⟨b, off, rfl, hb0, ⟨curb, hBk.out⟩, fun j hj => ?_⟩⟩
    rw [e2] at hj
    rw [List.getElem?_take_of_lt hj]
    exact h2 j (by omega)
   clear h2 hA
   have f1 := hd.cells.frozen 1
   go_enter Tryz.func187, Tryz.ntmps187
   go_wp2
   go_region_law ((refine step_append_room rfl (.tmp 11) (.tmp 18) 85 rfl 3 t0 1 Tryz.underlying85 hi0 hz1 b off i i (by simp [Act.eval, Act.put]) A 0 (cap - (i + 1)) [] (by simp [Act.eval, Act.put]) rfl (by simp) (by simp) (by omega) (by simp) ?_; rw [e0]))
   all_goals go_end0
   all_goals exact ⟨rfl, ⟨_, hd.put nn gd⟩, (kept_drew [p] w).trans (kept_set (by simp) _ _ _)⟩
  ·have hlo : Hid (((l.take i).map enc).length = i * 1) := (show ((l.take i).map enc).length = i * 1 by rw [List.length_map, List.length_take, hlen.out]; omega)
   have hls : Hid (((l.drop (i + 1)).map enc).length = (len - (i + 1)) * 1) := (show ((l.drop (i + 1)).map enc).length = (len - (i + 1)) * 1 by rw [List.length_map, List.length_drop, hlen.out]; omega)
   have hol : Hid (∀ b', some (⟨b, off, none⟩ : Addr) = some b' → ∀ j u, ((l.take i).map enc)[j]? = some u → w.drew.cell? (b'.add j) = some u) := (show ∀ b', some (⟨b, off, none⟩ : Addr) = some b' → ∀ j u, ((l.take i).map enc)[j]? = some u → w.drew.cell? (b'.add j) = some u from fun b' eb j u hu => by
    cases eb
    have hj := (List.getElem?_eq_some_iff.1 hu).1
    have hj2 : j < (l.take i).length := by simpa using hj
    have hj3 : j < i := by rw [List.length_take] at hj2; omega
    rw [addr_add, ← hu, enc_int _ _ hj2, List.getElem?_take_of_lt hj3]
    exact h2 j (by omega))
   have hne : Hid (∀ j u, ((l.drop (i + 1)).map enc)[j]? = some u → w.drew.cell? (A.add j) = some u) := (show ∀ j u, ((l.drop (i + 1)).map enc)[j]? = some u → w.drew.cell? (A.add j) = some u from fun j u hu => by
    have hj := (List.getElem?_eq_some_iff.1 hu).1
    have hj2 : j < (l.drop (i + 1)).length := by simpa using hj
    have hj3 : j < len - (i + 1) := by rw [List.length_drop, hlen.out] at hj2; exact hj2
    rw [hA j hj3, ← hu, enc_int _ _ hj2, List.getElem?_drop]
    exact h2 (i + 1 + j) (by omega))
   have hms : Hid (i + (len - (i + 1)) = (l.eraseIdx i).length) := (show i + (len - (i + 1)) = (l.eraseIdx i).length by rw [erase_parts, List.length_append, List.length_take, List.length_drop, hlen.out]; omega)
   have hmv : Hid ((l.take i).map enc ++ (l.drop (i + 1)).map enc = (l.eraseIdx i).map enc) := (show (l.take i).map enc ++ (l.drop (i + 1)).map enc = (l.eraseIdx i).map enc by rw [erase_parts, List.map_append])
   have hpos : Hid (0 < (l.eraseIdx i).length) := (show 0 < (l.eraseIdx i).length by rw [← hms.out]; omega)
   clear h2 hA
   go_enter Tryz.func187, Tryz.ntmps187
   go_wp2
   go_region_law ((refine step_append_grows rfl (.tmp 11) (.tmp 18) 85 rfl 3 t0 (.int .i64 0) 1 8 Tryz.underlying85 hi0 hz0 hz1 hz2 rfl (by decide) (some ⟨b, off, none⟩) i i ((l.take i).map enc) (by simp [Act.eval, Act.put]) (by simp) hlo.out hol.out A (len - (i + 1)) (cap - (i + 1)) ((l.drop (i + 1)).map enc) (by simp [Act.eval, Act.put]) hls.out hne.out (enc_one _) (by omega) (by unfold maxLen; omega) (by omega) ?_; intro v1 w1 hr hg; rw [hms.out, hmv.out] at hr; have n1 := nums_of_owns (n₀ := n₀) hr hd.high; obtain ⟨g1, cap1, e1, -, -⟩ := hr.form hpos.out; subst e1; have h1 := hd.kept (Kept.of_grown_none hg []) (by simp) (by simp); have f1 := h1.cells.frozen 1; have c1' := h1.cell.2; clear hr))
   all_goals go_end0
   all_goals exact ⟨rfl, ⟨_, h1.put n1 gd⟩, ((kept_drew [p] w).trans (Kept.of_grown_none hg [p])).trans (kept_set (by simp) _ _ _)⟩
end Go.Proofs.YtoaeficfmcncjaaGreat.Hot
