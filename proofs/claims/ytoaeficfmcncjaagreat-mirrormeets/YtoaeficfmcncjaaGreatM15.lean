/-
 Own writes that are on their way, in memory; slices.IndexFunc, slices.ContainsFunc, the rules, some, Verdict, Name.
-/
import Derived.Lib.AppendZeros
import Derived.Laws.AppendOwnNone
import Derived.Deep.AppendLies
import Derived.Test.YtoaeficfmcncjaaGreatM13
import Derived.Test.YtoaeficfmcncjaaGreatM14
namespace Go.Proofs.YtoaeficfmcncjaaGreat.Clash
open Go.RowKit
structure Ow where
 o : Int
 l : Int
 s : Bool
def Ow.cells (x : Ow) : List Value := [.int .i64 x.o, .int .i64 x.l, .bool x.s]
def ph (p m : Int) (x : Ow) : Bool := Span.Math.holds x.o x.l p m
def po (p m : Int) (x : Ow) : Bool := Span.Math.over x.o x.l p m
def ps (p m : Int) (x : Ow) : Bool := x.s && Span.Math.over x.o x.l p m
def verd (arb : Bool) (L : List Ow) (p m : Int) : Int :=
 match arb with
 | true => if L.any (ph p m) then 1 else if L.any (po p m) then 2 else 0
 | false => if L.any (ps p m) then 3 else 0
def OwsAt (W : World) (a : Option Addr) (len cap : Nat) (L : List Ow) : Prop :=
 L.length = len ∧ len ≤ cap ∧ (len = 0 ∨ ∃ b off, a = some ⟨b, off, none⟩ ∧ b < W.heap.size ∧ ∀ j x, L[j]? = some x → W.rangeAt b (off + j * 3) x.cells)
theorem OwsAt.kept {A B : World} {a : Option Addr} {len cap : Nat} {L : List Ow} (h : OwsAt A a len cap L) (hk : Kept [] A B) : OwsAt B a len cap L := by
 obtain ⟨h1, h2, h3 | ⟨b, off, h3, h4, h5⟩⟩ := h
 ·exact ⟨h1, h2, .inl h3⟩
 ·exact ⟨h1, h2, .inr ⟨b, off, h3, Nat.lt_of_lt_of_le h4 hk.size, fun j x hx i v hv => (World.cell?_of_block (by exact hk.block b h4 (by simp))).trans (h5 j x hx i v hv)⟩⟩
theorem OwsAt.at {W : World} {a : Option Addr} {len cap : Nat} {L : List Ow} (h : OwsAt W a len cap L) {j : Nat} (hj : j < len) :
  ∃ x b off, L[j]? = some x ∧ a = some ⟨b, off, none⟩ ∧ b < W.heap.size ∧ ∀ V, Kept [] W V → V.cell? ⟨b, off + j * 3, none⟩ = some (.int .i64 x.o) ∧ V.cell? ⟨b, off + j * 3 + 1, none⟩ = some (.int .i64 x.l) ∧ V.cell? ⟨b, off + j * 3 + 2, none⟩ = some (.bool x.s) := by
 obtain ⟨h1, _, h3 | ⟨b, off, h3, h4, h5⟩⟩ := h
 ·omega
 ·obtain ⟨x, hx⟩ : ∃ x, L[j]? = some x := ⟨_, List.getElem?_eq_getElem (by rw [h1]; exact hj)⟩
  refine ⟨x, b, off, hx, h3, h4, fun V hk => ?_⟩
  have c := fun i v (hv : x.cells[i]? = some v) => (World.cell?_of_block (a := ⟨b, off + j * 3 + i, none⟩) (by exact hk.block b h4 (by simp))).trans (h5 j x hx i v hv)
  exact ⟨c 0 _ rfl, c 1 _ rfl, c 2 _ rfl⟩
theorem any_hit {α : Type} {L : List α} {p : α → Bool} {j : Nat} {x : α} (hx : L[j]? = some x) (h : p x = true) : L.any p = true := List.any_eq_true.2 ⟨x, List.mem_of_getElem? hx, h⟩
theorem any_miss {α : Type} {L : List α} {p : α → Bool} (h : ∀ i x, i < L.length → L[i]? = some x → p x = false) : L.any p = false := by
 refine List.any_eq_false.2 fun x hx => ?_
 obtain ⟨i, hi⟩ := List.getElem?_of_mem hx
 rw [h i x (List.getElem?_eq_some_iff.1 hi).1 hi]
 simp
section
set_option maxRecDepth 100000
set_option maxHeartbeats 2000000 in
theorem index_some (p : Ow → Bool) (B C : Nat) (a : Option Addr) (len cap : Nat) (L : List Ow) (hl : len ≤ 9223372036854775807) (w : World) (hL : OwsAt w a len cap L)
  (hp : ∀ W (x : Ow), Kept [] w W → Calls Tryz.prog 249 #[.agg #[.int .i64 x.o, .int .i64 x.l, .bool x.s], .pointer (some ⟨B, 0, none⟩), .pointer (some ⟨C, 0, none⟩)] W fun e w' => e = .returned (.bool (p x)) ∧ Kept [] W w') :
  Calls Tryz.prog 282 #[.slice a len cap, .func (.func 249) #[] #[.pointer (some ⟨B, 0, none⟩), .pointer (some ⟨C, 0, none⟩)]] w fun e w' => ∃ r : Int, e = .returned (.int .i64 r) ∧ decide (0 ≤ r) = L.any p ∧ Kept [] w w' := by
 go_enter Tryz.func282, Tryz.ntmps282
 go_wp2_with fail
 go_loopg [5, 8] len (fun gg _ s8 wr => ∃ kk : Nat, kk ≤ len ∧ len - kk ≤ gg ∧ s8 = .int .i64 kk ∧ Kept [] w wr ∧ Hid (∀ j x, j < kk → L[j]? = some x → p x = false))
 case atStart => exact ⟨0, Nat.zero_le _, by omega, rfl, Kept.refl _ _, fun j x hj => absurd hj (Nat.not_lt_zero _)⟩
 case round =>
  obtain ⟨kk, hkk, hg, rfl, hk, hA⟩ := hrel
  by_cases hlt : kk < len
  ·obtain ⟨x, b, off, hx, rfl, hb, hc⟩ := hL.at hlt
   obtain ⟨c0, c1, c2⟩ := hc wr hk
   have hcall := hp wr x hk
   have i1 : (kk : Int) < (len : Int) := by omega
   have i2 : len ≤ cap := hL.2.1
   have hx' : Hid (L[kk]? = some x) := hx
   clear hc hp hx hL
   cases hq : p x with
   | true =>
    rw [hq] at hcall
    go_wp2_with (go_at_call 249; refine hcall.mono ?_; rintro e w' ⟨rfl, hk'⟩)
    go_ret
    exact ⟨_, rfl, by rw [any_hit hx'.out hq]; simp, hk.trans hk'⟩
   | false =>
    rw [hq] at hcall
    go_wp2_with (go_at_call 249; refine hcall.mono ?_; rintro e w' ⟨rfl, hk'⟩)
    go_roundg (len - (kk + 1))
    case measure => omega
    case rel =>
     refine ⟨kk + 1, by omega, by omega, by go_num, hk.trans hk', fun j y hj hy => ?_⟩
     by_cases e : j = kk
     ·subst e
      rw [hx'.out] at hy
      cases hy
      exact hq
     ·exact hA.out j y (by omega) hy
  ·have hnlt : ¬ ((kk : Int) < (len : Int)) := by omega
   obtain rfl : kk = len := by omega
   have hlen : Hid (L.length = kk) := hL.1
   clear hp hL
   go_wp2_with fail
   go_ret
   exact ⟨_, rfl, by rw [any_miss (fun i x hi hx => hA.out i x (by rw [← hlen.out]; exact hi) hx)]; rfl, hk⟩
theorem contains_some (p : Ow → Bool) (B C : Nat) (a : Option Addr) (len cap : Nat) (L : List Ow) (hl : len ≤ 9223372036854775807) (w : World) (hL : OwsAt w a len cap L)
  (hp : ∀ W (x : Ow), Kept [] w W → Calls Tryz.prog 249 #[.agg #[.int .i64 x.o, .int .i64 x.l, .bool x.s], .pointer (some ⟨B, 0, none⟩), .pointer (some ⟨C, 0, none⟩)] W fun e w' => e = .returned (.bool (p x)) ∧ Kept [] W w') :
  Calls Tryz.prog 248 #[.slice a len cap, .func (.func 249) #[] #[.pointer (some ⟨B, 0, none⟩), .pointer (some ⟨C, 0, none⟩)]] w fun e w' => e = .returned (.bool (L.any p)) ∧ Kept [] w w' := by
 have q := index_some p B C a len cap L hl w hL hp
 clear hp hL
 go_enter Tryz.func248, Tryz.ntmps248
 go_wp2_with (go_at_call 282; refine q.mono ?_; rintro e w1 ⟨r, rfl, hr, hk1⟩)
 all_goals (go_ret; exact ⟨by rw [← hr]; simp_all, hk1⟩)
set_option maxHeartbeats 1000000 in
theorem cholds_any (x : Ow) (p m : Int) (w : World) :
  Calls Tryz.prog 204 #[.agg #[.int .i64 x.o, .int .i64 x.l, .bool x.s], .agg #[.int .i64 p, .int .i64 m]] w fun e w' => e = .returned (.bool (ph p m x)) ∧ Kept [] w w' := by
 have k1 := kept_alloc [] w (.cells #[.int .i64 x.o, .int .i64 x.l, .bool x.s] 288)
 have k2 := kept_alloc [] (w.alloc (.cells #[.int .i64 x.o, .int .i64 x.l, .bool x.s] 288)) (.cells #[.int .i64 p, .int .i64 m] 44)
 have hk := k1.trans k2
 have q := fun V => Span.holds_any x.o x.l p m V
 unfold ph
 clear k1 k2
 generalize Span.Math.holds x.o x.l p m = r at *
 go_enter Tryz.func204, Tryz.ntmps204
 go_wp2_with (go_at_call 250; refine (q _).mono ?_; rintro e w1 ⟨rfl, hB⟩)
 go_ret
 exact ⟨rfl, hk.trans (Kept.of_below hB _)⟩
set_option maxHeartbeats 1000000 in
theorem coverlaps_any (x : Ow) (p m : Int) (w : World) :
  Calls Tryz.prog 205 #[.agg #[.int .i64 x.o, .int .i64 x.l, .bool x.s], .agg #[.int .i64 p, .int .i64 m]] w fun e w' => e = .returned (.bool (po p m x)) ∧ Kept [] w w' := by
 have k1 := kept_alloc [] w (.cells #[.int .i64 x.o, .int .i64 x.l, .bool x.s] 288)
 have k2 := kept_alloc [] (w.alloc (.cells #[.int .i64 x.o, .int .i64 x.l, .bool x.s] 288)) (.cells #[.int .i64 p, .int .i64 m] 44)
 have hk := k1.trans k2
 have q := fun V => Span.overlap_any x.o x.l p m V
 unfold po
 clear k1 k2
 generalize Span.Math.over x.o x.l p m = r at *
 go_enter Tryz.func205, Tryz.ntmps205
 go_wp2_with (go_at_call 178; refine (q _).mono ?_; rintro e w1 ⟨rfl, hB⟩)
 go_ret
 exact ⟨rfl, hk.trans (Kept.of_below hB _)⟩
set_option maxHeartbeats 1000000 in
theorem coverlapsSent_any (x : Ow) (p m : Int) (w : World) :
  Calls Tryz.prog 206 #[.agg #[.int .i64 x.o, .int .i64 x.l, .bool x.s], .agg #[.int .i64 p, .int .i64 m]] w fun e w' => e = .returned (.bool (ps p m x)) ∧ Kept [] w w' := by
 obtain ⟨o, l, s⟩ := x
 have k1 := kept_alloc [] w (.cells #[.int .i64 o, .int .i64 l, .bool s] 288)
 have k2 := kept_alloc [] (w.alloc (.cells #[.int .i64 o, .int .i64 l, .bool s] 288)) (.cells #[.int .i64 p, .int .i64 m] 44)
 have hk := k1.trans k2
 have q := fun V => coverlaps_any ⟨o, l, s⟩ p m V
 unfold ps
 unfold po at q
 simp only at q ⊢
 clear k1 k2
 generalize Span.Math.over o l p m = r at *
 cases s with
 | true =>
  go_enter Tryz.func206, Tryz.ntmps206
  go_wp2_with (go_at_call 205; refine (q _).mono ?_; rintro e w1 ⟨rfl, hB⟩)
  go_ret
  exact ⟨by simp, hk.trans hB⟩
 | false =>
  go_enter Tryz.func206, Tryz.ntmps206
  go_wp2_with fail
  go_ret
  exact ⟨by simp, hk⟩
end
structure Env (W : World) (N bR bI : Nat) (p m : Int) : Prop where
 rule : Blk W bR 287 #[.func (.func N) #[] #[]]
 span : Blk W bI 44 #[.int .i64 p, .int .i64 m]
theorem Env.kept {W V : World} {N bR bI : Nat} {p m : Int} (h : Env W N bR bI p m) (hk : Kept [] W V) : Env V N bR bI p m := ⟨h.rule.kept hk (by simp), h.span.kept hk (by simp)⟩
end Go.Proofs.YtoaeficfmcncjaaGreat.Clash
namespace Go.Proofs.YtoaeficfmcncjaaGreat.Clash
open Go.RowKit
section
set_option maxRecDepth 100000
set_option maxHeartbeats 1000000 in
theorem some1_holds (x : Ow) (p m : Int) (bR bI : Nat) (w : World) (hE : Env w 204 bR bI p m) :
  Calls Tryz.prog 249 #[.agg #[.int .i64 x.o, .int .i64 x.l, .bool x.s], .pointer (some ⟨bR, 0, none⟩), .pointer (some ⟨bI, 0, none⟩)] w fun e w' => e = .returned (.bool (ph p m x)) ∧ Kept [] w w' := by
 obtain ⟨o, l, s⟩ := x
 simp only
 have kA := kept_alloc [] w (.cells #[.int .i64 o, .int .i64 l, .bool s] 288)
 have hE' := hE.kept kA
 have c0 := (hE'.rule.cell 0).trans (show _ = some (Value.func (.func 204) #[] #[]) from rfl)
 have c1 := (hE'.span.cell 0).trans (show _ = some (Value.int .i64 p) from rfl)
 have c2 := (hE'.span.cell 1).trans (show _ = some (Value.int .i64 m) from rfl)
 have q := fun V => cholds_any ⟨o, l, s⟩ p m V
 simp only at q
 clear hE hE'
 generalize ph p m ⟨o, l, s⟩ = r at *
 go_enter Tryz.func249, Tryz.ntmps249
 go_wp2_with (go_at_call 204; refine (q _).mono ?_; rintro e w1 ⟨rfl, hB⟩)
 go_ret
 exact ⟨rfl, kA.trans hB⟩
set_option maxHeartbeats 1000000 in
theorem some_holds (p m : Int) (a : Option Addr) (len cap : Nat) (L : List Ow) (hl : len ≤ 9223372036854775807) (w : World) (hL : OwsAt w a len cap L) :
  Calls Tryz.prog 203 #[.slice a len cap, .agg #[.int .i64 p, .int .i64 m], .func (.func 204) #[] #[]] w fun e w' => e = .returned (.bool (L.any (ph p m))) ∧ Kept [] w w' := by
 have k1 := kept_alloc [] w (.cells #[.int .i64 p, .int .i64 m] 44)
 have b1 := blk_new w 44 #[.int .i64 p, .int .i64 m]
 obtain ⟨W1, hW1⟩ : ∃ W1, w.alloc (.cells #[.int .i64 p, .int .i64 m] 44) = W1 := ⟨_, rfl⟩
 rw [hW1] at k1 b1
 have k2 := kept_alloc [] W1 (.cells #[.func (.func 204) #[] #[]] 287)
 have b2 := blk_new W1 287 #[.func (.func 204) #[] #[]]
 have hs : W1.heap.size = w.heap.size + 1 := by rw [← hW1]; simp
 rw [hs] at b2
 have hE : Env (W1.alloc (.cells #[.func (.func 204) #[] #[]] 287)) 204 (w.heap.size + 1) w.heap.size p m := ⟨b2, b1.kept k2 (by simp)⟩
 have q := contains_some (ph p m) (w.heap.size + 1) w.heap.size a len cap L hl _ (hL.kept (k1.trans k2)) (fun W x hk => some1_holds x p m (w.heap.size + 1) w.heap.size W (hE.kept hk))
 have hk := k1.trans k2
 subst hW1
 clear b1 b2 hE hL hs k1 k2
 go_enter Tryz.func203, Tryz.ntmps203
 go_wp2_with (go_at_call 248; refine q.mono ?_; rintro e w1 ⟨rfl, hB⟩)
 go_ret
 exact ⟨rfl, hk.trans hB⟩
set_option maxHeartbeats 1000000 in
theorem some1_overlaps (x : Ow) (p m : Int) (bR bI : Nat) (w : World) (hE : Env w 205 bR bI p m) :
  Calls Tryz.prog 249 #[.agg #[.int .i64 x.o, .int .i64 x.l, .bool x.s], .pointer (some ⟨bR, 0, none⟩), .pointer (some ⟨bI, 0, none⟩)] w fun e w' => e = .returned (.bool (po p m x)) ∧ Kept [] w w' := by
 obtain ⟨o, l, s⟩ := x
 simp only
 have kA := kept_alloc [] w (.cells #[.int .i64 o, .int .i64 l, .bool s] 288)
 have hE' := hE.kept kA
 have c0 := (hE'.rule.cell 0).trans (show _ = some (Value.func (.func 205) #[] #[]) from rfl)
 have c1 := (hE'.span.cell 0).trans (show _ = some (Value.int .i64 p) from rfl)
 have c2 := (hE'.span.cell 1).trans (show _ = some (Value.int .i64 m) from rfl)
 have q := fun V => coverlaps_any ⟨o, l, s⟩ p m V
 simp only at q
 clear hE hE'
 generalize po p m ⟨o, l, s⟩ = r at *
 go_enter Tryz.func249, Tryz.ntmps249
 go_wp2_with (go_at_call 205; refine (q _).mono ?_; rintro e w1 ⟨rfl, hB⟩)
 go_ret
 exact ⟨rfl, kA.trans hB⟩
set_option maxHeartbeats 1000000 in
theorem some_overlaps (p m : Int) (a : Option Addr) (len cap : Nat) (L : List Ow) (hl : len ≤ 9223372036854775807) (w : World) (hL : OwsAt w a len cap L) :
  Calls Tryz.prog 203 #[.slice a len cap, .agg #[.int .i64 p, .int .i64 m], .func (.func 205) #[] #[]] w fun e w' => e = .returned (.bool (L.any (po p m))) ∧ Kept [] w w' := by
 have k1 := kept_alloc [] w (.cells #[.int .i64 p, .int .i64 m] 44)
 have b1 := blk_new w 44 #[.int .i64 p, .int .i64 m]
 obtain ⟨W1, hW1⟩ : ∃ W1, w.alloc (.cells #[.int .i64 p, .int .i64 m] 44) = W1 := ⟨_, rfl⟩
 rw [hW1] at k1 b1
 have k2 := kept_alloc [] W1 (.cells #[.func (.func 205) #[] #[]] 287)
 have b2 := blk_new W1 287 #[.func (.func 205) #[] #[]]
 have hs : W1.heap.size = w.heap.size + 1 := by rw [← hW1]; simp
 rw [hs] at b2
 have hE : Env (W1.alloc (.cells #[.func (.func 205) #[] #[]] 287)) 205 (w.heap.size + 1) w.heap.size p m := ⟨b2, b1.kept k2 (by simp)⟩
 have q := contains_some (po p m) (w.heap.size + 1) w.heap.size a len cap L hl _ (hL.kept (k1.trans k2)) (fun W x hk => some1_overlaps x p m (w.heap.size + 1) w.heap.size W (hE.kept hk))
 have hk := k1.trans k2
 subst hW1
 clear b1 b2 hE hL hs k1 k2
 go_enter Tryz.func203, Tryz.ntmps203
 go_wp2_with (go_at_call 248; refine q.mono ?_; rintro e w1 ⟨rfl, hB⟩)
 go_ret
 exact ⟨rfl, hk.trans hB⟩
set_option maxHeartbeats 1000000 in
theorem some1_overlapsSent (x : Ow) (p m : Int) (bR bI : Nat) (w : World) (hE : Env w 206 bR bI p m) :
  Calls Tryz.prog 249 #[.agg #[.int .i64 x.o, .int .i64 x.l, .bool x.s], .pointer (some ⟨bR, 0, none⟩), .pointer (some ⟨bI, 0, none⟩)] w fun e w' => e = .returned (.bool (ps p m x)) ∧ Kept [] w w' := by
 obtain ⟨o, l, s⟩ := x
 simp only
 have kA := kept_alloc [] w (.cells #[.int .i64 o, .int .i64 l, .bool s] 288)
 have hE' := hE.kept kA
 have c0 := (hE'.rule.cell 0).trans (show _ = some (Value.func (.func 206) #[] #[]) from rfl)
 have c1 := (hE'.span.cell 0).trans (show _ = some (Value.int .i64 p) from rfl)
 have c2 := (hE'.span.cell 1).trans (show _ = some (Value.int .i64 m) from rfl)
 have q := fun V => coverlapsSent_any ⟨o, l, s⟩ p m V
 simp only at q
 clear hE hE'
 generalize ps p m ⟨o, l, s⟩ = r at *
 go_enter Tryz.func249, Tryz.ntmps249
 go_wp2_with (go_at_call 206; refine (q _).mono ?_; rintro e w1 ⟨rfl, hB⟩)
 go_ret
 exact ⟨rfl, kA.trans hB⟩
set_option maxHeartbeats 1000000 in
theorem some_overlapsSent (p m : Int) (a : Option Addr) (len cap : Nat) (L : List Ow) (hl : len ≤ 9223372036854775807) (w : World) (hL : OwsAt w a len cap L) :
  Calls Tryz.prog 203 #[.slice a len cap, .agg #[.int .i64 p, .int .i64 m], .func (.func 206) #[] #[]] w fun e w' => e = .returned (.bool (L.any (ps p m))) ∧ Kept [] w w' := by
 have k1 := kept_alloc [] w (.cells #[.int .i64 p, .int .i64 m] 44)
 have b1 := blk_new w 44 #[.int .i64 p, .int .i64 m]
 obtain ⟨W1, hW1⟩ : ∃ W1, w.alloc (.cells #[.int .i64 p, .int .i64 m] 44) = W1 := ⟨_, rfl⟩
 rw [hW1] at k1 b1
 have k2 := kept_alloc [] W1 (.cells #[.func (.func 206) #[] #[]] 287)
 have b2 := blk_new W1 287 #[.func (.func 206) #[] #[]]
 have hs : W1.heap.size = w.heap.size + 1 := by rw [← hW1]; simp
 rw [hs] at b2
 have hE : Env (W1.alloc (.cells #[.func (.func 206) #[] #[]] 287)) 206 (w.heap.size + 1) w.heap.size p m := ⟨b2, b1.kept k2 (by simp)⟩
 have q := contains_some (ps p m) (w.heap.size + 1) w.heap.size a len cap L hl _ (hL.kept (k1.trans k2)) (fun W x hk => some1_overlapsSent x p m (w.heap.size + 1) w.heap.size W (hE.kept hk))
 have hk := k1.trans k2
 subst hW1
 clear b1 b2 hE hL hs k1 k2
 go_enter Tryz.func203, Tryz.ntmps203
 go_wp2_with (go_at_call 248; refine q.mono ?_; rintro e w1 ⟨rfl, hB⟩)
 go_ret
 exact ⟨rfl, hk.trans hB⟩
set_option maxHeartbeats 2000000 in
theorem verdict_any (arb : Bool) (p m : Int) (a : Option Addr) (len cap : Nat) (L : List Ow) (hl : len ≤ 9223372036854775807) (w : World) (hL : OwsAt w a len cap L) :
  Calls Tryz.prog 143 #[.bool arb, .slice a len cap, .agg #[.int .i64 p, .int .i64 m]] w fun e w' => e = .returned (.int .i64 (verd arb L p m)) ∧ Kept [] w w' := by
 have k1 := kept_alloc [] w (.cells #[.int .i64 p, .int .i64 m] 44)
 have b1 := blk_new w 44 #[.int .i64 p, .int .i64 m]
 obtain ⟨W1, hW1⟩ : ∃ W1, w.alloc (.cells #[.int .i64 p, .int .i64 m] 44) = W1 := ⟨_, rfl⟩
 rw [hW1] at k1 b1
 have cs : ∀ V, Kept [] W1 V → V.cell? ⟨w.heap.size, 0, none⟩ = some (.int .i64 p) ∧ V.cell? ⟨w.heap.size, 1, none⟩ = some (.int .i64 m) := fun V hk => ⟨((b1.kept hk (by simp)).cell 0).trans rfl, ((b1.kept hk (by simp)).cell 1).trans rfl⟩
 have hL1 := hL.kept k1
 obtain ⟨c0, c1⟩ := cs W1 (Kept.refl _ _)
 cases arb with
 | true =>
  have q1 := some_holds p m a len cap L hl W1 hL1
  have q2 := fun V (k : Kept [] W1 V) => some_overlaps p m a len cap L hl V (hL1.kept k)
  unfold verd
  simp only
  clear hL1 hL b1
  subst hW1
  generalize L.any (ph p m) = r1 at *
  generalize L.any (po p m) = r2 at *
  cases r1 with
  | true =>
   go_enter Tryz.func143, Tryz.ntmps143
   go_wp2_with (go_at_call 203; refine q1.mono ?_; rintro e w1 ⟨rfl, hk1⟩)
   go_ret
   exact ⟨by simp, k1.trans hk1⟩
  | false =>
   cases r2 with
   | true =>
    go_enter Tryz.func143, Tryz.ntmps143
    go_wp2_with (first
     | (go_at_call 203; refine q1.mono ?_; rintro e w1 ⟨rfl, hk1⟩; obtain ⟨d0, d1⟩ := cs w1 hk1; clear q1)
     | (go_at_call 203; refine (q2 _ hk1).mono ?_; rintro e w2 ⟨rfl, hk2⟩))
    go_ret
    exact ⟨by simp, (k1.trans hk1).trans hk2⟩
   | false =>
    go_enter Tryz.func143, Tryz.ntmps143
    go_wp2_with (first
     | (go_at_call 203; refine q1.mono ?_; rintro e w1 ⟨rfl, hk1⟩; obtain ⟨d0, d1⟩ := cs w1 hk1; clear q1)
     | (go_at_call 203; refine (q2 _ hk1).mono ?_; rintro e w2 ⟨rfl, hk2⟩))
    go_ret
    exact ⟨by simp, (k1.trans hk1).trans hk2⟩
 | false =>
  have q1 := some_overlapsSent p m a len cap L hl W1 hL1
  unfold verd
  simp only
  clear hL1 hL b1
  subst hW1
  generalize L.any (ps p m) = r1 at *
  cases r1 with
  | true =>
   go_enter Tryz.func143, Tryz.ntmps143
   go_wp2_with (go_at_call 203; refine q1.mono ?_; rintro e w1 ⟨rfl, hk1⟩)
   go_ret
   exact ⟨by simp, k1.trans hk1⟩
  | false =>
   go_enter Tryz.func143, Tryz.ntmps143
   go_wp2_with (go_at_call 203; refine q1.mono ?_; rintro e w1 ⟨rfl, hk1⟩)
   go_ret
   exact ⟨by simp, k1.trans hk1⟩
end
end Go.Proofs.YtoaeficfmcncjaaGreat.Clash
namespace Go.Proofs.YtoaeficfmcncjaaGreat.Later
open Go.RowKit
def benc (i : Nat) : Value := .int .u8 (i : Int)
theorem benc_one (l : List Nat) : ∀ v ∈ l.map benc, v.oneCell' = true := by
 intro u hu
 simp at hu
 obtain ⟨x, _, rfl⟩ := hu
 rfl
def ByteRow (hi : Nat) (W : World) (v : Value) (bs : List Nat) : Prop :=
 (∀ b ∈ bs, b < 256) ∧ ∃ a cap, v = .slice a bs.length cap ∧ (a = none → cap = 0) ∧ (bs = [] ∨ ∃ g off, a = some ⟨g, off, none⟩ ∧ bs.length ≤ cap ∧ g < hi ∧ ∀ j, j < bs.length → W.cell? ⟨g, off + j, none⟩ = some (.int .u8 ((bs[j]?.getD 0 : Nat) : Int)))
theorem ByteRow.kept {L : List Nat} {A B : World} {hi : Nat} {v : Value} {bs : List Nat} (h : ByteRow hi A v bs) (hh : hi ≤ A.heap.size) (hK : Kept L A B) (hL : ∀ k ∈ L, hi ≤ k) : ByteRow hi B v bs := by
 obtain ⟨hb, a, cap, e, hn, h | ⟨g, off, e2, hl, h2, hc⟩⟩ := h
 ·exact ⟨hb, a, cap, e, hn, .inl h⟩
 ·refine ⟨hb, a, cap, e, hn, .inr ⟨g, off, e2, hl, h2, fun j hj => ?_⟩⟩
  rw [World.cell?_of_block (w := A) (w' := B) (hK.block g (by omega) (fun hm => by have := hL g hm; omega))]
  exact hc j hj
def Byt (W : World) (v : Value) (bs : List Nat) : Prop :=
 (∀ b ∈ bs, b < 256) ∧ ∃ a cap, v = .slice a bs.length cap ∧ (a = none → cap = 0) ∧ (bs = [] ∨ ∃ g off cur, a = some ⟨g, off, none⟩ ∧ bs.length ≤ cap ∧ Blk W g 5 cur ∧ ∀ j, j < bs.length → cur[off + j]? = some (.int .u8 ((bs[j]?.getD 0 : Nat) : Int)))
theorem Byt.row {W : World} {v : Value} {bs : List Nat} (h : Byt W v bs) : ByteRow W.heap.size W v bs := by
 obtain ⟨hb, a, cap, e, hn, h | ⟨g, off, cur, e2, hl, h2, hc⟩⟩ := h
 ·exact ⟨hb, a, cap, e, hn, .inl h⟩
 ·exact ⟨hb, a, cap, e, hn, .inr ⟨g, off, e2, hl, h2.lt, fun j hj => (h2.cell _).trans (hc j hj)⟩⟩
def Foot (ts : List TypeId) (W : World) (K : List Nat) : Prop := ∀ k ∈ K, ∀ t c, Blk W k t c → t ∈ ts
theorem foot_nil (ts : List TypeId) (W : World) : Foot ts W [] := fun k hk => by simp at hk
theorem blk_type {W : World} {g : Nat} {t t' : TypeId} {c c' : Array Value} (h : Blk W g t c) (h' : Blk W g t' c') : t = t' := by
 unfold Blk at h h'
 rw [h] at h'
 injection h' with h'
 injection h' with _ h' _
theorem Foot.ne {ts : List TypeId} {W : World} {K : List Nat} (h : Foot ts W K) {g : Nat} {t : TypeId} {c : Array Value} (hb : Blk W g t c) (ht : t ∉ ts) : g ∉ K := fun hm => ht (h g hm t c hb)
theorem Foot.cons {ts : List TypeId} {W : World} {K : List Nat} (h : Foot ts W K) {g : Nat} {t : TypeId} {c : Array Value} (hb : Blk W g t c) (ht : t ∈ ts) : Foot ts W (g :: K) := fun k hk t' c' hb' => by
 rcases List.mem_cons.1 hk with e | e
 ·subst e
  exact blk_type hb hb' ▸ ht
 ·exact h k e t' c' hb'
theorem kept_grownBy {A B : World} {row : Option Nat} (h : A.grownBy B row) : Kept row.toList A B := ⟨h.os, h.tape, h.output, h.size, fun k hk hn => h.block k hk (fun e => hn (by simp [← e]))⟩
theorem Byt.kept {ts : List TypeId} {K : List Nat} {A B : World} {v : Value} {bs : List Nat} (h : Byt A v bs) (hk : Kept K A B) (hK : Foot ts A K) (ht : 5 ∉ ts) : Byt B v bs := by
 obtain ⟨hb, a, cap, e, hn, h | ⟨g, off, cur, e2, hl, h2, hc⟩⟩ := h
 ·exact ⟨hb, a, cap, e, hn, .inl h⟩
 ·exact ⟨hb, a, cap, e, hn, .inr ⟨g, off, cur, e2, hl, h2.kept hk (hK.ne h2 ht), hc⟩⟩
theorem byt_nil (W : World) : Byt W (.slice none 0 0) [] := ⟨by simp, none, 0, rfl, fun _ => rfl, .inl rfl⟩
theorem byt_owns {W : World} {base : Nat} {v : Value} {l : List Nat} (hl : ∀ b ∈ l, b < 256) (h : W.ownsRow base 5 1 v l.length (l.map benc)) : Byt W v l := by
 obtain ⟨_, ⟨rfl, h0⟩ | ⟨g, cap, cur, rfl, hb, hg, h1, h2, h3, h4⟩⟩ := h
 ·have : l = [] := by simpa using h0
  subst this
  exact byt_nil W
 ·refine ⟨hl, some ⟨g, 0, none⟩, cap, rfl, fun h => by simp at h, .inr ⟨g, 0, cur, rfl, h1, hg, fun j hj => ?_⟩⟩
  have e : cur.toList[j]? = some (benc l[j]) := by
   have := congrArg (fun t => t[j]?) h4
   simp [hj] at this
   simpa using this
  rw [Array.getElem?_toList] at e
  rw [Nat.zero_add, e]
  simp [benc, hj]
set_option maxRecDepth 100000 in
theorem Tryz.info5 : (Tryz.prog.info? 5).map (fun i => (i.zero, i.size, i.bytes)) = some (some (.int .u8 0), 1, 1) := by kernel_rfl
theorem kept_grown {w w' : World} {v : Value} {base : Nat} {e : TypeId} {z k : Nat} {l : List Value} (hown : w.ownsRow base e z v k l) (hg : w.grownBy w' v.ownBlock) (w0 : World) (h0 : Kept [] w0 w) (hb : w0.heap.size ≤ base) : Kept [] w0 w' :=
 ⟨hg.os.trans h0.os, hg.tape.trans h0.tape, hg.output.trans h0.output, Nat.le_trans h0.size hg.size, fun j hj _ => (hg.block j (Nat.lt_of_lt_of_le hj h0.size) (fun e => by have := (hown.lt j e.symm).1; omega)).trans (h0.block j hj (by simp))⟩
theorem kept_none {w w' : World} (hg : w.grownBy w' none) : Kept [] w w' := ⟨hg.os, hg.tape, hg.output, hg.size, fun j hj _ => hg.block j hj (fun e => by cases e)⟩
set_option maxRecDepth 100000 in
theorem run_append_bytes (base : Nat) (v u : Value) (hi : Nat) (bs : List Nat) (w : World) (ty : TypeId) (hown : w.ownsRow base 5 1 v 0 []) (hu : ByteRow hi w u bs) (hlen : bs.length ≤ 140737488351232) (hb : base ≤ w.heap.size) :
  ∃ v' w', (Builtin.append_ #[45, 45] ty #[v, u]).run Tryz.prog w = .ok v' w' ∧ Byt w' v' bs ∧ w.grownBy w' v.ownBlock := by
 obtain ⟨i0, hi0, hz0, hz1, hz2⟩ := info_parts Tryz.info5
 obtain ⟨hB, ad, cap, rfl, hn, hcase⟩ := hu
 cases ad with
 | none =>
  rcases hcase with rfl | ⟨g, off, e, _⟩
  ·obtain rfl := hn rfl
   have hrun := run_append_owned_none (P := Tryz.prog) (w := w) base 45 ty 5 i0 1 Tryz.underlying45 hi0 v 0 [] hown
   exact ⟨v, w, hrun, byt_owns hB (by simpa using hown), ⟨rfl, rfl, rfl, Nat.le_refl _, fun _ _ _ => rfl⟩⟩
  ·simp at e
 | some ad =>
  obtain ⟨v', w', hr, h2, h3, _, _⟩ := run_append_own_at (P := Tryz.prog) w base 45 ty 5 i0 (.int .u8 0) 1 1 Tryz.underlying45 hi0 hz0 hz1 hz2 rfl (by decide) v 0 [] hown ad bs.length cap (bs.map benc) (by simp) (by
   intro q u hq
   have hql : q < bs.length := by
    have := (List.getElem?_eq_some_iff.1 hq).1
    simpa using this
   rcases hcase with rfl | ⟨g, off, e, _, _, hc⟩
   ·simp at hql
   ·injection e with e
    subst e
    rw [Go.WideShapes.add_plain, hc q hql, ← hq]
    simp [hql, benc]) (benc_one bs) (by unfold maxLen; omega) (by omega) hb
  have h2' : w'.ownsRow base 5 1 v' bs.length (bs.map benc) := by simpa using h2
  exact ⟨v', w', hr, byt_owns hB h2', h3⟩
section
variable {ops : Array Oper} {rest : List Oper} {o : Oper} {a : Act} {w : World} {Q : Exit → Act → World → Prop}
set_option maxRecDepth 100000 in
theorem wpList_append_bytes (hgd : o.guard = none) (s x : Operand) (ho : o.op = .call { callee := .builtin .append, args := #[s, x], argTypes := #[45, 45] })
  (base : Nat) (v u : Value) (hi : Nat) (bs : List Nat) (hs : a.eval s = v) (hown : w.ownsRow base 5 1 v 0 []) (hx : a.eval x = u) (hu : ByteRow hi w u bs) (hlen : bs.length ≤ 140737488351232) (hb : base ≤ w.heap.size)
  (h : ∀ sa len cap w', Byt w' (.slice sa len cap) bs → w.grownBy w' v.ownBlock → wpList Tryz.prog ops Q rest (a.put o.dst (.slice sa len cap)) w') : wpList Tryz.prog ops Q (o :: rest) a w := by
 refine wpList_plain hgd fun K' hK' => ?_
 obtain ⟨v', w', hr, h1, h2⟩ := run_append_bytes base v u hi bs w o.type hown hu hlen hb
 obtain ⟨_, sa, cap, e, _⟩ := id h1
 subst e
 unfold Oper.wp
 simp [execOp, ho, resolve, invoke, builtin, hs, hx, hr, Result.andThen]
 exact hK' _ _ (h sa _ cap w' h1 h2)
end
structure Lw where
 id : Int
 o : Int
 l : Int
 bs : List Nat
structure Lv where
 id : Int
 o : Int
 l : Int
 sa : Option Addr
 len : Nat
 cap : Nat
 bs : List Nat
def Lv.lw (x : Lv) : Lw := ⟨x.id, x.o, x.l, x.bs⟩
def Lv.cells (x : Lv) : List Value := [.int .i64 x.id, .int .i64 x.o, .int .i64 x.l, .slice x.sa x.len x.cap]
def Lv.val (x : Lv) : Value := .agg #[.int .i64 x.id, .int .i64 x.o, .int .i64 x.l, .slice x.sa x.len x.cap]
def Lv.At (W : World) (x : Lv) : Prop := Byt W (.slice x.sa x.len x.cap) x.bs
theorem Lv.At.kept {ts : List TypeId} {K : List Nat} {A B : World} {x : Lv} (h : x.At A) (hk : Kept K A B) (hK : Foot ts A K) (ht : 5 ∉ ts) : x.At B := Byt.kept h hk hK ht
theorem Lv.At.kept0 {A B : World} {x : Lv} (h : x.At A) (hk : Kept [] A B) : x.At B := Byt.kept h hk (foot_nil [] A) (by simp)
def lv0 : Lv := ⟨0, 0, 0, none, 0, 0, []⟩
def lw0 : Lw := ⟨0, 0, 0, []⟩
theorem lv0_at (W : World) : lv0.At W := byt_nil W
theorem Lv.cells_length (x : Lv) : x.cells.length = 4 := rfl
theorem Lv.cells_one (x : Lv) : ∀ v ∈ x.cells, v.oneCell' = true := fun v hv => by
 simp [Lv.cells] at hv
 rcases hv with rfl | rfl | rfl | rfl <;> rfl
set_option maxRecDepth 100000 in
theorem clone_any (v : Value) (hi : Nat) (bs : List Nat) (w : World) (h : ByteRow hi w v bs) (hh : hi ≤ w.heap.size) (hlen : bs.length ≤ 140737488351232) :
  Calls Tryz.prog 132 #[v] w fun e w' => ∃ sa len cap, e = .returned (.slice sa len cap) ∧ Byt w' (.slice sa len cap) bs ∧ Kept [] w w' := by
 have qT : ∀ (w : World) (a : Option Addr) (n c n' c' : Nat), (binOp .eql 45 (.slice a n c) (.slice none n' c')).run Tryz.prog w = .ok (.bool a.isNone) w := fun w a n c n' c' => Lib.run_eql_slice_nil w _ _ a n c n' c' Tryz.underlying45
 have hk0 := kept_alloc [] w (.cells #[] 5)
 have h1 : Hid (ByteRow hi (w.alloc (.cells #[] 5)) v bs) := h.kept hh hk0 (by simp)
 have r0 : Hid ((w.alloc (.cells #[] 5)).ownsRow w.heap.size 5 1 (.slice (some ⟨w.heap.size, 0, none⟩) 0 0) 0 []) := World.ownsRow_made w #[] 0 (Nat.le_refl _) (by unfold maxLen; omega) rfl
 obtain ⟨hB, a, cap, rfl, hn, hcase⟩ := id h
 obtain ⟨len, hl⟩ : ∃ len, bs.length = len := ⟨_, rfl⟩
 cases a with
 | none =>
  rcases hcase with rfl | ⟨g, off, e, _⟩
  ·obtain rfl := hn rfl
   clear h h1
   go_enter Tryz.func132, Tryz.ntmps132
   go_wp2
   go_ret
   exact ⟨none, 0, 0, rfl, byt_nil _, Kept.refl _ _⟩
  ·simp at e
 | some ad =>
  have hlen' : Hid (bs.length ≤ 140737488351232) := hlen
  rw [hl] at h1 ⊢
  replace hl : Hid (bs.length = len) := hl
  clear h hB hn hlen hcase
  go_enter Tryz.func132, Tryz.ntmps132
  go_wp2_with (first
   | (at_builtin; refine wpList_append_bytes rfl _ _ rfl w.heap.size _ _ hi bs rfl r0.out rfl h1.out hlen'.out (by simp) ?_; intro sa2 len2 cap2 w2 hb2 hg2; have hk2 : Kept [] w w2 := kept_grown r0.out hg2 w hk0 (Nat.le_refl _)))
  go_ret
  exact ⟨sa2, len2, cap2, rfl, hb2, hk2⟩
end Go.Proofs.YtoaeficfmcncjaaGreat.Later
