import Derived.Test.YthlnhmdeoapoeaaBase
import Derived.Test.YthlnhmdeoapoeaaSpan1
import Derived.Deep.LoopGhost
/-
  Own writes that are on their way, in memory; slices.IndexFunc, slices.ContainsFunc, the rules, some, Verdict, Name.
-/
namespace Go.Proofs.Ythlnhmdeoapoeaa.Clash
open Go.RowKit

/-- An own write that is on its way. -/
structure Ow where
  o : Int
  l : Int
  s : Bool
def Ow.cells (x : Ow) : List Value := [.int .i64 x.o, .int .i64 x.l, .bool x.s]
/-- The rules, against what comes. -/
def ph (p m : Int) (x : Ow) : Bool := Span.Math.holds x.o x.l p m
def po (p m : Int) (x : Ow) : Bool := Span.Math.over x.o x.l p m
def ps (p m : Int) (x : Ow) : Bool := x.s && Span.Math.over x.o x.l p m
/-- The verdict. -/
def verd (arb : Bool) (L : List Ow) (p m : Int) : Int :=
  match arb with
  | true => if L.any (ph p m) then 1 else if L.any (po p m) then 2 else 0
  | false => if L.any (ps p m) then 3 else 0
/-- Own writes that lie in a slice. -/
def OwsAt (W : World) (a : Option Addr) (len cap : Nat) (L : List Ow) : Prop :=
  L.length = len ∧ len ≤ cap ∧ (len = 0 ∨ ∃ b off, a = some ⟨b, off, none⟩ ∧ b < W.heap.size ∧ ∀ j x, L[j]? = some x → W.rangeAt b (off + j * 3) x.cells)
theorem OwsAt.kept {A B : World} {a : Option Addr} {len cap : Nat} {L : List Ow} (h : OwsAt A a len cap L) (hk : Kept [] A B) : OwsAt B a len cap L := by
  obtain ⟨h1, h2, h3 | ⟨b, off, h3, h4, h5⟩⟩ := h
  · exact ⟨h1, h2, .inl h3⟩
  · exact ⟨h1, h2, .inr ⟨b, off, h3, Nat.lt_of_lt_of_le h4 hk.size, fun j x hx i v hv => (World.cell?_of_block (by exact hk.block b h4 (by simp))).trans (h5 j x hx i v hv)⟩⟩
theorem ows_nil (W : World) : OwsAt W none 0 0 [] := ⟨rfl, Nat.le_refl _, .inl rfl⟩
/-- What lies at a place. -/
theorem OwsAt.at {W : World} {a : Option Addr} {len cap : Nat} {L : List Ow} (h : OwsAt W a len cap L) {j : Nat} (hj : j < len) :
    ∃ x b off, L[j]? = some x ∧ a = some ⟨b, off, none⟩ ∧ b < W.heap.size ∧ ∀ V, Kept [] W V → V.cell? ⟨b, off + j * 3, none⟩ = some (.int .i64 x.o) ∧ V.cell? ⟨b, off + j * 3 + 1, none⟩ = some (.int .i64 x.l) ∧ V.cell? ⟨b, off + j * 3 + 2, none⟩ = some (.bool x.s) := by
  obtain ⟨h1, _, h3 | ⟨b, off, h3, h4, h5⟩⟩ := h
  · omega
  · obtain ⟨x, hx⟩ : ∃ x, L[j]? = some x := ⟨_, List.getElem?_eq_getElem (by rw [h1]; exact hj)⟩
    refine ⟨x, b, off, hx, h3, h4, fun V hk => ?_⟩
    have c := fun i v (hv : x.cells[i]? = some v) => (World.cell?_of_block (a := ⟨b, off + j * 3 + i, none⟩) (by exact hk.block b h4 (by simp))).trans (h5 j x hx i v hv)
    exact ⟨c 0 _ rfl, c 1 _ rfl, c 2 _ rfl⟩
theorem any_hit {α : Type} {L : List α} {p : α → Bool} {j : Nat} {x : α} (hx : L[j]? = some x) (h : p x = true) : L.any p = true := List.any_eq_true.2 ⟨x, List.mem_of_getElem? hx, h⟩
theorem any_miss {α : Type} {L : List α} {p : α → Bool} (h : ∀ i x, i < L.length → L[i]? = some x → p x = false) : L.any p = false := by
  refine List.any_eq_false.2 fun x hx => ?_
  obtain ⟨i, hi⟩ := List.getElem?_of_mem hx
  rw [h i x (List.getElem?_eq_some_iff.1 hi).1 hi]
  simp

set_option maxRecDepth 100000 in
set_option maxHeartbeats 2000000 in
/-- slices.IndexFunc of own writes, with some's closure -/
theorem index_some (p : Ow → Bool) (B C : Nat) (a : Option Addr) (len cap : Nat) (L : List Ow) (hl : len ≤ 9223372036854775807) (w : World) (hL : OwsAt w a len cap L)
    (hp : ∀ W (x : Ow), Kept [] w W → Calls Try.prog 36 #[.agg #[.int .i64 x.o, .int .i64 x.l, .bool x.s], .pointer (some ⟨B, 0, none⟩), .pointer (some ⟨C, 0, none⟩)] W fun e w' => e = .returned (.bool (p x)) ∧ Kept [] W w') :
    Calls Try.prog 44 #[.slice a len cap, .func (.func 36) #[] #[.pointer (some ⟨B, 0, none⟩), .pointer (some ⟨C, 0, none⟩)]] w fun e w' => ∃ r : Int, e = .returned (.int .i64 r) ∧ decide (0 ≤ r) = L.any p ∧ Kept [] w w' := by
  go_enter Try.func44, Try.ntmps44
  go_wp2_with fail
  go_loopg [5, 8] len (fun gg _ s8 wr => ∃ kk : Nat, kk ≤ len ∧ len - kk ≤ gg ∧ s8 = .int .i64 kk ∧ Kept [] w wr ∧ Hid (∀ j x, j < kk → L[j]? = some x → p x = false))
  case atStart => exact ⟨0, Nat.zero_le _, by omega, rfl, Kept.refl _ _, fun j x hj => absurd hj (Nat.not_lt_zero _)⟩
  case round =>
    obtain ⟨kk, hkk, hg, rfl, hk, hA⟩ := hrel
    by_cases hlt : kk < len
    · obtain ⟨x, b, off, hx, rfl, hb, hc⟩ := hL.at hlt
      obtain ⟨c0, c1, c2⟩ := hc wr hk
      have hcall := hp wr x hk
      have i1 : (kk : Int) < (len : Int) := by omega
      have i2 : len ≤ cap := hL.2.1
      have hx' : Hid (L[kk]? = some x) := hx
      clear hc hp hx hL
      cases hq : p x with
      | true =>
        rw [hq] at hcall
        go_wp2_with (go_at_call 36; refine hcall.mono ?_; rintro e w' ⟨rfl, hk'⟩)
        go_ret
        exact ⟨_, rfl, by rw [any_hit hx'.out hq]; simp, hk.trans hk'⟩
      | false =>
        rw [hq] at hcall
        go_wp2_with (go_at_call 36; refine hcall.mono ?_; rintro e w' ⟨rfl, hk'⟩)
        go_roundg (len - (kk + 1))
        case measure => omega
        case rel =>
          refine ⟨kk + 1, by omega, by omega, by go_num, hk.trans hk', fun j y hj hy => ?_⟩
          by_cases e : j = kk
          · subst e
            rw [hx'.out] at hy
            cases hy
            exact hq
          · exact hA.out j y (by omega) hy
    · have hnlt : ¬ ((kk : Int) < (len : Int)) := by omega
      obtain rfl : kk = len := by omega
      have hlen : Hid (L.length = kk) := hL.1
      clear hp hL
      go_wp2_with fail
      go_ret
      exact ⟨_, rfl, by rw [any_miss (fun i x hi hx => hA.out i x (by rw [← hlen.out]; exact hi) hx)]; rfl, hk⟩
set_option maxRecDepth 100000 in
/-- slices.ContainsFunc of own writes, with some's closure -/
theorem contains_some (p : Ow → Bool) (B C : Nat) (a : Option Addr) (len cap : Nat) (L : List Ow) (hl : len ≤ 9223372036854775807) (w : World) (hL : OwsAt w a len cap L)
    (hp : ∀ W (x : Ow), Kept [] w W → Calls Try.prog 36 #[.agg #[.int .i64 x.o, .int .i64 x.l, .bool x.s], .pointer (some ⟨B, 0, none⟩), .pointer (some ⟨C, 0, none⟩)] W fun e w' => e = .returned (.bool (p x)) ∧ Kept [] W w') :
    Calls Try.prog 35 #[.slice a len cap, .func (.func 36) #[] #[.pointer (some ⟨B, 0, none⟩), .pointer (some ⟨C, 0, none⟩)]] w fun e w' => e = .returned (.bool (L.any p)) ∧ Kept [] w w' := by
  have q := index_some p B C a len cap L hl w hL hp
  clear hp hL
  go_enter Try.func35, Try.ntmps35
  go_wp2_with (go_at_call 44; refine q.mono ?_; rintro e w1 ⟨r, rfl, hr, hk1⟩)
  all_goals (go_ret; exact ⟨by rw [← hr]; simp_all, hk1⟩)

set_option maxRecDepth 100000 in
set_option maxHeartbeats 1000000 in
/-- holds -/
theorem cholds_any (x : Ow) (p m : Int) (w : World) :
    Calls Try.prog 29 #[.agg #[.int .i64 x.o, .int .i64 x.l, .bool x.s], .agg #[.int .i64 p, .int .i64 m]] w fun e w' => e = .returned (.bool (ph p m x)) ∧ Kept [] w w' := by
  have k1 := kept_alloc [] w (.cells #[.int .i64 x.o, .int .i64 x.l, .bool x.s] 54)
  have k2 := kept_alloc [] (w.alloc (.cells #[.int .i64 x.o, .int .i64 x.l, .bool x.s] 54)) (.cells #[.int .i64 p, .int .i64 m] 24)
  have hk := k1.trans k2
  have q := fun V => Span.holds_any x.o x.l p m V
  unfold ph
  clear k1 k2
  generalize Span.Math.holds x.o x.l p m = r at *
  go_enter Try.func29, Try.ntmps29
  go_wp2_with (go_at_call 37; refine (q _).mono ?_; rintro e w1 ⟨rfl, hB⟩)
  go_ret
  exact ⟨rfl, hk.trans (Kept.of_below hB _)⟩
set_option maxRecDepth 100000 in
set_option maxHeartbeats 1000000 in
/-- overlaps -/
theorem coverlaps_any (x : Ow) (p m : Int) (w : World) :
    Calls Try.prog 30 #[.agg #[.int .i64 x.o, .int .i64 x.l, .bool x.s], .agg #[.int .i64 p, .int .i64 m]] w fun e w' => e = .returned (.bool (po p m x)) ∧ Kept [] w w' := by
  have k1 := kept_alloc [] w (.cells #[.int .i64 x.o, .int .i64 x.l, .bool x.s] 54)
  have k2 := kept_alloc [] (w.alloc (.cells #[.int .i64 x.o, .int .i64 x.l, .bool x.s] 54)) (.cells #[.int .i64 p, .int .i64 m] 24)
  have hk := k1.trans k2
  have q := fun V => Span.overlap_any x.o x.l p m V
  unfold po
  clear k1 k2
  generalize Span.Math.over x.o x.l p m = r at *
  go_enter Try.func30, Try.ntmps30
  go_wp2_with (go_at_call 25; refine (q _).mono ?_; rintro e w1 ⟨rfl, hB⟩)
  go_ret
  exact ⟨rfl, hk.trans (Kept.of_below hB _)⟩
set_option maxRecDepth 100000 in
set_option maxHeartbeats 1000000 in
/-- overlapsSent -/
theorem coverlapsSent_any (x : Ow) (p m : Int) (w : World) :
    Calls Try.prog 31 #[.agg #[.int .i64 x.o, .int .i64 x.l, .bool x.s], .agg #[.int .i64 p, .int .i64 m]] w fun e w' => e = .returned (.bool (ps p m x)) ∧ Kept [] w w' := by
  obtain ⟨o, l, s⟩ := x
  have k1 := kept_alloc [] w (.cells #[.int .i64 o, .int .i64 l, .bool s] 54)
  have k2 := kept_alloc [] (w.alloc (.cells #[.int .i64 o, .int .i64 l, .bool s] 54)) (.cells #[.int .i64 p, .int .i64 m] 24)
  have hk := k1.trans k2
  have q := fun V => coverlaps_any ⟨o, l, s⟩ p m V
  unfold ps
  unfold po at q
  simp only at q ⊢
  clear k1 k2
  generalize Span.Math.over o l p m = r at *
  cases s with
  | true =>
    go_enter Try.func31, Try.ntmps31
    go_wp2_with (go_at_call 30; refine (q _).mono ?_; rintro e w1 ⟨rfl, hB⟩)
    go_ret
    exact ⟨by simp, hk.trans hB⟩
  | false =>
    go_enter Try.func31, Try.ntmps31
    go_wp2_with fail
    go_ret
    exact ⟨by simp, hk⟩
/-- What some has put by. -/
structure Env (W : World) (N bR bI : Nat) (p m : Int) : Prop where
  rule : Blk W bR 72 #[.func (.func N) #[] #[]]
  span : Blk W bI 24 #[.int .i64 p, .int .i64 m]
theorem Env.kept {W V : World} {N bR bI : Nat} {p m : Int} (h : Env W N bR bI p m) (hk : Kept [] W V) : Env V N bR bI p m := ⟨h.rule.kept hk (by simp), h.span.kept hk (by simp)⟩
end Go.Proofs.Ythlnhmdeoapoeaa.Clash

