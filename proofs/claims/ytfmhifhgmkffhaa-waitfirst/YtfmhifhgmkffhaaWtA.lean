/-
  Items and spans in memory; slices.IndexFunc, slices.ContainsFunc and none, whatever function is handed to them.
-/
import Derived.Test.YtfmhifhgmkffhaaBase
import Derived.Test.YtfmhifhgmkffhaaSpan1
import Derived.Test.YtfmhifhgmkffhaaWtM
import Derived.Deep.LoopGhost
namespace Go.Proofs.Ytfmhifhgmkffhaa.Wait
open Go.RowKit

def It.cells (x : It) : List Value := [.int .i64 x.t, .int .i64 x.k, .int .i64 x.o, .int .i64 x.l]
/-- Items that lie in a slice. -/
def ItsAt (W : World) (a : Option Addr) (len cap : Nat) (L : List It) : Prop :=
  L.length = len ∧ len ≤ cap ∧ (len = 0 ∨ ∃ b off, a = some ⟨b, off, none⟩ ∧ b < W.heap.size ∧ ∀ j x, L[j]? = some x → W.rangeAt b (off + j * 4) x.cells)
/-- Spans that lie in a slice. -/
def SpsAt (W : World) (a : Option Addr) (len cap : Nat) (S : List (Int × Int)) : Prop :=
  S.length = len ∧ len ≤ cap ∧ (len = 0 ∨ ∃ b off, a = some ⟨b, off, none⟩ ∧ b < W.heap.size ∧ ∀ j (x : Int × Int), S[j]? = some x → W.rangeAt b (off + j * 2) [.int .i64 x.1, .int .i64 x.2])
theorem ItsAt.kept {A B : World} {a : Option Addr} {len cap : Nat} {L : List It} (h : ItsAt A a len cap L) (hk : Kept [] A B) : ItsAt B a len cap L := by
  obtain ⟨h1, h2, h3 | ⟨b, off, h3, h4, h5⟩⟩ := h
  · exact ⟨h1, h2, .inl h3⟩
  · exact ⟨h1, h2, .inr ⟨b, off, h3, Nat.lt_of_lt_of_le h4 hk.size, fun j x hx i v hv => (World.cell?_of_block (by exact hk.block b h4 (by simp))).trans (h5 j x hx i v hv)⟩⟩
theorem SpsAt.kept {A B : World} {a : Option Addr} {len cap : Nat} {L : List (Int × Int)} (h : SpsAt A a len cap L) (hk : Kept [] A B) : SpsAt B a len cap L := by
  obtain ⟨h1, h2, h3 | ⟨b, off, h3, h4, h5⟩⟩ := h
  · exact ⟨h1, h2, .inl h3⟩
  · exact ⟨h1, h2, .inr ⟨b, off, h3, Nat.lt_of_lt_of_le h4 hk.size, fun j x hx i v hv => (World.cell?_of_block (by exact hk.block b h4 (by simp))).trans (h5 j x hx i v hv)⟩⟩
theorem its_nil (W : World) : ItsAt W none 0 0 [] := ⟨rfl, Nat.le_refl _, .inl rfl⟩
theorem sps_nil (W : World) : SpsAt W none 0 0 [] := ⟨rfl, Nat.le_refl _, .inl rfl⟩
/-- What lies at a place. -/
theorem ItsAt.at {W : World} {a : Option Addr} {len cap : Nat} {L : List It} (h : ItsAt W a len cap L) {j : Nat} (hj : j < len) :
    ∃ x b off, L[j]? = some x ∧ a = some ⟨b, off, none⟩ ∧ b < W.heap.size ∧ ∀ V, Kept [] W V → V.cell? ⟨b, off + j * 4, none⟩ = some (.int .i64 x.t) ∧ V.cell? ⟨b, off + j * 4 + 1, none⟩ = some (.int .i64 x.k) ∧ V.cell? ⟨b, off + j * 4 + 2, none⟩ = some (.int .i64 x.o) ∧ V.cell? ⟨b, off + j * 4 + 3, none⟩ = some (.int .i64 x.l) := by
  obtain ⟨h1, _, h3 | ⟨b, off, h3, h4, h5⟩⟩ := h
  · omega
  · obtain ⟨x, hx⟩ : ∃ x, L[j]? = some x := ⟨_, List.getElem?_eq_getElem (by rw [h1]; exact hj)⟩
    refine ⟨x, b, off, hx, h3, h4, fun V hk => ?_⟩
    have c := fun i v (hv : x.cells[i]? = some v) => (World.cell?_of_block (a := ⟨b, off + j * 4 + i, none⟩) (by exact hk.block b h4 (by simp))).trans (h5 j x hx i v hv)
    exact ⟨c 0 _ rfl, c 1 _ rfl, c 2 _ rfl, c 3 _ rfl⟩
theorem SpsAt.at {W : World} {a : Option Addr} {len cap : Nat} {L : List (Int × Int)} (h : SpsAt W a len cap L) {j : Nat} (hj : j < len) :
    ∃ (x : Int × Int) (b off : Nat), L[j]? = some x ∧ a = some ⟨b, off, none⟩ ∧ b < W.heap.size ∧ ∀ V, Kept [] W V → V.cell? ⟨b, off + j * 2, none⟩ = some (.int .i64 x.1) ∧ V.cell? ⟨b, off + j * 2 + 1, none⟩ = some (.int .i64 x.2) := by
  obtain ⟨h1, _, h3 | ⟨b, off, h3, h4, h5⟩⟩ := h
  · omega
  · obtain ⟨x, hx⟩ : ∃ x, L[j]? = some x := ⟨_, List.getElem?_eq_getElem (by rw [h1]; exact hj)⟩
    refine ⟨x, b, off, hx, h3, h4, fun V hk => ?_⟩
    have c := fun i v (hv : [Value.int .i64 x.1, Value.int .i64 x.2][i]? = some v) => (World.cell?_of_block (a := ⟨b, off + j * 2 + i, none⟩) (by exact hk.block b h4 (by simp))).trans (h5 j x hx i v hv)
    exact ⟨c 0 _ rfl, c 1 _ rfl⟩
theorem any_hit {α : Type} {L : List α} {p : α → Bool} {j : Nat} {x : α} (hx : L[j]? = some x) (h : p x = true) : L.any p = true := List.any_eq_true.2 ⟨x, List.mem_of_getElem? hx, h⟩
theorem any_miss {α : Type} {L : List α} {p : α → Bool} (h : ∀ i x, i < L.length → L[i]? = some x → p x = false) : L.any p = false := by
  refine List.any_eq_false.2 fun x hx => ?_
  obtain ⟨i, hi⟩ := List.getElem?_of_mem hx
  rw [h i x (List.getElem?_eq_some_iff.1 hi).1 hi]
  simp


set_option maxRecDepth 100000 in
set_option maxHeartbeats 2000000 in
/-- slices.IndexFunc of items, with may21 -/
theorem index_may21 (p : It → Bool) (B : Nat) (a : Option Addr) (len cap : Nat) (L : List (It)) (hl : len ≤ 9223372036854775807) (w : World) (hL : ItsAt w a len cap L)
    (hp : ∀ W (x : It), Kept [] w W → Calls Try.prog 17 #[.agg #[.int .i64 x.t, .int .i64 x.k, .int .i64 x.o, .int .i64 x.l], .pointer (some ⟨B, 0, none⟩)] W fun e w' => e = .returned (.bool (p x)) ∧ Kept [] W w') :
    Calls Try.prog 29 #[.slice a len cap, .func (.func 17) #[] #[.pointer (some ⟨B, 0, none⟩)]] w fun e w' => ∃ r : Int, e = .returned (.int .i64 r) ∧ decide (0 ≤ r) = L.any p ∧ Kept [] w w' := by
  go_enter Try.func29, Try.ntmps29
  go_wp2_with fail
  go_loopg [5, 8] len (fun gg _ s8 wr => ∃ kk : Nat, kk ≤ len ∧ len - kk ≤ gg ∧ s8 = .int .i64 kk ∧ Kept [] w wr ∧ Hid (∀ j x, j < kk → L[j]? = some x → p x = false))
  case atStart => exact ⟨0, Nat.zero_le _, by omega, rfl, Kept.refl _ _, fun j x hj => absurd hj (Nat.not_lt_zero _)⟩
  case round =>
    obtain ⟨kk, hkk, hg, rfl, hk, hA⟩ := hrel
    by_cases hlt : kk < len
    · obtain ⟨x, b, off, hx, rfl, hb, hc⟩ := hL.at hlt
      obtain ⟨c0, c1, c2, c3⟩ := hc wr hk
      have hcall := hp wr x hk
      have i1 : (kk : Int) < (len : Int) := by omega
      have i2 : len ≤ cap := hL.2.1
      have hx' : Hid (L[kk]? = some x) := hx
      clear hc hp hx hL
      cases hq : p x with
      | true =>
        rw [hq] at hcall
        go_wp2_with (go_at_call 17; refine hcall.mono ?_; rintro e w' ⟨rfl, hk'⟩)
        go_ret
        exact ⟨_, rfl, by rw [any_hit hx'.out hq]; simp, hk.trans hk'⟩
      | false =>
        rw [hq] at hcall
        go_wp2_with (go_at_call 17; refine hcall.mono ?_; rintro e w' ⟨rfl, hk'⟩)
        go_roundg (len - (kk + 1))
        case measure => omega
        case rel =>
          refine ⟨kk + 1, by omega, by omega, by go_num, hk.trans hk', fun j y hj hy => ?_⟩
          by_cases e : j = kk
          · subst e
            rw [hx'.out] at hy
            cases hy
            exact hq
          · exact hA.out j y (by omega) hy
    · have hnlt : ¬ ((kk : Int) < (len : Int)) := by omega
      obtain rfl : kk = len := by omega
      have hlen : Hid (L.length = kk) := hL.1
      clear hp hL
      go_wp2_with fail
      go_ret
      exact ⟨_, rfl, by rw [any_miss (fun i x hi hx => hA.out i x (by rw [← hlen.out]; exact hi) hx)]; rfl, hk⟩
set_option maxRecDepth 100000 in
/-- slices.ContainsFunc of items, with may21 -/
theorem contains_may21 (p : It → Bool) (B : Nat) (a : Option Addr) (len cap : Nat) (L : List (It)) (hl : len ≤ 9223372036854775807) (w : World) (hL : ItsAt w a len cap L)
    (hp : ∀ W (x : It), Kept [] w W → Calls Try.prog 17 #[.agg #[.int .i64 x.t, .int .i64 x.k, .int .i64 x.o, .int .i64 x.l], .pointer (some ⟨B, 0, none⟩)] W fun e w' => e = .returned (.bool (p x)) ∧ Kept [] W w') :
    Calls Try.prog 16 #[.slice a len cap, .func (.func 17) #[] #[.pointer (some ⟨B, 0, none⟩)]] w fun e w' => e = .returned (.bool (L.any p)) ∧ Kept [] w w' := by
  have q := index_may21 p B a len cap L hl w hL hp
  clear hp hL
  go_enter Try.func16, Try.ntmps16
  go_wp2_with (go_at_call 29; refine q.mono ?_; rintro e w1 ⟨r, rfl, hr, hk1⟩)
  all_goals (go_ret; exact ⟨by rw [← hr]; simp_all, hk1⟩)

set_option maxRecDepth 100000 in
set_option maxHeartbeats 2000000 in
/-- slices.IndexFunc of items, with may31 -/
theorem index_may31 (p : It → Bool) (B : Nat) (a : Option Addr) (len cap : Nat) (L : List (It)) (hl : len ≤ 9223372036854775807) (w : World) (hL : ItsAt w a len cap L)
    (hp : ∀ W (x : It), Kept [] w W → Calls Try.prog 19 #[.agg #[.int .i64 x.t, .int .i64 x.k, .int .i64 x.o, .int .i64 x.l], .pointer (some ⟨B, 0, none⟩)] W fun e w' => e = .returned (.bool (p x)) ∧ Kept [] W w') :
    Calls Try.prog 29 #[.slice a len cap, .func (.func 19) #[] #[.pointer (some ⟨B, 0, none⟩)]] w fun e w' => ∃ r : Int, e = .returned (.int .i64 r) ∧ decide (0 ≤ r) = L.any p ∧ Kept [] w w' := by
  go_enter Try.func29, Try.ntmps29
  go_wp2_with fail
  go_loopg [5, 8] len (fun gg _ s8 wr => ∃ kk : Nat, kk ≤ len ∧ len - kk ≤ gg ∧ s8 = .int .i64 kk ∧ Kept [] w wr ∧ Hid (∀ j x, j < kk → L[j]? = some x → p x = false))
  case atStart => exact ⟨0, Nat.zero_le _, by omega, rfl, Kept.refl _ _, fun j x hj => absurd hj (Nat.not_lt_zero _)⟩
  case round =>
    obtain ⟨kk, hkk, hg, rfl, hk, hA⟩ := hrel
    by_cases hlt : kk < len
    · obtain ⟨x, b, off, hx, rfl, hb, hc⟩ := hL.at hlt
      obtain ⟨c0, c1, c2, c3⟩ := hc wr hk
      have hcall := hp wr x hk
      have i1 : (kk : Int) < (len : Int) := by omega
      have i2 : len ≤ cap := hL.2.1
      have hx' : Hid (L[kk]? = some x) := hx
      clear hc hp hx hL
      cases hq : p x with
      | true =>
        rw [hq] at hcall
        go_wp2_with (go_at_call 19; refine hcall.mono ?_; rintro e w' ⟨rfl, hk'⟩)
        go_ret
        exact ⟨_, rfl, by rw [any_hit hx'.out hq]; simp, hk.trans hk'⟩
      | false =>
        rw [hq] at hcall
        go_wp2_with (go_at_call 19; refine hcall.mono ?_; rintro e w' ⟨rfl, hk'⟩)
        go_roundg (len - (kk + 1))
        case measure => omega
        case rel =>
          refine ⟨kk + 1, by omega, by omega, by go_num, hk.trans hk', fun j y hj hy => ?_⟩
          by_cases e : j = kk
          · subst e
            rw [hx'.out] at hy
            cases hy
            exact hq
          · exact hA.out j y (by omega) hy
    · have hnlt : ¬ ((kk : Int) < (len : Int)) := by omega
      obtain rfl : kk = len := by omega
      have hlen : Hid (L.length = kk) := hL.1
      clear hp hL
      go_wp2_with fail
      go_ret
      exact ⟨_, rfl, by rw [any_miss (fun i x hi hx => hA.out i x (by rw [← hlen.out]; exact hi) hx)]; rfl, hk⟩
set_option maxRecDepth 100000 in
/-- slices.ContainsFunc of items, with may31 -/
theorem contains_may31 (p : It → Bool) (B : Nat) (a : Option Addr) (len cap : Nat) (L : List (It)) (hl : len ≤ 9223372036854775807) (w : World) (hL : ItsAt w a len cap L)
    (hp : ∀ W (x : It), Kept [] w W → Calls Try.prog 19 #[.agg #[.int .i64 x.t, .int .i64 x.k, .int .i64 x.o, .int .i64 x.l], .pointer (some ⟨B, 0, none⟩)] W fun e w' => e = .returned (.bool (p x)) ∧ Kept [] W w') :
    Calls Try.prog 16 #[.slice a len cap, .func (.func 19) #[] #[.pointer (some ⟨B, 0, none⟩)]] w fun e w' => e = .returned (.bool (L.any p)) ∧ Kept [] w w' := by
  have q := index_may31 p B a len cap L hl w hL hp
  clear hp hL
  go_enter Try.func16, Try.ntmps16
  go_wp2_with (go_at_call 29; refine q.mono ?_; rintro e w1 ⟨r, rfl, hr, hk1⟩)
  all_goals (go_ret; exact ⟨by rw [← hr]; simp_all, hk1⟩)

set_option maxRecDepth 100000 in
set_option maxHeartbeats 2000000 in
/-- slices.IndexFunc of items, with may51 -/
theorem index_may51 (p : It → Bool) (a : Option Addr) (len cap : Nat) (L : List (It)) (hl : len ≤ 9223372036854775807) (w : World) (hL : ItsAt w a len cap L)
    (hp : ∀ W (x : It), Kept [] w W → Calls Try.prog 23 #[.agg #[.int .i64 x.t, .int .i64 x.k, .int .i64 x.o, .int .i64 x.l]] W fun e w' => e = .returned (.bool (p x)) ∧ Kept [] W w') :
    Calls Try.prog 29 #[.slice a len cap, .func (.func 23) #[] #[]] w fun e w' => ∃ r : Int, e = .returned (.int .i64 r) ∧ decide (0 ≤ r) = L.any p ∧ Kept [] w w' := by
  go_enter Try.func29, Try.ntmps29
  go_wp2_with fail
  go_loopg [5, 8] len (fun gg _ s8 wr => ∃ kk : Nat, kk ≤ len ∧ len - kk ≤ gg ∧ s8 = .int .i64 kk ∧ Kept [] w wr ∧ Hid (∀ j x, j < kk → L[j]? = some x → p x = false))
  case atStart => exact ⟨0, Nat.zero_le _, by omega, rfl, Kept.refl _ _, fun j x hj => absurd hj (Nat.not_lt_zero _)⟩
  case round =>
    obtain ⟨kk, hkk, hg, rfl, hk, hA⟩ := hrel
    by_cases hlt : kk < len
    · obtain ⟨x, b, off, hx, rfl, hb, hc⟩ := hL.at hlt
      obtain ⟨c0, c1, c2, c3⟩ := hc wr hk
      have hcall := hp wr x hk
      have i1 : (kk : Int) < (len : Int) := by omega
      have i2 : len ≤ cap := hL.2.1
      have hx' : Hid (L[kk]? = some x) := hx
      clear hc hp hx hL
      cases hq : p x with
      | true =>
        rw [hq] at hcall
        go_wp2_with (go_at_call 23; refine hcall.mono ?_; rintro e w' ⟨rfl, hk'⟩)
        go_ret
        exact ⟨_, rfl, by rw [any_hit hx'.out hq]; simp, hk.trans hk'⟩
      | false =>
        rw [hq] at hcall
        go_wp2_with (go_at_call 23; refine hcall.mono ?_; rintro e w' ⟨rfl, hk'⟩)
        go_roundg (len - (kk + 1))
        case measure => omega
        case rel =>
          refine ⟨kk + 1, by omega, by omega, by go_num, hk.trans hk', fun j y hj hy => ?_⟩
          by_cases e : j = kk
          · subst e
            rw [hx'.out] at hy
            cases hy
            exact hq
          · exact hA.out j y (by omega) hy
    · have hnlt : ¬ ((kk : Int) < (len : Int)) := by omega
      obtain rfl : kk = len := by omega
      have hlen : Hid (L.length = kk) := hL.1
      clear hp hL
      go_wp2_with fail
      go_ret
      exact ⟨_, rfl, by rw [any_miss (fun i x hi hx => hA.out i x (by rw [← hlen.out]; exact hi) hx)]; rfl, hk⟩
set_option maxRecDepth 100000 in
/-- slices.ContainsFunc of items, with may51 -/
theorem contains_may51 (p : It → Bool) (a : Option Addr) (len cap : Nat) (L : List (It)) (hl : len ≤ 9223372036854775807) (w : World) (hL : ItsAt w a len cap L)
    (hp : ∀ W (x : It), Kept [] w W → Calls Try.prog 23 #[.agg #[.int .i64 x.t, .int .i64 x.k, .int .i64 x.o, .int .i64 x.l]] W fun e w' => e = .returned (.bool (p x)) ∧ Kept [] W w') :
    Calls Try.prog 16 #[.slice a len cap, .func (.func 23) #[] #[]] w fun e w' => e = .returned (.bool (L.any p)) ∧ Kept [] w w' := by
  have q := index_may51 p a len cap L hl w hL hp
  clear hp hL
  go_enter Try.func16, Try.ntmps16
  go_wp2_with (go_at_call 29; refine q.mono ?_; rintro e w1 ⟨r, rfl, hr, hk1⟩)
  all_goals (go_ret; exact ⟨by rw [← hr]; simp_all, hk1⟩)

set_option maxRecDepth 100000 in
set_option maxHeartbeats 2000000 in
/-- slices.IndexFunc of items, with may61 -/
theorem index_may61 (p : It → Bool) (B : Nat) (a : Option Addr) (len cap : Nat) (L : List (It)) (hl : len ≤ 9223372036854775807) (w : World) (hL : ItsAt w a len cap L)
    (hp : ∀ W (x : It), Kept [] w W → Calls Try.prog 25 #[.agg #[.int .i64 x.t, .int .i64 x.k, .int .i64 x.o, .int .i64 x.l], .pointer (some ⟨B, 0, none⟩)] W fun e w' => e = .returned (.bool (p x)) ∧ Kept [] W w') :
    Calls Try.prog 29 #[.slice a len cap, .func (.func 25) #[] #[.pointer (some ⟨B, 0, none⟩)]] w fun e w' => ∃ r : Int, e = .returned (.int .i64 r) ∧ decide (0 ≤ r) = L.any p ∧ Kept [] w w' := by
  go_enter Try.func29, Try.ntmps29
  go_wp2_with fail
  go_loopg [5, 8] len (fun gg _ s8 wr => ∃ kk : Nat, kk ≤ len ∧ len - kk ≤ gg ∧ s8 = .int .i64 kk ∧ Kept [] w wr ∧ Hid (∀ j x, j < kk → L[j]? = some x → p x = false))
  case atStart => exact ⟨0, Nat.zero_le _, by omega, rfl, Kept.refl _ _, fun j x hj => absurd hj (Nat.not_lt_zero _)⟩
  case round =>
    obtain ⟨kk, hkk, hg, rfl, hk, hA⟩ := hrel
    by_cases hlt : kk < len
    · obtain ⟨x, b, off, hx, rfl, hb, hc⟩ := hL.at hlt
      obtain ⟨c0, c1, c2, c3⟩ := hc wr hk
      have hcall := hp wr x hk
      have i1 : (kk : Int) < (len : Int) := by omega
      have i2 : len ≤ cap := hL.2.1
      have hx' : Hid (L[kk]? = some x) := hx
      clear hc hp hx hL
      cases hq : p x with
      | true =>
        rw [hq] at hcall
        go_wp2_with (go_at_call 25; refine hcall.mono ?_; rintro e w' ⟨rfl, hk'⟩)
        go_ret
        exact ⟨_, rfl, by rw [any_hit hx'.out hq]; simp, hk.trans hk'⟩
      | false =>
        rw [hq] at hcall
        go_wp2_with (go_at_call 25; refine hcall.mono ?_; rintro e w' ⟨rfl, hk'⟩)
        go_roundg (len - (kk + 1))
        case measure => omega
        case rel =>
          refine ⟨kk + 1, by omega, by omega, by go_num, hk.trans hk', fun j y hj hy => ?_⟩
          by_cases e : j = kk
          · subst e
            rw [hx'.out] at hy
            cases hy
            exact hq
          · exact hA.out j y (by omega) hy
    · have hnlt : ¬ ((kk : Int) < (len : Int)) := by omega
      obtain rfl : kk = len := by omega
      have hlen : Hid (L.length = kk) := hL.1
      clear hp hL
      go_wp2_with fail
      go_ret
      exact ⟨_, rfl, by rw [any_miss (fun i x hi hx => hA.out i x (by rw [← hlen.out]; exact hi) hx)]; rfl, hk⟩
set_option maxRecDepth 100000 in
/-- slices.ContainsFunc of items, with may61 -/
theorem contains_may61 (p : It → Bool) (B : Nat) (a : Option Addr) (len cap : Nat) (L : List (It)) (hl : len ≤ 9223372036854775807) (w : World) (hL : ItsAt w a len cap L)
    (hp : ∀ W (x : It), Kept [] w W → Calls Try.prog 25 #[.agg #[.int .i64 x.t, .int .i64 x.k, .int .i64 x.o, .int .i64 x.l], .pointer (some ⟨B, 0, none⟩)] W fun e w' => e = .returned (.bool (p x)) ∧ Kept [] W w') :
    Calls Try.prog 16 #[.slice a len cap, .func (.func 25) #[] #[.pointer (some ⟨B, 0, none⟩)]] w fun e w' => e = .returned (.bool (L.any p)) ∧ Kept [] w w' := by
  have q := index_may61 p B a len cap L hl w hL hp
  clear hp hL
  go_enter Try.func16, Try.ntmps16
  go_wp2_with (go_at_call 29; refine q.mono ?_; rintro e w1 ⟨r, rfl, hr, hk1⟩)
  all_goals (go_ret; exact ⟨by rw [← hr]; simp_all, hk1⟩)

set_option maxRecDepth 100000 in
set_option maxHeartbeats 2000000 in
/-- slices.IndexFunc of spans, with may1 -/
theorem index_may1 (p : Int × Int → Bool) (B : Nat) (a : Option Addr) (len cap : Nat) (L : List (Int × Int)) (hl : len ≤ 9223372036854775807) (w : World) (hL : SpsAt w a len cap L)
    (hp : ∀ W (x : Int × Int), Kept [] w W → Calls Try.prog 13 #[.agg #[.int .i64 x.1, .int .i64 x.2], .pointer (some ⟨B, 0, none⟩)] W fun e w' => e = .returned (.bool (p x)) ∧ Kept [] W w') :
    Calls Try.prog 30 #[.slice a len cap, .func (.func 13) #[] #[.pointer (some ⟨B, 0, none⟩)]] w fun e w' => ∃ r : Int, e = .returned (.int .i64 r) ∧ decide (0 ≤ r) = L.any p ∧ Kept [] w w' := by
  go_enter Try.func30, Try.ntmps30
  go_wp2_with fail
  go_loopg [5, 8] len (fun gg _ s8 wr => ∃ kk : Nat, kk ≤ len ∧ len - kk ≤ gg ∧ s8 = .int .i64 kk ∧ Kept [] w wr ∧ Hid (∀ j x, j < kk → L[j]? = some x → p x = false))
  case atStart => exact ⟨0, Nat.zero_le _, by omega, rfl, Kept.refl _ _, fun j x hj => absurd hj (Nat.not_lt_zero _)⟩
  case round =>
    obtain ⟨kk, hkk, hg, rfl, hk, hA⟩ := hrel
    by_cases hlt : kk < len
    · obtain ⟨x, b, off, hx, rfl, hb, hc⟩ := hL.at hlt
      obtain ⟨c0, c1⟩ := hc wr hk
      have hcall := hp wr x hk
      have i1 : (kk : Int) < (len : Int) := by omega
      have i2 : len ≤ cap := hL.2.1
      have hx' : Hid (L[kk]? = some x) := hx
      clear hc hp hx hL
      cases hq : p x with
      | true =>
        rw [hq] at hcall
        go_wp2_with (go_at_call 13; refine hcall.mono ?_; rintro e w' ⟨rfl, hk'⟩)
        go_ret
        exact ⟨_, rfl, by rw [any_hit hx'.out hq]; simp, hk.trans hk'⟩
      | false =>
        rw [hq] at hcall
        go_wp2_with (go_at_call 13; refine hcall.mono ?_; rintro e w' ⟨rfl, hk'⟩)
        go_roundg (len - (kk + 1))
        case measure => omega
        case rel =>
          refine ⟨kk + 1, by omega, by omega, by go_num, hk.trans hk', fun j y hj hy => ?_⟩
          by_cases e : j = kk
          · subst e
            rw [hx'.out] at hy
            cases hy
            exact hq
          · exact hA.out j y (by omega) hy
    · have hnlt : ¬ ((kk : Int) < (len : Int)) := by omega
      obtain rfl : kk = len := by omega
      have hlen : Hid (L.length = kk) := hL.1
      clear hp hL
      go_wp2_with fail
      go_ret
      exact ⟨_, rfl, by rw [any_miss (fun i x hi hx => hA.out i x (by rw [← hlen.out]; exact hi) hx)]; rfl, hk⟩
set_option maxRecDepth 100000 in
/-- slices.ContainsFunc of spans, with may1 -/
theorem contains_may1 (p : Int × Int → Bool) (B : Nat) (a : Option Addr) (len cap : Nat) (L : List (Int × Int)) (hl : len ≤ 9223372036854775807) (w : World) (hL : SpsAt w a len cap L)
    (hp : ∀ W (x : Int × Int), Kept [] w W → Calls Try.prog 13 #[.agg #[.int .i64 x.1, .int .i64 x.2], .pointer (some ⟨B, 0, none⟩)] W fun e w' => e = .returned (.bool (p x)) ∧ Kept [] W w') :
    Calls Try.prog 21 #[.slice a len cap, .func (.func 13) #[] #[.pointer (some ⟨B, 0, none⟩)]] w fun e w' => e = .returned (.bool (L.any p)) ∧ Kept [] w w' := by
  have q := index_may1 p B a len cap L hl w hL hp
  clear hp hL
  go_enter Try.func21, Try.ntmps21
  go_wp2_with (go_at_call 30; refine q.mono ?_; rintro e w1 ⟨r, rfl, hr, hk1⟩)
  all_goals (go_ret; exact ⟨by rw [← hr]; simp_all, hk1⟩)

set_option maxRecDepth 100000 in
set_option maxHeartbeats 2000000 in
/-- none, of a read's closures -/
theorem none_read (bA bC bF g : Nat) (tg : TypeId) (r0 r1 : Bool) (w : World) (hg : Blk w g tg #[.func (.func 15) #[] #[.pointer (some ⟨bF, 0, none⟩), .pointer (some ⟨bC, 0, none⟩)], .func (.func 18) #[] #[.pointer (some ⟨bA, 0, none⟩), .pointer (some ⟨bC, 0, none⟩)]])
    (q0 : ∀ W, Kept [] w W → Calls Try.prog 15 #[.pointer (some ⟨bF, 0, none⟩), .pointer (some ⟨bC, 0, none⟩)] W fun e w' => e = .returned (.bool r0) ∧ Kept [] W w')
    (q1 : ∀ W, Kept [] w W → Calls Try.prog 18 #[.pointer (some ⟨bA, 0, none⟩), .pointer (some ⟨bC, 0, none⟩)] W fun e w' => e = .returned (.bool r1) ∧ Kept [] W w') :
    Calls Try.prog 26 #[.slice (some ⟨g, 0, none⟩) 2 2] w fun e w' => e = .returned (.bool (!([r0, r1].any id))) ∧ Kept [] w w' := by
  go_enter Try.func26, Try.ntmps26
  go_wp2_with fail
  go_loopw [7] (fun i wr => (i = .int .i64 0 ∧ Kept [] w wr) ∨ (i = .int .i64 1 ∧ Hid (r0 = false) ∧ Kept [] w wr) ∨ (i = .int .i64 2 ∧ Hid (r0 = false) ∧ Hid (r1 = false) ∧ Kept [] w wr)) (fun i _ => 2 - (RowKit.intOf i).toNat)
  case atStart => exact .inl ⟨rfl, Kept.refl _ _⟩
  case round =>
    rcases hrel with ⟨rfl, hk⟩ | ⟨rfl, z0, hk⟩ | ⟨rfl, z0, z1, hk⟩
    · have c0 := ((hg.kept hk (by simp)).cell 0).trans (show _ = some (Value.func (.func 15) #[] #[.pointer (some ⟨bF, 0, none⟩), .pointer (some ⟨bC, 0, none⟩)]) from rfl)
      have qq := q0 wr hk
      cases r0 with
      | true =>
        clear hg
        go_wp2_with (go_at_call 15; refine qq.mono ?_; rintro e w1 ⟨rfl, hk1⟩)
        go_ret
        exact ⟨by simp, hk.trans hk1⟩
      | false =>
        clear hg
        go_wp2_with (go_at_call 15; refine qq.mono ?_; rintro e w1 ⟨rfl, hk1⟩)
        go_roundw
        case rel => exact .inr (.inl ⟨rfl, trivial, hk.trans hk1⟩)
        case measure => simp [RowKit.intOf]
    · have c0 := ((hg.kept hk (by simp)).cell 1).trans (show _ = some (Value.func (.func 18) #[] #[.pointer (some ⟨bA, 0, none⟩), .pointer (some ⟨bC, 0, none⟩)]) from rfl)
      have qq := q1 wr hk
      cases r1 with
      | true =>
        clear hg
        go_wp2_with (go_at_call 18; refine qq.mono ?_; rintro e w1 ⟨rfl, hk1⟩)
        go_ret
        exact ⟨by simp, hk.trans hk1⟩
      | false =>
        clear hg
        go_wp2_with (go_at_call 18; refine qq.mono ?_; rintro e w1 ⟨rfl, hk1⟩)
        go_roundw
        case rel => exact .inr (.inr (⟨rfl, z0, trivial, hk.trans hk1⟩))
        case measure => simp [RowKit.intOf]
    · go_wp2_with fail
      go_ret
      exact ⟨by simp [z0.out, z1.out], hk⟩

set_option maxRecDepth 100000 in
set_option maxHeartbeats 2000000 in
/-- none, of a write's closures -/
theorem none_write (bA bC bF bL g : Nat) (tg : TypeId) (r0 r1 r2 : Bool) (w : World) (hg : Blk w g tg #[.func (.func 15) #[] #[.pointer (some ⟨bF, 0, none⟩), .pointer (some ⟨bC, 0, none⟩)], .func (.func 18) #[] #[.pointer (some ⟨bA, 0, none⟩), .pointer (some ⟨bC, 0, none⟩)], .func (.func 20) #[] #[.pointer (some ⟨bL, 0, none⟩), .pointer (some ⟨bC, 0, none⟩)]])
    (q0 : ∀ W, Kept [] w W → Calls Try.prog 15 #[.pointer (some ⟨bF, 0, none⟩), .pointer (some ⟨bC, 0, none⟩)] W fun e w' => e = .returned (.bool r0) ∧ Kept [] W w')
    (q1 : ∀ W, Kept [] w W → Calls Try.prog 18 #[.pointer (some ⟨bA, 0, none⟩), .pointer (some ⟨bC, 0, none⟩)] W fun e w' => e = .returned (.bool r1) ∧ Kept [] W w')
    (q2 : ∀ W, Kept [] w W → Calls Try.prog 20 #[.pointer (some ⟨bL, 0, none⟩), .pointer (some ⟨bC, 0, none⟩)] W fun e w' => e = .returned (.bool r2) ∧ Kept [] W w') :
    Calls Try.prog 26 #[.slice (some ⟨g, 0, none⟩) 3 3] w fun e w' => e = .returned (.bool (!([r0, r1, r2].any id))) ∧ Kept [] w w' := by
  go_enter Try.func26, Try.ntmps26
  go_wp2_with fail
  go_loopw [7] (fun i wr => (i = .int .i64 0 ∧ Kept [] w wr) ∨ (i = .int .i64 1 ∧ Hid (r0 = false) ∧ Kept [] w wr) ∨ (i = .int .i64 2 ∧ Hid (r0 = false) ∧ Hid (r1 = false) ∧ Kept [] w wr) ∨ (i = .int .i64 3 ∧ Hid (r0 = false) ∧ Hid (r1 = false) ∧ Hid (r2 = false) ∧ Kept [] w wr)) (fun i _ => 3 - (RowKit.intOf i).toNat)
  case atStart => exact .inl ⟨rfl, Kept.refl _ _⟩
  case round =>
    rcases hrel with ⟨rfl, hk⟩ | ⟨rfl, z0, hk⟩ | ⟨rfl, z0, z1, hk⟩ | ⟨rfl, z0, z1, z2, hk⟩
    · have c0 := ((hg.kept hk (by simp)).cell 0).trans (show _ = some (Value.func (.func 15) #[] #[.pointer (some ⟨bF, 0, none⟩), .pointer (some ⟨bC, 0, none⟩)]) from rfl)
      have qq := q0 wr hk
      cases r0 with
      | true =>
        clear hg
        go_wp2_with (go_at_call 15; refine qq.mono ?_; rintro e w1 ⟨rfl, hk1⟩)
        go_ret
        exact ⟨by simp, hk.trans hk1⟩
      | false =>
        clear hg
        go_wp2_with (go_at_call 15; refine qq.mono ?_; rintro e w1 ⟨rfl, hk1⟩)
        go_roundw
        case rel => exact .inr (.inl ⟨rfl, trivial, hk.trans hk1⟩)
        case measure => simp [RowKit.intOf]
    · have c0 := ((hg.kept hk (by simp)).cell 1).trans (show _ = some (Value.func (.func 18) #[] #[.pointer (some ⟨bA, 0, none⟩), .pointer (some ⟨bC, 0, none⟩)]) from rfl)
      have qq := q1 wr hk
      cases r1 with
      | true =>
        clear hg
        go_wp2_with (go_at_call 18; refine qq.mono ?_; rintro e w1 ⟨rfl, hk1⟩)
        go_ret
        exact ⟨by simp, hk.trans hk1⟩
      | false =>
        clear hg
        go_wp2_with (go_at_call 18; refine qq.mono ?_; rintro e w1 ⟨rfl, hk1⟩)
        go_roundw
        case rel => exact .inr (.inr (.inl ⟨rfl, z0, trivial, hk.trans hk1⟩))
        case measure => simp [RowKit.intOf]
    · have c0 := ((hg.kept hk (by simp)).cell 2).trans (show _ = some (Value.func (.func 20) #[] #[.pointer (some ⟨bL, 0, none⟩), .pointer (some ⟨bC, 0, none⟩)]) from rfl)
      have qq := q2 wr hk
      cases r2 with
      | true =>
        clear hg
        go_wp2_with (go_at_call 20; refine qq.mono ?_; rintro e w1 ⟨rfl, hk1⟩)
        go_ret
        exact ⟨by simp, hk.trans hk1⟩
      | false =>
        clear hg
        go_wp2_with (go_at_call 20; refine qq.mono ?_; rintro e w1 ⟨rfl, hk1⟩)
        go_roundw
        case rel => exact .inr (.inr (.inr (⟨rfl, z0, z1, trivial, hk.trans hk1⟩)))
        case measure => simp [RowKit.intOf]
    · go_wp2_with fail
      go_ret
      exact ⟨by simp [z0.out, z1.out, z2.out], hk⟩

set_option maxRecDepth 100000 in
set_option maxHeartbeats 2000000 in
/-- none, of a flush's closures -/
theorem none_flush (bI bA bF g : Nat) (tg : TypeId) (r0 r1 : Bool) (w : World) (hg : Blk w g tg #[.func (.func 22) #[] #[.pointer (some ⟨bA, 0, none⟩)], .func (.func 24) #[] #[.pointer (some ⟨bF, 0, none⟩), .pointer (some ⟨bI, 0, none⟩)]])
    (q0 : ∀ W, Kept [] w W → Calls Try.prog 22 #[.pointer (some ⟨bA, 0, none⟩)] W fun e w' => e = .returned (.bool r0) ∧ Kept [] W w')
    (q1 : ∀ W, Kept [] w W → Calls Try.prog 24 #[.pointer (some ⟨bF, 0, none⟩), .pointer (some ⟨bI, 0, none⟩)] W fun e w' => e = .returned (.bool r1) ∧ Kept [] W w') :
    Calls Try.prog 26 #[.slice (some ⟨g, 0, none⟩) 2 2] w fun e w' => e = .returned (.bool (!([r0, r1].any id))) ∧ Kept [] w w' := by
  go_enter Try.func26, Try.ntmps26
  go_wp2_with fail
  go_loopw [7] (fun i wr => (i = .int .i64 0 ∧ Kept [] w wr) ∨ (i = .int .i64 1 ∧ Hid (r0 = false) ∧ Kept [] w wr) ∨ (i = .int .i64 2 ∧ Hid (r0 = false) ∧ Hid (r1 = false) ∧ Kept [] w wr)) (fun i _ => 2 - (RowKit.intOf i).toNat)
  case atStart => exact .inl ⟨rfl, Kept.refl _ _⟩
  case round =>
    rcases hrel with ⟨rfl, hk⟩ | ⟨rfl, z0, hk⟩ | ⟨rfl, z0, z1, hk⟩
    · have c0 := ((hg.kept hk (by simp)).cell 0).trans (show _ = some (Value.func (.func 22) #[] #[.pointer (some ⟨bA, 0, none⟩)]) from rfl)
      have qq := q0 wr hk
      cases r0 with
      | true =>
        clear hg
        go_wp2_with (go_at_call 22; refine qq.mono ?_; rintro e w1 ⟨rfl, hk1⟩)
        go_ret
        exact ⟨by simp, hk.trans hk1⟩
      | false =>
        clear hg
        go_wp2_with (go_at_call 22; refine qq.mono ?_; rintro e w1 ⟨rfl, hk1⟩)
        go_roundw
        case rel => exact .inr (.inl ⟨rfl, trivial, hk.trans hk1⟩)
        case measure => simp [RowKit.intOf]
    · have c0 := ((hg.kept hk (by simp)).cell 1).trans (show _ = some (Value.func (.func 24) #[] #[.pointer (some ⟨bF, 0, none⟩), .pointer (some ⟨bI, 0, none⟩)]) from rfl)
      have qq := q1 wr hk
      cases r1 with
      | true =>
        clear hg
        go_wp2_with (go_at_call 24; refine qq.mono ?_; rintro e w1 ⟨rfl, hk1⟩)
        go_ret
        exact ⟨by simp, hk.trans hk1⟩
      | false =>
        clear hg
        go_wp2_with (go_at_call 24; refine qq.mono ?_; rintro e w1 ⟨rfl, hk1⟩)
        go_roundw
        case rel => exact .inr (.inr (⟨rfl, z0, trivial, hk.trans hk1⟩))
        case measure => simp [RowKit.intOf]
    · go_wp2_with fail
      go_ret
      exact ⟨by simp [z0.out, z1.out], hk⟩
end Go.Proofs.Ytfmhifhgmkffhaa.Wait
