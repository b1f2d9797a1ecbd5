/-
  The flights in memory: the walk of Extents.
-/
import Derived.Test.YtollfckgjhklcaaGreatFlG
namespace Go.Proofs.YtollfckgjhklcaaGreat.Flight
open Go.RowKit Go.Maps Go.Sort
open Table (Rising ins del tks)

theorem exts_or (L : List (Int × Fw)) (j : Nat) : ∀ n : Nat, (L.foldl (fun n x => n ||| Span.Math.ext x.2.o x.2.l) n).testBit j = (n.testBit j || L.any fun x => (Span.Math.ext x.2.o x.2.l).testBit j) := by
  induction L with
  | nil => intro n; simp
  | cons x L ih =>
    intro n
    rw [List.foldl_cons, ih, Nat.testBit_or, List.any_cons, Bool.or_assoc]
theorem testBit_exts (L : List (Int × Fw)) (j : Nat) : (exts L).testBit j = L.any fun x => (Span.Math.ext x.2.o x.2.l).testBit j := by
  unfold exts
  rw [exts_or]
  simp
theorem exts_lt (L : List (Int × Fw)) : exts L < 18446744073709551616 := by
  unfold exts
  suffices ∀ n, n < 18446744073709551616 → L.foldl (fun n x => n ||| Span.Math.ext x.2.o x.2.l) n < 18446744073709551616 from this 0 (by omega)
  induction L with
  | nil => intro n h; exact h
  | cons x L ih =>
    intro n h
    exact ih _ (Nat.or_lt_two_pow (n := 64) h (Span.Math.ext_lt _ _))
/-- Those that have come. -/
def come (left : Lit → Bool) (L : List (Int × Fw)) : List (Int × Fw) := L.filter fun x => !left (kl x.1)
theorem come_start {W : World} {lo hi : Nat} {D : DataW Value} {L : List (Int × Fw)} (hD : Has W lo hi D L) (hr : Rising L) (hf : Fit L) : come (Maps.has D) L = [] := by
  unfold come
  rw [List.filter_eq_nil_iff]
  intro x hx
  have := hf.low x hx
  rw [(hD x.1 (wf_i64 (by omega) (by omega))).1, look_some hr hx]
  simp
theorem come_end {left : Lit → Bool} (h : ∀ l, left l = false) (L : List (Int × Fw)) : come left L = L := by
  unfold come
  rw [List.filter_eq_self]
  intro x _
  rw [h]
  rfl
theorem come_step {left : Lit → Bool} {L : List (Int × Fw)} (hf : Fit L) (hr : Rising L) {k : Int} {r : Fw} (hk : (Lit.int .i64 k).wf = true) (hl : Table.look L k = some r) :
    exts (come (fun z => left z && !z.sameKey (kl k)) L) = exts (come left L) ||| Span.Math.ext r.o r.l := by
  apply Nat.eq_of_testBit_eq
  intro j
  rw [Nat.testBit_or, testBit_exts, testBit_exts, Bool.eq_iff_iff]
  unfold come
  simp only [List.any_eq_true, List.mem_filter, Bool.or_eq_true]
  constructor
  · rintro ⟨x, ⟨hx, hc⟩, ht⟩
    have hx2 := hf.low x hx
    have hw := wf_i64 (k := x.1) (by omega) (by omega)
    by_cases e : x.1 = k
    · right
      have := look_some hr hx
      rw [e, hl] at this
      injection this with this
      rw [this]
      exact ht
    · left
      have hs : (kl x.1).sameKey (kl k) = false := by
        cases h : (kl x.1).sameKey (kl k) with
        | false => rfl
        | true => exact absurd (kl_inj hw hk (WideAt.sameKey_eq h)) e
      rw [hs] at hc
      exact ⟨x, ⟨hx, by simpa using hc⟩, ht⟩
  · rintro (⟨x, ⟨hx, hc⟩, ht⟩ | ht)
    · refine ⟨x, ⟨hx, ?_⟩, ht⟩
      simp at hc
      simp [hc]
    · refine ⟨(k, r), ⟨Table.look_mem hl, ?_⟩, ht⟩
      have : (kl k).sameKey (kl k) = true := WideAt.sameKey_self (keyedK.key (keyOf_mk hk))
      simp [this]
set_option maxRecDepth 100000 in
theorem ranges_kept {W W' : World} {K : List Nat} {b r n : Nat} {D : DataW Value} {left : Lit → Bool} {cnt : Nat} (h : W.ranges Tryz.prog 71 rdr b r n D left cnt) (hk : Kept K W W') (hb : b ∉ K) (hr : r ∉ K) : W'.ranges Tryz.prog 71 rdr b r n D left cnt := by
  obtain ⟨es, clock, since, seen, c0, hb', F, hs, hD, hr', rest⟩ := h
  exact ⟨es, clock, since, seen, c0, (hk.block b (Array.getElem?_eq_some_iff.1 hb').1 hb).trans hb', F, hs, hD, (hk.block r (Array.getElem?_eq_some_iff.1 hr').1 hr).trans hr', rest⟩
set_option maxRecDepth 100000 in
theorem ranges_lt {W : World} {b r n : Nat} {D : DataW Value} {left : Lit → Bool} {cnt : Nat} (h : W.ranges Tryz.prog 71 rdr b r n D left cnt) : b < W.heap.size ∧ r < W.heap.size := by
  obtain ⟨es, clock, since, seen, c0, hb', F, hs, hD, hr', rest⟩ := h
  exact ⟨(Array.getElem?_eq_some_iff.1 hb').1, (Array.getElem?_eq_some_iff.1 hr').1⟩
set_option maxRecDepth 100000 in
/-- What comes of a map's entry. -/
theorem entry_is {W : World} {lo hi : Nat} {D : DataW Value} {L : List (Int × Fw)} (hD : Has W lo hi D L) {x : Int} {c : Value} {l : Lit} {y : DataW Value × List MemPlace} (hkey : keyOf Tryz.prog 71 (.agg #[.int .i64 x]) = some l) (hv : rdr c = some y) (hat : ∀ zd, D.atKey l zd = y.1) :
    l = kl x ∧ (Lit.int .i64 x).wf = true ∧ ∃ z : Fv, z.t = x ∧ Table.look L x = some z.fw ∧ z.At lo hi W ∧ c = z.val := by
  obtain ⟨k, e1, e2, hw⟩ := keyOf_inv hkey
  have e3 : x = k := by
    injection e1 with e1
    have := congrArg (fun l : Array Value => l[0]?) e1
    simpa using this
  subst e3
  refine ⟨e2, hw, ?_⟩
  have hh : Maps.has D (kl x) = true := by rw [← e2]; exact has_true_of_atKey hat
  obtain ⟨g1, g2⟩ := hD x hw
  rw [hh] at g1
  obtain ⟨r, hr⟩ := Option.isSome_iff_exists.1 g1.symm
  obtain ⟨z, h1, h2, h3, h4⟩ := g2 r hr
  refine ⟨z, h1, by rw [hr, h2], h3, ?_⟩
  have h5 := h4 (.held .nilFunc)
  rw [← e2, hat] at h5
  unfold rdr at hv
  injection hv with hv
  rw [← hv] at h5
  injection h5 with h5
set_option maxRecDepth 100000 in
set_option maxHeartbeats 2000000 in
/-- Extents -/
theorem extents_any {lo hi f b p : Nat} {F : List Nat} {L : List (Int × Fw)} (w : World) (h : FlAt w lo hi f b p F L) :
    Calls Tryz.prog 18 #[.pointer (some ⟨f, 0, none⟩)] w fun e w' => e = .returned (.int .u64 (exts L : Nat)) ∧ Kept [] w w' := by
  have c1 := h.two.2
  have q := made_any w h
  obtain ⟨D, hown, hs, hD⟩ := h.map.sized h.good.rising h.fit
  have hr0 := h.good.rising
  have hf0 := h.fit
  have hblt := h.map.lt
  go_enter Tryz.func18, Tryz.ntmps18
  go_wp2_with (first
    | (go_at_call 28; refine q.mono ?_; rintro e w ⟨rfl, rfl⟩)
    | (at_range; refine wpList_range_own _ rfl _ 63 rfl 71 39 keyedK Tryz.underlying63 _ b _ D rfl hown ?_; intro w0 hrg0 hg0 hs0)
    | go_in)
  go_frame
  go_loopw [3] (fun v wr => ∃ (left : Lit → Bool) (cnt : Nat), v = .int .u64 (exts (come left L) : Nat) ∧ wr.ranges Tryz.prog 71 rdr b w.heap.size L.length D left cnt ∧ Kept [] w wr) (fun _ wr => wr.rangeLeft b w.heap.size)
  case atStart => exact ⟨_, _, by rw [come_start hD hr0 hf0]; rfl, hrg0, kept_none hg0⟩
  case round =>
    obtain ⟨left, cnt, rfl, hrg, hkr⟩ := hrel
    go_wp2_with (first
      | (at_next; refine wpList_next_ranges _ rfl _ rfl 71 keyedK rdr (fun x : Int => .agg #[.int .i64 x]) (fun c : Value => c) (fun key kl hk => by obtain ⟨x, hx, _⟩ := keyOf_inv hk; exact ⟨x, hx⟩) (fun v y hv => ⟨v, rfl⟩) b w.heap.size _ _ _ _ rfl hrg ?_ ?_)
      | go_in)
    · intro hc0 hl0
      rw [come_end hl0]
      go_wp2
      go_ret
      exact ⟨rfl, hkr⟩
    · intro x c kl' yd yp w2 cnt2 hkey hlk hv hat hrg2 hlt hg2 hs2 hen
      obtain ⟨rfl, hw, z, hz1, hz2, hz3, rfl⟩ := entry_is hD hkey hv hat
      have hstep := come_step (left := left) hf0 hr0 hw hz2
      have hkr2 : Kept [w.heap.size] wr w2 := Kept.of_grown hg2 (by simp)
      have hor := u64_or_nat (exts (come left L)) (Span.Math.ext z.o z.l) (exts_lt _) (Span.Math.ext_lt _ _)
      have qe := fun W => Span.extents_any z.o z.l W
      replace hs2 : Hid _ := hs2
      unfold Fv.val at hen
      go_wp2_with (first
        | (go_at_call 40; refine (qe _).mono ?_; rintro e w5 ⟨rfl, hB5⟩))
      have hk5 := (hkr2.trans (kept_alloc _ _ _)).trans (Kept.of_below hB5 [w.heap.size])
      have hr5 := ranges_kept (ranges_kept hrg2 (kept_alloc [] _ _) (by simp) (by simp)) (Kept.of_below hB5 []) (by simp) (by simp)
      go_roundw
      case rel => exact ⟨_, _, by rw [hstep]; go_num, hr5, hkr.young hk5 (Nat.le_refl _)⟩
      case measure => rw [hr5.left_eq, hrg.left_eq]; exact hlt
end Go.Proofs.YtollfckgjhklcaaGreat.Flight
