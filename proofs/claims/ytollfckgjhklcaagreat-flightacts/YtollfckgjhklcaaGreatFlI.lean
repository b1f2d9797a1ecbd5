/-
  The values of the map, in whatever order they come: maps.Values, and slices.Collect of what it tells.
-/
import Derived.Test.YtollfckgjhklcaaGreatFlH
import Derived.RangeFuncNested
import Derived.RangeFuncBox
import Derived.RangeFuncLeaves
import Derived.RangeFuncCalls
import Derived.RangeFuncMany
import Derived.Shelf.Abstract
import Derived.Shelf.RegionOpen
import Derived.OwnWalkIn
import Derived.TacticsInMore
import Derived.LoopNIn
import Derived.LoopIn
import Derived.Maps.AppendAt
namespace Go.Proofs.YtollfckgjhklcaaGreat.Flight
open Go.RowKit Go.Maps Go.Sort Go.Shelf
open Table (Rising ins del tks)

attribute [local go_sem] Oper.semAt_some

/-- What has come of the map's values. -/
structure Came (W : World) (lo hi : Nat) (D : DataW Value) (L : List (Int × Fw)) (left : Lit → Bool) (xs : List Fv) : Prop where
  nodup : (xs.map (·.t)).Nodup
  mem : ∀ k, (Lit.int .i64 k).wf = true → (k ∈ xs.map (·.t) ↔ Maps.has D (kl k) = true ∧ left (kl k) = false)
  each : ∀ x ∈ xs, Table.look L x.t = some x.fw ∧ x.At lo hi W
theorem came_start (W : World) (lo hi : Nat) (D : DataW Value) (L : List (Int × Fw)) : Came W lo hi D L (Maps.has D) [] :=
  ⟨List.nodup_nil, fun k _ => by cases Maps.has D (kl k) <;> simp, by simp⟩
theorem Came.step {W : World} {lo hi : Nat} {D : DataW Value} {L : List (Int × Fw)} {left : Lit → Bool} {xs : List Fv} (h : Came W lo hi D L left xs) {z : Fv} (hw : (Lit.int .i64 z.t).wf = true) (hl : left (kl z.t) = true) (hz : Table.look L z.t = some z.fw) (hA : z.At lo hi W) (hD : Has W lo hi D L) :
    Came W lo hi D L (fun y => left y && !y.sameKey (kl z.t)) (xs ++ [z]) := by
  have hhas : Maps.has D (kl z.t) = true := by rw [(hD z.t hw).1, hz]; rfl
  have hself : (kl z.t).sameKey (kl z.t) = true := WideAt.sameKey_self (keyedK.key (keyOf_mk hw))
  refine ⟨?_, fun k hk => ?_, fun x hx => ?_⟩
  · rw [List.map_append, List.nodup_append]
    refine ⟨h.nodup, by simp, fun a ha b hb => ?_⟩
    simp at hb
    subst hb
    rintro rfl
    have := ((h.mem z.t hw).1 ha).2
    rw [hl] at this
    cases this
  · rw [List.map_append, List.mem_append, h.mem k hk]
    by_cases e : k = z.t
    · subst e
      simp [hhas, hself]
    · have hs : (kl k).sameKey (kl z.t) = false := by
        cases h : (kl k).sameKey (kl z.t) with
        | false => rfl
        | true => exact absurd (kl_inj hk hw (WideAt.sameKey_eq h)) e
      simp [hs, e]
  · rcases List.mem_append.1 hx with hx | hx
    · exact h.each x hx
    · simp at hx
      subst hx
      exact ⟨hz, hA⟩
/-- All have come. -/
def AllOf (W : World) (lo hi : Nat) (L : List (Int × Fw)) (xs : List Fv) : Prop := (xs.map fun x => (x.t, x.fw)).Perm L ∧ ∀ x ∈ xs, x.At lo hi W
theorem Came.all {W : World} {lo hi : Nat} {D : DataW Value} {L : List (Int × Fw)} {left : Lit → Bool} {xs : List Fv} (h : Came W lo hi D L left xs) (hl : ∀ l, left l = false) (hD : Has W lo hi D L) (hr : Rising L) (hf : Fit L) : AllOf W lo hi L xs := by
  refine ⟨(List.perm_ext_iff_of_nodup ?_ ?_).2 fun p => ?_, fun x hx => (h.each x hx).2⟩
  · have := h.nodup
    rw [List.nodup_iff_pairwise_ne, List.pairwise_map] at this ⊢
    exact this.imp fun hne e => hne (congrArg Prod.fst e)
  · exact hr.imp fun h e => by rw [e] at h; omega
  · constructor
    · intro hp
      obtain ⟨x, hx, rfl⟩ := List.mem_map.1 hp
      exact Table.look_mem (h.each x hx).1
    · intro hp
      have hlow := hf.low p hp
      have hlk := look_some hr hp
      have hw := wf_i64 (k := p.1) (by omega) (by omega)
      have hm := (h.mem p.1 hw).2 ⟨by rw [(hD p.1 hw).1, hlk]; rfl, hl _⟩
      obtain ⟨x, hx, hxt⟩ := List.mem_map.1 hm
      refine List.mem_map.2 ⟨x, hx, ?_⟩
      have := (h.each x hx).1
      rw [hxt, hlk] at this
      injection this with this
      rw [hxt, ← this]
set_option maxRecDepth 100000 in
set_option maxHeartbeats 2000000 in
/-- maps.Values' closure, for every loop body that keeps the walks. -/
theorem values1_in (F : Fence) (n : Nat) (hf : F.fn 72) (hro : F.round = none) (hn : 1 ≤ n) (l Bm b nn lo hi : Nat) (D : DataW Value) (L : List (Int × Fw)) (w0 : World) (hD : Has w0 lo hi D L) (hr : Rising L) (hft : Fit L) (J Jx : List Fv → World → Prop)
    (hY : ∀ pre x W, J pre W → pre.length < Maps.size D → YieldAt F (n - 1) Tryz.prog l #[x.val] W fun e W' =>
      (e = .returned (.bool true) ∧ J (pre ++ [x]) W' ∧ KeepsWalks W W') ∨ (e = .returned (.bool false) ∧ Jx (pre ++ [x]) W'))
    (W : World) (hJ : AbidesFrom W.heap.size J) (hm : W.cell? ⟨Bm, 0, none⟩ = some (.map (some b))) (hown : W.ownsMap Tryz.prog 71 rdr b nn D) (h0 : J [] W) :
    CallsIn F n Tryz.prog 72 #[.func (.yield l) #[] #[], .pointer (some ⟨Bm, 0, none⟩)] W fun e W' => (∃ v, e = .returned v) ∧
      ((∃ xs, AllOf w0 lo hi L xs ∧ J xs W') ∨ (∃ pre, True ∧ Jx pre W')) := by
  refine callsIn_of_wp Tryz.func72 rfl hf ?_ hro
  simp only [Tryz.ntmps72, List.size_toArray, List.length_cons, List.length_nil, Nat.reduceAdd, Nat.reduceSub, Array.replicate_succ, Array.replicate_zero, List.push_toArray, List.append_toArray, List.nil_append, List.cons_append]
  gi_wp2_with (first
    | (gi_at_range; refine wpListIn_range_own _ rfl _ 63 rfl 71 39 keyedK Tryz.underlying63 _ b nn _ rfl hown ?_; intro w1 hrg0 hg0 hs0)
    | gi_in)
  go_frame
  gi_loopw [4] (fun _ wr => ∃ (left : Lit → Bool) (cnt : Nat) (xs : List Fv), wr.ranges Tryz.prog 71 rdr b W.heap.size nn D left cnt ∧ xs.length + cnt ≤ Maps.size D ∧ Came w0 lo hi D L left xs ∧ J xs wr)
    (fun _ wr => wr.rangeLeft b W.heap.size)
  case atStart =>
    exact ⟨_, _, [], hrg0, by simp, came_start w0 lo hi D L, hJ [] W w1 none h0 hg0 (fun r e => by cases e)⟩
  case round =>
    obtain ⟨left, cnt, xs, hrg, hcs, hC, hJs⟩ := hrel
    gi_wp2_with (first
      | (gi_at_next; refine wpListIn_next_ranges _ rfl _ rfl 71 keyedK rdr (fun x : Int => .agg #[.int .i64 x]) (fun c : Value => c) (fun key kl hk => by obtain ⟨x, hx, _⟩ := keyOf_inv hk; exact ⟨x, hx⟩) (fun v y hv => ⟨v, rfl⟩) b W.heap.size nn _ _ _ rfl hrg ?_ ?_)
      | gi_in)
    · intro hc0 hl0
      gi_wp2
      go_end0
      exact ⟨⟨_, rfl⟩, .inl ⟨xs, hC.all hl0 hD hr hft, hJs⟩⟩
    · intro x c kl' yd yp w2 cnt2 hkey hlk hv hat hrg2 hlt hg2 hs2 hen
      obtain ⟨rfl, hw, z, hz1, hz2, hz3, rfl⟩ := entry_is hD hkey hv hat
      subst hz1
      have hC2 := hC.step hw hlk hz2 hz3 hD
      have hJ2 : J xs w2 := hJ _ wr w2 (some W.heap.size) hJs hg2 (fun r e => by cases e; exact ⟨Nat.le_refl _, hrg.iter_walk⟩)
      have hJ3 := fun o => hJ _ w2 (w2.alloc o) none hJ2 (World.grownBy_alloc w2 o none) (fun r e => by cases e)
      obtain ⟨fn, tmps, assign, body, hy, hR⟩ := hY xs z _ (hJ3 (.cells #[.int .i64 z.t, .int .i64 z.o, .int .i64 z.l, .slice z.sa z.len z.cap, .int .i64 z.st] 39)) (by omega)
      unfold Fv.val at hy hen
      clear hs2 hJ3
      gi_wp2
      refine hR.mono ?_
      rintro e W3 (⟨rfl, hJ4, hk3⟩ | ⟨rfl, hJx3⟩)
      · gi_wp2
        have hrg3 := (hrg2.of_walks (KeepsWalks.alloc _ _)).of_walks hk3
        go_roundw
        case rel => exact ⟨_, cnt2, xs ++ [z], hrg3, by simp; omega, hC2, hJ4⟩
        case measure => rw [hrg3.left_eq, hrg.left_eq]; exact hlt
      · gi_wp2
        refine bodyPost_ret (results_none rfl _ _ _) rfl ?_
        exact ⟨⟨_, rfl⟩, .inr ⟨_, trivial, hJx3⟩⟩
set_option maxRecDepth 100000 in
/-- What maps.Values hands back tells all of them. -/
theorem values_stops (F : Fence) (n : Nat) (hf : F.fn 72) (hro : F.round = none) (hn : 1 ≤ n) (Bm b nn lo hi : Nat) (D : DataW Value) (L : List (Int × Fw)) (w w1 : World) (hD : Has w1 lo hi D L) (hr : Rising L) (hft : Fit L) (hBm : Bm < w.heap.size) (hm : w.cell? ⟨Bm, 0, none⟩ = some (.map (some b))) (hown : w.ownsMap Tryz.prog 71 rdr b nn D) :
    SeqStopsK F n Tryz.prog 72 #[.pointer (some ⟨Bm, 0, none⟩)] (fun x : Fv => #[x.val]) KeepsWalks (AllOf w1 lo hi L) (fun _ => True) (Maps.size D) w := fun l J Jx W hW hJ _ hY h0 => by
  have hown' : W.ownsMap Tryz.prog 71 rdr b nn D := by
    have hbl := hown.lt
    obtain ⟨es, clock, hb, Ft, hs, hD⟩ := hown
    exact ⟨es, clock, (hW.block b hbl).trans hb, Ft, hs, hD⟩
  exact values1_in F n hf hro hn l Bm b nn lo hi D L w1 hD hr hft J Jx hY W hJ ((hW.cell (p := ⟨Bm, 0, none⟩) hBm).trans hm) hown' h0
set_option maxRecDepth 100000 in
set_option maxHeartbeats 1000000 in
/-- maps.Values: the map is boxed; the function value captures the box. -/
theorem values_any (mb : Option Nat) (w : World) :
    Calls Tryz.prog 63 #[.map mb] w fun e w' => e = .returned (.func (.func 72) #[] #[.pointer (some ⟨w.heap.size, 0, none⟩)]) ∧ w' = w.alloc (.cells #[.map mb] 63) := by
  go_enter Tryz.func63, Tryz.ntmps63
  go_wp2
  go_ret
  exact ⟨rfl, rfl⟩
end Go.Proofs.YtollfckgjhklcaaGreat.Flight
