/-
  The walks over the two iterators: slices.Values and members; and of Of and List, which range over them.
-/
import Derived.RangeFuncCalls
import Derived.RangeFuncLeaves
import Derived.RangeFuncBox
import Derived.Shelf.Abstract
import Derived.Shelf.RegionOpen
import Derived.WalkKit
import Derived.OwnWalkIn
import Derived.TacticsInMore
import Derived.LoopNIn
import Derived.LoopIn
import Derived.Maps.AppendAt
import Derived.Test.YtldeecjocapfgaaBitsB
namespace Go.Proofs.Ytldeecjocapfgaa.Bits
open Go.RowKit Go.Shelf
open Math

attribute [local go_sem] Oper.semAt_some

/-- What has come when k rounds are over. -/
def upto {α : Type} (f : Nat → α) (k : Nat) : List α := (List.range k).map f
theorem upto_succ {α : Type} (f : Nat → α) (k : Nat) : upto f (k + 1) = upto f k ++ [f k] := by simp [upto, List.range_succ]
theorem upto_length {α : Type} (f : Nat → α) (k : Nat) : (upto f k).length = k := by simp [upto]
theorem upto_all (zs : List Int) : upto (fun j => zs[j]?.getD 0) zs.length = zs := by
  apply List.ext_getElem
  · simp [upto]
  · intro i h1 h2
    simp [upto, h2]
theorem upto_take (zs : List Int) {k : Nat} (hk : k ≤ zs.length) : upto (fun j => zs[j]?.getD 0) k = zs.take k := by
  apply List.ext_getElem
  · simp [upto, hk]
  · intro i h1 h2
    have : i < zs.length := by simp [upto] at h1; omega
    simp [upto, this]

set_option maxRecDepth 100000 in
set_option maxHeartbeats 2000000 in
/-- slices.Values's closure: for every loop body that keeps what lay below n₀. -/
theorem values1_in (F : Fence) (n : Nat) (h28 : F.fn 45) (hro : F.round = none) (hn : 1 ≤ n) (l Bs n₀ b off len cap : Nat) (zs : List Int) (hreach : len ≤ 9223372036854775807) (hb : b < n₀) (J Jx : List Int → World → Prop)
    (hY : ∀ pre x W, J pre W → pre.length < len → YieldAt F (n - 1) Try.prog l #[.int .i64 x] W fun e W' =>
      (e = .returned (.bool true) ∧ J (pre ++ [x]) W' ∧ Below n₀ W W') ∨ (e = .returned (.bool false) ∧ Jx (pre ++ [x]) W'))
    (W : World) (hBs : W.cell? ⟨Bs, 0, none⟩ = some (.slice (some ⟨b, off, none⟩) len cap)) (hc : ∀ j, j < len → W.cell? ⟨b, off + j, none⟩ = some (.int .i64 (zs[j]?.getD 0))) (h0 : J [] W) :
    CallsIn F n Try.prog 45 #[.func (.yield l) #[] #[], .pointer (some ⟨Bs, 0, none⟩)] W fun e W' => (∃ v, e = .returned v) ∧
      ((∃ ys, ys = upto (fun j => zs[j]?.getD 0) len ∧ J ys W') ∨ (∃ pre, (∃ k, k ≤ len ∧ pre = upto (fun j => zs[j]?.getD 0) k) ∧ Jx pre W')) := by
  refine callsIn_of_wp Try.func45 rfl h28 ?_ hro
  simp only [Try.ntmps45, List.size_toArray, List.length_cons, List.length_nil, Nat.reduceAdd, Nat.reduceSub, Array.replicate_succ, Array.replicate_zero, List.push_toArray, List.append_toArray, List.nil_append, List.cons_append]
  gi_wp2
  gi_loopw [7] (fun i wr => ∃ k : Nat, k ≤ len ∧ i = .int .i64 k ∧ J (upto (fun j => zs[j]?.getD 0) k) wr ∧ Below n₀ W wr)
    (fun i _ => len - (intOf i).toNat)
  case atStart => exact ⟨0, Nat.zero_le _, rfl, h0, Below.refl _ _⟩
  case round =>
    obtain ⟨k, hk, rfl, hJs, hnx⟩ := hrel
    have hcx : k < len → wr.cell? ⟨b, off + k, none⟩ = some (.int .i64 (zs[k]?.getD 0)) := fun h => (hnx.cell (p := ⟨b, off + k, none⟩) hb).trans (hc k h)
    by_cases hlt : k < len
    · obtain ⟨fn, tmps, assign, body, hy, hR⟩ := hY _ (zs[k]?.getD 0) wr hJs (by rw [upto_length]; exact hlt)
      have hcx' := hcx hlt
      gi_wp2
      refine hR.mono ?_
      rintro e W3 (⟨rfl, hJ3, hk3⟩ | ⟨rfl, hJx3⟩)
      · gi_wp2
        go_roundw
        case rel => exact ⟨k + 1, by omega, by simp, by rw [upto_succ]; exact hJ3, hnx.trans hk3⟩
        case measure => simp [intOf]; omega
      · gi_wp2
        refine bodyPost_ret (results_none rfl _ _ _) rfl ?_
        exact ⟨⟨_, rfl⟩, .inr ⟨_, ⟨k + 1, by omega, (upto_succ _ _).symm⟩, hJx3⟩⟩
    · obtain rfl : k = len := by omega
      gi_wp2
      go_end0
      exact ⟨⟨_, rfl⟩, .inl ⟨_, rfl, hJs⟩⟩

set_option maxRecDepth 100000 in
set_option maxHeartbeats 1000000 in
/-- .. at a slice of no numbers: no round. -/
theorem values1_nil_in (F : Fence) (n : Nat) (h28 : F.fn 45) (hro : F.round = none) (l Bs : Nat) (a : Option Addr) (cap : Nat) (J : List Int → World → Prop) (W : World) (hBs : W.cell? ⟨Bs, 0, none⟩ = some (.slice a 0 cap)) (h0 : J [] W) :
    CallsIn F n Try.prog 45 #[.func (.yield l) #[] #[], .pointer (some ⟨Bs, 0, none⟩)] W fun e W' => (∃ v, e = .returned v) ∧ J [] W' := by
  refine callsIn_of_wp Try.func45 rfl h28 ?_ hro
  simp only [Try.ntmps45, List.size_toArray, List.length_cons, List.length_nil, Nat.reduceAdd, Nat.reduceSub, Array.replicate_succ, Array.replicate_zero, List.push_toArray, List.append_toArray, List.nil_append, List.cons_append]
  gi_wp2
  gi_loopw [7] (fun i wr => i = .int .i64 0 ∧ J [] wr) (fun _ _ => 0)
  case atStart => exact ⟨rfl, h0⟩
  case round =>
    obtain ⟨rfl, hJs⟩ := hrel
    gi_wp2
    go_end0
    exact ⟨⟨_, rfl⟩, hJs⟩

set_option maxRecDepth 100000 in
set_option maxHeartbeats 1000000 in
/-- slices.Values(s): the slice value is boxed; the function value captures the box. -/
theorem values_in (F : Fence) (n : Nat) (h26 : F.fn 40) (hro : F.round = none) (a : Option Addr) (len cap : Nat) (w : World) :
    CallsIn F n Try.prog 40 #[.slice a len cap] w fun e w' => e = .returned (.func (.func 45) #[] #[.pointer (some ⟨w.heap.size, 0, none⟩)]) ∧ w' = w.alloc (.cells #[.slice a len cap] 40) := by
  refine callsIn_of_wp Try.func40 rfl h26 ?_ hro
  simp only [Try.ntmps40, List.size_toArray, List.length_cons, List.length_nil, Nat.reduceAdd, Nat.reduceSub, Array.replicate_succ, Array.replicate_zero, List.push_toArray, List.append_toArray, List.nil_append, List.cons_append]
  gi_wp2
  go_ret
  exact ⟨rfl, rfl⟩

set_option maxRecDepth 100000 in
/-- What slices.Values(s) hands back tells all of zs, in order; or a part, from the first on. -/
theorem values_stops (F : Fence) (n : Nat) (h28 : F.fn 45) (hro : F.round = none) (hn : 1 ≤ n) (Bs n₀ : Nat) (sv : Value) (zs : List Int) (hreach : zs.length ≤ 9223372036854775807) (w : World) (hBs : Bs < w.heap.size) (hn₀ : n₀ ≤ w.heap.size)
    (hc : w.cell? ⟨Bs, 0, none⟩ = some sv) (hI : IntsAt n₀ w sv zs) :
    SeqStopsK F n Try.prog 45 #[.pointer (some ⟨Bs, 0, none⟩)] (fun x : Int => #[Value.int .i64 x]) (Below n₀) (fun ys => ys = zs) (fun pre => pre <+: zs) zs.length w := fun l J Jx W hW _ _ hY h0 => by
  have hc' := (hW.cell (p := ⟨Bs, 0, none⟩) hBs).trans hc
  obtain ⟨a, cap, rfl, rfl | ⟨b, off, rfl, hb, hcs⟩⟩ := hI.below (hW.mono hn₀)
  · exact (values1_nil_in F n h28 hro l Bs a cap J W hc' h0).mono fun e W' ⟨he, hj⟩ => ⟨he, .inl ⟨_, rfl, hj⟩⟩
  · refine (values1_in F n h28 hro hn l Bs n₀ b off zs.length cap zs hreach hb J Jx hY W hc' hcs h0).mono ?_
    rintro e W' ⟨he, ⟨ys, rfl, hj⟩ | ⟨pre, ⟨k, hk, rfl⟩, hj⟩⟩
    · exact ⟨he, .inl ⟨_, upto_all zs, hj⟩⟩
    · exact ⟨he, .inr ⟨_, by rw [upto_take zs hk]; exact List.take_prefix _ _, hj⟩⟩

set_option maxRecDepth 100000 in
set_option maxHeartbeats 2000000 in
/-- bits.Of: of every list. -/
theorem of_in (n : Nat) (hn : 3 ≤ n) (a : Option Addr) (len cap : Nat) (zs : List Int) (hreach : zs.length ≤ 9223372036854775807) (w : World) (hI : IntsAt w.heap.size w (.slice a len cap) zs) :
    CallsIn Fence.wide n Try.prog 32 #[.slice a len cap] w fun e W' => e = .returned (.int .u64 (ofL zs)) ∧ Below w.heap.size w W' := by
  have h1 : 1 ≤ n := by omega
  have hro : Fence.wide.round = none := rfl
  refine callsIn_of_wp_marks Try.func32 rfl trivial ?_ hro
  simp only [Try.ntmps32, List.size_toArray, List.length_cons, List.length_nil, Nat.reduceAdd, Nat.reduceSub, Array.replicate_succ, Array.replicate_zero, List.push_toArray, List.append_toArray, List.nil_append, List.cons_append]
  gi_wp2_with (refine ⟨trivial, ?_⟩; gi_at_call 40; refine (values_in Fence.wide (n - 1) trivial hro _ _ _ _).mono ?_; rintro e w' ⟨rfl, rfl⟩)
  have bS := Boxed.new w 31 (.int .u64 0)
  have bN := Boxed.new (w.alloc (.cells #[.int .u64 0] 31)) 40 (.slice a len cap)
  rw [World.size_alloc] at bN
  have hB0 : Below w.heap.size w ((w.alloc (.cells #[.int .u64 0] 31)).alloc (.cells #[.slice a len cap] 40)) := ((Below.refl _ w).alloc (Nat.le_refl _) _).alloc (by simp) _
  refine wpIn_rangeFunc_ownG hro h1 (gf := 45) (lb := #[.pointer (some ⟨w.heap.size + 1, 0, none⟩)]) rfl trivial (enters_of Try.func45 (by kernel_rfl) rfl)
    (values_stops Fence.wide (n - 1) trivial hro (by omega) (w.heap.size + 1) w.heap.size _ zs hreach _ (by simp) (by simp; omega) bN.cell (hI.below hB0)) belowK_t (belowK_b (by simp; omega)) (Below.refl _ _) (fun _ => rfl)
    (fun pre W => (W.cell? ⟨w.heap.size, 0, none⟩ = some (.int .u64 (ofL pre)) ∧ W.frozen? ⟨w.heap.size, 0, none⟩ = false) ∧ Below w.heap.size w W)
    (fun _ _ _ => False)
    (OwnFrom.and (Own.from (fun s A B row hs hg hr => ⟨cell_kept hs.1 hg hr, (frozen_kept hs.1 hg hr).trans hs.2⟩) _) (ownFrom_below (Nat.le_refl _) (by simp; omega)))
    (fun _ _ _ _ _ hs _ _ => hs)
    ⟨⟨(bS.alloc _).cell, (bS.alloc _).frozen⟩, hB0⟩
    (fun x => { tmps := #[.slice a len cap, undef, .int .u64 0, .pointer (some ⟨w.heap.size, 0, none⟩), .int .i64 x, .slice a len cap, .func (.func 45) #[] #[.pointer (some ⟨w.heap.size + 1, 0, none⟩)], .int .i64 x, undef, undef, undef, undef], defers := [] }) ?assign ?body ?done ?stop
  case assign =>
    intro l x W K hK
    gi_wp2
    exact hK
  case body =>
    rintro l pre x W ⟨⟨hc, hf⟩, hB⟩ _
    have hlt := ofL_lt pre
    have h2 : 1 ≤ n - 1 - 1 := by omega
    gi_wp2_with (refine ⟨trivial, ?_⟩; gi_at_call 41; refine (CallsIn.inRound l (callsIn_wide.2 (with_any _ _ _ hlt))).mono ?_; rintro e w' ⟨rfl, rfl⟩)
    exact ⟨(KeepsOthers.setCell _ _ _).from _, (Below.refl w.heap.size _).setCell (p := ⟨w.heap.size, 0, none⟩) (Nat.le_refl _) _, ⟨by rw [ofL_snoc]; exact World.cell?_setCell_same' _ _ _ (by rw [hc]; rfl), by rw [World.frozen?_setCell]; exact hf⟩, hB.setCell (p := ⟨w.heap.size, 0, none⟩) (Nat.le_refl _) _⟩
  case done =>
    rintro D ys W hD rfl ⟨⟨hc, _⟩, hB⟩ hK
    gi_wp2
    refine ⟨by simp, .inl ⟨_, _, rfl, run_takeDeferred hK, ?_⟩⟩
    exact ⟨_, results_tmp rfl _ _ _, rfl, hB.trans (belowK_b (w := w) (Nat.le_refl _) W D _ _ (by simp at hD; omega) hK rfl rfl)⟩
  case stop =>
    rintro D c pre W _ _ h _
    exact h.elim

set_option maxRecDepth 100000 in
theorem of_any (sv : Value) (zs : List Int) (w : World) (hreach : zs.length ≤ 9223372036854775807) (hI : IntsAt w.heap.size w sv zs) :
    Calls Try.prog 32 #[sv] w fun e W' => e = .returned (.int .u64 (ofL zs)) ∧ Below w.heap.size w W' := by
  obtain ⟨a, cap, rfl, _⟩ := id hI
  exact callsIn_wide.1 (of_in 3 (Nat.le_refl _) a zs.length cap zs hreach w hI)

/-- What Below leaves is no turn of what lay. -/
theorem grown_of_below {W W' : World} (h : Below W.heap.size W W') : W.grownBy W' none := ⟨h.os, h.tape, h.output, h.size, fun k hk _ => h.block k hk⟩

set_option maxRecDepth 100000 in
set_option maxHeartbeats 400000 in
/-- members's closure: for every loop body that keeps what lay below n₀. -/
theorem members1_in (F : Fence) (n : Nat) (h17 : F.fn 44) (h27 : F.fn 43) (hro : F.round = none) (hn : 1 ≤ n) (l Bs n₀ s : Nat) (hs : s < 18446744073709551616) (J Jx : List Nat → World → Prop)
    (hL : ∀ (left : Nat) (w : World), 0 < left → left < 18446744073709551616 → CallsIn F (n - 1) Try.prog 44 #[.int .u64 left] w fun e w' => e = .returned (.tuple #[.int .i64 (pop (below left)), .bool true]) ∧ Below w.heap.size w w')
    (W : World) (hJ : AbidesFrom W.heap.size J)
    (hY : ∀ pre x W, J pre W → pre.length < (elems s).length → YieldAt F (n - 1) Try.prog l #[.int .i64 ((x : Nat) : Int)] W fun e W' =>
      (e = .returned (.bool true) ∧ J (pre ++ [x]) W' ∧ Below n₀ W W') ∨ (e = .returned (.bool false) ∧ Jx (pre ++ [x]) W'))
    (hBs : W.cell? ⟨Bs, 0, none⟩ = some (.int .u64 s)) (h0 : J [] W) :
    CallsIn F n Try.prog 43 #[.func (.yield l) #[] #[], .pointer (some ⟨Bs, 0, none⟩)] W fun e W' => (∃ v, e = .returned v) ∧
      ((∃ ys, ys = elems s ∧ J ys W') ∨ (∃ pre, pre <+: elems s ∧ Jx pre W')) := by
  refine callsIn_of_wp Try.func43 rfl h27 ?_ hro
  simp only [Try.ntmps43, List.size_toArray, List.length_cons, List.length_nil, Nat.reduceAdd, Nat.reduceSub, Array.replicate_succ, Array.replicate_zero, List.push_toArray, List.append_toArray, List.nil_append, List.cons_append]
  gi_wp2
  gi_loopw [3] (fun x wr => ∃ (left : Nat) (pre : List Nat), left < 18446744073709551616 ∧ x = .int .u64 left ∧ elems s = pre ++ elems left ∧ J pre wr)
    (fun x _ => (intOf x).toNat)
  case atStart => exact ⟨s, [], hs, rfl, rfl, h0⟩
  case round =>
    obtain ⟨left, pre, hl, rfl, he, hJs⟩ := hrel
    by_cases hz : left = 0
    · subst hz
      gi_wp2
      go_end0
      exact ⟨⟨_, rfl⟩, .inl ⟨pre, by rw [he, elems_zero, List.append_nil], hJs⟩⟩
    · have hpos : 0 < left := by omega
      have hlow := elems_low left hpos hl
      have hd : bits .and .u64 (left : Int) ((left : Int) - 1) = ((drop1 left : Nat) : Int) := by
        have e : ((left : Int) - 1) = ((left - 1 : Nat) : Int) := by omega
        rw [e, u64_and_nat left (left - 1) hl (by omega)]
        rfl
      have hdl := drop1_lt left hpos
      have HE : Hid (elems s = (pre ++ [pop (below left)]) ++ elems (drop1 left)) := by
        show elems s = (pre ++ [pop (below left)]) ++ elems (drop1 left)
        rw [he, hlow]; simp
      have hplen : pre.length < (elems s).length := by rw [HE.out]; simp
      have hLc := fun w => hL left w hpos hl
      clear hlow he hz hL
      gi_wp2_with (gi_at_call 44; refine (hLc _).mono ?_; clear hLc; rintro e w' ⟨rfl, hB⟩; obtain ⟨fn, tmps, assign, body, hy, hR⟩ := hY pre (pop (below left)) w' (hJ _ _ _ none hJs (grown_of_below hB) (fun r e => by cases e)) hplen)
      refine hR.mono ?_
      rintro e W3 (⟨rfl, hJ3, hk3⟩ | ⟨rfl, hJx3⟩)
      · gi_wp2
        go_roundw
        case rel => exact ⟨drop1 left, _, by omega, rfl, HE.out, hJ3⟩
        case measure => simp [intOf]; omega
      · gi_wp2
        refine bodyPost_ret (results_none rfl _ _ _) rfl ?_
        exact ⟨⟨_, rfl⟩, .inr ⟨_, ⟨elems (drop1 left), HE.out.symm⟩, hJx3⟩⟩

set_option maxRecDepth 100000 in
set_option maxHeartbeats 1000000 in
/-- members(set): the set is boxed; the function value captures the box. -/
theorem members_in (F : Fence) (n : Nat) (h25 : F.fn 36) (hro : F.round = none) (s : Nat) (w : World) :
    CallsIn F n Try.prog 36 #[.int .u64 s] w fun e w' => e = .returned (.func (.func 43) #[] #[.pointer (some ⟨w.heap.size, 0, none⟩)]) ∧ w' = w.alloc (.cells #[.int .u64 s] 31) := by
  refine callsIn_of_wp Try.func36 rfl h25 ?_ hro
  simp only [Try.ntmps36, List.size_toArray, List.length_cons, List.length_nil, Nat.reduceAdd, Nat.reduceSub, Array.replicate_succ, Array.replicate_zero, List.push_toArray, List.append_toArray, List.nil_append, List.cons_append]
  gi_wp2
  go_ret
  exact ⟨rfl, rfl⟩

set_option maxRecDepth 100000 in
/-- What members(set) hands back tells all numbers of the set, rising; or a part, from the first on. -/
theorem members_stops (n : Nat) (hn : 1 ≤ n) (Bs n₀ s : Nat) (hs : s < 18446744073709551616) (w : World) (hBs : Bs < w.heap.size) (hc : w.cell? ⟨Bs, 0, none⟩ = some (.int .u64 s)) :
    SeqStopsK Fence.wide n Try.prog 43 #[.pointer (some ⟨Bs, 0, none⟩)] (fun x : Nat => #[Value.int .i64 (x : Int)]) (Below n₀) (fun ys => ys = elems s) (fun pre => pre <+: elems s) (elems s).length w := fun l J Jx W hW hJ _ hY h0 =>
  members1_in Fence.wide n trivial trivial rfl hn l Bs n₀ s hs J Jx (fun _ _ h0 h1 => callsIn_wide.2 (lowest_any _ _ h0 h1)) W hJ hY ((hW.cell (p := ⟨Bs, 0, none⟩) hBs).trans hc) h0

set_option maxRecDepth 100000 in
set_option maxHeartbeats 2000000 in
/-- bits.List: of every set. -/
theorem list_in (F : Fence) (n : Nat) (h18 : F.fn 21) (h20 : F.fn 23) (h25 : F.fn 36) (h27 : F.fn 43) (hro : F.round = none) (hn : 3 ≤ n) (s : Nat) (w : World)
    (hC : ∀ w : World, CallsIn F (n - 1) Try.prog 21 #[.int .u64 s] w fun e w' => e = .returned (.int .i64 (pop s)) ∧ Below w.heap.size w w')
    (hS : ∀ (w : World) (Bs : Nat), Bs < w.heap.size → w.cell? ⟨Bs, 0, none⟩ = some (.int .u64 s) → ∀ n₀, SeqStopsK F (n - 1) Try.prog 43 #[.pointer (some ⟨Bs, 0, none⟩)] (fun x : Nat => #[Value.int .i64 (x : Int)]) (Below n₀) (fun ys => ys = elems s) (fun pre => pre <+: elems s) (elems s).length w) :
    CallsIn F n Try.prog 23 #[.int .u64 s] w fun e W' => ∃ v, e = .returned v ∧ W'.ownsRow w.heap.size 3 1 v (elems s).length ((elems s).map enc) ∧ Below w.heap.size w W' := by
  have h1 : 1 ≤ n := by omega
  obtain ⟨i0, hi, hz0, hz1, hz2⟩ := info_parts Try.info3
  have hp := pop_le s
  have hmk : ∀ w : World, (Instr.makeSlice 40 (.int .i64 0) (.int .i64 (pop s : Int))).run Try.prog w = .ok (.slice (some ⟨w.heap.size, 0, none⟩) 0 (pop s)) (w.alloc (.cells (madeCells #[.int .i64 0] (pop s)) 3)) := fun w => by
    have := run_make (P := Try.prog) w 40 3 i0 (.int .i64 0) Try.underlying40 hi hz0 .i64 .i64 0 (pop s : Int) (Int.le_refl _) (by omega) (by rw [hz2]; omega) (by omega)
    rw [hz1] at this
    simpa [Value.cells] using this
  refine callsIn_of_wp_marks Try.func23 rfl h20 ?_ hro
  simp only [Try.ntmps23, List.size_toArray, List.length_cons, List.length_nil, Nat.reduceAdd, Nat.reduceSub, Array.replicate_succ, Array.replicate_zero, List.push_toArray, List.append_toArray, List.nil_append, List.cons_append]
  gi_wp2_with (first | (gi_at_call 21; refine (hC _).mono ?_; rintro e w0 ⟨rfl, hB1⟩) | (gi_at_call 36; refine (members_in F (n - 1) h25 hro _ _).mono ?_; rintro e w' ⟨rfl, rfl⟩))
  have hw0 := hB1.size
  have hel : (elems s).length ≤ 64 := by rw [← pop_elems]; exact hp
  have r0 := World.ownsRow_made (e := 3) (size := 1) (base := w.heap.size) w0 (madeCells #[.int .i64 0] (pop s)) (pop s) hw0 (by unfold maxLen; omega) (by simp [size_madeCells])
  have bO := Boxed.new (w0.alloc (.cells (madeCells #[.int .i64 0] (pop s)) 3)) 40 (.slice (some ⟨w0.heap.size, 0, none⟩) 0 (pop s))
  have bN := Boxed.new ((w0.alloc (.cells (madeCells #[.int .i64 0] (pop s)) 3)).alloc (.cells #[.slice (some ⟨w0.heap.size, 0, none⟩) 0 (pop s)] 40)) 31 (.int .u64 s)
  rw [World.size_alloc, World.size_alloc] at bN
  rw [World.size_alloc] at bO
  have hB0 : Below w.heap.size w (((w0.alloc (.cells (madeCells #[.int .i64 0] (pop s)) 3)).alloc (.cells #[.slice (some ⟨w0.heap.size, 0, none⟩) 0 (pop s)] 40)).alloc (.cells #[.int .u64 s] 31)) :=
    ((hB1.alloc hw0 _).alloc (by simp; omega) _).alloc (by simp; omega) _
  have r1 := (r0.alloc (.cells #[.slice (some ⟨w0.heap.size, 0, none⟩) 0 (pop s)] 40)).alloc (.cells #[.int .u64 s] 31)
  have b1 := bO.alloc (.cells #[.int .u64 s] 31)
  clear hmk
  obtain ⟨W0, hW0⟩ : ∃ W0, (((w0.alloc (.cells (madeCells #[.int .i64 0] (pop s)) 3)).alloc (.cells #[.slice (some ⟨w0.heap.size, 0, none⟩) 0 (pop s)] 40)).alloc (.cells #[.int .u64 s] 31)) = W0 := ⟨_, rfl⟩
  have hsz : W0.heap.size = w0.heap.size + 3 := by rw [← hW0]; simp
  rw [hW0] at bN hB0 r1 b1 ⊢
  clear hW0 bO r0
  refine wpIn_rangeFunc_ownG hro h1 (gf := 43) (lb := #[.pointer (some ⟨w0.heap.size + 1 + 1, 0, none⟩)]) rfl h27 (enters_of Try.func43 (by kernel_rfl) rfl)
    (hS W0 (w0.heap.size + 1 + 1) (by omega) bN.cell w.heap.size) belowK_t (belowK_b (by omega)) (Below.refl _ _) (fun _ => rfl)
    (fun pre W => (∃ v, Boxed W (w0.heap.size + 1) 40 v ∧ W.ownsRow w.heap.size 3 1 v pre.length (pre.map enc) ∧ True) ∧ Below w.heap.size w W)
    (fun _ _ _ => False)
    (OwnFrom.and (Own.from (holdsRow_own w.heap.size (w0.heap.size + 1) 40 3 1 (fun pre : List Nat => pre.length) (fun pre => pre.map enc) (fun _ _ => True)) _) (ownFrom_below (Nat.le_refl _) (by omega)))
    (fun _ _ _ _ _ hs _ _ => hs)
    ⟨⟨_, b1, r1, trivial⟩, hB0⟩
    (fun x => { tmps := #[.int .u64 s, undef, .slice none 0 0, .pointer (some ⟨w0.heap.size + 1, 0, none⟩), .int .i64 (x : Int), .int .u64 s, .int .i64 (pop s), .slice (some ⟨w0.heap.size, 0, none⟩) 0 (pop s), .int .u64 s, .func (.func 43) #[] #[.pointer (some ⟨w0.heap.size + 1 + 1, 0, none⟩)], .int .i64 (x : Int), undef, undef, undef, undef, undef], defers := [] }) ?assign ?body ?done ?stop
  case assign =>
    intro l x W K hK
    gi_wp2
    exact hK
  case body =>
    rintro l pre x W ⟨⟨v, hv, hrow, _⟩, hB⟩ hlt
    have hc := hv.cell
    gi_wp2_with (gi_at_builtin; refine wpListIn_append_own _ rfl _ _ 40 rfl w.heap.size 3 i0 (.int .i64 0) 1 8 Try.underlying40 hi hz0 hz1 hz2 rfl (by decide) _ _ _ rfl (hrow.alloc _) ⟨W.heap.size, 0, none⟩ 1 1 [.int .i64 (x : Int)] rfl rfl (cell_one_new _ _ _) (by simp [Value.oneCell']) (by unfold maxLen; omega) (by omega) (by have := hB.size; simp; omega) ?_; intro v' w1 hown' hgrow _; obtain ⟨g', cap', rfl⟩ := ownsRow_succ hown'; obtain ⟨hv1, hv2, hr2, hk2, hb2⟩ := hv.appended (by decide) hrow hB.size (by omega) hown' hgrow; have hc1 := hv1.cell; have hf1 := hv1.frozen)
    exact ⟨hk2.from _, hb2, ⟨_, hv2, by simpa [enc] using hr2, trivial⟩, hB.trans hb2⟩
  case done =>
    rintro D ys W hD rfl ⟨⟨v, hv, hrow, _⟩, hB⟩ hK
    have hc := hv.cell
    gi_wp2
    refine ⟨by simp, .inl ⟨_, _, rfl, run_takeDeferred hK, ?_⟩⟩
    exact ⟨_, results_tmp rfl _ _ _, v, rfl, ownsRow_putObj hrow _ hK rfl, hB.trans (belowK_b (w := w) (Nat.le_refl _) W D _ _ (by omega) hK rfl rfl)⟩
  case stop =>
    rintro D c pre W _ _ h _
    exact h.elim

set_option maxRecDepth 100000 in
theorem list_any (s : Nat) (w : World) (hs : s < 18446744073709551616) :
    Calls Try.prog 23 #[.int .u64 s] w fun e W' => ∃ v, e = .returned v ∧ W'.ownsRow w.heap.size 3 1 v (elems s).length ((elems s).map enc) ∧ Below w.heap.size w W' :=
  callsIn_wide.1 (list_in Fence.wide 3 trivial trivial trivial trivial rfl (Nat.le_refl _) s w (fun _ => callsIn_wide.2 (count_any _ _ hs)) (fun w Bs h1 h2 n₀ => members_stops 2 (by omega) Bs n₀ s hs w h1 h2))

end Go.Proofs.Ytldeecjocapfgaa.Bits
