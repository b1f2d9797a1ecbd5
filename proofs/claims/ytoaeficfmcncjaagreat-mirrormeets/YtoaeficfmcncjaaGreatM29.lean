/-
 The values of the map, in whatever order they come: maps.Values, and slices.Collect of what it tells.
-/
import Derived.RangeFuncNested
import Derived.Test.YtoaeficfmcncjaaGreatM28
namespace Go.Proofs.YtoaeficfmcncjaaGreat.Flight
open Go.RowKit Go.Maps Go.Sort Go.Shelf
open Table (Rising ins del tks)
attribute [local go_sem] Oper.semAt_some
structure Came (W : World) (lo hi : Nat) (D : DataW Value) (L : List (Int × Fw)) (left : Lit → Bool) (xs : List Fv) : Prop where
 nodup : (xs.map (·.t)).Nodup
 mem : ∀ k, (Lit.int .i64 k).wf = true → (k ∈ xs.map (·.t) ↔ Maps.has D (kl k) = true ∧ left (kl k) = false)
 each : ∀ x ∈ xs, Table.look L x.t = some x.fw ∧ x.At lo hi W
theorem came_start (W : World) (lo hi : Nat) (D : DataW Value) (L : List (Int × Fw)) : Came W lo hi D L (Maps.has D) [] :=
 ⟨List.nodup_nil, fun k _ => by cases Maps.has D (kl k) <;> simp, by simp⟩
theorem Came.step {W : World} {lo hi : Nat} {D : DataW Value} {L : List (Int × Fw)} {left : Lit → Bool} {xs : List Fv} (h : Came W lo hi D L left xs) {z : Fv} (hw : (Lit.int .i64 z.t).wf = true) (hl : left (kl z.t) = true) (hz : Table.look L z.t = some z.fw) (hA : z.At lo hi W) (hD : Has W lo hi D L) :
  Came W lo hi D L (fun y => left y && !y.sameKey (kl z.t)) (xs ++ [z]) := by
 have hhas : Maps.has D (kl z.t) = true := by rw [(hD z.t hw).1, hz]; rfl
 have hself : (kl z.t).sameKey (kl z.t) = true := WideAt.sameKey_self (keyedK.key (keyOf_mk hw))
 refine ⟨?_, fun k hk => ?_, fun x hx => ?_⟩
 ·rw [List.map_append, List.nodup_append]
  refine ⟨h.nodup, by simp, fun a ha b hb => ?_⟩
  simp at hb
  subst hb
  rintro rfl
  have := ((h.mem z.t hw).1 ha).2
  rw [hl] at this
  cases this
 ·rw [List.map_append, List.mem_append, h.mem k hk]
  by_cases e : k = z.t
  ·subst e
   simp [hhas, hself]
  ·have hs : (kl k).sameKey (kl z.t) = false := by
    cases h : (kl k).sameKey (kl z.t) with
    | false => rfl
    | true => exact absurd (kl_inj hk hw (WideAt.sameKey_eq h)) e
   simp [hs, e]
 ·rcases List.mem_append.1 hx with hx | hx
  ·exact h.each x hx
  ·simp at hx
   subst hx
   exact ⟨hz, hA⟩
def AllOf (W : World) (lo hi : Nat) (L : List (Int × Fw)) (xs : List Fv) : Prop := (xs.map fun x => (x.t, x.fw)).Perm L ∧ ∀ x ∈ xs, x.At lo hi W
theorem Came.all {W : World} {lo hi : Nat} {D : DataW Value} {L : List (Int × Fw)} {left : Lit → Bool} {xs : List Fv} (h : Came W lo hi D L left xs) (hl : ∀ l, left l = false) (hD : Has W lo hi D L) (hr : Rising L) (hf : Fit L) : AllOf W lo hi L xs := by
 refine ⟨(List.perm_ext_iff_of_nodup ?_ ?_).2 fun p => ?_, fun x hx => (h.each x hx).2⟩
 ·have := h.nodup
  rw [List.nodup_iff_pairwise_ne, List.pairwise_map] at this ⊢
  exact this.imp fun hne e => hne (congrArg Prod.fst e)
 ·exact hr.imp fun h e => by rw [e] at h; omega
 ·constructor
  ·intro hp
   obtain ⟨x, hx, rfl⟩ := List.mem_map.1 hp
   exact Table.look_mem (h.each x hx).1
  ·intro hp
   have hlow := hf.low p hp
   have hlk := look_some hr hp
   have hw := wf_i64 (k := p.1) (by omega) (by omega)
   have hm := (h.mem p.1 hw).2 ⟨by rw [(hD p.1 hw).1, hlk]; rfl, hl _⟩
   obtain ⟨x, hx, hxt⟩ := List.mem_map.1 hm
   refine List.mem_map.2 ⟨x, hx, ?_⟩
   have := (h.each x hx).1
   rw [hxt, hlk] at this
   injection this with this
   rw [hxt, ← this]
section
set_option maxRecDepth 100000
set_option maxHeartbeats 2000000 in
theorem values1_in (F : Fence) (n : Nat) (hf : F.fn 222) (hro : F.round = none) (hn : 1 ≤ n) (l Bm b nn lo hi : Nat) (D : DataW Value) (L : List (Int × Fw)) (w0 : World) (hD : Has w0 lo hi D L) (hr : Rising L) (hft : Fit L) (J Jx : List Fv → World → Prop)
  (hY : ∀ pre x W, J pre W → pre.length < Maps.size D → YieldAt F (n - 1) Tryz.prog l #[x.val] W fun e W' =>
   (e = .returned (.bool true) ∧ J (pre ++ [x]) W' ∧ KeepsWalks W W') ∨ (e = .returned (.bool false) ∧ Jx (pre ++ [x]) W'))
  (W : World) (hJ : AbidesFrom W.heap.size J) (hm : W.cell? ⟨Bm, 0, none⟩ = some (.map (some b))) (hown : W.ownsMap Tryz.prog 225 rdr b nn D) (h0 : J [] W) :
  CallsIn F n Tryz.prog 222 #[.func (.yield l) #[] #[], .pointer (some ⟨Bm, 0, none⟩)] W fun e W' => (∃ v, e = .returned v) ∧
   ((∃ xs, AllOf w0 lo hi L xs ∧ J xs W') ∨ (∃ pre, True ∧ Jx pre W')) := by
 refine callsIn_of_wp Tryz.func222 rfl hf ?_ hro
 simp only [Tryz.ntmps222, List.size_toArray, List.length_cons, List.length_nil, Nat.reduceAdd, Nat.reduceSub, Array.replicate_succ, Array.replicate_zero, List.push_toArray, List.append_toArray, List.nil_append, List.cons_append]
 gi_wp2_with (first
  | (gi_at_range; refine wpListIn_range_own _ rfl _ 182 rfl 225 94 keyedK Tryz.underlying182 _ b nn _ rfl hown ?_; intro w1 hrg0 hg0 hs0)
  | gi_in)
 go_frame
 gi_loopw [4] (fun _ wr => ∃ (left : Lit → Bool) (cnt : Nat) (xs : List Fv), wr.ranges Tryz.prog 225 rdr b W.heap.size nn D left cnt ∧ xs.length + cnt ≤ Maps.size D ∧ Came w0 lo hi D L left xs ∧ J xs wr)
  (fun _ wr => wr.rangeLeft b W.heap.size)
 case atStart =>
  exact ⟨_, _, [], hrg0, by simp, came_start w0 lo hi D L, hJ [] W w1 none h0 hg0 (fun r e => by cases e)⟩
 case round =>
  obtain ⟨left, cnt, xs, hrg, hcs, hC, hJs⟩ := hrel
  gi_wp2_with (first
   | (gi_at_next; refine wpListIn_next_ranges _ rfl _ rfl 225 keyedK rdr (fun x : Int => .agg #[.int .i64 x]) (fun c : Value => c) (fun key kl hk => by obtain ⟨x, hx, _⟩ := keyOf_inv hk; exact ⟨x, hx⟩) (fun v y hv => ⟨v, rfl⟩) b W.heap.size nn _ _ _ rfl hrg ?_ ?_)
   | gi_in)
  ·intro hc0 hl0
   gi_wp2
   go_end0
   exact ⟨⟨_, rfl⟩, .inl ⟨xs, hC.all hl0 hD hr hft, hJs⟩⟩
  ·intro x c kl' yd yp w2 cnt2 hkey hlk hv hat hrg2 hlt hg2 hs2 hen
   obtain ⟨rfl, hw, z, hz1, hz2, hz3, rfl⟩ := entry_is hD hkey hv hat
   subst hz1
   have hC2 := hC.step hw hlk hz2 hz3 hD
   have hJ2 : J xs w2 := hJ _ wr w2 (some W.heap.size) hJs hg2 (fun r e => by cases e; exact ⟨Nat.le_refl _, hrg.iter_walk⟩)
   have hJ3 := fun o => hJ _ w2 (w2.alloc o) none hJ2 (World.grownBy_alloc w2 o none) (fun r e => by cases e)
   obtain ⟨fn, tmps, assign, body, hy, hR⟩ := hY xs z _ (hJ3 (.cells #[.int .i64 z.t, .int .i64 z.o, .int .i64 z.l, .slice z.sa z.len z.cap, .int .i64 z.st] 94)) (by omega)
   unfold Fv.val at hy hen
   clear hs2 hJ3
   gi_wp2
   refine hR.mono ?_
   rintro e W3 (⟨rfl, hJ4, hk3⟩ | ⟨rfl, hJx3⟩)
   ·gi_wp2
    have hrg3 := (hrg2.of_walks (KeepsWalks.alloc _ _)).of_walks hk3
    go_roundw
    case rel => exact ⟨_, cnt2, xs ++ [z], hrg3, by simp; omega, hC2, hJ4⟩
    case measure => rw [hrg3.left_eq, hrg.left_eq]; exact hlt
   ·gi_wp2
    refine bodyPost_ret (results_none rfl _ _ _) rfl ?_
    exact ⟨⟨_, rfl⟩, .inr ⟨_, trivial, hJx3⟩⟩
theorem values_stops (F : Fence) (n : Nat) (hf : F.fn 222) (hro : F.round = none) (hn : 1 ≤ n) (Bm b nn lo hi : Nat) (D : DataW Value) (L : List (Int × Fw)) (w w1 : World) (hD : Has w1 lo hi D L) (hr : Rising L) (hft : Fit L) (hBm : Bm < w.heap.size) (hm : w.cell? ⟨Bm, 0, none⟩ = some (.map (some b))) (hown : w.ownsMap Tryz.prog 225 rdr b nn D) :
  SeqStopsK F n Tryz.prog 222 #[.pointer (some ⟨Bm, 0, none⟩)] (fun x : Fv => #[x.val]) KeepsWalks (AllOf w1 lo hi L) (fun _ => True) (Maps.size D) w := fun l J Jx W hW hJ _ hY h0 => by
 have hown' : W.ownsMap Tryz.prog 225 rdr b nn D := by
  have hbl := hown.lt
  obtain ⟨es, clock, hb, Ft, hs, hD⟩ := hown
  exact ⟨es, clock, (hW.block b hbl).trans hb, Ft, hs, hD⟩
 exact values1_in F n hf hro hn l Bm b nn lo hi D L w1 hD hr hft J Jx hY W hJ ((hW.cell (p := ⟨Bm, 0, none⟩) hBm).trans hm) hown' h0
set_option maxHeartbeats 1000000 in
theorem values_any (mb : Option Nat) (w : World) :
  Calls Tryz.prog 172 #[.map mb] w fun e w' => e = .returned (.func (.func 222) #[] #[.pointer (some ⟨w.heap.size, 0, none⟩)]) ∧ w' = w.alloc (.cells #[.map mb] 182) := by
 go_enter Tryz.func172, Tryz.ntmps172
 go_wp2
 go_ret
 exact ⟨rfl, rfl⟩
end
end Go.Proofs.YtoaeficfmcncjaaGreat.Flight
namespace Go.Proofs.YtoaeficfmcncjaaGreat.Flight
open Go.RowKit Go.Maps Go.Sort Go.Shelf
open Table (Rising ins del tks)
attribute [local go_sem] Oper.semAt_some
set_option maxRecDepth 100000 in
theorem Tryz.infoW : (Tryz.prog.info? 94).map (fun i => (i.zero, i.size, i.bytes)) = some (some (.agg #[.int .i64 0, .int .i64 0, .int .i64 0, .slice none 0 0, .int .i64 0]), 5, 56) := by kernel_rfl
def cellsL (xs : List Fv) : List Value := xs.flatMap Fv.cells
theorem cellsL_snoc (xs : List Fv) (x : Fv) : cellsL (xs ++ [x]) = cellsL xs ++ x.cells := by simp [cellsL]
theorem cellsL_at : ∀ (xs : List Fv) (i : Nat) (x : Fv), xs[i]? = some x → ∀ c, c < 5 → (cellsL xs)[i * 5 + c]? = x.cells[c]?
 | [], i, x, h, _, _ => by simp at h
 | y :: xs, 0, x, h, c, hc => by
  simp at h
  subst h
  show (y.cells ++ cellsL xs)[0 * 5 + c]? = _
  rw [Nat.zero_mul, Nat.zero_add, List.getElem?_append_left (by simp [Fv.cells]; omega)]
 | y :: xs, i + 1, x, h, c, hc => by
  show (y.cells ++ cellsL xs)[(i + 1) * 5 + c]? = _
  have e : (i + 1) * 5 + c = y.cells.length + (i * 5 + c) := by simp [Fv.cells]; omega
  rw [e, List.getElem?_append_right (by omega), Nat.add_sub_cancel_left]
  exact cellsL_at xs i x (by simpa using h) c hc
theorem blk_own {B : Nat} {g : Nat} {t : TypeId} {cs : Array Value} : OwnFrom B (fun (_ : Unit) W => Blk W g t cs) := by
 rintro _ W W' row h hg hr
 refine (hg.block g h.lt fun e => ?_).trans h
 obtain ⟨_, o, ho, hc⟩ := hr g e.symm
 unfold Blk at h
 rw [h] at ho
 cases ho
 cases hc
theorem keepsFrom_alloc (B : Nat) (W : World) (o : Obj) : KeepsFrom B W (W.alloc o) := (KeepsOthers.alloc W o).from B
set_option maxRecDepth 100000 in
set_option maxHeartbeats 4000000 in
theorem appendSeq_in (n : Nat) (hn : 3 ≤ n) (Bm b nn lo hi : Nat) (D : DataW Value) (L : List (Int × Fw)) (w : World) (hD : Has w lo hi D L) (hr : Rising L) (hft : Fit L) (hBm : Bm < w.heap.size) (hm : w.cell? ⟨Bm, 0, none⟩ = some (.map (some b))) (hown : w.ownsMap Tryz.prog 225 rdr b nn D) (hsz : Maps.size D ≤ 1000) :
  CallsIn Fence.wide n Tryz.prog 259 #[.slice none 0 0, .func (.func 222) #[] #[.pointer (some ⟨Bm, 0, none⟩)]] w fun e W' => ∃ (v : Value) (xs : List Fv), e = .returned v ∧ AllOf w lo hi L xs ∧ W'.ownsRow w.heap.size 94 5 v xs.length (cellsL xs) ∧ Below w.heap.size w W' := by
 have h1 : 1 ≤ n := by omega
 have hro : Fence.wide.round = none := rfl
 obtain ⟨i0, hi0, hz0, hz1, hz2⟩ := info_parts Tryz.infoW
 refine callsIn_of_wp_marks Tryz.func259 rfl trivial ?_ hro
 simp only [Tryz.ntmps259, List.size_toArray, List.length_cons, List.length_nil, Nat.reduceAdd, Nat.reduceSub, Array.replicate_succ, Array.replicate_zero, List.push_toArray, List.append_toArray, List.nil_append, List.cons_append]
 gi_wp2
 have bO := Boxed.new w 57 (.slice none 0 0)
 have hB0 : Below w.heap.size w (w.alloc (.cells #[.slice none 0 0] 57)) := (Below.refl _ w).alloc (Nat.le_refl _) _
 obtain ⟨W0, hW0⟩ : ∃ W0, w.alloc (.cells #[.slice none 0 0] 57) = W0 := ⟨_, rfl⟩
 have hs0 : W0.heap.size = w.heap.size + 1 := by rw [← hW0]; simp
 rw [hW0] at bO hB0 ⊢
 have hown0 : W0.ownsMap Tryz.prog 225 rdr b nn D := by
  have hbl := hown.lt
  obtain ⟨es, clock, hb, Ft, hs, hD⟩ := hown
  exact ⟨es, clock, (hB0.block b hbl).trans hb, Ft, hs, hD⟩
 clear hW0
 refine wpIn_rangeFunc_ownH hro h1 (gf := 222) (lb := #[.pointer (some ⟨Bm, 0, none⟩)]) rfl trivial (enters_of Tryz.func222 (by kernel_rfl) rfl)
  (values_stops Fence.wide (n - 1) trivial hro (by omega) Bm b nn lo hi D L W0 w hD hr hft (by omega) ((hB0.cell (p := ⟨Bm, 0, none⟩) hBm).trans hm) hown0) (fun h k => h.trans k) (fun W l o o' _ hl hc hw => KeepsWalks.putObj _ hl hw) (Below.refl _ _) (fun _ => rfl)
  (fun pre W => (∃ v, Boxed W w.heap.size 57 v ∧ W.ownsRow w.heap.size 94 5 v pre.length (cellsL pre) ∧ True) ∧ Below w.heap.size w W)
  (fun _ _ _ => False)
  (OwnFrom.and (Own.from (holdsRow_own w.heap.size w.heap.size 57 94 5 (fun pre : List Fv => pre.length) (fun pre => cellsL pre) (fun _ _ => True)) _) (ownFrom_below (Nat.le_refl _) (by omega)))
  (fun _ _ _ _ _ hs _ _ => hs)
  ⟨⟨_, bO, World.ownsRow_nil _ _ _ _, trivial⟩, hB0⟩
  (fun x a' W => ∃ B', a' = { tmps := #[.slice none 0 0, .func (.func 222) #[] #[.pointer (some ⟨Bm, 0, none⟩)], .pointer (some ⟨w.heap.size, 0, none⟩), undef, .slice none 0 0, .pointer (some ⟨B', 0, none⟩), .func (.func 222) #[] #[.pointer (some ⟨Bm, 0, none⟩)], x.val, undef, undef, undef, undef, undef], defers := [] } ∧ Blk W B' 94 #[.int .i64 x.t, .int .i64 x.o, .int .i64 x.l, .slice x.sa x.len x.cap, .int .i64 x.st])
  (fun x a' _ W W' row hs hg hrow => by obtain ⟨B', e, hb⟩ := hs; exact ⟨B', e, blk_own () W W' row hb hg hrow⟩) ?assign ?body ?done ?stop
 case assign =>
  intro l pre x W K hI hK
  unfold Fv.val at hK ⊢
  gi_wp2
  refine hK _ _ (keepsFrom_alloc _ _ _) (KeepsWalks.alloc _ _) ?_ ⟨W.heap.size, rfl, blk_new W _ _⟩
  obtain ⟨⟨v, hv, hrow, _⟩, hB⟩ := hI
  exact ⟨⟨v, hv.alloc _, hrow.alloc _, trivial⟩, hB.alloc hB.size _⟩
 case body =>
  rintro l pre x a' W _ _ ⟨⟨v, hv, hrow, _⟩, hB⟩ ⟨B', rfl, hb⟩ hlt
  have hc := hv.cell
  have d0 : W.cell? ⟨B', 0, none⟩ = some (.int .i64 x.t) := (hb.cell 0).trans rfl
  have d1 : W.cell? ⟨B', 1, none⟩ = some (.int .i64 x.o) := (hb.cell 1).trans rfl
  have d2 : W.cell? ⟨B', 2, none⟩ = some (.int .i64 x.l) := (hb.cell 2).trans rfl
  have d3 : W.cell? ⟨B', 3, none⟩ = some (.slice x.sa x.len x.cap) := (hb.cell 3).trans rfl
  have d4 : W.cell? ⟨B', 4, none⟩ = some (.int .i64 x.st) := (hb.cell 4).trans rfl
  have hnew : ∀ (j : Nat) (u : Value), x.cells[j]? = some u → (W.alloc (.cells #[.int .i64 x.t, .int .i64 x.o, .int .i64 x.l, .slice x.sa x.len x.cap, .int .i64 x.st] 94)).cell? (Addr.add ⟨W.heap.size, 0, none⟩ j) = some u := fun j u hj => by
   have := (blk_new W 94 #[.int .i64 x.t, .int .i64 x.o, .int .i64 x.l, .slice x.sa x.len x.cap, .int .i64 x.st]).cell j
   rw [Go.WideShapes.add_plain, Nat.zero_add, this, ← hj]
   simp [Fv.cells]
  unfold Fv.val
  gi_wp2_with (gi_at_builtin; refine wpListIn_append_own _ rfl _ _ 57 rfl w.heap.size 94 i0 _ 5 56 Tryz.underlying57 hi0 hz0 hz1 hz2 rfl (by decide) _ _ _ rfl (hrow.alloc _) ⟨W.heap.size, 0, none⟩ 1 1 x.cells rfl rfl hnew (by simp [Fv.cells, Value.oneCell']) (by unfold maxLen; omega) (by omega) (by have := hB.size; simp; omega) ?_; intro v' w1 hown' hgrow _; obtain ⟨g', cap', rfl⟩ := ownsRow_succ hown'; obtain ⟨hv1, hv2, hr2, hk2, hb2⟩ := hv.appended (by decide) hrow hB.size (Nat.le_refl _) hown' hgrow; have hc1 := hv1.cell; have hf1 := hv1.frozen)
  exact ⟨hk2.from _, hk2.walks, ⟨⟨_, hv2, by rw [cellsL_snoc]; simpa using hr2, trivial⟩, hB.trans hb2⟩⟩
 case done =>
  rintro D' ys W hD' hall ⟨⟨v, hv, hrow, _⟩, hB⟩ hK
  have hc := hv.cell
  gi_wp2
  refine ⟨by simp, .inl ⟨_, _, rfl, run_takeDeferred hK, ?_⟩⟩
  exact ⟨_, results_tmp rfl _ _ _, v, ys, rfl, hall, ownsRow_putObj hrow _ hK rfl, hB.trans (belowK_b (w := w) (Nat.le_refl _) W D' _ _ (by omega) hK rfl rfl)⟩
 case stop =>
  rintro D' c pre W _ _ h _
  exact h.elim
set_option maxRecDepth 100000 in
set_option maxHeartbeats 1000000 in
theorem collect_any (Bm b nn lo hi : Nat) (D : DataW Value) (L : List (Int × Fw)) (w : World) (hD : Has w lo hi D L) (hr : Rising L) (hft : Fit L) (hBm : Bm < w.heap.size) (hm : w.cell? ⟨Bm, 0, none⟩ = some (.map (some b))) (hown : w.ownsMap Tryz.prog 225 rdr b nn D) (hsz : Maps.size D ≤ 1000) :
  Calls Tryz.prog 220 #[.func (.func 222) #[] #[.pointer (some ⟨Bm, 0, none⟩)]] w fun e W' => ∃ (v : Value) (xs : List Fv), e = .returned v ∧ AllOf w lo hi L xs ∧ W'.ownsRow w.heap.size 94 5 v xs.length (cellsL xs) ∧ Below w.heap.size w W' := by
 have q := (callsIn_wide (n := 3)).1 (appendSeq_in 3 (by omega) Bm b nn lo hi D L w hD hr hft hBm hm hown hsz)
 go_enter Tryz.func220, Tryz.ntmps220
 go_wp2_with (go_at_call 259; refine q.mono ?_; rintro e w1 ⟨v, xs, rfl, h1, h2, h3⟩)
 go_ret
 exact ⟨v, xs, rfl, h1, h2, h3⟩
end Go.Proofs.YtoaeficfmcncjaaGreat.Flight
