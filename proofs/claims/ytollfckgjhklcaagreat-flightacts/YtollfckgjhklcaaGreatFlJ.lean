/-
  slices.Collect of what maps.Values tells.
-/
import Derived.Test.YtollfckgjhklcaaGreatFlI
namespace Go.Proofs.YtollfckgjhklcaaGreat.Flight
open Go.RowKit Go.Maps Go.Sort Go.Shelf
open Table (Rising ins del tks)

attribute [local go_sem] Oper.semAt_some

set_option maxRecDepth 100000 in
theorem Tryz.infoW : (Tryz.prog.info? 39).map (fun i => (i.zero, i.size, i.bytes)) = some (some (.agg #[.int .i64 0, .int .i64 0, .int .i64 0, .slice none 0 0, .int .i64 0]), 5, 56) := by kernel_rfl
/-- The cells of some writes. -/
def cellsL (xs : List Fv) : List Value := xs.flatMap Fv.cells
theorem cellsL_length (xs : List Fv) : (cellsL xs).length = xs.length * 5 := by
  induction xs with
  | nil => rfl
  | cons x xs ih =>
    show (x.cells ++ cellsL xs).length = _
    rw [List.length_append, ih, List.length_cons]
    simp [Fv.cells]
    omega
theorem cellsL_one (xs : List Fv) : ∀ v ∈ cellsL xs, v.oneCell' = true := fun v hv => by
  obtain ⟨x, _, hx⟩ := List.mem_flatMap.1 hv
  simp [Fv.cells] at hx
  rcases hx with rfl | rfl | rfl | rfl | rfl <;> rfl
theorem cellsL_snoc (xs : List Fv) (x : Fv) : cellsL (xs ++ [x]) = cellsL xs ++ x.cells := by simp [cellsL]
theorem cellsL_at : ∀ (xs : List Fv) (i : Nat) (x : Fv), xs[i]? = some x → ∀ c, c < 5 → (cellsL xs)[i * 5 + c]? = x.cells[c]?
  | [], i, x, h, _, _ => by simp at h
  | y :: xs, 0, x, h, c, hc => by
    simp at h
    subst h
    show (y.cells ++ cellsL xs)[0 * 5 + c]? = _
    rw [Nat.zero_mul, Nat.zero_add, List.getElem?_append_left (by simp [Fv.cells]; omega)]
  | y :: xs, i + 1, x, h, c, hc => by
    show (y.cells ++ cellsL xs)[(i + 1) * 5 + c]? = _
    have e : (i + 1) * 5 + c = y.cells.length + (i * 5 + c) := by simp [Fv.cells]; omega
    rw [e, List.getElem?_append_right (by omega), Nat.add_sub_cancel_left]
    exact cellsL_at xs i x (by simpa using h) c hc
theorem blk_own {B : Nat} {g : Nat} {t : TypeId} {cs : Array Value} : OwnFrom B (fun (_ : Unit) W => Blk W g t cs) := by
  rintro _ W W' row h hg hr
  refine (hg.block g h.lt fun e => ?_).trans h
  obtain ⟨_, o, ho, hc⟩ := hr g e.symm
  unfold Blk at h
  rw [h] at ho
  cases ho
  cases hc
theorem keepsFrom_alloc (B : Nat) (W : World) (o : Obj) : KeepsFrom B W (W.alloc o) := (KeepsOthers.alloc W o).from B
set_option maxRecDepth 100000 in
set_option maxHeartbeats 4000000 in
/-- slices.AppendSeq(nil, maps.Values(m)) -/
theorem appendSeq_in (n : Nat) (hn : 3 ≤ n) (Bm b nn lo hi : Nat) (D : DataW Value) (L : List (Int × Fw)) (w : World) (hD : Has w lo hi D L) (hr : Rising L) (hft : Fit L) (hBm : Bm < w.heap.size) (hm : w.cell? ⟨Bm, 0, none⟩ = some (.map (some b))) (hown : w.ownsMap Tryz.prog 71 rdr b nn D) (hsz : Maps.size D ≤ 1000) :
    CallsIn Fence.wide n Tryz.prog 83 #[.slice none 0 0, .func (.func 72) #[] #[.pointer (some ⟨Bm, 0, none⟩)]] w fun e W' => ∃ (v : Value) (xs : List Fv), e = .returned v ∧ AllOf w lo hi L xs ∧ W'.ownsRow w.heap.size 39 5 v xs.length (cellsL xs) ∧ Below w.heap.size w W' := by
  have h1 : 1 ≤ n := by omega
  have hro : Fence.wide.round = none := rfl
  obtain ⟨i0, hi0, hz0, hz1, hz2⟩ := info_parts Tryz.infoW
  refine callsIn_of_wp_marks Tryz.func83 rfl trivial ?_ hro
  simp only [Tryz.ntmps83, List.size_toArray, List.length_cons, List.length_nil, Nat.reduceAdd, Nat.reduceSub, Array.replicate_succ, Array.replicate_zero, List.push_toArray, List.append_toArray, List.nil_append, List.cons_append]
  gi_wp2
  have bO := Boxed.new w 47 (.slice none 0 0)
  have hB0 : Below w.heap.size w (w.alloc (.cells #[.slice none 0 0] 47)) := (Below.refl _ w).alloc (Nat.le_refl _) _
  obtain ⟨W0, hW0⟩ : ∃ W0, w.alloc (.cells #[.slice none 0 0] 47) = W0 := ⟨_, rfl⟩
  have hs0 : W0.heap.size = w.heap.size + 1 := by rw [← hW0]; simp
  rw [hW0] at bO hB0 ⊢
  have hown0 : W0.ownsMap Tryz.prog 71 rdr b nn D := by
    have hbl := hown.lt
    obtain ⟨es, clock, hb, Ft, hs, hD⟩ := hown
    exact ⟨es, clock, (hB0.block b hbl).trans hb, Ft, hs, hD⟩
  clear hW0
  refine wpIn_rangeFunc_ownH hro h1 (gf := 72) (lb := #[.pointer (some ⟨Bm, 0, none⟩)]) rfl trivial (enters_of Tryz.func72 (by kernel_rfl) rfl)
    (values_stops Fence.wide (n - 1) trivial hro (by omega) Bm b nn lo hi D L W0 w hD hr hft (by omega) ((hB0.cell (p := ⟨Bm, 0, none⟩) hBm).trans hm) hown0) (fun h k => h.trans k) (fun W l o o' _ hl hc hw => KeepsWalks.putObj _ hl hw) (Below.refl _ _) (fun _ => rfl)
    (fun pre W => (∃ v, Boxed W w.heap.size 47 v ∧ W.ownsRow w.heap.size 39 5 v pre.length (cellsL pre) ∧ True) ∧ Below w.heap.size w W)
    (fun _ _ _ => False)
    (OwnFrom.and (Own.from (holdsRow_own w.heap.size w.heap.size 47 39 5 (fun pre : List Fv => pre.length) (fun pre => cellsL pre) (fun _ _ => True)) _) (ownFrom_below (Nat.le_refl _) (by omega)))
    (fun _ _ _ _ _ hs _ _ => hs)
    ⟨⟨_, bO, World.ownsRow_nil _ _ _ _, trivial⟩, hB0⟩
    (fun x a' W => ∃ B', a' = { tmps := #[.slice none 0 0, .func (.func 72) #[] #[.pointer (some ⟨Bm, 0, none⟩)], .pointer (some ⟨w.heap.size, 0, none⟩), undef, .slice none 0 0, .pointer (some ⟨B', 0, none⟩), .func (.func 72) #[] #[.pointer (some ⟨Bm, 0, none⟩)], x.val, undef, undef, undef, undef, undef], defers := [] } ∧ Blk W B' 39 #[.int .i64 x.t, .int .i64 x.o, .int .i64 x.l, .slice x.sa x.len x.cap, .int .i64 x.st])
    (fun x a' _ W W' row hs hg hrow => by obtain ⟨B', e, hb⟩ := hs; exact ⟨B', e, blk_own () W W' row hb hg hrow⟩) ?assign ?body ?done ?stop
  case assign =>
    intro l pre x W K hI hK
    unfold Fv.val at hK ⊢
    gi_wp2
    refine hK _ _ (keepsFrom_alloc _ _ _) (KeepsWalks.alloc _ _) ?_ ⟨W.heap.size, rfl, blk_new W _ _⟩
    obtain ⟨⟨v, hv, hrow, _⟩, hB⟩ := hI
    exact ⟨⟨v, hv.alloc _, hrow.alloc _, trivial⟩, hB.alloc hB.size _⟩
  case body =>
    rintro l pre x a' W _ _ ⟨⟨v, hv, hrow, _⟩, hB⟩ ⟨B', rfl, hb⟩ hlt
    have hc := hv.cell
    have d0 : W.cell? ⟨B', 0, none⟩ = some (.int .i64 x.t) := (hb.cell 0).trans rfl
    have d1 : W.cell? ⟨B', 1, none⟩ = some (.int .i64 x.o) := (hb.cell 1).trans rfl
    have d2 : W.cell? ⟨B', 2, none⟩ = some (.int .i64 x.l) := (hb.cell 2).trans rfl
    have d3 : W.cell? ⟨B', 3, none⟩ = some (.slice x.sa x.len x.cap) := (hb.cell 3).trans rfl
    have d4 : W.cell? ⟨B', 4, none⟩ = some (.int .i64 x.st) := (hb.cell 4).trans rfl
    have hnew : ∀ (j : Nat) (u : Value), x.cells[j]? = some u → (W.alloc (.cells #[.int .i64 x.t, .int .i64 x.o, .int .i64 x.l, .slice x.sa x.len x.cap, .int .i64 x.st] 39)).cell? (Addr.add ⟨W.heap.size, 0, none⟩ j) = some u := fun j u hj => by
      have := (blk_new W 39 #[.int .i64 x.t, .int .i64 x.o, .int .i64 x.l, .slice x.sa x.len x.cap, .int .i64 x.st]).cell j
      rw [Go.WideShapes.add_plain, Nat.zero_add, this, ← hj]
      simp [Fv.cells]
    unfold Fv.val
    gi_wp2_with (gi_at_builtin; refine wpListIn_append_own _ rfl _ _ 47 rfl w.heap.size 39 i0 _ 5 56 Tryz.underlying47 hi0 hz0 hz1 hz2 rfl (by decide) _ _ _ rfl (hrow.alloc _) ⟨W.heap.size, 0, none⟩ 1 1 x.cells rfl rfl hnew (by simp [Fv.cells, Value.oneCell']) (by unfold maxLen; omega) (by omega) (by have := hB.size; simp; omega) ?_; intro v' w1 hown' hgrow _; obtain ⟨g', cap', rfl⟩ := ownsRow_succ hown'; obtain ⟨hv1, hv2, hr2, hk2, hb2⟩ := hv.appended (by decide) hrow hB.size (Nat.le_refl _) hown' hgrow; have hc1 := hv1.cell; have hf1 := hv1.frozen)
    exact ⟨hk2.from _, hk2.walks, ⟨⟨_, hv2, by rw [cellsL_snoc]; simpa using hr2, trivial⟩, hB.trans hb2⟩⟩
  case done =>
    rintro D' ys W hD' hall ⟨⟨v, hv, hrow, _⟩, hB⟩ hK
    have hc := hv.cell
    gi_wp2
    refine ⟨by simp, .inl ⟨_, _, rfl, run_takeDeferred hK, ?_⟩⟩
    exact ⟨_, results_tmp rfl _ _ _, v, ys, rfl, hall, ownsRow_putObj hrow _ hK rfl, hB.trans (belowK_b (w := w) (Nat.le_refl _) W D' _ _ (by omega) hK rfl rfl)⟩
  case stop =>
    rintro D' c pre W _ _ h _
    exact h.elim
set_option maxRecDepth 100000 in
set_option maxHeartbeats 1000000 in
/-- slices.Collect(maps.Values(m)) -/
theorem collect_any (Bm b nn lo hi : Nat) (D : DataW Value) (L : List (Int × Fw)) (w : World) (hD : Has w lo hi D L) (hr : Rising L) (hft : Fit L) (hBm : Bm < w.heap.size) (hm : w.cell? ⟨Bm, 0, none⟩ = some (.map (some b))) (hown : w.ownsMap Tryz.prog 71 rdr b nn D) (hsz : Maps.size D ≤ 1000) :
    Calls Tryz.prog 70 #[.func (.func 72) #[] #[.pointer (some ⟨Bm, 0, none⟩)]] w fun e W' => ∃ (v : Value) (xs : List Fv), e = .returned v ∧ AllOf w lo hi L xs ∧ W'.ownsRow w.heap.size 39 5 v xs.length (cellsL xs) ∧ Below w.heap.size w W' := by
  have q := (callsIn_wide (n := 3)).1 (appendSeq_in 3 (by omega) Bm b nn lo hi D L w hD hr hft hBm hm hown hsz)
  go_enter Tryz.func70, Tryz.ntmps70
  go_wp2_with (go_at_call 83; refine q.mono ?_; rintro e w1 ⟨v, xs, rfl, h1, h2, h3⟩)
  go_ret
  exact ⟨v, xs, rfl, h1, h2, h3⟩
end Go.Proofs.YtollfckgjhklcaaGreat.Flight
