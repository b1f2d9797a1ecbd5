/-
  The walks of the disk's functions that tell what it holds.
-/
import Derived.Test.YtekjlmnnaaodjaaWalksD
namespace Go.Proofs.Ytekjlmnnaaodjaa
open Go.RowKit Go.Maps Go.Shelf
open Math

set_option maxRecDepth 100000 in
/-- A sector and a number handed back. -/
theorem results_arr {fn : Func} {p u : Tmp} (h : fn.results = #[.cell p 56, .tmp u]) (tmps : Array Value) (w : World) (g : Nat) (l : List Nat) (v : Value)
    (hp : tmps.getD p undef = .pointer (some ⟨g, 0, none⟩)) (hv : tmps.getD u undef = v) (hA : Arr w g 56 l) (hl : l.length = 16) : (results fn tmps).run Try.prog w = .ok (.tuple #[arr l, v]) w := by
  have hp' : tmps[p]?.getD undef = .pointer (some ⟨g, 0, none⟩) := by simpa using hp
  have hv' : tmps[u]?.getD undef = v := by simpa using hv
  have := run_loadVar_row (P := Try.prog) w g 56 56 (l.map enc).toArray (0, 0) _ hA Try.underlying56 rfl (by rw [List.size_toArray, List.length_map, hl]; exact Try.size56)
  simp [results, h, hp', hv', asAddr, this, arr]

set_option maxRecDepth 100000 in
set_option maxHeartbeats 400000 in
/-- Read, of a sector that there is, on a disk that works -/
theorem read_some (d b1 b2 : Nat) (s : Dk) (k : Int) (h0 : -9223372036854775808 ≤ k) (h1 : k ≤ 9223372036854775807) (w : World) (h : DiskAt w d b1 b2 s) (hi : inside s k = true) (hb : s.broken = false) :
    Calls Try.prog 41 #[.pointer (some ⟨d, 0, none⟩), .int .i64 k] w fun e w' => e = .returned (.tuple #[arr ((s.fresh k).getD (s.safe k)), .int .i64 0]) ∧ Kept [] w w' := by
  have hA := h.alloc (.cells #[.int .u8 0, .int .u8 0, .int .u8 0, .int .u8 0, .int .u8 0, .int .u8 0, .int .u8 0, .int .u8 0, .int .u8 0, .int .u8 0, .int .u8 0, .int .u8 0, .int .u8 0, .int .u8 0, .int .u8 0, .int .u8 0] 56)
  have hA2 := hA.alloc (.cells #[.int .u8 0, .int .u8 0, .int .u8 0, .int .u8 0, .int .u8 0, .int .u8 0, .int .u8 0, .int .u8 0, .int .u8 0, .int .u8 0, .int .u8 0, .int .u8 0, .int .u8 0, .int .u8 0, .int .u8 0, .int .u8 0] 56)
  have q := find_any d b1 b2 s k _ hA
  rw [if_pos hi] at q
  obtain ⟨-, e1, e2, -, e4, -⟩ := h.six
  obtain ⟨-, c1, c2, -, c4, -⟩ := hA.six
  rw [hb] at c4 e4
  have hlt := h.lt.1
  obtain ⟨-, c1', -, -, -, -⟩ := hA2.six
  have hx := h.valid.safe k
  have hy : ∀ x, s.fresh k = some x → Sec x := fun x e => (h.valid.fresh k x e).2.2
  obtain ⟨m, hm, hv⟩ := hA.safe
  have hl2 := (hA.fresh.look h0 h1).2
  have hN : Arr (w.alloc (.cells #[.int .u8 0, .int .u8 0, .int .u8 0, .int .u8 0, .int .u8 0, .int .u8 0, .int .u8 0, .int .u8 0, .int .u8 0, .int .u8 0, .int .u8 0, .int .u8 0, .int .u8 0, .int .u8 0, .int .u8 0, .int .u8 0] 56)) w.heap.size 56 nought := arr_new w 56 nought
  have hN2 : Arr ((w.alloc (.cells #[.int .u8 0, .int .u8 0, .int .u8 0, .int .u8 0, .int .u8 0, .int .u8 0, .int .u8 0, .int .u8 0, .int .u8 0, .int .u8 0, .int .u8 0, .int .u8 0, .int .u8 0, .int .u8 0, .int .u8 0, .int .u8 0] 56)).alloc (.cells #[.int .u8 0, .int .u8 0, .int .u8 0, .int .u8 0, .int .u8 0, .int .u8 0, .int .u8 0, .int .u8 0, .int .u8 0, .int .u8 0, .int .u8 0, .int .u8 0, .int .u8 0, .int .u8 0, .int .u8 0, .int .u8 0] 56)) (w.heap.size + 1) 56 nought := by
    have := arr_new (w.alloc (.cells #[.int .u8 0, .int .u8 0, .int .u8 0, .int .u8 0, .int .u8 0, .int .u8 0, .int .u8 0, .int .u8 0, .int .u8 0, .int .u8 0, .int .u8 0, .int .u8 0, .int .u8 0, .int .u8 0, .int .u8 0, .int .u8 0] 56)) 56 nought
    rwa [World.size_alloc] at this
  have hvk := hv k
  have hNN : Arr ((w.alloc (.cells #[.int .u8 0, .int .u8 0, .int .u8 0, .int .u8 0, .int .u8 0, .int .u8 0, .int .u8 0, .int .u8 0, .int .u8 0, .int .u8 0, .int .u8 0, .int .u8 0, .int .u8 0, .int .u8 0, .int .u8 0, .int .u8 0] 56)).alloc (.cells #[.int .u8 0, .int .u8 0, .int .u8 0, .int .u8 0, .int .u8 0, .int .u8 0, .int .u8 0, .int .u8 0, .int .u8 0, .int .u8 0, .int .u8 0, .int .u8 0, .int .u8 0, .int .u8 0, .int .u8 0, .int .u8 0] 56)) w.heap.size 56 nought := hN.alloc _
  cases hf : s.fresh k with
  | some x =>
    replace hy := hy x hf
    rw [hf] at hl2
    simp only [Option.getD_some, Option.isSome_some, arr] at hl2 ⊢
    go_enter Try.func41, Try.ntmps41
    go_wp2_with (first
      | (go_at_call 34; refine q.mono ?_; rintro e w' ⟨rfl, rfl⟩)
      | (refine wpList_store_arr rfl 56 _ _ rfl (w.heap.size + 1) 56 _ x rfl rfl hN2 hy.1 (by rw [hy.1]; exact Try.size56) ?_; intro w2 hB2 hk2 hz2; replace hz2 : Hid _ := hz2; replace hNN := hNN.kept hk2 (by simp))
      | (refine wpList_load_arr rfl 56 _ rfl _ 56 x rfl hB2 16 5 Try.underlying56 (by rw [hy.1]; exact Try.size56) ?_)
      | (refine wpList_store_arr rfl 56 _ _ rfl w.heap.size 56 _ x rfl rfl hNN hy.1 (by rw [hy.1]; exact Try.size56) ?_; intro w3 hB3 hk3 hz3; replace hz3 : Hid _ := hz3))
    refine bodyPost_ret (results_arr rfl _ _ w.heap.size x (.int .i64 0) rfl rfl hB3 hy.1) rfl ⟨rfl, ?_⟩
    exact (((kept_alloc _ _ _).trans (kept_alloc _ _ _)).young hk2 (Nat.le_succ _)).young hk3 (Nat.le_refl _)
  | none =>
    rw [hf] at hl2
    simp only [Option.getD_none, Option.isSome_none, arr] at hl2 ⊢
    generalize s.safe k = x at *
    go_enter Try.func41, Try.ntmps41
    go_wp2_with (first
      | (go_at_call 34; refine q.mono ?_; rintro e w' ⟨rfl, rfl⟩)
      | (refine wpList_store_arr rfl 56 _ _ rfl (w.heap.size + 1) 56 _ nought rfl rfl hN2 rfl Try.size56 ?_; intro w2 hB2 hk2 hz2; replace hz2 : Hid _ := hz2; replace hNN := hNN.kept hk2 (by simp); have c1w := (hA2.kept hk2 (by simp; omega) (by simp; have := h.lt; omega) (by simp; have := h.lt; omega)).six.2.1; have hlw := (((hm.kept (kept_alloc [] _ _) (by simp)).kept hk2 (by simp; have := h.lt; omega)).look h0 h1).1; rw [hvk] at hlw; simp only [arr] at hlw)
      | (refine wpList_store_arr rfl 56 _ _ rfl w.heap.size 56 _ x rfl rfl hNN hx.1 (by rw [hx.1]; exact Try.size56) ?_; intro w3 hB3 hk3 hz3; replace hz3 : Hid _ := hz3))
    refine bodyPost_ret (results_arr rfl _ _ w.heap.size x (.int .i64 0) rfl rfl hB3 hx.1) rfl ⟨rfl, ?_⟩
    exact (((kept_alloc _ _ _).trans (kept_alloc _ _ _)).young hk2 (Nat.le_succ _)).young hk3 (Nat.le_refl _)

set_option maxRecDepth 100000 in
/-- Read -/
theorem read_any (d b1 b2 : Nat) (s : Dk) (k : Int) (h0 : -9223372036854775808 ≤ k) (h1 : k ≤ 9223372036854775807) (w : World) (h : DiskAt w d b1 b2 s) :
    Calls Try.prog 41 #[.pointer (some ⟨d, 0, none⟩), .int .i64 k] w fun e w' => e = .returned (.tuple #[arr (readL s k), .int .i64 (readE s k : Nat)]) ∧ Kept [] w w' := by
  have hA := h.alloc (.cells #[.int .u8 0, .int .u8 0, .int .u8 0, .int .u8 0, .int .u8 0, .int .u8 0, .int .u8 0, .int .u8 0, .int .u8 0, .int .u8 0, .int .u8 0, .int .u8 0, .int .u8 0, .int .u8 0, .int .u8 0, .int .u8 0] 56)
  have q := find_any d b1 b2 s k _ hA
  have c4 := hA.six.2.2.2.2.1
  have e4 := h.six.2.2.2.2.1
  have hlt := h.lt.1
  have hN : Arr (w.alloc (.cells #[.int .u8 0, .int .u8 0, .int .u8 0, .int .u8 0, .int .u8 0, .int .u8 0, .int .u8 0, .int .u8 0, .int .u8 0, .int .u8 0, .int .u8 0, .int .u8 0, .int .u8 0, .int .u8 0, .int .u8 0, .int .u8 0] 56)) w.heap.size 56 nought := arr_new w 56 nought
  unfold readL readE
  by_cases hi : inside s k = true
  · rw [if_pos hi, if_pos hi]
    rw [if_pos hi] at q
    by_cases hb : s.broken = true
    · rw [if_pos hb, if_pos hb]
      rw [hb] at c4 e4
      go_enter Try.func41, Try.ntmps41
      go_wp2_with (first
        | (go_at_call 34; refine q.mono ?_; rintro e w' ⟨rfl, rfl⟩)
        | (refine wpList_store_arr rfl 56 _ _ rfl w.heap.size 56 _ nought rfl rfl hN rfl Try.size56 ?_; intro w3 hB3 hk3 hz3; replace hz3 : Hid _ := hz3))
      refine bodyPost_ret (results_arr rfl _ _ w.heap.size nought (.int .i64 3) rfl rfl hB3 rfl) rfl ⟨rfl, ?_⟩
      exact (kept_alloc _ _ _).young hk3 (Nat.le_refl _)
    · rw [if_neg hb, if_neg hb]
      exact read_some d b1 b2 s k h0 h1 w h hi (by simpa using hb)
  · rw [if_neg hi, if_neg hi]
    rw [if_neg hi] at q
    go_enter Try.func41, Try.ntmps41
    go_wp2_with (first
      | (go_at_call 34; refine q.mono ?_; rintro e w' ⟨rfl, rfl⟩)
      | (refine wpList_store_arr rfl 56 _ _ rfl w.heap.size 56 _ nought rfl rfl hN rfl Try.size56 ?_; intro w3 hB3 hk3 hz3; replace hz3 : Hid _ := hz3))
    refine bodyPost_ret (results_arr rfl _ _ w.heap.size nought (.int .i64 13) rfl rfl hB3 rfl) rfl ⟨rfl, ?_⟩
    exact (kept_alloc _ _ _).young hk3 (Nat.le_refl _)
end Go.Proofs.Ytekjlmnnaaodjaa
