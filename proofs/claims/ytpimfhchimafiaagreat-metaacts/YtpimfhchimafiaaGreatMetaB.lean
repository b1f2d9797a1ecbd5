/-
  Plain facts on Start and Retire that end well, on masks, and on how many operations are spent; the walk of lives; the walks of the document's Look, Start, Retire.
-/
import Derived.Test.YtpimfhchimafiaaGreatMetaA
namespace Go.Proofs.YtpimfhchimafiaaGreat
open Go.RowKit Go.Maps Go.Shelf
open Math

theorem log_ops (s : Dk) (m : Nat) : (logS s m).ops ≤ s.ops + 2 := by
  have := put_ops s 2 4 m
  unfold logS
  split
  · omega
  · split
    · omega
    · omega
theorem next_ops (s : Dk) : (nextS s).ops ≤ s.ops + 2 := by
  have := put_ops s 0 2 (boot s + 1)
  unfold nextS
  split <;> omega
theorem ret_ops (s : Dk) (m : Nat) : (retS s m).ops ≤ s.ops + 4 := by
  have h1 := map_ops s m
  have h2 := log_ops (mapS s m) 0
  unfold retS
  split <;> omega
theorem Three.told {s : Dk} {c b l m : Nat} (h : Three s c b l m) (hb : s.broken = false) (h32 : b < 4294967296) : YtpimfhchimafiaaGreat.boot s = b := by
  unfold YtpimfhchimafiaaGreat.boot
  rw [(h.tells hb).1]
  exact Nat.mod_eq_of_lt h32
/-- A Start that ends well. -/
theorem Three.started {s : Dk} {c b l m : Nat} (h : Three s c b l m) (hb : s.broken = false) (hc : c + 1 < 4294967296) (hbb : b < 4294967295) (hf : s.fuse < 0) :
    nextE s = 0 ∧ Three (nextS s) (c + 1) (b + 1) l m ∧ (nextS s).broken = false ∧ (nextS s).fuse = s.fuse ∧ startB s = b + 1 ∧ startL s = l ∧ startD s = m := by
  obtain ⟨p1, p2, p3, p4⟩ := h.booted hb hc hbb (.inl hf)
  unfold startB startL startD
  rw [if_pos p1, if_pos p1, if_pos p1]
  exact ⟨p1, p2, p3, p4 hf, p2.told p3 (by omega), (p2.tells p3).2.1, (p2.tells p3).2.2⟩
/-- A Retire that ends well. -/
theorem Three.retired {s : Dk} {c b l m : Nat} (h : Three s c b l m) (hb : s.broken = false) (hc : c + 2 < 4294967296) (z : Nat) (hz : z < 18446744073709551616) (hf : s.fuse < 0) :
    retE s z = 0 ∧ Three (retS s z) (c + 2) b 0 z ∧ (retS s z).broken = false ∧ (retS s z).fuse = s.fuse := by
  obtain ⟨p1, p2, p3, p4, _⟩ := h.mapped hb (by omega) z hz (.inl hf)
  have f1 := p4 hf
  obtain ⟨r1, r2, r3, r4, _⟩ := p2.logged p3 (by omega) 0 (by omega) (.inl (by rw [f1]; exact hf))
  unfold retE retS
  rw [if_pos p1, if_pos p1]
  exact ⟨r1, r2, r3, (r4 (by rw [f1]; exact hf)).trans f1⟩
/-- Masks: what is all in another. -/
theorem and_of_in {x y : Nat} (h : ∀ j, x.testBit j = true → y.testBit j = true) : y &&& x = x := by
  apply Nat.eq_of_testBit_eq
  intro j
  rw [Nat.testBit_and]
  cases hx : x.testBit j with
  | false => simp
  | true => simp [h j hx]
theorem andNot_of_in {x y : Nat} (hx : x < 18446744073709551616) (hy : y < 18446744073709551616) (h : ∀ j, x.testBit j = true → y.testBit j = true) : x &&& (18446744073709551615 - y) = 0 := by
  have e := Bits.Math.and_add_andNot 64 x y hx hy
  have e1 := and_of_in h
  rw [Nat.and_comm] at e1
  rw [e1] at e
  have e2 : x + (x &&& (18446744073709551615 - y)) = x := e
  omega
theorem or_lt64 {x y : Nat} (hx : x < 18446744073709551616) (hy : y < 18446744073709551616) : x ||| y < 18446744073709551616 := Nat.or_lt_two_pow (n := 64) hx hy

set_option maxRecDepth 100000 in
set_option maxHeartbeats 1000000 in
/-- lives -/
theorem metaLives_any (w : World) : Calls Tryz.prog 4 #[] w fun e w' => e = .returned (.bool true) ∧ Kept [] w w' := by
  have q1 := new_any 12 (by decide) (by decide) w
  obtain ⟨a1, a2, a3, a4, a5, a6, a7⟩ := (three_made 12 (by decide) (by decide)).started rfl (by decide) (by decide) (by decide)
  have q2 := fun W (h : DiskAt W (w.heap.size + 2) w.heap.size (w.heap.size + 1) (made 12)) => start_any _ _ _ (made 12) (by decide) W h
  rw [a1, a5, a6, a7] at q2
  have o1 : (nextS (made 12)).ops ≤ 2 := next_ops (made 12)
  have f1 : (nextS (made 12)).fuse = -1 := a4
  clear a1 a4 a5 a6 a7
  generalize nextS (made 12) = s1 at *
  obtain ⟨b1, b2, b3, _⟩ := a2.retired a3 (by decide) 7 (by decide) (by rw [f1]; decide)
  have q3 := fun W (h : DiskAt W (w.heap.size + 2) w.heap.size (w.heap.size + 1) s1) => retire_any _ _ _ s1 7 (by decide) (by omega) W h
  rw [b1] at q3
  clear b1 a2 a3 o1 f1
  generalize retS s1 7 = s2 at *
  have q4 := fun W (h : DiskAt W (w.heap.size + 2) w.heap.size (w.heap.size + 1) s2) => look_any _ _ _ s2 W h
  rw [b2.told b3 (by decide), (b2.tells b3).2.1, (b2.tells b3).2.2] at q4
  clear b2 b3
  have q5 := fun W => mine_any 0 3 4 (by decide) (by decide) W
  have q6 := fun W => same_meta 1 0 7 W
  go_enter Tryz.func4, Tryz.ntmps4
  go_wp2_with (first
    | (go_at_call 5; refine q1.mono ?_; rintro e w1 ⟨rfl, hD1, hk1⟩; have hlt := hD1.lt)
    | (go_at_call 11; refine (q2 _ hD1).mono ?_; rintro e w2 ⟨rfl, hD2, hk2⟩; have hka := kept_alloc [] w2 (.cells #[.int .u32 1, .int .u64 0, .int .u64 0] 37); have hb2 := blk_new w2 37 #[.int .u32 1, .int .u64 0, .int .u64 0]; have hsz := hk2.size)
    | (go_at_call 12; refine (q3 _ (hD2.kept hka (by simp) (by simp) (by simp))).mono ?_; rintro e w3 ⟨rfl, hD3, hk3⟩; have c3 := (hb2.kept hk3 (by simp; omega)).cell 0; simp at c3)
    | (go_at_call 8; refine (q4 _ hD3).mono ?_; rintro e w4 ⟨rfl, hk4⟩)
    | (go_at_call 13; refine (q5 _).mono ?_; rintro e w5 ⟨rfl, hk5⟩))
  go_ret
  exact ⟨rfl, ((((hk1.young3 hk2 (by omega) (by omega) (by omega)).trans hka).young3 hk3 (by omega) (by omega) (by omega)).trans hk4).trans hk5⟩

set_option maxRecDepth 100000 in
set_option maxHeartbeats 1000000 in
/-- the document's Look -/
theorem refLook_any (r g cap : Nat) (s : Dk) (w : World) (h : RefAt w r g cap s) :
    Calls Tryz.prog 9 #[.pointer (some ⟨r, 0, none⟩)] w fun e w' => e = .returned (.agg #[.int .u32 (boot s : Nat), .int .u64 (latestY s 2 4 : Nat), .int .u64 (latestY s 6 2 : Nat)]) ∧ Kept [] w w' := by
  have hk0 := kept_alloc [] w (.cells #[.int .u32 0, .int .u64 0, .int .u64 0] 39)
  have hB0 : Blk (w.alloc (.cells #[.int .u32 0, .int .u64 0, .int .u64 0] 39)) w.heap.size 39 #[.int .u32 0, .int .u64 0, .int .u64 0] := blk_new w 39 _
  have q1 := fun W (h : RefAt W r g cap s) => refBoot_any r g cap s W h
  have q2 := fun W (h : RefAt W r g cap s) => refGet10_any r g cap s W h
  have q3 := fun W (h : RefAt W r g cap s) => refGet11_any r g cap s W h
  have h0 := h.kept hk0 (by simp) (by simp)
  have hsz : (Tryz.prog.info? 39).map (·.size) = some 3 := by kernel_rfl
  replace hsz : Hid _ := hsz
  generalize boot s = b at *
  generalize latestY s 2 4 = l at *
  generalize latestY s 6 2 = m at *
  go_enter Tryz.func9, Tryz.ntmps9
  go_wp2_with (first
    | (go_at_call 27; refine (q1 _ h0).mono ?_; rintro e w1 ⟨rfl, hk1⟩; have hB1 := hB0.kept hk1 (by simp); have h1 := h0.kept hk1 (by simp) (by simp))
    | (go_at_call 28; refine (q2 _ h1).mono ?_; rintro e w2 ⟨rfl, hk2⟩; have hB2 := hB1.kept hk2 (by simp); have h2 := h1.kept hk2 (by simp) (by simp))
    | (go_at_call 29; refine (q3 _ h2).mono ?_; rintro e w3 ⟨rfl, hk3⟩; have hB3 := hB2.kept hk3 (by simp))
    | (refine wpList_store_blk rfl 39 _ _ rfl w.heap.size 39 _ [.int .u32 (b : Int), .int .u64 (l : Int), .int .u64 (m : Int)] rfl rfl hB3 rfl hsz.out (by simp [Value.oneCell']) ?_; intro w4 hB4 hk4 hz4))
  have hB5 : w4.heap[w.heap.size]? = some (.cells #[.int .u32 (b : Int), .int .u64 (l : Int), .int .u64 (m : Int)] 39 (0, 0)) := hB4
  refine bodyPost_ret (v := .agg #[.int .u32 (b : Int), .int .u64 (l : Int), .int .u64 (m : Int)]) (results_cell_row rfl _ _ w.heap.size 39 _ (0, 0) _ rfl hB5 Tryz.underlying39 rfl hsz.out) rfl ?_
  exact ⟨rfl, (((hk0.trans hk1).trans hk2).trans hk3).young hk4 (Nat.le_refl _)⟩

set_option maxRecDepth 100000 in
theorem results_refMeta {fn : Func} {p u : Tmp} (h : fn.results = #[.cell p 39, .tmp u]) (tmps : Array Value) (w : World) (g : Nat) (a b c : Value)
    (hp : tmps.getD p undef = .pointer (some ⟨g, 0, none⟩)) (hg : w.heap[g]? = some (.cells #[a, b, c] 39 (0, 0))) :
    (results fn tmps).run Tryz.prog w = .ok (.tuple #[.agg #[a, b, c], tmps.getD u undef]) w := by
  have hl := run_loadVar_row (P := Tryz.prog) w g 39 39 #[a, b, c] (0, 0) _ hg Tryz.underlying39 (by rfl) (by kernel_rfl)
  rw [results_cell_tmp h, hp]
  simp [asAddr, hl, Result.andThen]

set_option maxRecDepth 100000 in
set_option maxHeartbeats 1000000 in
/-- the document's Start -/
theorem refStart_any (r g cap : Nat) (s : Dk) (hops : s.ops ≤ 999998) (w : World) (h : RefAt w r g cap s) (hr : r < w.heap.size) (hg : g < w.heap.size) :
    Calls Tryz.prog 14 #[.pointer (some ⟨r, 0, none⟩)] w fun e w' => e = .returned (.tuple #[.agg #[.int .u32 (startB s : Nat), .int .u64 (startL s : Nat), .int .u64 (startD s : Nat)], .int .i64 (nextE s : Nat)]) ∧ RefAt w' r g cap (nextS s) ∧ Kept [r, g] w w' := by
  have hk0 := kept_alloc [] w (.cells #[.int .u32 0, .int .u64 0, .int .u64 0] 39)
  have hB0 : Blk (w.alloc (.cells #[.int .u32 0, .int .u64 0, .int .u64 0] 39)) w.heap.size 39 #[.int .u32 0, .int .u64 0, .int .u64 0] := blk_new w 39 _
  have hD0 := h.kept hk0 (by simp) (by simp)
  have q1 := refNext_any r g cap s hops _ hD0
  have q2 := fun W (h : RefAt W r g cap (nextS s)) => refLook_any r g cap (nextS s) W h
  have hsz : (Tryz.prog.info? 39).map (·.size) = some 3 := by kernel_rfl
  replace hsz : Hid _ := hsz
  unfold startB startL startD
  generalize nextS s = s' at *
  generalize nextN s = nn at *
  generalize nextE s = ee at *
  clear hops
  by_cases he : ee = 0
  · subst he
    rw [if_pos rfl, if_pos rfl, if_pos rfl]
    generalize boot s' = b at *
    generalize latestY s' 2 4 = l at *
    generalize latestY s' 6 2 = m at *
    go_enter Tryz.func14, Tryz.ntmps14
    go_wp2_with (first
      | (go_at_call 35; refine q1.mono ?_; rintro e w1 ⟨rfl, hD1, hk1⟩; have hB1 := hB0.kept hk1 (by simp; omega))
      | (go_at_call 9; refine (q2 _ hD1).mono ?_; rintro e w2 ⟨rfl, hk2⟩; have hB2 := hB1.kept hk2 (by simp))
      | (refine wpList_store_blk rfl 39 _ _ rfl w.heap.size 39 _ [.int .u32 (b : Int), .int .u64 (l : Int), .int .u64 (m : Int)] rfl rfl hB2 rfl hsz.out (by simp [Value.oneCell']) ?_; intro w4 hB4 hk4 hz4; replace hz4 : Hid _ := hz4))
    refine bodyPost_ret (results_refMeta rfl _ _ w.heap.size _ _ _ rfl hB4) rfl ⟨rfl, ?_, ?_⟩
    · exact (hD1.kept hk2 (by simp) (by simp)).kept hk4 (by simp; omega) (by simp; omega)
    · exact (((hk0.mono (by simp)).trans hk1).trans (hk2.mono (by simp))).young (hk4.mono (by simp)) (Nat.le_refl _)
  · rw [if_neg he, if_neg he, if_neg he]
    have he' : ((ee : Int) != 0) = true := by simp; omega
    go_enter Tryz.func14, Tryz.ntmps14
    go_wp2_with (first
      | (go_at_call 35; refine q1.mono ?_; rintro e w1 ⟨rfl, hD1, hk1⟩; have hB1 := hB0.kept hk1 (by simp; omega))
      | (refine wpList_store_blk rfl 39 _ _ rfl w.heap.size 39 _ [.int .u32 0, .int .u64 0, .int .u64 0] rfl rfl hB1 rfl hsz.out (by simp [Value.oneCell']) ?_; intro w4 hB4 hk4 hz4; replace hz4 : Hid _ := hz4))
    refine bodyPost_ret (results_refMeta rfl _ _ w.heap.size _ _ _ rfl hB4) rfl ⟨rfl, ?_, ?_⟩
    · exact hD1.kept hk4 (by simp; omega) (by simp; omega)
    · exact ((hk0.mono (by simp)).trans hk1).young (hk4.mono (by simp)) (Nat.le_refl _)

set_option maxRecDepth 100000 in
set_option maxHeartbeats 1000000 in
/-- the document's Retire -/
theorem refRetire_any (r g cap : Nat) (s : Dk) (m : Nat) (hm : m < 18446744073709551616) (hops : s.ops ≤ 999996) (w : World) (h : RefAt w r g cap s) :
    Calls Tryz.prog 15 #[.pointer (some ⟨r, 0, none⟩), .int .u64 (m : Int)] w fun e w' => e = .returned (.int .i64 (retE s m : Nat)) ∧ RefAt w' r g cap (retS s m) ∧ Kept [r, g] w w' := by
  have ho := map_ops s m
  have q1 := refPut11_any r g cap s m hm (by omega) w h
  have q2 := fun W (h : RefAt W r g cap (mapS s m)) => refPut10_any r g cap (mapS s m) 0 (by decide) (by omega) W h
  unfold retE retS
  clear ho hops
  generalize logS (mapS s m) 0 = s2 at *
  generalize logE (mapS s m) 0 = e2 at *
  generalize mapS s m = s1 at *
  generalize mapE s m = e1 at *
  by_cases he : e1 = 0
  · subst he
    rw [if_pos rfl, if_pos rfl]
    go_enter Tryz.func15, Tryz.ntmps15
    go_wp2_with (first
      | (go_at_call 19; refine q1.mono ?_; rintro e w1 ⟨rfl, hD1, hk1⟩)
      | (go_at_call 17; refine (q2 _ hD1).mono ?_; rintro e w2 ⟨rfl, hD2, hk2⟩))
    go_ret
    exact ⟨rfl, hD2, hk1.trans hk2⟩
  · rw [if_neg he, if_neg he]
    have he' : ((e1 : Int) != 0) = true := by simp; omega
    go_enter Tryz.func15, Tryz.ntmps15
    go_wp2_with (first
      | (go_at_call 19; refine q1.mono ?_; rintro e w1 ⟨rfl, hD1, hk1⟩))
    go_ret
    exact ⟨rfl, hD1, hk1⟩
end Go.Proofs.YtpimfhchimafiaaGreat
