/-
  The flights in memory: the walks of has, Get, Busy, Turn and End.
-/
import Derived.Test.YtollfckgjhklcaaGreatFlC
namespace Go.Proofs.YtollfckgjhklcaaGreat.Flight
open Go.RowKit Go.Maps Go.Sort
open Table (Rising ins del tks)

set_option maxRecDepth 100000 in
set_option maxHeartbeats 1000000 in
/-- has -/
theorem has_any {lo hi f b p : Nat} {F : List Nat} {L : List (Int × Fw)} (k : Int) (h0 : -9223372036854775808 ≤ k) (h1 : k ≤ 9223372036854775807) (w : World) (h : FlAt w lo hi f b p F L) :
    Calls Tryz.prog 29 #[.pointer (some ⟨f, 0, none⟩), .int .i64 k] w fun e w' => e = .returned (.bool (Table.look L k).isSome) ∧ Kept [] w w' := by
  have q := find_any k h0 h1 w h
  obtain ⟨ok, hok⟩ : ∃ ok, (Table.look L k).isSome = ok := ⟨_, rfl⟩
  rw [hok] at q ⊢
  clear hok
  unfold Fv.val at q
  go_enter Tryz.func29, Tryz.ntmps29
  go_wp2_with (first
    | (go_at_call 35; refine q.mono ?_; rintro e w1 ⟨x, rfl, hfd, hxA, hk1⟩; have hb1 := blk_new w1 39 #[.int .i64 0, .int .i64 0, .int .i64 0, .slice none 0 0, .int .i64 0]; have ka := kept_alloc [] w1 (.cells #[.int .i64 0, .int .i64 0, .int .i64 0, .slice none 0 0, .int .i64 0] 39))
    | (refine wpList_store_blk rfl 39 _ _ rfl w1.heap.size 39 _ [.int .i64 x.t, .int .i64 x.o, .int .i64 x.l, .slice x.sa x.len x.cap, .int .i64 x.st] rfl rfl hb1 rfl Tryz.sizeW (by simp [Value.oneCell']) ?_; intro w2 hb2 hk2 hz2))
  go_ret
  exact ⟨rfl, (hk1.trans ka).young hk2 hk1.size⟩
set_option maxRecDepth 100000 in
set_option maxHeartbeats 1000000 in
/-- Get -/
theorem get_any {lo hi f b p : Nat} {F : List Nat} {L : List (Int × Fw)} (k : Int) (h0 : -9223372036854775808 ≤ k) (h1 : k ≤ 9223372036854775807) (w : World) (h : FlAt w lo hi f b p F L) :
    Calls Tryz.prog 12 #[.pointer (some ⟨f, 0, none⟩), .int .i64 k] w fun e w' => ∃ y : Fv, e = .returned (.tuple #[y.val, .bool (Table.look L k).isSome]) ∧ Found L k y ∧ y.At w.heap.size w'.heap.size w' ∧ Kept [] w w' := by
  have ka := kept_alloc [] w (.cells #[.int .i64 0, .int .i64 0, .int .i64 0, .slice none 0 0, .int .i64 0] 39)
  have hb0 := blk_new w 39 #[.int .i64 0, .int .i64 0, .int .i64 0, .slice none 0 0, .int .i64 0]
  have hT := h.kept0 ka
  have q := find_any k h0 h1 _ hT
  have hlen : Hid (∀ x : Fv, Found L k x → x.bs.length ≤ 140737488351232) := fun x hx => by
    have e : x.bs = ((Table.look L k).getD fw0).bs := congrArg Fw.bs hx.2
    rw [e]
    cases hl : Table.look L k with
    | none => simp [fw0]
    | some r => exact h.fit.short _ (Table.look_mem hl)
  obtain ⟨ok, hok⟩ : ∃ ok, (Table.look L k).isSome = ok := ⟨_, rfl⟩
  rw [hok] at q ⊢
  clear hok
  unfold Fv.val at q
  go_enter Tryz.func12, Tryz.ntmps12
  go_wp2_with (first
    | (go_at_call 35; refine q.mono ?_; rintro e w1 ⟨x, rfl, hfd, hxA, hk1⟩; have hb01 := hb0.kept hk1 (by simp); have hh1 := (hT.kept0 hk1).hih; have hb1 := blk_new w1 39 #[.int .i64 0, .int .i64 0, .int .i64 0, .slice none 0 0, .int .i64 0]; have kb := kept_alloc [] w1 (.cells #[.int .i64 0, .int .i64 0, .int .i64 0, .slice none 0 0, .int .i64 0] 39); have hb02 := hb01.kept kb (by simp); have hxB := hxA.kept0 kb)
    | (refine wpList_store_blk rfl 39 _ _ rfl w1.heap.size 39 _ [.int .i64 x.t, .int .i64 x.o, .int .i64 x.l, .slice x.sa x.len x.cap, .int .i64 x.st] rfl rfl hb1 rfl Tryz.sizeW (by simp [Value.oneCell']) ?_; intro w2 hb2 hk2 hz2; have hne : w.heap.size ∉ [w1.heap.size] := (by have := hb01.lt; simp; omega); have hb03 := hb02.kept hk2 hne; have hxC := hxB.kept hk2 (by simp; exact off_blk hb1 (by decide)); have qa := apart_any x hi w2 hxC.in (Nat.le_trans hh1 (Nat.le_trans kb.size hk2.size)) (hlen.out x hfd); unfold Fv.val at qa; clear hb1 hb01 hb02; have d0 : w2.cell? ⟨w1.heap.size, 0, none⟩ = some (.int .i64 x.t) := (hb2.cell 0).trans rfl; have d1 : w2.cell? ⟨w1.heap.size, 1, none⟩ = some (.int .i64 x.o) := (hb2.cell 1).trans rfl; have d2 : w2.cell? ⟨w1.heap.size, 2, none⟩ = some (.int .i64 x.l) := (hb2.cell 2).trans rfl; have d3 : w2.cell? ⟨w1.heap.size, 3, none⟩ = some (.slice x.sa x.len x.cap) := (hb2.cell 3).trans rfl; have d4 : w2.cell? ⟨w1.heap.size, 4, none⟩ = some (.int .i64 x.st) := (hb2.cell 4).trans rfl)
    | (go_at_call 31; refine qa.mono ?_; rintro e w3 ⟨y, rfl, hyt, hyw, hyA, hk3⟩; replace hyt : Hid _ := hyt; replace hyw : Hid _ := hyw; have hb04 := hb03.kept hk3 (by simp))
    | (refine wpList_store_blk rfl 39 _ _ rfl w.heap.size 39 _ [.int .i64 y.t, .int .i64 y.o, .int .i64 y.l, .slice y.sa y.len y.cap, .int .i64 y.st] rfl rfl hb04 rfl Tryz.sizeW (by simp [Value.oneCell']) ?_; intro w4 hb4 hk4 hz4))
  have z1 := hk1.size
  have z3 := hk2.size
  simp at z1 z3
  refine bodyPost_ret (results_write rfl _ _ w.heap.size _ rfl hb4 rfl) rfl ⟨y, rfl, ⟨hyt.out.trans hfd.1, hyw.out.trans hfd.2⟩, (hyA.kept hk4 (by simp; exact .inl (by omega))).mono (by omega) hk4.size, ?_⟩
  exact ((((ka.trans hk1).trans kb).young hk2 (by omega)).trans hk3).young hk4 (Nat.le_refl _)
set_option maxRecDepth 100000 in
set_option maxHeartbeats 1000000 in
/-- Busy -/
theorem busy_any {lo hi f b p : Nat} {F : List Nat} {L : List (Int × Fw)} (o l : Int) (ho : (Itree.It.mk o l 0).Ok) (w : World) (h : FlAt w lo hi f b p F L) (hn : L.length ≤ 600) :
    Calls Tryz.prog 16 #[.pointer (some ⟨f, 0, none⟩), .agg #[.int .i64 o, .int .i64 l]] w fun e w' => e = .returned (.bool (busy L o l)) ∧ Kept [] w w' := by
  have ka := kept_alloc [] w (.cells #[.int .i64 o, .int .i64 l] 24)
  have hb0 := blk_new w 24 #[.int .i64 o, .int .i64 l]
  have hT := h.kept0 ka
  obtain ⟨M, t1, t2, t3⟩ := h.tree
  have hq := fun W (hk : Kept [] w W) => Itree.iany_any W p F M o l (t1.kept hk (by simp)) t2.sorted (by omega) ho
  rw [t2.busy h.good.rising] at hq
  have qm := fun W (hk : Kept [] w W) => made_any W (h.kept0 hk)
  obtain ⟨W0, hW0⟩ : ∃ W0, w.alloc (.cells #[.int .i64 o, .int .i64 l] 24) = W0 := ⟨_, rfl⟩
  rw [hW0] at ka hb0
  have S0 : ∀ W, Kept [] W0 W → W.cell? ⟨f, 0, none⟩ = some (.pointer (some ⟨p, 0, none⟩)) ∧ W.cell? ⟨w.heap.size, 0, none⟩ = some (.int .i64 o) ∧ W.cell? ⟨w.heap.size, 1, none⟩ = some (.int .i64 l) := fun W hk => ⟨(h.kept0 (ka.trans hk)).two.1, ((hb0.kept hk (by simp)).cell 0).trans rfl, ((hb0.kept hk (by simp)).cell 1).trans rfl⟩
  have hkd := kept_drew [] W0
  obtain ⟨B, hB⟩ : ∃ B, busy L o l = B := ⟨_, rfl⟩
  rw [hB] at hq ⊢
  clear hB t1 t2 t3 hT
  go_enter Tryz.func16, Tryz.ntmps16
  go_wp2_with fail
  go_region_held3 (fun W => W.cell? ⟨f, 0, none⟩ = some (.pointer (some ⟨p, 0, none⟩)) ∧ W.cell? ⟨w.heap.size, 0, none⟩ = some (.int .i64 o) ∧ W.cell? ⟨w.heap.size, 1, none⟩ = some (.int .i64 l)) (exact S0 _ hkd) (first
    | (go_at_call 28; refine (qm _ (ka.trans hkd)).mono ?_; rintro e w1 ⟨rfl, rfl⟩)
    | (go_at_call 38; refine (hq _ (ka.trans hkd)).mono ?_; rintro e w2 ⟨rfl, hk2⟩; replace hkd := hkd.trans hk2))
  go_wp2
  go_ret
  exact ⟨rfl, ka.trans hkd⟩
end Go.Proofs.YtollfckgjhklcaaGreat.Flight
