/-
  The flights in memory: the walks of Turn and End.
-/
import Derived.Test.YtollfckgjhklcaaGreatFlD
namespace Go.Proofs.YtollfckgjhklcaaGreat.Flight
open Go.RowKit Go.Maps Go.Sort
open Table (Rising ins del tks)

/-- Behind a call that turned the tree, and then the map. -/
theorem FlAt.turned {A B C : World} {lo hi hi' f b p : Nat} {F F' : List Nat} {L L' : List (Int × Fw)} {M' : List Itree.It} (h : FlAt A lo hi f b p F L) (hlo : lo ≤ A.heap.size) (hB : Itree.TT B p F' M') (hF : ∀ k ∈ F', k ∈ F ∨ A.heap.size ≤ k) (k1 : Kept F A B)
    (hC : Holds C lo hi' b L') (k2 : Kept [b] B C) (ht : Tree M' L') (hl : M'.length = L'.length) (hg : Good L') (hf : Fit L') (hh : hi' ≤ C.heap.size) : FlAt C lo hi' f b p F' L' ∧ Kept (b :: F) A C := by
  have hblt := h.map.lt
  have hflt := h.blk.lt
  have hbF : b ∉ F' := fun hm => by
    rcases hF b hm with e | e
    · exact h.bF e
    · omega
  have hfF : f ∉ F' := fun hm => by
    rcases hF f hm with e | e
    · exact h.fF e
    · omega
  refine ⟨⟨(h.blk.kept k1 h.fF).kept k2 (by simpa using fun e => h.ne e.symm), hC, ⟨M', hB.kept k2 (fun k hk hm => by simp at hm; subst hm; exact hbF hk), ht, hl⟩, hg, hf, hfF, hbF, ⟨h.young.1, h.young.2.1, fun k hk => ?_⟩, hh⟩, (k1.mono (fun k hk => List.mem_cons_of_mem _ hk)).trans (k2.mono (by simp))⟩
  rcases hF k hk with e | e
  · exact h.young.2.2 k e
  · omega
theorem FlAt.up {W : World} {lo hi f b p : Nat} {F : List Nat} {L : List (Int × Fw)} (h : FlAt W lo hi f b p F L) : FlAt W lo W.heap.size f b p F L := ⟨h.blk, h.map.mono (Nat.le_refl _) h.hih, h.tree, h.good, h.fit, h.fF, h.bF, h.young, Nat.le_refl _⟩
/-- Five cells. -/
def Five (W : World) (g : Nat) (x : Fv) : Prop := W.cell? ⟨g, 0, none⟩ = some (.int .i64 x.t) ∧ W.cell? ⟨g, 1, none⟩ = some (.int .i64 x.o) ∧ W.cell? ⟨g, 2, none⟩ = some (.int .i64 x.l) ∧ W.cell? ⟨g, 3, none⟩ = some (.slice x.sa x.len x.cap) ∧ W.cell? ⟨g, 4, none⟩ = some (.int .i64 x.st)
theorem five_of {W : World} {g : Nat} {t : TypeId} {x : Fv} (h : Blk W g t #[.int .i64 x.t, .int .i64 x.o, .int .i64 x.l, .slice x.sa x.len x.cap, .int .i64 x.st]) : Five W g x := ⟨(h.cell 0).trans rfl, (h.cell 1).trans rfl, (h.cell 2).trans rfl, (h.cell 3).trans rfl, (h.cell 4).trans rfl⟩
set_option maxRecDepth 100000 in
set_option maxHeartbeats 2000000 in
/-- Turn -/
theorem turn_any {lo hi f b p : Nat} {F : List Nat} {L : List (Int × Fw)} (k s : Int) (h0 : -9223372036854775808 ≤ k) (h1 : k ≤ 9223372036854775807) (w : World) (h : FlAt w lo hi f b p F L) (hn : L.length ≤ 600) :
    Calls Tryz.prog 8 #[.pointer (some ⟨f, 0, none⟩), .int .i64 k, .int .i64 s] w fun e w' => e = .returned (.bool (turnOk L k s)) ∧ FlAt w' lo hi f b p F (turnL L k s) ∧ Kept [b] w w' := by
  have q := find_any k h0 h1 w h
  have qs := fun W => isState_any s W
  unfold turnL turnOk
  cases hok : (Table.look L k).isSome with
  | false =>
    rw [hok] at q
    rw [Bool.false_and, if_neg (by decide)]
    clear hok qs
    unfold Fv.val at q
    go_enter Tryz.func8, Tryz.ntmps8
    go_wp2_with (first
      | (go_at_call 35; refine q.mono ?_; rintro e w1 ⟨x, rfl, hfd, hxA, hk1⟩; have hb1 := blk_new w1 39 #[.int .i64 0, .int .i64 0, .int .i64 0, .slice none 0 0, .int .i64 0]; have ka := kept_alloc [] w1 (.cells #[.int .i64 0, .int .i64 0, .int .i64 0, .slice none 0 0, .int .i64 0] 39))
      | (refine wpList_store_blk rfl 39 _ _ rfl w1.heap.size 39 _ [.int .i64 x.t, .int .i64 x.o, .int .i64 x.l, .slice x.sa x.len x.cap, .int .i64 x.st] rfl rfl hb1 rfl Tryz.sizeW (by simp [Value.oneCell']) ?_; intro w2 hb2 hk2 hz2))
    go_ret
    have hk := (hk1.trans ka).young hk2 hk1.size
    exact ⟨rfl, h.kept0 hk, hk.mono (by simp)⟩
  | true =>
    rw [hok] at q
    rw [Bool.true_and]
    cases hst : decide (0 ≤ s ∧ s ≤ 2) with
    | false =>
      rw [hst] at qs
      rw [if_neg (by decide)]
      clear hok hst
      unfold Fv.val at q
      go_enter Tryz.func8, Tryz.ntmps8
      go_wp2_with (first
        | (go_at_call 35; refine q.mono ?_; rintro e w1 ⟨x, rfl, hfd, hxA, hk1⟩; have hb1 := blk_new w1 39 #[.int .i64 0, .int .i64 0, .int .i64 0, .slice none 0 0, .int .i64 0]; have ka := kept_alloc [] w1 (.cells #[.int .i64 0, .int .i64 0, .int .i64 0, .slice none 0 0, .int .i64 0] 39))
        | (go_at_call 36; refine (qs _).mono ?_; rintro e w2 ⟨rfl, rfl⟩)
        | (refine wpList_store_blk rfl 39 _ _ rfl w1.heap.size 39 _ [.int .i64 x.t, .int .i64 x.o, .int .i64 x.l, .slice x.sa x.len x.cap, .int .i64 x.st] rfl rfl hb1 rfl Tryz.sizeW (by simp [Value.oneCell']) ?_; intro w2 hb2 hk2 hz2))
      go_ret
      have hk := (hk1.trans ka).young hk2 hk1.size
      exact ⟨rfl, h.kept0 hk, hk.mono (by simp)⟩
    | true =>
      rw [hst] at qs
      rw [if_pos rfl]
      have hgood : Hid (Good (setSt L k s)) := by have := h.good.turn k s; unfold turnL turnOk at this; rw [hok, hst] at this; exact this
      have hfit : Hid (Fit (setSt L k s)) := by have := h.fit.turn k s; unfold turnL turnOk at this; rw [hok, hst] at this; exact this
      have htree : Hid (∀ M, Tree M L → Tree M (setSt L k s)) := fun M hM => by have := hM.turn k s; unfold turnL turnOk at this; rw [hok, hst] at this; exact this
      have hlook : Hid (∀ x : Fv, Found L k x → ∀ j, Table.look (setSt L k s) j = if j = k then some (⟨x.o, x.l, x.bs, s⟩ : Fw) else Table.look L j) := fun x hx j => by
        rw [look_setSt]
        by_cases e : j = k
        · subst e
          obtain ⟨r, hr⟩ := Option.isSome_iff_exists.1 hok
          have e2 := hx.2
          rw [hr] at e2
          rw [hr, if_pos rfl]
          simp only [Option.map_some, if_pos]
          have e3 : x.fw = r := e2
          rw [← e3]
          rfl
        · rw [if_neg e]
          cases Table.look L j <;> simp [e]
      have hft : Hid (∀ x : Fv, Found L k x → x.t = k) := fun x hx => by have := hx.1; rw [if_pos hok] at this; exact this
      clear hok hst
      unfold Fv.val at q
      go_enter Tryz.func8, Tryz.ntmps8
      go_wp2_with (first
        | (go_at_call 35; refine q.mono ?_; rintro e w1 ⟨x, rfl, hfd, hxA, hk1⟩; have hb1 := blk_new w1 39 #[.int .i64 0, .int .i64 0, .int .i64 0, .slice none 0 0, .int .i64 0]; have ka := kept_alloc [] w1 (.cells #[.int .i64 0, .int .i64 0, .int .i64 0, .slice none 0 0, .int .i64 0] 39))
        | (go_at_call 36; refine (qs _).mono ?_; rintro e w2 ⟨rfl, rfl⟩)
        | (refine wpList_store_blk rfl 39 _ _ rfl w1.heap.size 39 _ [.int .i64 x.t, .int .i64 x.o, .int .i64 x.l, .slice x.sa x.len x.cap, .int .i64 x.st] rfl rfl hb1 rfl Tryz.sizeW (by simp [Value.oneCell']) ?_; intro w2 hb2 hk2 hz2; have c4 := (hb2.cell 4).trans (show _ = some (Value.int .i64 x.st) from rfl); have f4 := hb2.frozen 4))
      have hb3 := hb2.set 4 (.int .i64 s)
      have hk3 := kept_set (L := [w1.heap.size]) (g := w1.heap.size) (by simp) w2 4 (.int .i64 s)
      obtain ⟨w3, hw3⟩ : ∃ w3, w2.setCell ⟨w1.heap.size, 4, none⟩ (.int .i64 s) = w3 := ⟨_, rfl⟩
      rw [hw3] at hb3 hk3 ⊢
      have hb3' : Blk w3 w1.heap.size 39 #[.int .i64 x.t, .int .i64 x.o, .int .i64 x.l, .slice x.sa x.len x.cap, .int .i64 s] := hb3
      have hkk := (((hk1.trans ka).young hk2 hk1.size).young hk3 hk1.size).trans (kept_drew [] w3)
      have hT := h.kept0 hkk
      have hbd := hb3'.kept (kept_drew [] w3) (by simp)
      have hxd := (((hxA.kept0 ka).kept hk2 (by simp; exact off_blk hb1 (by decide))).kept hk3 (by simp; exact off_blk hb2 (by decide))).kept0 (kept_drew [] w3)
      have hxt := hft.out x hfd
      have hbne : w1.heap.size ≠ b := fun e => by have := h.map.lt; have := hk1.size; omega
      obtain ⟨w5, hr5, hm5, hk5, hs5⟩ := hT.map.put_any h.good.rising h.fit (by omega) h0 h1 ⟨x.t, x.o, x.l, x.sa, x.len, x.cap, s, x.bs⟩ hxd hxt (hlook.out x hfd)
      unfold Fv.val at hr5
      dsimp only at hr5
      have S0 : ∀ W, Kept [b] w3.drew W → W.cell? ⟨f, 1, none⟩ = some (.map (some b)) ∧ W.cell? ⟨w1.heap.size, 0, none⟩ = some (.int .i64 x.t) ∧ W.cell? ⟨w1.heap.size, 1, none⟩ = some (.int .i64 x.o) ∧ W.cell? ⟨w1.heap.size, 2, none⟩ = some (.int .i64 x.l) ∧ W.cell? ⟨w1.heap.size, 3, none⟩ = some (.slice x.sa x.len x.cap) ∧ W.cell? ⟨w1.heap.size, 4, none⟩ = some (.int .i64 s) := fun W hk =>
        have hc := hbd.kept hk (by simpa using hbne)
        ⟨((hT.blk.kept hk (by simpa using fun e => hT.ne e.symm)).cell 1).trans rfl, (hc.cell 0).trans rfl, (hc.cell 1).trans rfl, (hc.cell 2).trans rfl, (hc.cell 3).trans rfl, (hc.cell 4).trans rfl⟩
      have kd0 : Hid (Kept [b] w3.drew w3.drew) := Kept.refl _ _
      have kd5 : Hid (Kept [b] w3.drew w5) := hk5
      replace hs5 : Hid _ := hs5
      replace hxt : Hid _ := hxt
      replace hm5 : Hid _ := hm5
      clear hb1 hb2 c4 f4 hb3 hw3 hxA hxd hbd
      go_region_held3 (fun W => W.cell? ⟨f, 1, none⟩ = some (.map (some b)) ∧ W.cell? ⟨w1.heap.size, 0, none⟩ = some (.int .i64 x.t) ∧ W.cell? ⟨w1.heap.size, 1, none⟩ = some (.int .i64 x.o) ∧ W.cell? ⟨w1.heap.size, 2, none⟩ = some (.int .i64 x.l) ∧ W.cell? ⟨w1.heap.size, 3, none⟩ = some (.slice x.sa x.len x.cap) ∧ W.cell? ⟨w1.heap.size, 4, none⟩ = some (.int .i64 s)) (first
        | exact S0 _ kd0.out
        | exact S0 _ kd5.out) (fail)
      go_wp2_with fail
      go_ret
      obtain ⟨M, t1, t2, t3⟩ := hT.tree
      have hm := hm5.out
      exact ⟨rfl, ⟨hT.blk.kept hk5 (by simpa using fun e => hT.ne e.symm), hm, ⟨M, t1.kept hk5 (fun j hj hm => by simp at hm; subst hm; exact hT.bF hj), htree.out M t2, by rw [setSt_length]; exact t3⟩, hgood.out, hfit.out, hT.fF, hT.bF, hT.young, Nat.le_trans hT.hih hk5.size⟩, (hkk.mono (by simp)).trans hk5⟩
end Go.Proofs.YtollfckgjhklcaaGreat.Flight
