/-
 The flights in memory: the walks of Turn and End.
-/
import Derived.Test.YtoaeficfmcncjaaGreatM27
namespace Go.Proofs.YtoaeficfmcncjaaGreat.Flight
open Go.RowKit Go.Maps Go.Sort
open Table (Rising ins del tks)
theorem FlAt.turned {A B C : World} {lo hi hi' f b p : Nat} {F F' : List Nat} {L L' : List (Int × Fw)} {M' : List Itree.It} (h : FlAt A lo hi f b p F L) (hlo : lo ≤ A.heap.size) (hB : Itree.TT B p F' M') (hF : ∀ k ∈ F', k ∈ F ∨ A.heap.size ≤ k) (k1 : Kept F A B)
  (hC : Holds C lo hi' b L') (k2 : Kept [b] B C) (ht : Tree M' L') (hl : M'.length = L'.length) (hg : Good L') (hf : Fit L') (hh : hi' ≤ C.heap.size) : FlAt C lo hi' f b p F' L' ∧ Kept (b :: F) A C := by
 have hblt := h.map.lt
 have hflt := h.blk.lt
 have hbF : b ∉ F' := fun hm => by
  rcases hF b hm with e | e
  ·exact h.bF e
  ·omega
 have hfF : f ∉ F' := fun hm => by
  rcases hF f hm with e | e
  ·exact h.fF e
  ·omega
 refine ⟨⟨(h.blk.kept k1 h.fF).kept k2 (by simpa using fun e => h.ne e.symm), hC, ⟨M', hB.kept k2 (fun k hk hm => by simp at hm; subst hm; exact hbF hk), ht, hl⟩, hg, hf, hfF, hbF, ⟨h.young.1, h.young.2.1, fun k hk => ?_⟩, hh⟩, (k1.mono (fun k hk => List.mem_cons_of_mem _ hk)).trans (k2.mono (by simp))⟩
 rcases hF k hk with e | e
 ·exact h.young.2.2 k e
 ·omega
theorem FlAt.up {W : World} {lo hi f b p : Nat} {F : List Nat} {L : List (Int × Fw)} (h : FlAt W lo hi f b p F L) : FlAt W lo W.heap.size f b p F L := ⟨h.blk, h.map.mono (Nat.le_refl _) h.hih, h.tree, h.good, h.fit, h.fF, h.bF, h.young, Nat.le_refl _⟩
set_option maxRecDepth 100000 in
set_option maxHeartbeats 2000000 in
theorem turn_any {lo hi f b p : Nat} {F : List Nat} {L : List (Int × Fw)} (k s : Int) (h0 : -9223372036854775808 ≤ k) (h1 : k ≤ 9223372036854775807) (w : World) (h : FlAt w lo hi f b p F L) (hn : L.length ≤ 600) :
  Calls Tryz.prog 81 #[.pointer (some ⟨f, 0, none⟩), .int .i64 k, .int .i64 s] w fun e w' => e = .returned (.bool (turnOk L k s)) ∧ FlAt w' lo hi f b p F (turnL L k s) ∧ Kept [b] w w' := by
 have q := find_any k h0 h1 w h
 have qs := fun W => isState_any s W
 unfold turnL turnOk
 cases hok : (Table.look L k).isSome with
 | false =>
  rw [hok] at q
  rw [Bool.false_and, if_neg (by decide)]
  clear hok qs
  unfold Fv.val at q
  go_enter Tryz.func81, Tryz.ntmps81
  go_wp2_with (first
   | (go_at_call 147; refine q.mono ?_; rintro e w1 ⟨x, rfl, hfd, hxA, hk1⟩; have hb1 := blk_new w1 94 #[.int .i64 0, .int .i64 0, .int .i64 0, .slice none 0 0, .int .i64 0]; have ka := kept_alloc [] w1 (.cells #[.int .i64 0, .int .i64 0, .int .i64 0, .slice none 0 0, .int .i64 0] 94))
   | (refine wpList_store_blk rfl 94 _ _ rfl w1.heap.size 94 _ [.int .i64 x.t, .int .i64 x.o, .int .i64 x.l, .slice x.sa x.len x.cap, .int .i64 x.st] rfl rfl hb1 rfl Tryz.sizeW (by simp [Value.oneCell']) ?_; intro w2 hb2 hk2 hz2))
  go_ret
  have hk := (hk1.trans ka).young hk2 hk1.size
  exact ⟨rfl, h.kept0 hk, hk.mono (by simp)⟩
 | true =>
  rw [hok] at q
  rw [Bool.true_and]
  cases hst : decide (0 ≤ s ∧ s ≤ 2) with
  | false =>
   rw [hst] at qs
   rw [if_neg (by decide)]
   clear hok hst
   unfold Fv.val at q
   go_enter Tryz.func81, Tryz.ntmps81
   go_wp2_with (first
    | (go_at_call 147; refine q.mono ?_; rintro e w1 ⟨x, rfl, hfd, hxA, hk1⟩; have hb1 := blk_new w1 94 #[.int .i64 0, .int .i64 0, .int .i64 0, .slice none 0 0, .int .i64 0]; have ka := kept_alloc [] w1 (.cells #[.int .i64 0, .int .i64 0, .int .i64 0, .slice none 0 0, .int .i64 0] 94))
    | (go_at_call 148; refine (qs _).mono ?_; rintro e w2 ⟨rfl, rfl⟩)
    | (refine wpList_store_blk rfl 94 _ _ rfl w1.heap.size 94 _ [.int .i64 x.t, .int .i64 x.o, .int .i64 x.l, .slice x.sa x.len x.cap, .int .i64 x.st] rfl rfl hb1 rfl Tryz.sizeW (by simp [Value.oneCell']) ?_; intro w2 hb2 hk2 hz2))
   go_ret
   have hk := (hk1.trans ka).young hk2 hk1.size
   exact ⟨rfl, h.kept0 hk, hk.mono (by simp)⟩
  | true =>
   rw [hst] at qs
   rw [if_pos rfl]
   have hgood : Hid (Good (setSt L k s)) := by have := h.good.turn k s; unfold turnL turnOk at this; rw [hok, hst] at this; exact this
   have hfit : Hid (Fit (setSt L k s)) := by have := h.fit.turn k s; unfold turnL turnOk at this; rw [hok, hst] at this; exact this
   have htree : Hid (∀ M, Tree M L → Tree M (setSt L k s)) := fun M hM => by have := hM.turn k s; unfold turnL turnOk at this; rw [hok, hst] at this; exact this
   have hlook : Hid (∀ x : Fv, Found L k x → ∀ j, Table.look (setSt L k s) j = if j = k then some (⟨x.o, x.l, x.bs, s⟩ : Fw) else Table.look L j) := fun x hx j => by
    rw [look_setSt]
    by_cases e : j = k
    ·subst e
     obtain ⟨r, hr⟩ := Option.isSome_iff_exists.1 hok
     have e2 := hx.2
     rw [hr] at e2
     rw [hr, if_pos rfl]
     simp only [Option.map_some, if_pos]
     have e3 : x.fw = r := e2
     rw [← e3]
     rfl
    ·rw [if_neg e]
     cases Table.look L j <;> simp [e]
   have hft : Hid (∀ x : Fv, Found L k x → x.t = k) := fun x hx => by have := hx.1; rw [if_pos hok] at this; exact this
   clear hok hst
   unfold Fv.val at q
   go_enter Tryz.func81, Tryz.ntmps81
   go_wp2_with (first
    | (go_at_call 147; refine q.mono ?_; rintro e w1 ⟨x, rfl, hfd, hxA, hk1⟩; have hb1 := blk_new w1 94 #[.int .i64 0, .int .i64 0, .int .i64 0, .slice none 0 0, .int .i64 0]; have ka := kept_alloc [] w1 (.cells #[.int .i64 0, .int .i64 0, .int .i64 0, .slice none 0 0, .int .i64 0] 94))
    | (go_at_call 148; refine (qs _).mono ?_; rintro e w2 ⟨rfl, rfl⟩)
    | (refine wpList_store_blk rfl 94 _ _ rfl w1.heap.size 94 _ [.int .i64 x.t, .int .i64 x.o, .int .i64 x.l, .slice x.sa x.len x.cap, .int .i64 x.st] rfl rfl hb1 rfl Tryz.sizeW (by simp [Value.oneCell']) ?_; intro w2 hb2 hk2 hz2; have c4 := (hb2.cell 4).trans (show _ = some (Value.int .i64 x.st) from rfl); have f4 := hb2.frozen 4))
   have hb3 := hb2.set 4 (.int .i64 s)
   have hk3 := kept_set (L := [w1.heap.size]) (g := w1.heap.size) (by simp) w2 4 (.int .i64 s)
   obtain ⟨w3, hw3⟩ : ∃ w3, w2.setCell ⟨w1.heap.size, 4, none⟩ (.int .i64 s) = w3 := ⟨_, rfl⟩
   rw [hw3] at hb3 hk3 ⊢
   have hb3' : Blk w3 w1.heap.size 94 #[.int .i64 x.t, .int .i64 x.o, .int .i64 x.l, .slice x.sa x.len x.cap, .int .i64 s] := hb3
   have hkk := (((hk1.trans ka).young hk2 hk1.size).young hk3 hk1.size).trans (kept_drew [] w3)
   have hT := h.kept0 hkk
   have hbd := hb3'.kept (kept_drew [] w3) (by simp)
   have hxd := (((hxA.kept0 ka).kept hk2 (by simp; exact off_blk hb1 (by decide))).kept hk3 (by simp; exact off_blk hb2 (by decide))).kept0 (kept_drew [] w3)
   have hxt := hft.out x hfd
   have hbne : w1.heap.size ≠ b := fun e => by have := h.map.lt; have := hk1.size; omega
   obtain ⟨w5, hr5, hm5, hk5, hs5⟩ := hT.map.put_any h.good.rising h.fit (by omega) h0 h1 ⟨x.t, x.o, x.l, x.sa, x.len, x.cap, s, x.bs⟩ hxd hxt (hlook.out x hfd)
   unfold Fv.val at hr5
   dsimp only at hr5
   have S0 : ∀ W, Kept [b] w3.drew W → W.cell? ⟨f, 1, none⟩ = some (.map (some b)) ∧ W.cell? ⟨w1.heap.size, 0, none⟩ = some (.int .i64 x.t) ∧ W.cell? ⟨w1.heap.size, 1, none⟩ = some (.int .i64 x.o) ∧ W.cell? ⟨w1.heap.size, 2, none⟩ = some (.int .i64 x.l) ∧ W.cell? ⟨w1.heap.size, 3, none⟩ = some (.slice x.sa x.len x.cap) ∧ W.cell? ⟨w1.heap.size, 4, none⟩ = some (.int .i64 s) := fun W hk =>
    have hc := hbd.kept hk (by simpa using hbne)
    ⟨((hT.blk.kept hk (by simpa using fun e => hT.ne e.symm)).cell 1).trans rfl, (hc.cell 0).trans rfl, (hc.cell 1).trans rfl, (hc.cell 2).trans rfl, (hc.cell 3).trans rfl, (hc.cell 4).trans rfl⟩
   have kd0 : Hid (Kept [b] w3.drew w3.drew) := Kept.refl _ _
   have kd5 : Hid (Kept [b] w3.drew w5) := hk5
   replace hs5 : Hid _ := hs5
   replace hxt : Hid _ := hxt
   replace hm5 : Hid _ := hm5
   clear hb1 hb2 c4 f4 hb3 hw3 hxA hxd hbd
   go_region_held3 (fun W => W.cell? ⟨f, 1, none⟩ = some (.map (some b)) ∧ W.cell? ⟨w1.heap.size, 0, none⟩ = some (.int .i64 x.t) ∧ W.cell? ⟨w1.heap.size, 1, none⟩ = some (.int .i64 x.o) ∧ W.cell? ⟨w1.heap.size, 2, none⟩ = some (.int .i64 x.l) ∧ W.cell? ⟨w1.heap.size, 3, none⟩ = some (.slice x.sa x.len x.cap) ∧ W.cell? ⟨w1.heap.size, 4, none⟩ = some (.int .i64 s)) (first
    | exact S0 _ kd0.out
    | exact S0 _ kd5.out) (fail)
   go_wp2_with fail
   go_ret
   obtain ⟨M, t1, t2, t3⟩ := hT.tree
   have hm := hm5.out
   exact ⟨rfl, ⟨hT.blk.kept hk5 (by simpa using fun e => hT.ne e.symm), hm, ⟨M, t1.kept hk5 (fun j hj hm => by simp at hm; subst hm; exact hT.bF hj), htree.out M t2, by rw [setSt_length]; exact t3⟩, hgood.out, hfit.out, hT.fF, hT.bF, hT.young, Nat.le_trans hT.hih hk5.size⟩, (hkk.mono (by simp)).trans hk5⟩
section
variable {ops : Array Oper} {rest : List Oper} {o : Oper} {a : Act} {w : World} {Q : Exit → Act → World → Prop}
set_option maxRecDepth 100000 in
theorem wpList_delete_holds (hg : o.guard = none) (m x : Operand) (hop : o.op = Op.call { callee := Callee.builtin Builtin.delete, args := #[m, x], argTypes := #[182, 225] })
  (lo hi b : Nat) (L : List (Int × Fw)) (k : Int) (hm : a.eval m = .map (some b)) (hx : a.eval x = .agg #[.int .i64 k]) (h : Holds w lo hi b L) (hr : Rising L) (hk : (Table.look L k).isSome = true) (h0 : -9223372036854775808 ≤ k) (h1 : k ≤ 9223372036854775807)
  (hK : ∀ w', Holds w' lo hi b (del L k) → Kept [b] w w' → wpList Tryz.prog ops Q rest (a.put o.dst (.tuple #[])) w') :
  wpList Tryz.prog ops Q (o :: rest) a w := by
 refine wpList_plain hg fun K' hK' => ?_
 obtain ⟨w', hrun, r1, r2, r3⟩ := h.strike hr hk h0 h1 o.type
 unfold Oper.wp
 simp [execOp, hop, resolve, invoke, builtin, hm, hx, hrun, Result.andThen]
 exact hK' _ _ (hK w' r1 r2)
end
theorem it_ok {o l i : Int} (h : Span.Math.plain o l = true) (h0 : -9223372036854775808 ≤ i) (h1 : i ≤ 9223372036854775807) : (Itree.It.mk o l i).Ok := by
 have := Span.Math.of_plain h
 exact ⟨by show _ ≤ o; omega, by show o ≤ _; omega, by show _ ≤ l; omega, by show l ≤ _; omega, h0, h1⟩
set_option maxRecDepth 100000 in
set_option maxHeartbeats 2000000 in
theorem end_any {lo hi f b p : Nat} {F : List Nat} {L : List (Int × Fw)} (k : Int) (h0 : -9223372036854775808 ≤ k) (h1 : k ≤ 9223372036854775807) (w : World) (h : FlAt w lo hi f b p F L) (hn : L.length ≤ 600) (hlo : lo ≤ w.heap.size) :
  Calls Tryz.prog 146 #[.pointer (some ⟨f, 0, none⟩), .int .i64 k] w fun e w' => ∃ F', e = .returned (.bool (endOk L k)) ∧ FlAt w' lo hi f b p F' (endL L k) ∧ (∀ j ∈ F', j ∈ F ∨ w.heap.size ≤ j) ∧ Kept (b :: F) w w' := by
 have q := find_any k h0 h1 w h
 unfold endL endOk
 cases hok : (Table.look L k).isSome with
 | false =>
  rw [hok] at q
  rw [if_neg (by decide)]
  clear hok
  unfold Fv.val at q
  go_enter Tryz.func146, Tryz.ntmps146
  go_wp2_with (first
   | (go_at_call 147; refine q.mono ?_; rintro e w1 ⟨x, rfl, hfd, hxA, hk1⟩; have hb1 := blk_new w1 94 #[.int .i64 0, .int .i64 0, .int .i64 0, .slice none 0 0, .int .i64 0]; have ka := kept_alloc [] w1 (.cells #[.int .i64 0, .int .i64 0, .int .i64 0, .slice none 0 0, .int .i64 0] 94))
   | (refine wpList_store_blk rfl 94 _ _ rfl w1.heap.size 94 _ [.int .i64 x.t, .int .i64 x.o, .int .i64 x.l, .slice x.sa x.len x.cap, .int .i64 x.st] rfl rfl hb1 rfl Tryz.sizeW (by simp [Value.oneCell']) ?_; intro w2 hb2 hk2 hz2))
  go_ret
  have hk := (hk1.trans ka).young hk2 hk1.size
  exact ⟨F, rfl, h.kept0 hk, fun j hj => .inl hj, hk.mono (by simp)⟩
 | true =>
  rw [hok] at q
  rw [if_pos rfl]
  obtain ⟨M, t1, t2, t3⟩ := h.tree
  have hgood : Hid (Good (del L k)) := by have := h.good.endd k; unfold endL endOk at this; rw [hok] at this; exact this
  have hfit : Hid (Fit (del L k)) := by have := h.fit.endd k; unfold endL endOk at this; rw [hok] at this; exact this
  have htree : Hid (∀ x : Fv, Found L k x → Itree.there M ⟨x.o, x.l, k⟩ = true ∧ Tree (Itree.delL M ⟨x.o, x.l, k⟩) (del L k) ∧ (Itree.It.mk x.o x.l k).Ok) := fun x hx => by
   obtain ⟨r, hr⟩ := Option.isSome_iff_exists.1 hok
   have e2 : x.fw = r := by have := hx.2; rw [hr] at this; exact this
   have := t2.endd h.good.rising hr
   unfold endL endOk at this
   rw [hok, ← e2] at this
   have hp := (h.good.fine _ (Table.look_mem hr)).2.1
   rw [← e2] at hp
   exact ⟨this.1, this.2, it_ok hp h0 h1⟩
  have hlen : Hid (∀ x, Itree.there M x = true → (Itree.delL M x).length = (del L k).length) := fun x hx => by
   rw [Itree.del_length, hx, if_pos rfl]
   have := Table.del_length h.good.rising hok
   omega
  have hokH : Hid ((Table.look L k).isSome = true) := hok
  have hM6 : M.length ≤ 600 := by omega
  replace t3 : Hid _ := t3
  clear hok
  unfold Fv.val at q
  go_enter Tryz.func146, Tryz.ntmps146
  go_wp2_with (first
   | (go_at_call 147; refine q.mono ?_; rintro e w1 ⟨x, rfl, hfd, hxA, hk1⟩; have hb1 := blk_new w1 94 #[.int .i64 0, .int .i64 0, .int .i64 0, .slice none 0 0, .int .i64 0]; have ka := kept_alloc [] w1 (.cells #[.int .i64 0, .int .i64 0, .int .i64 0, .slice none 0 0, .int .i64 0] 94))
   | (refine wpList_store_blk rfl 94 _ _ rfl w1.heap.size 94 _ [.int .i64 x.t, .int .i64 x.o, .int .i64 x.l, .slice x.sa x.len x.cap, .int .i64 x.st] rfl rfl hb1 rfl Tryz.sizeW (by simp [Value.oneCell']) ?_; intro w2 hb2 hk2 hz2))
  obtain ⟨hth, htr, hok3⟩ := htree.out x hfd
  have hlen3 : Hid _ := hlen.out _ hth
  replace htr : Hid _ := htr
  replace hz2 : Hid _ := hz2
  have hkk := ((hk1.trans ka).young hk2 hk1.size).trans (kept_drew [] w2)
  have hT := h.kept0 hkk
  have hbd := hb2.kept (kept_drew [] w2) (by simp)
  have hFlt := t1.lt
  have hnF : w1.heap.size ∉ F := fun hm => by have := hFlt _ hm; have := hk1.size; omega
  have S0 : ∀ W, Kept F w2.drew W → W.cell? ⟨f, 0, none⟩ = some (.pointer (some ⟨p, 0, none⟩)) ∧ W.cell? ⟨w1.heap.size, 1, none⟩ = some (.int .i64 x.o) ∧ W.cell? ⟨w1.heap.size, 2, none⟩ = some (.int .i64 x.l) := fun W hk =>
   have hc := hbd.kept hk hnF
   ⟨((hT.blk.kept hk hT.fF).cell 0).trans rfl, (hc.cell 1).trans rfl, (hc.cell 2).trans rfl⟩
  have qd := Itree.delete_any w2.drew p F M ⟨x.o, x.l, k⟩ (t1.kept hkk (by simp)) t2.sorted hM6 hok3
  rw [hth] at qd
  have kd := Kept.refl F w2.drew
  clear hb1 hb2 hok3 hth hxA
  go_region_held3 (fun W => W.cell? ⟨f, 0, none⟩ = some (.pointer (some ⟨p, 0, none⟩)) ∧ W.cell? ⟨w1.heap.size, 1, none⟩ = some (.int .i64 x.o) ∧ W.cell? ⟨w1.heap.size, 2, none⟩ = some (.int .i64 x.l)) (exact S0 _ kd) (first
   | (go_at_call 207; refine qd.mono ?_; rintro e w4 ⟨F', rfl, hT4, hF4, hk4⟩; replace kd := kd.trans hk4))
  have hm4 := hT.map.kept hk4 hT.bF (fun j hj => hT.off _ _ j (by simp [hj]))
  have c4 := ((hT.blk.kept hk4 hT.fF).cell 1).trans (show _ = some (Value.map (some b)) from rfl)
  have hrise := h.good.rising
  clear S0 hbd
  go_wp2_with (first
   | (at_delete; refine wpList_delete_holds rfl _ _ rfl lo hi b L k rfl rfl hm4 hrise hokH.out h0 h1 ?_; intro w5 hm5 hk5))
  go_ret
  obtain ⟨r1, r2⟩ := hT.turned (Nat.le_trans hlo hkk.size) hT4 hF4 hk4 hm5 hk5 htr.out hlen3.out hgood.out hfit.out (Nat.le_trans hT.hih (Nat.le_trans hk4.size hk5.size))
  exact ⟨F', rfl, r1, fun j hj => (hF4 j hj).imp id (fun e => Nat.le_trans hkk.size e), (hkk.mono (by simp)).trans r2⟩
end Go.Proofs.YtoaeficfmcncjaaGreat.Flight
namespace Go.Proofs.YtoaeficfmcncjaaGreat.Flight
open Go.RowKit Go.Maps Go.Sort
open Table (Rising ins del tks)
theorem Tree.new {M : List Itree.It} {L : List (Int × Fw)} (h : Tree M L) {t o l : Int} (hn : Table.look L t = none) : Itree.there M ⟨o, l, t⟩ = false := by
 cases e : Itree.there M ⟨o, l, t⟩ with
 | false => rfl
 | true =>
  obtain ⟨w, hw, _⟩ := (h.mem _).1 ((Itree.there_iff h.sorted _).1 e)
  simp only at hw
  rw [hn] at hw
  cases hw
set_option maxRecDepth 100000 in
set_option maxHeartbeats 2000000 in
theorem add_any {lo hi f b p : Nat} {F : List Nat} {L : List (Int × Fw)} (t o l : Int) (v : Value) (bs : List Nat) (h0 : -9223372036854775808 ≤ t) (h1 : t ≤ 9223372036854775807) (hO : (Itree.It.mk o l t).Ok) (w : World) (h : FlAt w lo hi f b p F L) (hn : L.length ≤ 600) (hlo : lo ≤ w.heap.size)
  (hv : ∀ W, Kept F w W → ByteRow W.heap.size W v bs) (hlen : bs.length ≤ 140737488351232) :
  Calls Tryz.prog 74 #[.pointer (some ⟨f, 0, none⟩), .int .i64 t, .agg #[.int .i64 o, .int .i64 l], v] w fun e w' => ∃ F', e = .returned (.bool (addOk L t o l)) ∧ FlAt w' lo w'.heap.size f b p F' (addL L t o l bs) ∧ (∀ j ∈ F', j ∈ F ∨ w.heap.size ≤ j) ∧ Kept (b :: F) w w' := by
 have ka := kept_alloc [] w (.cells #[.int .i64 o, .int .i64 l] 44)
 have hb0 := blk_new w 44 #[.int .i64 o, .int .i64 l]
 have hO0 : (Itree.It.mk o l 0).Ok := ⟨hO.o0, hO.o1, hO.l0, hO.l1, by show (_ : Int) ≤ 0; decide, by show (0 : Int) ≤ _; decide⟩
 obtain ⟨W0, hW0⟩ : ∃ W0, w.alloc (.cells #[.int .i64 o, .int .i64 l] 44) = W0 := ⟨_, rfl⟩
 rw [hW0] at ka hb0
 have hT := h.kept0 ka
 have qm := made_any _ hT
 have qh := has_any t h0 h1 _ hT
 have none_ : addOk L t o l = false → ∀ w', Kept [] w w' → ∃ F', Ending.returned (.bool false) = .returned (.bool (addOk L t o l)) ∧ FlAt w' lo w'.heap.size f b p F' (addL L t o l bs) ∧ (∀ j ∈ F', j ∈ F ∨ w.heap.size ≤ j) ∧ Kept (b :: F) w w' := fun hb w' hk => by
  unfold addL
  rw [hb, if_neg (by decide)]
  exact ⟨F, rfl, (h.kept0 hk).up, fun j hj => .inl hj, hk.mono (by simp)⟩
 have shape : ∃ a c, v = .slice a bs.length c := by
  obtain ⟨_, a, c, e, _⟩ := hv w (Kept.refl _ _)
  exact ⟨a, c, e⟩
 obtain ⟨va, vc, hve⟩ := shape
 obtain ⟨vn, hvn⟩ : ∃ vn, bs.length = vn := ⟨_, rfl⟩
 rw [hvn] at hve
 replace hvn : Hid _ := hvn
 subst hve
 by_cases ht : t < 1
 ·have hb : addOk L t o l = false := by unfold addOk; rw [decide_eq_false (by omega)]; rfl
  have fin := none_ hb
  clear none_ hb hlen
  go_enter Tryz.func74, Tryz.ntmps74
  go_wp2_with (first
   | (go_at_call 119; refine qm.mono ?_; rintro e W0 ⟨rfl, rfl⟩))
  go_ret
  exact fin _ ka
 ·cases hs : (Table.look L t).isSome with
  | true =>
   have hb : addOk L t o l = false := by
    unfold addOk
    cases e : Table.look L t with
    | none => rw [e] at hs; cases hs
    | some r => simp
   have fin := none_ hb
   rw [hs] at qh
   clear none_ hb hlen hs
   go_enter Tryz.func74, Tryz.ntmps74
   go_wp2_with (first
    | (go_at_call 119; refine qm.mono ?_; rintro e W0 ⟨rfl, rfl⟩)
    | (go_at_call 135; refine qh.mono ?_; rintro e w1 ⟨rfl, hk1⟩))
   go_ret
   exact fin _ (ka.trans hk1)
  | false =>
   have hln : Table.look L t = none := by cases e : Table.look L t with | none => rfl | some r => rw [e] at hs; cases hs
   rw [hs] at qh
   clear hs
   cases hbu : busy L o l with
   | true =>
    have hb : addOk L t o l = false := by unfold addOk; rw [hbu]; simp
    have fin := none_ hb
    replace hln : Hid _ := hln
    clear none_ hb hlen
    go_enter Tryz.func74, Tryz.ntmps74
    go_wp2_with (first
     | (go_at_call 119; refine qm.mono ?_; rintro e W0 ⟨rfl, rfl⟩)
     | (go_at_call 135; refine qh.mono ?_; rintro e w1 ⟨rfl, hk1⟩; have hb1 := hb0.kept hk1 (by simp); have c0 := (hb1.cell 0).trans (show _ = some (Value.int .i64 o) from rfl); have c1 := (hb1.cell 1).trans (show _ = some (Value.int .i64 l) from rfl); have qb := busy_any o l hO0 w1 (hT.kept0 hk1) hn; rw [hbu] at qb)
     | (go_at_call 63; refine qb.mono ?_; rintro e w2 ⟨rfl, hk2⟩))
    go_ret
    exact fin _ ((ka.trans hk1).trans hk2)
   | false =>
    obtain ⟨M, t1, t2, t3⟩ := h.tree
    have hM6 : M.length ≤ 600 := by omega
    have hnt : Itree.there M ⟨o, l, t⟩ = false := t2.new hln
    have hio : Itree.insOk M ⟨o, l, t⟩ = (Span.Math.plain o l && decide (1 ≤ l)) := by unfold Itree.insOk Itree.good; rw [hnt]; simp
    have hao : addOk L t o l = (Span.Math.plain o l && decide (1 ≤ l)) := by unfold addOk; rw [hbu, hln, decide_eq_true (by omega)]; simp
    have hFlt := t1.lt
    have hnF : w.heap.size ∉ F := fun hm => by have := hFlt _ hm; omega
    have hT0 := hT
    cases hg : (Span.Math.plain o l && decide (1 ≤ l)) with
    | false =>
     rw [hg] at hio hao
     have hins : Itree.insL M ⟨o, l, t⟩ = M := by unfold Itree.insL; rw [hio]; rfl
     have hadd : addL L t o l bs = L := by unfold addL; rw [hao]; rfl
     have qi := fun W (hk : Kept [] w W) => Itree.insert_any W p F M ⟨o, l, t⟩ (t1.kept hk (by simp)) t2.sorted hM6 hO
     rw [hio, hins] at qi
     rw [hao, hadd]
     replace hln : Hid _ := hln
     replace t3 : Hid _ := t3
     clear none_ hao hadd hio hins hlen hg hnt
     go_enter Tryz.func74, Tryz.ntmps74
     go_wp2_with (first
      | (go_at_call 119; refine qm.mono ?_; rintro e W0 ⟨rfl, rfl⟩)
      | (go_at_call 135; refine qh.mono ?_; rintro e w1 ⟨rfl, hk1⟩; have hb1 := hb0.kept hk1 (by simp); have c0 := (hb1.cell 0).trans (show _ = some (Value.int .i64 o) from rfl); have c1 := (hb1.cell 1).trans (show _ = some (Value.int .i64 l) from rfl); have qb := busy_any o l hO0 w1 (hT.kept0 hk1) hn; rw [hbu] at qb)
      | (go_at_call 63; refine qb.mono ?_; rintro e w2 ⟨rfl, hk2⟩))
     have hkk := ((ka.trans hk1).trans hk2).trans (kept_drew [] w2)
     have hTd := h.kept0 hkk
     have hbd := (hb1.kept hk2 (by simp)).kept (kept_drew [] w2) (by simp)
     have S0 : ∀ W, Kept F w2.drew W → W.cell? ⟨f, 0, none⟩ = some (.pointer (some ⟨p, 0, none⟩)) ∧ W.cell? ⟨w.heap.size, 0, none⟩ = some (.int .i64 o) ∧ W.cell? ⟨w.heap.size, 1, none⟩ = some (.int .i64 l) := fun W hk =>
      have hc := hbd.kept hk hnF
      ⟨((hTd.blk.kept hk hTd.fF).cell 0).trans rfl, (hc.cell 0).trans rfl, (hc.cell 1).trans rfl⟩
     have kd := Kept.refl F w2.drew
     have qi2 := qi w2.drew hkk
     clear hb1 c0 c1 qi
     go_region_held3 (fun W => W.cell? ⟨f, 0, none⟩ = some (.pointer (some ⟨p, 0, none⟩)) ∧ W.cell? ⟨w.heap.size, 0, none⟩ = some (.int .i64 o) ∧ W.cell? ⟨w.heap.size, 1, none⟩ = some (.int .i64 l)) (exact S0 _ kd) (first
      | (go_at_call 136; refine qi2.mono ?_; rintro e w4 ⟨F', rfl, hT4, hF4, hk4⟩; replace kd := kd.trans hk4))
     go_wp2_with fail
     go_ret
     obtain ⟨r1, r2⟩ := hTd.turned (Nat.le_trans hlo hkk.size) hT4 hF4 hk4 (hTd.map.kept hk4 hTd.bF (fun j hj => hTd.off _ _ j (by simp [hj]))) (Kept.refl [b] w4) t2 t3.out h.good h.fit (Nat.le_trans hTd.hih hk4.size)
     exact ⟨F', rfl, r1.up, fun j hj => (hF4 j hj).imp id (fun e => Nat.le_trans hkk.size e), (hkk.mono (by simp)).trans r2⟩
    | true =>
     rw [hg] at hao
     have hgood : Hid (Good (addL L t o l bs)) := h.good.add t o l bs
     have hfit : Hid (Fit (addL L t o l bs)) := h.fit.add h1 hlen
     obtain ⟨hio', htr⟩ := t2.add hao bs
     have hlenM : Hid ((Itree.insL M ⟨o, l, t⟩).length = (addL L t o l bs).length) := by
      show _ = _
      rw [Itree.ins_length, hio', if_pos rfl]
      unfold addL
      rw [hao, if_pos rfl, Table.ins_length, t3]
     have hlook : Hid (∀ j, Table.look (addL L t o l bs) j = if j = t then some (⟨o, l, bs, 0⟩ : Fw) else Table.look L j) := fun j => by
      unfold addL
      rw [hao, if_pos rfl, Table.look_ins hln]
     have qi := fun W (hk : Kept [] w W) => Itree.insert_any W p F M ⟨o, l, t⟩ (t1.kept hk (by simp)) t2.sorted hM6 hO
     rw [hio'] at qi
     rw [hao]
     obtain ⟨L2, hL2⟩ : ∃ L2, addL L t o l bs = L2 := ⟨_, rfl⟩
     rw [hL2] at hgood hfit htr hlenM hlook ⊢
     replace hln : Hid _ := hln
     replace t3 : Hid _ := t3
     replace hlen : Hid _ := hlen
     replace htr : Hid _ := htr
     have hvn' : Hid (∀ W, Kept F w W → ByteRow W.heap.size W (.slice va vn vc) bs) := hv
     clear none_ hao hio hio' hg hnt hL2 hv
     go_enter Tryz.func74, Tryz.ntmps74
     go_wp2_with (first
      | (go_at_call 119; refine qm.mono ?_; rintro e W0 ⟨rfl, rfl⟩)
      | (go_at_call 135; refine qh.mono ?_; rintro e w1 ⟨rfl, hk1⟩; have hb1 := hb0.kept hk1 (by simp); have c0 := (hb1.cell 0).trans (show _ = some (Value.int .i64 o) from rfl); have c1 := (hb1.cell 1).trans (show _ = some (Value.int .i64 l) from rfl); have qb := busy_any o l hO0 w1 (hT.kept0 hk1) hn; rw [hbu] at qb)
      | (go_at_call 63; refine qb.mono ?_; rintro e w2 ⟨rfl, hk2⟩))
     have hkk := ((ka.trans hk1).trans hk2).trans (kept_drew [] w2)
     have hTd := h.kept0 hkk
     have hbd := (hb1.kept hk2 (by simp)).kept (kept_drew [] w2) (by simp)
     have S0 : ∀ W, Kept F w2.drew W → W.cell? ⟨f, 0, none⟩ = some (.pointer (some ⟨p, 0, none⟩)) ∧ W.cell? ⟨w.heap.size, 0, none⟩ = some (.int .i64 o) ∧ W.cell? ⟨w.heap.size, 1, none⟩ = some (.int .i64 l) := fun W hk =>
      have hc := hbd.kept hk hnF
      ⟨((hTd.blk.kept hk hTd.fF).cell 0).trans rfl, (hc.cell 0).trans rfl, (hc.cell 1).trans rfl⟩
     have kd := Kept.refl F w2.drew
     have qi2 := qi w2.drew hkk
     clear hb1 c0 c1 qi
     go_region_held3 (fun W => W.cell? ⟨f, 0, none⟩ = some (.pointer (some ⟨p, 0, none⟩)) ∧ W.cell? ⟨w.heap.size, 0, none⟩ = some (.int .i64 o) ∧ W.cell? ⟨w.heap.size, 1, none⟩ = some (.int .i64 l)) (exact S0 _ kd) (first
      | (go_at_call 136; refine qi2.mono ?_; rintro e w4 ⟨F', rfl, hT4, hF4, hk4⟩; replace kd := kd.trans hk4))
     go_wp2_with fail
     have hk4d := hk4.trans (kept_drew F w4)
     have hmd := hTd.map.kept hk4d hTd.bF (fun j hj => hTd.off _ _ j (by simp [hj]))
     have hlt4 : b < w4.drew.heap.size := hmd.lt
     have hbd4 := hbd.kept hk4d hnF
     have hfd4 := hTd.blk.kept hk4d hTd.fF
     have hv4 : ByteRow w4.drew.heap.size w4.drew (.slice va vn vc) bs := hvn'.out _ ((hkk.mono (by simp)).trans hk4d)
     have qa := apart_any ⟨t, o, l, va, vn, vc, 0, bs⟩ w4.drew.heap.size w4.drew hv4 (Nat.le_refl _) hlen.out
     unfold Fv.val at qa
     dsimp only at qa
     have hbne : w.heap.size ≠ b := fun e => by have := h.map.lt; omega
     have S1 : ∀ W, Kept [b] w4.drew W → W.cell? ⟨f, 1, none⟩ = some (.map (some b)) ∧ W.cell? ⟨w.heap.size, 0, none⟩ = some (.int .i64 o) ∧ W.cell? ⟨w.heap.size, 1, none⟩ = some (.int .i64 l) := fun W hk =>
      have hc := hbd4.kept hk (by simpa using hbne)
      ⟨((hfd4.kept hk (by simpa using fun e => h.ne e.symm)).cell 1).trans rfl, (hc.cell 0).trans rfl, (hc.cell 1).trans rfl⟩
     have kd0 : Hid (Kept [b] w4.drew w4.drew) := Kept.refl _ _
     have hr0 := h.good.rising
     have hf0 := h.fit
     have hhi4 : Hid (hi ≤ w4.drew.heap.size) := Nat.le_trans hTd.hih hk4d.size
     have hlo4 : Hid (lo ≤ w4.drew.heap.size) := Nat.le_trans hlo (Nat.le_trans hkk.size hk4d.size)
     have hn1 : Hid (L.length ≤ 1000) := (show _ ≤ _ by omega)
     clear S0 hbd kd hv4
     go_region_held3 (fun W => W.cell? ⟨f, 1, none⟩ = some (.map (some b)) ∧ W.cell? ⟨w.heap.size, 0, none⟩ = some (.int .i64 o) ∧ W.cell? ⟨w.heap.size, 1, none⟩ = some (.int .i64 l)) (first
      | exact S1 _ kd0.out
      | exact S1 _ k5.out
      | exact S1 _ k6.out) (first
      | (go_at_call 117; refine qa.mono ?_; rintro e w5 ⟨y, rfl, hyt, hyw, hyA, hk5⟩; replace hyw : Hid (y.fw = ⟨o, l, bs, 0⟩) := hyw; replace hyt : Hid (y.t = t) := hyt; have k5 : Hid (Kept [b] w4.drew w5) := hk5.mono (by simp); have hm5 := (hmd.kept hk5 (by simp) (by simp)).mono (Nat.le_refl _) (Nat.le_trans hhi4.out hk5.size); obtain ⟨w6, hr6, hm6, hk6, hs6⟩ := hm5.put_any (L' := L2) hr0 hf0 hn1.out h0 h1 y (hyA.mono hlo4.out (Nat.le_refl _)) hyt.out (by rw [hyw.out]; exact hlook.out); have k6 : Hid (Kept [b] w4.drew w6) := k5.out.trans hk6; replace hs6 : Hid (w6.heap.size = w5.heap.size) := hs6; unfold Fv.val at hr6))
     go_wp2_with fail
     go_ret
     have hm7 : Holds w6 lo w6.heap.size b L2 := by rw [hs6.out]; exact hm6
     obtain ⟨r1, r2⟩ := hTd.turned (Nat.le_trans hlo hkk.size) hT4 hF4 hk4 hm7 (((kept_drew [b] w4).trans k5.out).trans hk6) htr.out hlenM.out hgood.out hfit.out (Nat.le_refl _)
     exact ⟨F', rfl, r1, fun j hj => (hF4 j hj).imp id (fun e => Nat.le_trans hkk.size e), (hkk.mono (by simp)).trans r2⟩
theorem exts_or (L : List (Int × Fw)) (j : Nat) : ∀ n : Nat, (L.foldl (fun n x => n ||| Span.Math.ext x.2.o x.2.l) n).testBit j = (n.testBit j || L.any fun x => (Span.Math.ext x.2.o x.2.l).testBit j) := by
 induction L with
 | nil => intro n; simp
 | cons x L ih =>
  intro n
  rw [List.foldl_cons, ih, Nat.testBit_or, List.any_cons, Bool.or_assoc]
theorem testBit_exts (L : List (Int × Fw)) (j : Nat) : (exts L).testBit j = L.any fun x => (Span.Math.ext x.2.o x.2.l).testBit j := by
 unfold exts
 rw [exts_or]
 simp
theorem exts_lt (L : List (Int × Fw)) : exts L < 18446744073709551616 := by
 unfold exts
 suffices ∀ n, n < 18446744073709551616 → L.foldl (fun n x => n ||| Span.Math.ext x.2.o x.2.l) n < 18446744073709551616 from this 0 (by omega)
 induction L with
 | nil => intro n h; exact h
 | cons x L ih =>
  intro n h
  exact ih _ (Nat.or_lt_two_pow (n := 64) h (Span.Math.ext_lt _ _))
def come (left : Lit → Bool) (L : List (Int × Fw)) : List (Int × Fw) := L.filter fun x => !left (kl x.1)
theorem come_start {W : World} {lo hi : Nat} {D : DataW Value} {L : List (Int × Fw)} (hD : Has W lo hi D L) (hr : Rising L) (hf : Fit L) : come (Maps.has D) L = [] := by
 unfold come
 rw [List.filter_eq_nil_iff]
 intro x hx
 have := hf.low x hx
 rw [(hD x.1 (wf_i64 (by omega) (by omega))).1, look_some hr hx]
 simp
theorem come_end {left : Lit → Bool} (h : ∀ l, left l = false) (L : List (Int × Fw)) : come left L = L := by
 unfold come
 rw [List.filter_eq_self]
 intro x _
 rw [h]
 rfl
theorem come_step {left : Lit → Bool} {L : List (Int × Fw)} (hf : Fit L) (hr : Rising L) {k : Int} {r : Fw} (hk : (Lit.int .i64 k).wf = true) (hl : Table.look L k = some r) :
  exts (come (fun z => left z && !z.sameKey (kl k)) L) = exts (come left L) ||| Span.Math.ext r.o r.l := by
 apply Nat.eq_of_testBit_eq
 intro j
 rw [Nat.testBit_or, testBit_exts, testBit_exts, Bool.eq_iff_iff]
 unfold come
 simp only [List.any_eq_true, List.mem_filter, Bool.or_eq_true]
 constructor
 ·rintro ⟨x, ⟨hx, hc⟩, ht⟩
  have hx2 := hf.low x hx
  have hw := wf_i64 (k := x.1) (by omega) (by omega)
  by_cases e : x.1 = k
  ·right
   have := look_some hr hx
   rw [e, hl] at this
   injection this with this
   rw [this]
   exact ht
  ·left
   have hs : (kl x.1).sameKey (kl k) = false := by
    cases h : (kl x.1).sameKey (kl k) with
    | false => rfl
    | true => exact absurd (kl_inj hw hk (WideAt.sameKey_eq h)) e
   rw [hs] at hc
   exact ⟨x, ⟨hx, by simpa using hc⟩, ht⟩
 ·rintro (⟨x, ⟨hx, hc⟩, ht⟩ | ht)
  ·refine ⟨x, ⟨hx, ?_⟩, ht⟩
   simp at hc
   simp [hc]
  ·refine ⟨(k, r), ⟨Table.look_mem hl, ?_⟩, ht⟩
   have : (kl k).sameKey (kl k) = true := WideAt.sameKey_self (keyedK.key (keyOf_mk hk))
   simp [this]
section
set_option maxRecDepth 100000
theorem ranges_kept {W W' : World} {K : List Nat} {b r n : Nat} {D : DataW Value} {left : Lit → Bool} {cnt : Nat} (h : W.ranges Tryz.prog 225 rdr b r n D left cnt) (hk : Kept K W W') (hb : b ∉ K) (hr : r ∉ K) : W'.ranges Tryz.prog 225 rdr b r n D left cnt := by
 obtain ⟨es, clock, since, seen, c0, hb', F, hs, hD, hr', rest⟩ := h
 exact ⟨es, clock, since, seen, c0, (hk.block b (Array.getElem?_eq_some_iff.1 hb').1 hb).trans hb', F, hs, hD, (hk.block r (Array.getElem?_eq_some_iff.1 hr').1 hr).trans hr', rest⟩
theorem entry_is {W : World} {lo hi : Nat} {D : DataW Value} {L : List (Int × Fw)} (hD : Has W lo hi D L) {x : Int} {c : Value} {l : Lit} {y : DataW Value × List MemPlace} (hkey : keyOf Tryz.prog 225 (.agg #[.int .i64 x]) = some l) (hv : rdr c = some y) (hat : ∀ zd, D.atKey l zd = y.1) :
  l = kl x ∧ (Lit.int .i64 x).wf = true ∧ ∃ z : Fv, z.t = x ∧ Table.look L x = some z.fw ∧ z.At lo hi W ∧ c = z.val := by
 obtain ⟨k, e1, e2, hw⟩ := keyOf_inv hkey
 have e3 : x = k := by
  injection e1 with e1
  have := congrArg (fun l : Array Value => l[0]?) e1
  simpa using this
 subst e3
 refine ⟨e2, hw, ?_⟩
 have hh : Maps.has D (kl x) = true := by rw [← e2]; exact has_true_of_atKey hat
 obtain ⟨g1, g2⟩ := hD x hw
 rw [hh] at g1
 obtain ⟨r, hr⟩ := Option.isSome_iff_exists.1 g1.symm
 obtain ⟨z, h1, h2, h3, h4⟩ := g2 r hr
 refine ⟨z, h1, by rw [hr, h2], h3, ?_⟩
 have h5 := h4 (.held .nilFunc)
 rw [← e2, hat] at h5
 unfold rdr at hv
 injection hv with hv
 rw [← hv] at h5
 injection h5 with h5
set_option maxHeartbeats 2000000 in
theorem extents_any {lo hi f b p : Nat} {F : List Nat} {L : List (Int × Fw)} (w : World) (h : FlAt w lo hi f b p F L) :
  Calls Tryz.prog 129 #[.pointer (some ⟨f, 0, none⟩)] w fun e w' => e = .returned (.int .u64 (exts L : Nat)) ∧ Kept [] w w' := by
 have c1 := h.two.2
 have q := made_any w h
 obtain ⟨D, hown, hs, hD⟩ := h.map.sized h.good.rising h.fit
 have hr0 := h.good.rising
 have hf0 := h.fit
 have hblt := h.map.lt
 go_enter Tryz.func129, Tryz.ntmps129
 go_wp2_with (first
  | (go_at_call 119; refine q.mono ?_; rintro e w ⟨rfl, rfl⟩)
  | (at_range; refine wpList_range_own _ rfl _ 182 rfl 225 94 keyedK Tryz.underlying182 _ b _ D rfl hown ?_; intro w0 hrg0 hg0 hs0)
  | go_in)
 go_frame
 go_loopw [3] (fun v wr => ∃ (left : Lit → Bool) (cnt : Nat), v = .int .u64 (exts (come left L) : Nat) ∧ wr.ranges Tryz.prog 225 rdr b w.heap.size L.length D left cnt ∧ Kept [] w wr) (fun _ wr => wr.rangeLeft b w.heap.size)
 case atStart => exact ⟨_, _, by rw [come_start hD hr0 hf0]; rfl, hrg0, kept_none hg0⟩
 case round =>
  obtain ⟨left, cnt, rfl, hrg, hkr⟩ := hrel
  go_wp2_with (first
   | (at_next; refine wpList_next_ranges _ rfl _ rfl 225 keyedK rdr (fun x : Int => .agg #[.int .i64 x]) (fun c : Value => c) (fun key kl hk => by obtain ⟨x, hx, _⟩ := keyOf_inv hk; exact ⟨x, hx⟩) (fun v y hv => ⟨v, rfl⟩) b w.heap.size _ _ _ _ rfl hrg ?_ ?_)
   | go_in)
  ·intro hc0 hl0
   rw [come_end hl0]
   go_wp2
   go_ret
   exact ⟨rfl, hkr⟩
  ·intro x c kl' yd yp w2 cnt2 hkey hlk hv hat hrg2 hlt hg2 hs2 hen
   obtain ⟨rfl, hw, z, hz1, hz2, hz3, rfl⟩ := entry_is hD hkey hv hat
   have hstep := come_step (left := left) hf0 hr0 hw hz2
   have hkr2 : Kept [w.heap.size] wr w2 := Kept.of_grown hg2 (by simp)
   have hor := u64_or_nat (exts (come left L)) (Span.Math.ext z.o z.l) (exts_lt _) (Span.Math.ext_lt _ _)
   have qe := fun W => Span.extents_any z.o z.l W
   replace hs2 : Hid _ := hs2
   unfold Fv.val at hen
   go_wp2_with (first
    | (go_at_call 128; refine (qe _).mono ?_; rintro e w5 ⟨rfl, hB5⟩))
   have hk5 := (hkr2.trans (kept_alloc _ _ _)).trans (Kept.of_below hB5 [w.heap.size])
   have hr5 := ranges_kept (ranges_kept hrg2 (kept_alloc [] _ _) (by simp) (by simp)) (Kept.of_below hB5 []) (by simp) (by simp)
   go_roundw
   case rel => exact ⟨_, _, by rw [hstep]; go_num, hr5, hkr.young hk5 (Nat.le_refl _)⟩
   case measure => rw [hr5.left_eq, hrg.left_eq]; exact hlt
end
end Go.Proofs.YtoaeficfmcncjaaGreat.Flight
