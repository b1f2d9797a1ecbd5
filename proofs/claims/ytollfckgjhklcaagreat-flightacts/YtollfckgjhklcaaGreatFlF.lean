/-
  The flights in memory: the walks of End and Add.
-/
import Derived.Test.YtollfckgjhklcaaGreatFlE
namespace Go.Proofs.YtollfckgjhklcaaGreat.Flight
open Go.RowKit Go.Maps Go.Sort
open Table (Rising ins del tks)

section
variable {ops : Array Oper} {rest : List Oper} {o : Oper} {a : Act} {w : World} {Q : Exit → Act → World → Prop}
set_option maxRecDepth 100000 in
/-- delete(m, k), at the operation -/
theorem wpList_delete_holds (hg : o.guard = none) (m x : Operand) (hop : o.op = Op.call { callee := Callee.builtin Builtin.delete, args := #[m, x], argTypes := #[63, 71] })
    (lo hi b : Nat) (L : List (Int × Fw)) (k : Int) (hm : a.eval m = .map (some b)) (hx : a.eval x = .agg #[.int .i64 k]) (h : Holds w lo hi b L) (hr : Rising L) (hk : (Table.look L k).isSome = true) (h0 : -9223372036854775808 ≤ k) (h1 : k ≤ 9223372036854775807)
    (hK : ∀ w', Holds w' lo hi b (del L k) → Kept [b] w w' → wpList Tryz.prog ops Q rest (a.put o.dst (.tuple #[])) w') :
    wpList Tryz.prog ops Q (o :: rest) a w := by
  refine wpList_plain hg fun K' hK' => ?_
  obtain ⟨w', hrun, r1, r2, r3⟩ := h.strike hr hk h0 h1 o.type
  unfold Oper.wp
  simp [execOp, hop, resolve, invoke, builtin, hm, hx, hrun, Result.andThen]
  exact hK' _ _ (hK w' r1 r2)
end
theorem it_ok {o l i : Int} (h : Span.Math.plain o l = true) (h0 : -9223372036854775808 ≤ i) (h1 : i ≤ 9223372036854775807) : (Itree.It.mk o l i).Ok := by
  have := Span.Math.of_plain h
  exact ⟨by show _ ≤ o; omega, by show o ≤ _; omega, by show _ ≤ l; omega, by show l ≤ _; omega, h0, h1⟩
set_option maxRecDepth 100000 in
set_option maxHeartbeats 2000000 in
/-- End -/
theorem end_any {lo hi f b p : Nat} {F : List Nat} {L : List (Int × Fw)} (k : Int) (h0 : -9223372036854775808 ≤ k) (h1 : k ≤ 9223372036854775807) (w : World) (h : FlAt w lo hi f b p F L) (hn : L.length ≤ 600) (hlo : lo ≤ w.heap.size) :
    Calls Tryz.prog 10 #[.pointer (some ⟨f, 0, none⟩), .int .i64 k] w fun e w' => ∃ F', e = .returned (.bool (endOk L k)) ∧ FlAt w' lo hi f b p F' (endL L k) ∧ (∀ j ∈ F', j ∈ F ∨ w.heap.size ≤ j) ∧ Kept (b :: F) w w' := by
  have q := find_any k h0 h1 w h
  unfold endL endOk
  cases hok : (Table.look L k).isSome with
  | false =>
    rw [hok] at q
    rw [if_neg (by decide)]
    clear hok
    unfold Fv.val at q
    go_enter Tryz.func10, Tryz.ntmps10
    go_wp2_with (first
      | (go_at_call 35; refine q.mono ?_; rintro e w1 ⟨x, rfl, hfd, hxA, hk1⟩; have hb1 := blk_new w1 39 #[.int .i64 0, .int .i64 0, .int .i64 0, .slice none 0 0, .int .i64 0]; have ka := kept_alloc [] w1 (.cells #[.int .i64 0, .int .i64 0, .int .i64 0, .slice none 0 0, .int .i64 0] 39))
      | (refine wpList_store_blk rfl 39 _ _ rfl w1.heap.size 39 _ [.int .i64 x.t, .int .i64 x.o, .int .i64 x.l, .slice x.sa x.len x.cap, .int .i64 x.st] rfl rfl hb1 rfl Tryz.sizeW (by simp [Value.oneCell']) ?_; intro w2 hb2 hk2 hz2))
    go_ret
    have hk := (hk1.trans ka).young hk2 hk1.size
    exact ⟨F, rfl, h.kept0 hk, fun j hj => .inl hj, hk.mono (by simp)⟩
  | true =>
    rw [hok] at q
    rw [if_pos rfl]
    obtain ⟨M, t1, t2, t3⟩ := h.tree
    have hgood : Hid (Good (del L k)) := by have := h.good.endd k; unfold endL endOk at this; rw [hok] at this; exact this
    have hfit : Hid (Fit (del L k)) := by have := h.fit.endd k; unfold endL endOk at this; rw [hok] at this; exact this
    have htree : Hid (∀ x : Fv, Found L k x → Itree.there M ⟨x.o, x.l, k⟩ = true ∧ Tree (Itree.delL M ⟨x.o, x.l, k⟩) (del L k) ∧ (Itree.It.mk x.o x.l k).Ok) := fun x hx => by
      obtain ⟨r, hr⟩ := Option.isSome_iff_exists.1 hok
      have e2 : x.fw = r := by have := hx.2; rw [hr] at this; exact this
      have := t2.endd h.good.rising hr
      unfold endL endOk at this
      rw [hok, ← e2] at this
      have hp := (h.good.fine _ (Table.look_mem hr)).2.1
      rw [← e2] at hp
      exact ⟨this.1, this.2, it_ok hp h0 h1⟩
    have hlen : Hid (∀ x, Itree.there M x = true → (Itree.delL M x).length = (del L k).length) := fun x hx => by
      rw [Itree.del_length, hx, if_pos rfl]
      have := Table.del_length h.good.rising hok
      omega
    have hokH : Hid ((Table.look L k).isSome = true) := hok
    have hM6 : M.length ≤ 600 := by omega
    replace t3 : Hid _ := t3
    clear hok
    unfold Fv.val at q
    go_enter Tryz.func10, Tryz.ntmps10
    go_wp2_with (first
      | (go_at_call 35; refine q.mono ?_; rintro e w1 ⟨x, rfl, hfd, hxA, hk1⟩; have hb1 := blk_new w1 39 #[.int .i64 0, .int .i64 0, .int .i64 0, .slice none 0 0, .int .i64 0]; have ka := kept_alloc [] w1 (.cells #[.int .i64 0, .int .i64 0, .int .i64 0, .slice none 0 0, .int .i64 0] 39))
      | (refine wpList_store_blk rfl 39 _ _ rfl w1.heap.size 39 _ [.int .i64 x.t, .int .i64 x.o, .int .i64 x.l, .slice x.sa x.len x.cap, .int .i64 x.st] rfl rfl hb1 rfl Tryz.sizeW (by simp [Value.oneCell']) ?_; intro w2 hb2 hk2 hz2))
    obtain ⟨hth, htr, hok3⟩ := htree.out x hfd
    have hlen3 : Hid _ := hlen.out _ hth
    replace htr : Hid _ := htr
    replace hz2 : Hid _ := hz2
    have hkk := ((hk1.trans ka).young hk2 hk1.size).trans (kept_drew [] w2)
    have hT := h.kept0 hkk
    have hbd := hb2.kept (kept_drew [] w2) (by simp)
    have hFlt := t1.lt
    have hnF : w1.heap.size ∉ F := fun hm => by have := hFlt _ hm; have := hk1.size; omega
    have S0 : ∀ W, Kept F w2.drew W → W.cell? ⟨f, 0, none⟩ = some (.pointer (some ⟨p, 0, none⟩)) ∧ W.cell? ⟨w1.heap.size, 1, none⟩ = some (.int .i64 x.o) ∧ W.cell? ⟨w1.heap.size, 2, none⟩ = some (.int .i64 x.l) := fun W hk =>
      have hc := hbd.kept hk hnF
      ⟨((hT.blk.kept hk hT.fF).cell 0).trans rfl, (hc.cell 1).trans rfl, (hc.cell 2).trans rfl⟩
    have qd := Itree.delete_any w2.drew p F M ⟨x.o, x.l, k⟩ (t1.kept hkk (by simp)) t2.sorted hM6 hok3
    rw [hth] at qd
    have kd := Kept.refl F w2.drew
    clear hb1 hb2 hok3 hth hxA
    go_region_held3 (fun W => W.cell? ⟨f, 0, none⟩ = some (.pointer (some ⟨p, 0, none⟩)) ∧ W.cell? ⟨w1.heap.size, 1, none⟩ = some (.int .i64 x.o) ∧ W.cell? ⟨w1.heap.size, 2, none⟩ = some (.int .i64 x.l)) (exact S0 _ kd) (first
      | (go_at_call 37; refine qd.mono ?_; rintro e w4 ⟨F', rfl, hT4, hF4, hk4⟩; replace kd := kd.trans hk4))
    have hm4 := hT.map.kept hk4 hT.bF (fun j hj => hT.off _ _ j (by simp [hj]))
    have c4 := ((hT.blk.kept hk4 hT.fF).cell 1).trans (show _ = some (Value.map (some b)) from rfl)
    have hrise := h.good.rising
    clear S0 hbd
    go_wp2_with (first
      | (at_delete; refine wpList_delete_holds rfl _ _ rfl lo hi b L k rfl rfl hm4 hrise hokH.out h0 h1 ?_; intro w5 hm5 hk5))
    go_ret
    obtain ⟨r1, r2⟩ := hT.turned (Nat.le_trans hlo hkk.size) hT4 hF4 hk4 hm5 hk5 htr.out hlen3.out hgood.out hfit.out (Nat.le_trans hT.hih (Nat.le_trans hk4.size hk5.size))
    exact ⟨F', rfl, r1, fun j hj => (hF4 j hj).imp id (fun e => Nat.le_trans hkk.size e), (hkk.mono (by simp)).trans r2⟩
end Go.Proofs.YtollfckgjhklcaaGreat.Flight
