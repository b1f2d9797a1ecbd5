/-
 What Go stands on.
-/
import Derived.Test.YtoaeficfmcncjaaGreatD45
import Derived.Test.YtoaeficfmcncjaaGreatD30
namespace Go.Proofs.YtoaeficfmcncjaaGreat.Mirror
open Go.RowKit
open Math
open Flight (Fw Fv FlAt Off)
open Later (Lw Lv QAt Foot RowAt wentB wentW leftL)
open Pack (Ms Mv)
open Resync
open Clash (Ow)

theorem applyR_ops (O : List Ow) : ∀ n d q acc, d.size ≤ 1024 → (applyR O n d q acc).1.ops ≤ d.ops + 1030 * n ∧ (applyR O n d q acc).1.size = d.size ∧ (applyR O n d q acc).2.1.length ≤ q.length := by
 intro n
 induction n with
 | zero => intro d q acc hs; exact ⟨Nat.le_refl _, rfl, Nat.le_refl _⟩
 | succ n ih =>
  intro d q acc hs
  unfold applyR
  by_cases h : wentB O q = true
  ·have hl := left_len h
   obtain ⟨s1, s2⟩ := storeS_ops hs (wentW O q)
   rw [if_pos h]
   by_cases hE : storeE d (wentW O q) = 0
   ·rw [if_pos hE]
    obtain ⟨i1, i2, i3⟩ := ih (storeS d (wentW O q)) (leftL O q) (acc ++ [wentW O q]) (by omega)
    exact ⟨by omega, by omega, by omega⟩
   ·rw [if_neg hE]
    exact ⟨Nat.le_trans s1 (by omega), s2, (by show (leftL O q).length ≤ q.length; omega)⟩
  ·rw [if_neg h]
   exact ⟨Nat.le_add_right _ _, rfl, Nat.le_refl _⟩
theorem resend_sub {q : List Lw} : ∀ (ws : List Lw) (d : Dk) (F : List (Int × Fw)) (acc : List Lw), ∀ y ∈ (resendR q ws d F acc).2.2.1, y ∈ acc ∨ y ∈ ws := by
 intro ws
 induction ws with
 | nil => intro d F acc y hy; exact .inl hy
 | cons w ws ih =>
  intro d F acc y hy
  cases h : Later.overL q w.o w.l with
  | true =>
   rw [resend_over h] at hy
   exact (ih _ _ _ y hy).imp id (List.mem_cons_of_mem _)
  | false =>
   by_cases hE : storeE d w = 0
   ·rw [resend_goes h hE] at hy
    rcases ih _ _ _ y hy with h1 | h1
    ·rcases List.mem_append.1 h1 with h2 | h2
     ·exact .inl h2
     ·exact .inr (by simp at h2; simp [h2])
    ·exact .inr (List.mem_cons_of_mem _ h1)
   ·rw [resend_fails h hE] at hy
    exact .inl hy
theorem again_sub {F : List (Int × Fw)} : ∀ y ∈ againL F, ∃ c ∈ F, y = lwOf c := fun y hy => by
 unfold againL at hy
 obtain ⟨c, hc, rfl⟩ := List.mem_map.1 hy
 exact ⟨c, (List.mem_filter.1 hc).1, rfl⟩
theorem mrow_clean {base : Nat} {W : World} {v : Value} {P : List Mv} (h : MRow base W v P) : Clean W v.ownBlock.toList := fun k hk => by
 obtain ⟨cur, hb⟩ := h.blk k (by simpa using hk)
 exact clean_of hb (by decide) (by decide)
theorem told_append {base base' : Nat} {A B : World} {v u r : Value} {L1 L2 : List Ms} {Q1 Q2 : List Mv} (h1 : Told base A v L1 Q1) (h2 : Told base' A u L2 Q2) (hr : MRow base B r (Q1 ++ Q2)) (hk : Kept v.ownBlock.toList A B) : Told base B r (L1 ++ L2) (Q1 ++ Q2) := by
 have hc := mrow_clean h1.row
 refine ⟨hr, by rw [List.map_append, h1.is, h2.is], fun y hy => ?_⟩
 rcases List.mem_append.1 hy with h | h
 ·exact hc.byt hk (h1.byt y h)
 ·exact hc.byt hk (h2.byt y h)
theorem told_len {base : Nat} {A : World} {v : Value} {L : List Ms} {Q : List Mv} (h : Told base A v L Q) : Q.length = L.length := by rw [← h.is, List.length_map]
set_option maxRecDepth 100000 in
theorem results_two {fn : Func} {q r : Tmp} (h : fn.results = #[.cell q 76, .cell r 28]) (tmps : Array Value) (w : World) (g k : Nat) (v e : Value) (hq : tmps[q]? = some (.pointer (some ⟨g, 0, none⟩))) (hr : tmps[r]? = some (.pointer (some ⟨k, 0, none⟩))) (hv : Blk w g 76 #[v]) (he : Blk w k 28 #[e]) :
  (results fn tmps).run Tryz.prog w = .ok (.tuple #[v, e]) w := by
 have c0 := (hv.cell 0).trans (show _ = some v from rfl)
 have c1 := (he.cell 0).trans (show _ = some e from rfl)
 simp [results, h, go_sem, hq, hr, c0, c1]
set_option maxRecDepth 100000 in
theorem tell_row (k : Int) (hk : k = 2 ∨ k = 3) (sa : Option Addr) (n cap : Nat) (P : List Lv) (base : Nat) (gr : Option Nat) (w : World) (hP : ORow base w (.slice sa n cap) P gr) (hbl : k = 2 → ∀ x ∈ P, x.bs.length ≤ 140737488351232) (hlen : P.length ≤ 900000) :
  Calls Tryz.prog 72 #[.int .i64 k, .slice sa n cap] w fun e w' => ∃ sT nT cT Q, e = .returned (.slice sT nT cT) ∧ Told w.heap.size w' (.slice sT nT cT) ((P.map Lv.lw).map (msgOf k)) Q ∧ Kept [] w w' := by
 have key : Calls Tryz.prog 72 #[.int .i64 k, .slice sa n cap] w fun e w' => ∃ v Q, e = .returned v ∧ Told w.heap.size w' v (P.map fun x => msgOf k x.lw) Q ∧ Kept [] w w' := by
  rcases hk with rfl | rfl
  ·exact tell_data sa n cap P base gr w hP.lrow (hbl rfl) hlen
  ·exact tell_other 3 (by decide) sa n cap P base gr w hP.row hlen
 refine key.mono ?_
 rintro e w' ⟨v, Q, rfl, hT, hk⟩
 obtain ⟨sT, cT, rfl⟩ := hT.row.form
 exact ⟨sT, _, cT, Q, rfl, by rw [List.map_map]; exact hT, hk⟩
theorem orow_form {base : Nat} {W : World} {v : Value} {P : List Lv} {gr : Option Nat} (h : ORow base W v P gr) : ∃ sa n cap, v = .slice sa n cap := by
 obtain ⟨a', cap', e1, _⟩ := h.row.open
 exact ⟨_, _, _, e1⟩
theorem orow_lt {base : Nat} {W : World} {v : Value} {P : List Lv} {gr : Option Nat} (h : ORow base W v P gr) : ∀ g, gr = some g → base ≤ g := fun g hg => by
 obtain ⟨a', cap', e1, _, _, h1⟩ := h.row
 rcases h1 with ⟨_, _, e⟩ | ⟨k, off, cur, _, e, hb, _⟩
 ·rw [hg] at e; cases e
 ·rw [hg] at e
  cases e
  exact hb
theorem MiOp.all {lo m d b1 b2 : Nat} {M : Mr} {f b p q h hi : Nat} {F : List Nat} {gr : Option Nat} {W : World} (H : MiOp W lo m d b1 b2 f b p q h hi F gr M) : Clean W (own m f b q h F gr ++ [d, b1, b2]) := H.clean.app (disk_clean H.disk)
end Go.Proofs.YtoaeficfmcncjaaGreat.Mirror
namespace Go.Proofs.YtoaeficfmcncjaaGreat.Mirror
open Go.RowKit
open Math
open Flight (Fw Fv FlAt Off)
open Later (Lw Lv QAt Foot RowAt)
open Pack (Ms Mv)

variable {W A B : World} {lo m d b1 b2 f b p q h hi : Nat} {F K : List Nat} {gr : Option Nat} {M : Mr}
theorem q_base {W : World} {base base' q : Nat} {L : List Lw} (h : QAt W base q none L) (hb : base' ≤ base) : QAt W base' q none L := by
 obtain ⟨v, P, h1, h2, h3, h4⟩ := h.blk
 exact ⟨⟨v, P, h1, h2.mono hb, h3, h4⟩, Nat.le_trans hb h.low⟩
theorem MiOp.renew (H : MiOp A lo m d b1 b2 f b p q h hi F gr M) (hq : QAt B A.heap.size A.heap.size none []) (hk : Kept [] A B) :
  ∃ V, B.setCell ⟨m, 1, none⟩ (.pointer (some ⟨A.heap.size, 0, none⟩)) = V ∧ MiOp V lo m d b1 b2 f b p A.heap.size h hi F none { M with lat := [] } ∧ Kept [m] B V ∧ (∀ k ∈ own m f b A.heap.size h F none, k ∈ own m f b q h F gr ∨ A.heap.size ≤ k) := by
 have H2 := H.kept hk (by simp) (clean_nil _)
 have lt := H.low
 have ltm := lt m (by simp [own])
 have k1 : Kept [m] B (B.setCell ⟨m, 1, none⟩ (.pointer (some ⟨A.heap.size, 0, none⟩))) := kept_set (by simp) _ _ _
 have hc : Clean B [m] := fun k hk => by
  rw [List.mem_singleton] at hk
  subst hk
  exact clean_of H2.box (by decide) (by decide)
 obtain ⟨ts, hft, h5⟩ := hc.foot
 refine ⟨_, rfl, ⟨H2.box.set 1 _, H2.fly.kept k1 (fun e => (H.sepF f (by simp)).1 (by simpa using e)) (fun e => (H.sepF b (by simp)).1 (by simpa using e)) (fun k hm e => (H.sepF k (by simp [hm])).1 (by simpa using e)) (hc.off _ _), (q_base hq (by omega)).keptN k1 (by simp; omega) (by simp) hft h5, H2.hot.kept k1 (fun e => H.seph (by simpa using e)) hc, H2.disk.kept k1 (by have := H.old.1; simp; omega) (by have := H.old.2.1; simp; omega) (by have := H.old.2.2; simp; omega), H.old, H.lows, fun k hm => ?_, fun k hm => ?_, H.seph⟩, k1, fun k hm => ?_⟩
 ·have h1 := H.sepF k hm
  refine ⟨h1.1, h1.2.1, fun e => ?_⟩
  have := (lt k (by simp only [own, List.mem_cons, List.mem_append, List.cons_append] at hm ⊢; rcases hm with h | h | h <;> simp [h])).2
  simp at e
  omega
 ·have l1 := (lt m (by simp [own])).2
  have l2 := (lt h (by simp [own])).2
  simp at hm
  subst hm
  omega
 ·simp only [own, List.mem_cons, List.mem_append, List.cons_append, Option.toList_none, List.not_mem_nil, or_false] at hm ⊢
  rcases hm with h1 | h1 | h1 | h1 | h1 | h1
  ·exact .inl (.inl h1)
  ·exact .inl (.inr (.inl h1))
  ·exact .inl (.inr (.inr (.inl h1)))
  ·exact .inl (.inr (.inr (.inr (.inl h1))))
  ·exact .inl (.inr (.inr (.inr (.inr (.inl h1)))))
  ·exact .inr (by omega)
theorem lay_goes {w : Lw} {ws : List Lw} {d : Dk} (hE : storeE d w = 0) : layR (w :: ws) d = layR ws (storeS d w) := by
 simp [layR, hE]
theorem lay_fails {w : Lw} {ws : List Lw} {d : Dk} (hE : storeE d w ≠ 0) : layR (w :: ws) d = (storeS d w, storeE d w) := by
 simp [layR, hE]
end Go.Proofs.YtoaeficfmcncjaaGreat.Mirror
namespace Go.Proofs.YtoaeficfmcncjaaGreat.Mirror
open Go.RowKit
open Math
open Flight (Fw Fv FlAt Off turnL endL endOk)
open Later (Lw Lv QAt Foot RowAt)
open Pack (Ms Mv)

theorem irow_kept0 {base : Nat} {A B : World} {v : Value} {l : List Int} (h : IRow base A v l) (hk : Kept [] A B) : IRow base B v l := h.kept hk (by simp)
theorem irow_clean {base : Nat} {W : World} {v : Value} {l : List Int} (h : IRow base W v l) : ∀ k, v.ownBlock = some k → ∃ cur, Blk W k 3 cur := fun k hk => by
 rcases h.2 with ⟨rfl, _⟩ | ⟨g, cap, cur, rfl, hb, hg, _⟩
 ·simp [Value.ownBlock] at hk
 ·simp [Value.ownBlock] at hk
  subst hk
  exact ⟨cur, hg⟩
theorem ints_one (l : List Int) : ∀ v ∈ l.map (fun x => Value.int .i64 x), v.oneCell' = true := fun v hv => by
 obtain ⟨x, _, rfl⟩ := List.mem_map.1 hv
 rfl
set_option maxRecDepth 100000 in
theorem run_append_ints (base base' : Nat) (v u : Value) (P Q : List Int) (w : World) (ty : TypeId) (h : IRow base w v P) (hu : IRow base' w u Q) (hlen : P.length + Q.length ≤ 1000000) (hb : base ≤ w.heap.size) :
  ∃ sa n cap w', (Builtin.append_ #[85, 85] ty #[v, u]).run Tryz.prog w = .ok (.slice sa n cap) w' ∧ IRow base w' (.slice sa n cap) (P ++ Q) ∧ Kept v.ownBlock.toList w w' := by
 obtain ⟨i0, hi0, hz0, hz1, hz2⟩ := info_parts Bits.Tryz.info3
 obtain ⟨_, hcase⟩ := hu
 rcases hcase with ⟨rfl, h0⟩ | ⟨g, cap, cur, rfl, hb2, hg, h1, h2, h3, h4⟩
 ·obtain rfl : Q = [] := List.eq_nil_of_length_eq_zero h0
  have hrun := run_append_owned_none (P := Tryz.prog) (w := w) base 85 ty 3 i0 1 Tryz.underlying85 hi0 v P.length _ h
  obtain ⟨sa, cap, rfl⟩ := irow_form h
  exact ⟨sa, P.length, cap, w, hrun, by simpa using h, Kept.refl _ _⟩
 ·obtain ⟨v', w', hr, h5, h6, _, h7⟩ := run_append_own_at (P := Tryz.prog) w base 85 ty 3 i0 (.int .i64 0) 1 8 Tryz.underlying85 hi0 hz0 hz1 hz2 rfl (by decide) v P.length _ h ⟨g, 0, none⟩ Q.length cap (Q.map fun x => .int .i64 x) (by simp) (by
   intro j u' hu'
   have hl := (List.getElem?_eq_some_iff.1 hu').1
   rw [List.length_map] at hl
   rw [← h4, Nat.mul_one, List.getElem?_take_of_lt hl] at hu'
   rw [Go.WideShapes.add_plain, Nat.zero_add, Blk.cell (t := 3) (cs := cur) hg j, ← Array.getElem?_toList]
   exact hu') (ints_one Q) (by unfold maxLen; omega) (by omega) hb
  have h5' : IRow base w' v' (P ++ Q) := by
   unfold IRow
   rw [List.length_append, List.map_append]
   exact h5
  obtain ⟨sa, cap', rfl⟩ := irow_form h5'
  exact ⟨sa, _, cap', w', hr, h5', Resync.kept_own h6⟩
section
variable {ops : Array Oper} {o : Oper} {a : Act} {w : World} {Q : Exit → Act → World → Prop}
set_option maxRecDepth 100000 in
theorem step_append_ints {K : Act → World → Prop} {E : Prop} (hgd : o.guard = none) (s x : Operand) (ho : o.op = .call { callee := .builtin .append, args := #[s, x], argTypes := #[85, 85] })
  (base base' : Nat) (v u : Value) (P M : List Int) (hs : a.eval s = v) (hx : a.eval x = u) (hr : IRow base w v P) (hu : IRow base' w u M) (hlen : P.length + M.length ≤ 1000000) (hb : base ≤ w.heap.size)
  (h : ∀ sa n cap w', IRow base w' (.slice sa n cap) (P ++ M) → Kept v.ownBlock.toList w w' → K (a.put o.dst (.slice sa n cap)) w') :
  if Region.wanted o (yielded ops a.tmps) = true then Oper.wp Tryz.prog o a w K Q else E := by
 have hw : Region.wanted o (yielded ops a.tmps) = true := by simp [Region.wanted, hgd]
 rw [if_pos hw]
 obtain ⟨sa, n, cap, w', hrun, h1, h2⟩ := run_append_ints base base' v u P M w o.type hr hu hlen hb
 unfold Oper.wp execOp
 simp only [ho, resolve, invoke, builtin, Sem.run_bind, Sem.run_pure, Result.andThen_ok, List.map_toArray, List.map_cons, List.map_nil, hs, hx, hrun]
 exact h sa n cap w' h1 h2
end
theorem held_snoc (L : List (Int × Fw)) (j : Nat) (c : Int × Fw) (h : L[j]? = some c) : heldL (L.take (j + 1)) = heldL (L.take j) ++ (if c.2.st = 2 then [c.1] else []) := by
 have hl := List.getElem?_eq_some_iff.1 h
 unfold heldL
 rw [List.take_succ_eq_append_getElem hl.1, hl.2, List.filter_append, List.map_append]
 by_cases hc : c.2.st = 2
 ·simp [hc]
 ·simp [hc]
theorem held_len (L : List (Int × Fw)) : (heldL L).length ≤ L.length := by
 unfold heldL
 rw [List.length_map]
 exact List.length_filter_le _ _
theorem look_ends (S : List Int) (u : Int) (hS : ∀ t ∈ S, t ≠ u) (G : List (Int × Fw)) (hG : Table.Rising G) : Table.look (S.foldl (fun G t => endL G t) G) u = Table.look G u := by
 induction S generalizing G with
 | nil => rfl
 | cons t S ih =>
  have hne := hS t (by simp)
  have hr : Table.Rising (endL G t) := by
   unfold endL
   split
   ·exact Table.del_rising hG t
   ·exact hG
  rw [List.foldl_cons, ih (fun x hx => hS x (by simp [hx])) _ hr]
  unfold endL
  split
  ·rename_i hk
   rw [Table.look_del hG hk, if_neg (Ne.symm hne)]
  ·rfl
theorem held_look (L : List (Int × Fw)) (hr : Table.Rising L) (j : Nat) (c : Int × Fw) (h : L[j]? = some c) : endOk ((heldL (L.take j)).foldl (fun G t => endL G t) L) c.1 = true := by
 have hm := List.mem_of_getElem? h
 have hl := List.getElem?_eq_some_iff.1 h
 unfold endOk
 rw [look_ends _ _ _ _ hr, Flight.look_some hr hm]
 ·rfl
 ·intro t ht
  unfold heldL at ht
  obtain ⟨x, hx, rfl⟩ := List.mem_map.1 ht
  have hx := (List.mem_filter.1 hx).1
  obtain ⟨i, hi, e⟩ := List.mem_take_iff_getElem.1 hx
  have := List.pairwise_iff_getElem.1 hr i j (by omega) hl.1 (by omega)
  rw [e, hl.2] at this
  omega
def HotB (W : World) (h most : Nat) (l : List Nat) (n : Nat) : Prop := ∃ v, Hot.SetAt W h (h + 1) most v l ∧ ∀ k, v.ownBlock = some k → k < n
theorem HotB.at {W : World} {h most n : Nat} {l : List Nat} (hb : HotB W h most l n) : HotAt W h most l := ⟨hb.choose, hb.choose_spec.1⟩
theorem hot_b {W : World} {h most : Nat} {l : List Nat} (hh : HotAt W h most l) : HotB W h most l W.heap.size := by
 obtain ⟨v, h1, h2, h3, h4, h5, h6, h7⟩ := hh
 refine ⟨v, ⟨h1, h2, h3, h4, h5, h6, h7⟩, fun k hk => ?_⟩
 obtain ⟨a, cap, e, hcap, h | ⟨b, off, e2, hb, ⟨cur, hB⟩, hcells⟩⟩ := h4
 ·rw [e, h.1] at hk
  cases hk
 ·rw [e, e2] at hk
  injection hk with hk
  have hB' : Blk W b 3 cur := hB
  have := hB'.lt
  simp at hk
  omega
theorem HotB.kept {L : List Nat} {A B : World} {h most n : Nat} {l : List Nat} (hb : HotB A h most l n) (hk : Kept L A B) (hn : h ∉ L) (hc : ∀ k ∈ L, (∀ cur, ¬ Blk A k 3 cur) ∨ n ≤ k) : HotB B h most l n := by
 obtain ⟨v, ⟨h1, h2, h3, h4, h5, h6, h7⟩, hv⟩ := hb
 refine ⟨v, ⟨Blk.kept h1 hk hn, h2, Nat.le_trans h3 hk.size, ?_, h5, h6, h7⟩, hv⟩
 obtain ⟨a, cap, e, hcap, h | ⟨b, off, e2, hb, ⟨cur, hB⟩, hcells⟩⟩ := h4
 ·exact ⟨a, cap, e, hcap, .inl h⟩
 ·have hB' : Blk A b 3 cur := hB
  have hbn : b ∉ L := fun hm => by
   rcases hc b hm with h | h
   ·exact h cur hB'
   ·have := hv b (by rw [e, e2]; rfl)
    omega
  exact ⟨a, cap, e, hcap, .inr ⟨b, off, e2, hb, ⟨cur, Blk.kept hB' hk hbn⟩, fun j hj => (World.cell?_of_block (a := ⟨b, off + j, none⟩) (hk.block b hB'.lt hbn)).trans (hcells j hj)⟩⟩
variable {W A B : World} {lo m d b1 b2 f b p q h hi : Nat} {F K : List Nat} {gr : Option Nat} {M : Mr}
theorem foot5 {W : World} {K : List Nat} (h : ∀ k ∈ K, ∀ c, ¬ Blk W k 5 c) : ∃ ts, Foot ts W K ∧ (5 : TypeId) ∉ ts := by
 refine ⟨K.filterMap (fun k => match W.heap[k]? with | some (Obj.cells _ t (0, 0)) => some t | _ => none), fun k hk t c hb => List.mem_filterMap.2 ⟨k, hk, by unfold Blk at hb; rw [hb]; rfl⟩, fun hm => ?_⟩
 obtain ⟨k, hk, e⟩ := List.mem_filterMap.1 hm
 split at e
 ·rename_i c t hb
  injection e with e
  subst e
  exact h k hk c hb
 ·cases e
theorem MiOp.kept_hot {L : List Nat} (H : MiOp A lo m d b1 b2 f b p q h hi F gr M) (hk : Kept L A B) (hn : ∀ k ∈ own m f b q h F gr ++ [d, b1, b2], k ∉ L) (hc : ∀ k ∈ L, ∀ c, ¬ Blk A k 5 c) (hh : HotAt B h M.most M.hot) : MiOp B lo m d b1 b2 f b p q h hi F gr M := by
 obtain ⟨ts, hf, h5⟩ := foot5 hc
 have n := fun k hk => hn k (List.mem_append.2 (.inl hk))
 have n' := fun k hk => hn k (List.mem_append.2 (.inr hk))
 exact ⟨H.box.kept hk (n m (by simp [own])), H.fly.kept hk (n f (by simp [own])) (n b (by simp [own])) (fun k hm => n k (by simp [own, hm])) (fun k hk => .inr (.inr (hc k hk))), H.lat.keptN hk (n q (by simp [own])) (fun g hg => n g (by simp [own, hg])) hf h5, hh, H.disk.kept hk (n' d (by simp)) (n' b1 (by simp)) (n' b2 (by simp)), H.old, H.lows, H.sepF, H.sepq, H.seph⟩
theorem ends_len (S : List Int) (G : List (Int × Fw)) : (S.foldl (fun G t => endL G t) G).length ≤ G.length := by
 induction S generalizing G with
 | nil => exact Nat.le_refl _
 | cons t S ih =>
  rw [List.foldl_cons]
  refine Nat.le_trans (ih _) ?_
  unfold endL
  split
  ·unfold Table.del
   rw [List.length_append, List.length_take, List.length_drop]
   omega
  ·exact Nat.le_refl _
set_option maxRecDepth 100000 in
set_option maxHeartbeats 4000000 in
theorem land_op (t : Int) (h0 : -9223372036854775808 ≤ t) (h1 : t ≤ 9223372036854775807) (w : World) (H : MiOp w lo m d b1 b2 f b p q h hi F gr M) (hF : M.fly.length ≤ 600) :
  Calls Tryz.prog 80 #[.pointer (some ⟨m, 0, none⟩), .int .i64 t] w fun e w' => ∃ sa n cap F' hi', e = .returned (.slice sa n cap) ∧ IRow w.heap.size w' (.slice sa n cap) (if Flight.endOk M.fly t then [t] else []) ∧ MiOp w' lo m d b1 b2 f b p q h hi' F' gr { M with fly := Flight.endL M.fly t } ∧ (∀ j ∈ F', j ∈ F ∨ w.heap.size ≤ j) ∧ Kept (b :: F) w w' := by
 have c0 := H.five.1
 have hlo : lo ≤ w.heap.size := by have := (H.low m (by simp [own])); omega
 have q1 := Flight.end_any t h0 h1 w H.fly hF hlo
 obtain ⟨E, hE⟩ : ∃ E, Flight.endOk M.fly t = E := ⟨_, rfl⟩
 rw [hE] at q1 ⊢
 have HH : Hid (MiOp w lo m d b1 b2 f b p q h hi F gr M) := H
 clear H
 cases E with
 | true =>
  go_enter Tryz.func80, Tryz.ntmps80
  go_wp2_with (go_at_call 146; refine q1.mono ?_; rintro e w1 ⟨F', rfl, hF1, hn1, hk1⟩)
  obtain ⟨h2, h3, h4⟩ := HH.out.flew hF1 hn1 hk1
  have hb := blk_new w1 3 #[.int .i64 t]
  have ka := kept_alloc [] w1 (.cells #[.int .i64 t] 3)
  replace h2 : Hid _ := h2
  go_wp2
  go_ret
  exact ⟨_, _, _, rfl, IRow.one hb hk1.size, F', ⟨_, h2.out.kept ka (by simp) (clean_nil _)⟩, hn1, hk1.trans (ka.mono (by simp))⟩
 | false =>
  go_enter Tryz.func80, Tryz.ntmps80
  go_wp2_with (go_at_call 146; refine q1.mono ?_; rintro e w1 ⟨F', rfl, hF1, hn1, hk1⟩)
  obtain ⟨h2, h3, h4⟩ := HH.out.flew hF1 hn1 hk1
  replace h2 : Hid _ := h2
  go_wp2
  go_ret
  exact ⟨_, _, _, rfl, IRow.nil _ _, F', ⟨_, h2.out⟩, hn1, hk1⟩
end Go.Proofs.YtoaeficfmcncjaaGreat.Mirror
namespace Go.Proofs.YtoaeficfmcncjaaGreat.Mirror
open Go.RowKit
open Math
open Flight (Fw Fv FlAt Off turnL endL endOk)
open Later (Lw Lv QAt Foot RowAt)
open Pack (Ms Mv)

variable {lo m d b1 b2 : Nat} {K : List Nat} {M : Mr}
set_option maxRecDepth 100000 in
set_option maxHeartbeats 8000000 in
theorem release_any (w : World) (H : MiAt w lo m d b1 b2 K M) (hF : M.fly.length ≤ 600) :
  Calls Tryz.prog 37 #[.pointer (some ⟨m, 0, none⟩)] w fun e w' => ∃ sa n cap K', e = .returned (.slice sa n cap) ∧ IRow w.heap.size w' (.slice sa n cap) (heldL M.fly) ∧ Goes w w' lo m d b1 b2 K K' (reS M) := by
 have q1 : Calls Tryz.prog 56 #[.pointer (some ⟨m, 0, none⟩)] w fun e w' => e = .returned (.bool true) ∧ w = w' := (made_any w H).mono (fun _ _ h => ⟨h.1, h.2.symm⟩)
 obtain ⟨f, b, p, q, h, hi, F, gr, rfl, H⟩ := H
 have hlow := H.fly.fit.low
 have hrise := H.fly.good.rising
 have c0 := H.five.1
 have qL := Flight.list_any w H.fly hF
 have HH : Hid (MiOp w lo m d b1 b2 f b p q h hi F gr M) := H
 have hFlt : Hid (∀ k ∈ b :: F, k < w.heap.size) := fun k hk => (H.low k (by rcases List.mem_cons.1 hk with rfl | hk <;> simp [own, *])).2
 clear H
 go_enter Tryz.func37, Tryz.ntmps37
 go_upto_region 5 with (first
  | (go_at_call 56; refine q1.mono ?_; clear q1; rintro e w1 ⟨rfl, rfl⟩)
  | (go_at_call 60; refine qL.mono ?_; clear qL; rintro e w5 ⟨vl, rfl, ⟨xs, hxs, hat, hwat⟩, hk5⟩; obtain ⟨la, lcap, rfl, hlc, -⟩ := id hwat.open))
 have hM5 := HH.out.kept hk5 (by simp) (clean_nil _)
 have hlen : xs.length = M.fly.length := by rw [← hxs]; simp
 obtain ⟨N, hN⟩ : ∃ N, xs.length = N := ⟨_, rfl⟩
 rw [hN] at hlc hlen hwat ⊢
 replace hN : Hid (xs.length = N) := hN
 have hN6 : N ≤ 600 := by omega
 replace hlen : Hid (N = M.fly.length) := hlen
 obtain ⟨B5, hB5⟩ : ∃ B, w5.heap.size = B := ⟨_, rfl⟩
 have hHB0 := hot_b hM5.hot
 rw [hB5] at hHB0
 have hwB : Hid (w.heap.size ≤ B5) := by
  show _ ≤ _
  rw [← hB5]; exact hk5.size
 replace hB5 : Hid (w5.heap.size = B5) := hB5
 have hk5h : Hid (Kept [] w w5) := hk5
 have hFlt5 : Hid (∀ k ∈ b :: F, k < w.heap.size) := hFlt
 clear hk5 c0
 go_loopw [16, 3] (fun i t wr => ∃ (j : Nat) (F' : List Nat) (hi' : Nat) (ta : Option Addr) (tn tc : Nat), j ≤ N ∧ i = .int .i64 j ∧ t = .slice ta tn tc ∧ MiOp wr lo m d b1 b2 f b p q h hi' F' gr { M with fly := (heldL (M.fly.take j)).foldl (fun G t => endL G t) M.fly } ∧ IRow B5 wr (.slice ta tn tc) (heldL (M.fly.take j)) ∧ HotB wr h M.most M.hot B5 ∧ (∀ k ∈ F', k ∈ F ∨ B5 ≤ k) ∧ Kept (b :: F) w5 wr) (fun i _ _ => N - (RowKit.intOf i).toNat)
 case atStart => exact ⟨0, F, hi, none, 0, 0, Nat.zero_le _, rfl, rfl, hM5, IRow.nil _ _, hHB0, fun k hk => .inl hk, Kept.refl _ _⟩
 case round =>
  clear hM5 hHB0
  obtain ⟨j, F', hi', ta, tn, tc, hj, rfl, rfl, hMs, hIr, hHB, hF', hKs⟩ := hrel
  by_cases hlt : j < N
  ·obtain ⟨x, hx⟩ : ∃ x, xs[j]? = some x := ⟨_, List.getElem?_eq_getElem (by have := hN.out; omega)⟩
   obtain ⟨g, off, rfl, hg, hr⟩ := wat_range (hwat.kept hKs hFlt5.out) hx
   have hLj : M.fly[j]? = some (x.t, x.fw) := Flight.fv_at_list hxs hx
   have hlw := hlow _ (List.mem_of_getElem? hLj)
   have hsn := held_snoc M.fly j _ hLj
   have hok := held_look M.fly hrise j _ hLj
   have hln := ends_len (heldL (M.fly.take j)) M.fly
   have hl8 : (heldL (M.fly.take j)).length ≤ 600 := Nat.le_trans (held_len _) (by rw [List.length_take]; omega)
   have kk : (j : Int) < (N : Int) := by omega
   have kc : (j : Int) < (lcap : Int) := by omega
   have hm1 : Hid (N - (j + 1) < N - j) := by show _ < _; omega
   have h0 := write_zero wr
   have ka := kept_alloc [] wr (.cells #[.int .i64 0, .int .i64 0, .int .i64 0, .slice none 0 0, .int .i64 0] 94)
   replace hr : Hid _ := hr
   clear hx hLj
   obtain ⟨xt, xo, xl, xsa, xlen, xcap, xst, xbs⟩ := x
   simp only [Fv.cells] at hr
   simp only [Fv.fw] at hlw hsn hok
   replace hok : Hid _ := hok
   replace hln : Hid _ := hln
   replace hl8 : Hid _ := hl8
   by_cases hst : xst = 2
   ·subst hst
    replace hsn : Hid (heldL (M.fly.take (j + 1)) = heldL (M.fly.take j) ++ [xt]) := by
     show _ = _
     rw [hsn]
     simp
    go_upto_region 8 with (first
     | refine wpList_load_mid rfl 94 _ rfl g (off + j * 5) rfl [.int .i64 xt, .int .i64 xo, .int .i64 xl, .slice xsa xlen xcap, .int .i64 2] _ hr.out Tryz.underlying94 rfl Flight.Tryz.sizeW ?_
     | (refine wpList_store_blk rfl 94 _ _ rfl wr.heap.size 94 _ [.int .i64 xt, .int .i64 xo, .int .i64 xl, .slice xsa xlen xcap, .int .i64 2] rfl rfl h0 rfl Flight.Tryz.sizeW (by simp [Value.oneCell']) ?_; intro w7 hB7 hk7 hz7; have s4 := (hB7.cell 4).trans (show _ = some (Value.int .i64 2) from rfl)))
    have k7 : Kept [] wr w7.drew := (ka.young hk7 (Nat.le_refl _)).trans (kept_drew [] w7)
    have hB7d := hB7.kept (kept_drew [] w7) (by simp)
    obtain ⟨N8, hN8⟩ : ∃ N8, wr.heap.size = N8 := ⟨_, rfl⟩
    rw [hN8] at hB7 hB7d ⊢
    have hM7 := hMs.kept k7 (by simp) (clean_nil _)
    have hown : ∀ k ∈ b :: F', k ∈ own m f b q h F' gr := fun k hk => by rcases List.mem_cons.1 hk with rfl | hk <;> simp [own, *]
    have hcl7 : Hid (Clean w7.drew (b :: F')) := hM7.clean.mono hown
    have hN8o : Hid (N8 ∉ b :: F') := fun hm => by
     have := (hMs.low _ (hown _ hm)).2
     omega
    have hhb : Hid (h ∉ b :: F') := fun hm => (hM7.sepF h (by rcases List.mem_cons.1 hm with e | e; simp [e]; simp [e])).2.1 rfl
    replace hIr := irow_kept0 hIr k7
    replace hHB := hHB.kept k7 (by simp) (by simp)
    have hB5w : Hid (B5 ≤ w7.drew.heap.size) := by
     show _ ≤ _
     rw [← hB5.out]
     exact Nat.le_trans hKs.size k7.size
    have hlen8 : Hid ((heldL (M.fly.take j)).length + [xt].length ≤ 1000000) := by
     have := hl8.out
     show _ ≤ _
     simp
     omega
    have q6 := land_op xt (by omega) hlw.2 w7.drew hM7 (Nat.le_trans hln.out hF)
    simp only [hok.out, if_true] at q6
    replace hN8 : Hid (wr.heap.size = N8) := hN8
    clear hB7 hk7 hz7 ka h0 hr s4
    replace hM7 : Hid _ := hM7
    refine wp_region_held_drew (S := fun W => Blk W N8 94 #[.int .i64 xt, .int .i64 xo, .int .i64 xl, .slice xsa xlen xcap, .int .i64 2]) (by kernel_rfl) hB7d (fun hP => ?_)
    have hH := hP
    clear hP
    refine tI (i := 0) (oi := ⟨some 23, _, _, _, _, _⟩) (v := (.slice ta tn tc)) rfl (fun W hSw => by go_simp) hH ?_
    refine tI (i := 1) (oi := ⟨some 24, _, _, _, _, _⟩) (v := (.pointer (some ⟨m, 0, none⟩))) rfl (fun W hSw => by go_simp) hH ?_
    refine tI (i := 2) (oi := ⟨some 25, _, _, _, _, _⟩) (v := (.pointer (some ⟨m, 0, none⟩))) rfl (fun W hSw => by go_simp) hH ?_
    refine tI (i := 3) (oi := ⟨some 26, _, _, _, _, _⟩) (v := (.pointer (some ⟨m, 0, none⟩))) rfl (fun W hSw => by go_simp) hH ?_
    refine tI (i := 4) (oi := ⟨some 27, _, _, _, _, _⟩) (v := (.pointer (some ⟨N8, 0, none⟩))) rfl (fun W hSw => by go_simp) hH ?_
    refine tI (i := 5) (oi := ⟨some 28, _, _, _, _, _⟩) (v := (.int .i64 xt)) rfl (fun W hSw => by have s0 := (hSw.cell 0).trans (show _ = some (Value.int .i64 xt) from rfl); go_simp) hH ?_
    refine wpAnyH_ready (rs := [6]) (by kernel_rfl) (by simp) ?_
    refine AllReadyH.cons (o := ⟨some 29, _, _, _, _, _⟩) rfl (fun K hK => ?_) AllReadyH.nil
    go_simp
    refine (q6).mono ?_
    rintro e w8 ⟨sI, nI, cI, F2, hi2, rfl, hI, hM8, hn8, hk8⟩
    go_wp2_with fail
    have hH1 := hH.kept hk8 hN8o.out
    refine hK.out _ _ hH1 (fun _ => ?_)
    replace hH := hH1
    clear hK K hH1
    have hb8 := hB7d.kept hk8 hN8o.out
    have hr8 := hIr.kept hk8 (fun k hk hm => by obtain ⟨cur, hc⟩ := irow_clean hIr k hk; exact (hcl7.out k hm 3 cur hc).2 rfl)
    have hh8 := hHB.kept hk8 hhb.out (fun k hm => .inl (fun cur hc => (hcl7.out k hm 3 cur hc).2 rfl))
    try simp only [Act.put, List.setIfInBounds_toArray, List.set_cons_zero, List.set_cons_succ]
    refine wpAnyH_ready (rs := [7]) (by kernel_rfl) (by simp) ?_
    refine AllReadyH.cons (o := ⟨some 30, _, _, _, _, _⟩) rfl (fun K hK => ?_) AllReadyH.nil
    refine step_append_ints rfl (.tmp 23) (.tmp 29) rfl B5 _ (.slice ta tn tc) (.slice sI nI cI) _ [xt] (by simp [Act.eval]) (by simp [Act.eval]) hr8 hI hlen8.out (Nat.le_trans hB5w.out hk8.size) ?_
    intro sV nV cV w9 hV hk9
    have hty : ∀ k ∈ (Value.slice ta tn tc).ownBlock.toList, ∃ cur, Blk w8 k 3 cur := fun k hk => irow_clean hr8 k (by simpa using hk)
    have hb9 := hb8.kept hk9 (fun hm => by obtain ⟨cur, hc⟩ := hty _ hm; have := Later.blk_type hb8 hc; exact absurd this (by decide))
    have hH1 := hb9
    refine hK.out _ _ hH1 (fun _ => ?_)
    replace hH := hH1
    clear hK K hH1
    try simp only [Act.put, List.setIfInBounds_toArray, List.set_cons_zero, List.set_cons_succ]
    refine tI (i := 8) (oi := ⟨some 3, _, _, _, _, _⟩) (v := (.slice sV nV cV)) rfl (fun W hSw => by go_simp) hH ?_
    refine wpAnyH_done (by kernel_rfl) ?_ _
    clear hH
    have hM9 := hM8.kept_hot hk9 (fun k hk hm => by
      obtain ⟨cur, hc⟩ := hty k hm
      rcases List.mem_append.1 hk with h1 | h1
      ·exact (hM8.clean k h1 3 cur hc).2 rfl
      ·exact (disk_clean hM8.disk k h1 3 cur hc).2 rfl) (fun k hm c hc => by
      obtain ⟨cur, h3⟩ := hty k hm
      exact absurd (Later.blk_type hc h3) (by decide)) (hh8.kept hk9 (fun hm => by obtain ⟨cur, hc⟩ := hty _ hm; exact (hM8.hot.clean h (by simp) 3 cur hc).2 rfl) (fun k hm => .inr (irow_lt hr8 k (by simpa using hm)).1)).at
    have hh9 := hh8.kept hk9 (fun hm => by obtain ⟨cur, hc⟩ := hty _ hm; exact (hM8.hot.clean h (by simp) 3 cur hc).2 rfl) (fun k hm => .inr (irow_lt hr8 k (by simpa using hm)).1)
    have hK8 : Kept (b :: F) w5 w8 := (hKs.trans (k7.mono (by simp))).youngs hk8 (fun k hk => by
     rcases List.mem_cons.1 hk with e | e
     ·exact .inl (by simp [e])
     ·rw [hB5.out]
      exact (hF' k e).imp (fun h => by simp [h]) id)
    have hK9 : Kept (b :: F) w5 w9 := hK8.youngs hk9 (fun k hm => .inr (by rw [hB5.out]; exact (irow_lt hr8 k (by simpa using hm)).1))
    have hnew2 : ∀ k ∈ F2, k ∈ F ∨ B5 ≤ k := fun k hk => by
     rcases hn8 k hk with h1 | h1
     ·exact hF' k h1
     ·exact .inr (Nat.le_trans hB5w.out h1)
    have hfold : endL ((heldL (M.fly.take j)).foldl (fun G t => endL G t) M.fly) xt = (heldL (M.fly.take (j + 1))).foldl (fun G t => endL G t) M.fly := by
     rw [hsn.out, List.foldl_append]
     rfl
    rw [hfold] at hM9
    rw [← hsn.out] at hV
    replace hfold : Hid _ := hfold
    go_wp2
    go_round
    case rel => exact ⟨j + 1, F2, hi2, sV, nV, cV, by omega, by go_num, rfl, hM9, hV, hh9, hnew2, hK9⟩
    case measure => simp [RowKit.intOf]; omega
   ·have hst' : ¬ xst = (2 : Int) := hst
    replace hsn : Hid (heldL (M.fly.take (j + 1)) = heldL (M.fly.take j)) := by
     show _ = _
     rw [hsn]
     simp [hst]
    go_wp2_with (first
     | refine wpList_load_mid rfl 94 _ rfl g (off + j * 5) rfl [.int .i64 xt, .int .i64 xo, .int .i64 xl, .slice xsa xlen xcap, .int .i64 xst] _ hr.out Tryz.underlying94 rfl Flight.Tryz.sizeW ?_
     | (refine wpList_store_blk rfl 94 _ _ rfl wr.heap.size 94 _ [.int .i64 xt, .int .i64 xo, .int .i64 xl, .slice xsa xlen xcap, .int .i64 xst] rfl rfl h0 rfl Flight.Tryz.sizeW (by simp [Value.oneCell']) ?_; intro w7 hB7 hk7 hz7; have s4 := (hB7.cell 4).trans (show _ = some (Value.int .i64 xst) from rfl)))
    have k7 : Kept [] wr w7 := ka.young hk7 (Nat.le_refl _)
    have hM7 := hMs.kept k7 (by simp) (clean_nil _)
    have hI7 := irow_kept0 hIr k7
    have hB7' := hHB.kept k7 (by simp) (by simp)
    rw [← hsn.out] at hM7 hI7
    go_round
    case rel => exact ⟨j + 1, F', hi', ta, tn, tc, by omega, by go_num, rfl, hM7, hI7, hB7', hF', hKs.trans (k7.mono (by simp))⟩
    case measure => simp [RowKit.intOf]; omega
  ·obtain rfl : j = N := by omega
   have ht : M.fly.take j = M.fly := List.take_of_length_le (by have := hlen.out; omega)
   rw [ht] at hMs hIr
   replace ht : Hid _ := ht
   go_wp2
   go_ret
   refine ⟨_, _, _, _, rfl, irow_low hIr hwB.out, ⟨⟨_, _, _, _, _, _, _, _, rfl, hMs⟩, fun k hk => ?_, ?_⟩⟩
   ·simp only [own, List.mem_cons, List.mem_append, List.cons_append] at hk ⊢
    have := hwB.out
    rcases hk with h1 | h1 | h1 | h1 | h1 | h1 | h1
    ·exact .inl (.inl h1)
    ·exact .inl (.inr (.inl h1))
    ·exact .inl (.inr (.inr (.inl h1)))
    ·exact .inl (.inr (.inr (.inr (.inl h1))))
    ·rcases hF' k h1 with h2 | h2
     ·exact .inl (.inr (.inr (.inr (.inr (.inl h2)))))
     ·exact .inr (by omega)
    ·exact .inl (.inr (.inr (.inr (.inr (.inr (.inl h1))))))
    ·exact .inl (.inr (.inr (.inr (.inr (.inr (.inr h1))))))
   ·refine (hk5h.out.mono (by simp)).trans (hKs.mono (fun k hk => ?_))
    refine List.mem_append.2 (.inl ?_)
    rcases List.mem_cons.1 hk with rfl | hk <;> simp [own, *]
end Go.Proofs.YtoaeficfmcncjaaGreat.Mirror
namespace Go.Proofs.YtoaeficfmcncjaaGreat.Mirror
open Go.RowKit
open Math
open Flight (Fw Fv FlAt Off turnL endL endOk)
open Later (Lw Lv QAt Foot RowAt)
open Pack (Ms Mv)

variable {lo m d b1 b2 : Nat} {K : List Nat} {M : Mr}
set_option maxRecDepth 100000 in
set_option maxHeartbeats 4000000 in
theorem hot_any (w : World) (H : MiAt w lo m d b1 b2 K M) : Calls Tryz.prog 17 #[.pointer (some ⟨m, 0, none⟩)] w fun e w' => e = .returned (.int .u64 (Hot.mask M.hot : Nat)) ∧ Kept [] w w' := by
 have q1 : Calls Tryz.prog 56 #[.pointer (some ⟨m, 0, none⟩)] w fun e w' => e = .returned (.bool true) ∧ w = w' := (made_any w H).mono (fun _ _ h => ⟨h.1, h.2.symm⟩)
 obtain ⟨f, b, p, q, h, hi, F, gr, rfl, H⟩ := H
 obtain ⟨v, hv⟩ := H.hot
 have q2 := Hot.mask_any h (h + 1) M.most v M.hot w hv
 have c2 := H.five.2.2.1
 clear H hv
 go_enter Tryz.func17, Tryz.ntmps17
 go_wp2_with (first
  | (go_at_call 56; refine q1.mono ?_; clear q1; rintro e w1 ⟨rfl, rfl⟩)
  | (go_at_call 57; refine q2.mono ?_; clear q2; rintro e w2 ⟨rfl, hb⟩))
 go_ret
 exact ⟨rfl, of_below hb⟩
set_option maxRecDepth 100000 in
set_option maxHeartbeats 4000000 in
theorem flights_any (w : World) (H : MiAt w lo m d b1 b2 K M) (hF : M.fly.length ≤ 600) : Calls Tryz.prog 21 #[.pointer (some ⟨m, 0, none⟩)] w fun e w' => ∃ v, e = .returned v ∧ Flight.Listed 94 w.heap.size w' v M.fly ∧ Kept [] w w' := by
 have q1 : Calls Tryz.prog 56 #[.pointer (some ⟨m, 0, none⟩)] w fun e w' => e = .returned (.bool true) ∧ w = w' := (made_any w H).mono (fun _ _ h => ⟨h.1, h.2.symm⟩)
 obtain ⟨f, b, p, q, h, hi, F, gr, rfl, H⟩ := H
 have q2 := Flight.list_any w H.fly hF
 have c0 := H.five.1
 clear H
 go_enter Tryz.func21, Tryz.ntmps21
 go_wp2_with (first
  | (go_at_call 56; refine q1.mono ?_; clear q1; rintro e w1 ⟨rfl, rfl⟩)
  | (go_at_call 60; refine q2.mono ?_; clear q2; rintro e w2 ⟨v, rfl, hl, hk⟩))
 go_ret
 exact ⟨_, rfl, hl, hk⟩
end Go.Proofs.YtoaeficfmcncjaaGreat.Mirror
namespace Go.Proofs.YtoaeficfmcncjaaGreat.Mirror
open Go.RowKit
open Math
open Flight (Fw Fv FlAt Off turnL endL endOk)
open Later (Lw Lv QAt Foot RowAt)
open Pack (Ms Mv)

theorem fl_low {W : World} {lo lo' hi f b p : Nat} {F : List Nat} {L : List (Int × Fw)} (h : FlAt W lo hi f b p F L) (hl : lo' ≤ lo) : FlAt W lo' hi f b p F L := by
 obtain ⟨n, D, h1, h2⟩ := h.map
 refine ⟨h.blk, ⟨n, D, h1, fun k hk => ⟨(h2 k hk).1, fun r hr => ?_⟩⟩, h.tree, h.good, h.fit, h.fF, h.bF, ⟨Nat.le_trans hl h.young.1, Nat.le_trans hl h.young.2.1, fun k hk => Nat.le_trans hl (h.young.2.2 k hk)⟩, h.hih⟩
 obtain ⟨x, x1, x2, x3, x4⟩ := (h2 k hk).2 r hr
 exact ⟨x, x1, x2, x3.mono hl (Nat.le_refl _), x4⟩
set_option maxRecDepth 100000 in
set_option maxHeartbeats 4000000 in
theorem loaded_ok (most mask : Nat) (h1 : 1 ≤ most) (h2 : most ≤ 16) (hm : mask < 18446744073709551616) (w : World) : Calls Tryz.prog 43 #[.int .i64 (most : Int), .int .u64 (mask : Int)] w fun e w' => e = .returned (.tuple #[.pointer (some ⟨w.heap.size, 0, none⟩), .int .i64 0]) ∧ HotAt w' w.heap.size most (Bits.Math.elems mask) ∧ Kept [] w w' := by
 have q1 := Hot.new_ok most w h1 h2
 have ka := kept_alloc [] w (.cells #[.int .i64 (most : Int), .slice none 0 0] 208)
 have hs : Hot.SetAt (w.alloc (.cells #[.int .i64 (most : Int), .slice none 0 0] 208)) w.heap.size (w.heap.size + 1) most (.slice none 0 0) [] := ⟨blk_new w 208 _, Nat.lt_succ_self _, by simp, Hot.Nums.nil _ _, Hot.Good.nil, h1, h2⟩
 have q2 := Hot.load_any _ _ most _ _ mask hm _ hs
 go_enter Tryz.func43, Tryz.ntmps43
 go_wp2_with (first
  | (go_at_call 92; refine q1.mono ?_; clear q1; rintro e w1 ⟨rfl, rfl⟩)
  | (go_at_call 91; refine q2.mono ?_; clear q2; rintro e w2 ⟨rfl, hv, hk⟩))
 go_ret2
 exact ⟨rfl, hv, (ka.young (of_hot hk) (Nat.le_refl _))⟩
variable {d b1 b2 : Nat} {s : Dk}
set_option maxRecDepth 100000 in
set_option maxHeartbeats 4000000 in
theorem new_ok (most mask : Nat) (who : Int) (hw : who = 0 ∨ who = 1) (h1 : 1 ≤ most) (h2 : most ≤ 16) (hm : mask < 18446744073709551616) (w : World) (hd : DiskAt w d b1 b2 s) : Calls Tryz.prog 10 #[.pointer (some ⟨d, 0, none⟩), .int .i64 (most : Int), .int .i64 who, .int .u64 (mask : Int)] w fun e w' => ∃ m K, e = .returned (.tuple #[.pointer (some ⟨m, 0, none⟩), .int .i64 0]) ∧ MiAt w' w.heap.size m d b1 b2 K ⟨s, most, Bits.Math.elems mask, [], [], decide (who = 0)⟩ ∧ Kept [] w w' := by
 have q1 : Calls Tryz.prog 42 #[.pointer (some ⟨d, 0, none⟩)] w fun e w' => e = .returned (.bool true) ∧ w = w' := (Go.Proofs.YtoaeficfmcncjaaGreat.made_any d b1 b2 s w hd).mono (fun _ _ h => ⟨h.1, h.2.symm⟩)
 have q2 := loaded_ok most mask h1 h2 hm w
 have q3 := fun W => Flight.new_any W
 have q4 := fun W => Later.new_any W
 have q5 := fun W => Role.arbiter_any who W
 have hlt := hd.lt
 obtain ⟨A, hA⟩ : ∃ A, decide (who = 0) = A := ⟨_, rfl⟩
 rw [hA] at q5 ⊢
 have hd' : Hid (DiskAt w d b1 b2 s) := hd
 clear hd
 have hg : who = 0 ∨ who = 1 := hw
 have key : ∀ w1 w2 w3 f b p F, HotAt w1 w.heap.size most (Bits.Math.elems mask) → Kept [] w w1 → FlAt w2 w1.heap.size w2.heap.size f b p F [] → Kept [] w1 w2 → QAt w3 w2.heap.size w2.heap.size none [] → Kept [] w2 w3 → w3.heap.size = w2.heap.size + 1 →
   MiAt (w3.alloc (.cells #[.pointer (some ⟨f, 0, none⟩), .pointer (some ⟨w2.heap.size, 0, none⟩), .pointer (some ⟨w.heap.size, 0, none⟩), .pointer (some ⟨d, 0, none⟩), .bool A] 105)) w.heap.size w3.heap.size d b1 b2 (own w3.heap.size f b w2.heap.size w.heap.size F none) ⟨s, most, Bits.Math.elems mask, [], [], A⟩ ∧ Kept [] w (w3.alloc (.cells #[.pointer (some ⟨f, 0, none⟩), .pointer (some ⟨w2.heap.size, 0, none⟩), .pointer (some ⟨w.heap.size, 0, none⟩), .pointer (some ⟨d, 0, none⟩), .bool A] 105)) := fun w1 w2 w3 f b p F hh k1 hf k2 hq k3 hsz => by
  have k4 := kept_alloc [] w3 (.cells #[.pointer (some ⟨f, 0, none⟩), .pointer (some ⟨w2.heap.size, 0, none⟩), .pointer (some ⟨w.heap.size, 0, none⟩), .pointer (some ⟨d, 0, none⟩), .bool A] 105)
  have z1 := k1.size
  have z2 := k2.size
  have hl := hh.lt
  obtain ⟨y1, y2, y3⟩ := hf.young
  obtain ⟨_, t1, _, _⟩ := hf.tree
  have fl : ∀ k ∈ f :: b :: F, w1.heap.size ≤ k ∧ k < w2.heap.size := fun k hk => by
   rcases List.mem_cons.1 hk with rfl | hk
   ·exact ⟨y1, hf.blk.lt⟩
   rcases List.mem_cons.1 hk with rfl | hk
   ·obtain ⟨es, cl, e⟩ := hf.map.isMap
    exact ⟨y2, (Array.getElem?_eq_some_iff.1 e).1⟩
   ·exact ⟨y3 k hk, t1.lt k hk⟩
  refine ⟨⟨f, b, p, w2.heap.size, w.heap.size, w2.heap.size, F, none, rfl, ⟨blk_new w3 105 _, fl_low (hf.kept0 (k3.trans k4)) z1, (q_base hq (by omega)).kept0 k4, hh.kept (k2.trans (k3.trans k4)) (by simp) (clean_nil _), hd'.out.kept (k1.trans (k2.trans (k3.trans k4))) (by simp) (by simp) (by simp), ⟨hlt.1, hlt.2.1, hlt.2.2⟩, ⟨by omega, Nat.le_refl _⟩, fun k hk => ?_, fun k hk => ?_, by omega⟩⟩, k1.trans (k2.trans (k3.trans k4))⟩
  ·have := fl k hk
   refine ⟨by omega, by omega, fun hm => ?_⟩
   simp at hm
   omega
  ·simp at hk
   subst hk
   omega
 clear hA
 rcases hw with rfl | rfl
 all_goals
  go_enter Tryz.func10, Tryz.ntmps10
  go_wp2_with (first
   | (go_at_call 42; refine q1.mono ?_; clear q1; rintro e w0 ⟨rfl, rfl⟩)
   | (go_at_call 43; refine q2.mono ?_; clear q2; rintro e w1 ⟨rfl, hh, hk1⟩)
   | (go_at_call 44; refine (q3 _).mono ?_; clear q3; rintro e w2 ⟨f, b, p, F, rfl, hf, hk2⟩)
   | (go_at_call 45; refine (q4 _).mono ?_; clear q4; rintro e w3 ⟨rfl, hq, hsz, hk3⟩)
   | (go_at_call 46; refine (q5 _).mono ?_; clear q5; rintro e w4 ⟨rfl, rfl⟩))
  go_ret2
  obtain ⟨h8, h9⟩ := key _ _ _ f b p F hh hk1 hf hk2 hq hk3 hsz
  rw [hsz] at h8
  exact ⟨_, _, rfl, h8, h9⟩
end Go.Proofs.YtoaeficfmcncjaaGreat.Mirror
namespace Go.Proofs.YtoaeficfmcncjaaGreat.Mirror
open Go.RowKit
open Math
open Flight (Fw Fv FlAt Off turnL endL endOk)
open Later (Lw Lv QAt Foot RowAt)
open Pack (Ms Mv)

theorem goneR {w W0 : World} {N : Nat} (hN : w.heap.size = N) (k0 : Kept [] w W0) (hB1 : Blk W0 (N + 1) 76 #[.slice none 0 0]) (hB2 : Blk W0 (N + 1 + 1) 28 #[.int .i64 0]) : ∃ W1 W2, W0.setCell ⟨N + 1, 0, none⟩ (.slice none 0 0) = W1 ∧ W1.setCell ⟨N + 1 + 1, 0, none⟩ (.int .i64 1) = W2 ∧ W1.frozen? ⟨N + 1 + 1, 0, none⟩ = false ∧ W1.cell? ⟨N + 1 + 1, 0, none⟩ = some (.int .i64 0) ∧ Blk W2 (N + 1) 76 #[.slice none 0 0] ∧ Blk W2 (N + 1 + 1) 28 #[.int .i64 1] ∧ Kept [] w W2 := by
 obtain ⟨W1, hW1, k1, x1⟩ := same_set hB1
 have x2 := hB2.kept k1 (by simp)
 obtain ⟨W2, hW2, k2, y2⟩ : ∃ V, W1.setCell ⟨N + 1 + 1, 0, none⟩ (.int .i64 1) = V ∧ Kept [N + 1 + 1] W1 V ∧ Blk V (N + 1 + 1) 28 #[.int .i64 1] := ⟨_, rfl, kept_set (by simp) _ _ _, x2.set 0 _⟩
 exact ⟨W1, W2, hW1, hW2, x2.frozen 0, (x2.cell 0).trans rfl, x1.kept k2 (by simp), y2, (k0.youngs k1 (fun k hk => by simp at hk; omega)).youngs k2 (fun k hk => by simp at hk; omega)⟩
end Go.Proofs.YtoaeficfmcncjaaGreat.Mirror
