/-
 What Go stands on.
-/
import Derived.Test.YtoaeficfmcncjaaGreatM45
namespace Go.Proofs.YtoaeficfmcncjaaGreat.Mirror
open Go.RowKit
open Math
open Flight (Fw Fv FlAt Off)
open Later (Lw Lv QAt Foot RowAt wentB wentW leftL)
open Pack (Ms Mv)
open Resync
open Clash (Ow)
theorem applyR_ops (O : List Ow) : ∀ n d q acc, d.size ≤ 1024 → (applyR O n d q acc).1.ops ≤ d.ops + 1030 * n ∧ (applyR O n d q acc).1.size = d.size ∧ (applyR O n d q acc).2.1.length ≤ q.length := by
 intro n
 induction n with
 | zero => intro d q acc hs; exact ⟨Nat.le_refl _, rfl, Nat.le_refl _⟩
 | succ n ih =>
  intro d q acc hs
  unfold applyR
  by_cases h : wentB O q = true
  ·have hl := left_len h
   obtain ⟨s1, s2⟩ := storeS_ops hs (wentW O q)
   rw [if_pos h]
   by_cases hE : storeE d (wentW O q) = 0
   ·rw [if_pos hE]
    obtain ⟨i1, i2, i3⟩ := ih (storeS d (wentW O q)) (leftL O q) (acc ++ [wentW O q]) (by omega)
    exact ⟨by omega, by omega, by omega⟩
   ·rw [if_neg hE]
    exact ⟨Nat.le_trans s1 (by omega), s2, (by show (leftL O q).length ≤ q.length; omega)⟩
  ·rw [if_neg h]
   exact ⟨Nat.le_add_right _ _, rfl, Nat.le_refl _⟩
theorem resend_sub {q : List Lw} : ∀ (ws : List Lw) (d : Dk) (F : List (Int × Fw)) (acc : List Lw), ∀ y ∈ (resendR q ws d F acc).2.2.1, y ∈ acc ∨ y ∈ ws := by
 intro ws
 induction ws with
 | nil => intro d F acc y hy; exact .inl hy
 | cons w ws ih =>
  intro d F acc y hy
  cases h : Later.overL q w.o w.l with
  | true =>
   rw [resend_over h] at hy
   exact (ih _ _ _ y hy).imp id (List.mem_cons_of_mem _)
  | false =>
   by_cases hE : storeE d w = 0
   ·rw [resend_goes h hE] at hy
    rcases ih _ _ _ y hy with h1 | h1
    ·rcases List.mem_append.1 h1 with h2 | h2
     ·exact .inl h2
     ·exact .inr (by simp at h2; simp [h2])
    ·exact .inr (List.mem_cons_of_mem _ h1)
   ·rw [resend_fails h hE] at hy
    exact .inl hy
theorem again_sub {F : List (Int × Fw)} : ∀ y ∈ againL F, ∃ c ∈ F, y = lwOf c := fun y hy => by
 unfold againL at hy
 obtain ⟨c, hc, rfl⟩ := List.mem_map.1 hy
 exact ⟨c, (List.mem_filter.1 hc).1, rfl⟩
theorem mrow_clean {base : Nat} {W : World} {v : Value} {P : List Mv} (h : MRow base W v P) : Clean W v.ownBlock.toList := fun k hk => by
 obtain ⟨cur, hb⟩ := h.blk k (by simpa using hk)
 exact clean_of hb (by decide) (by decide)
theorem told_append {base base' : Nat} {A B : World} {v u r : Value} {L1 L2 : List Ms} {Q1 Q2 : List Mv} (h1 : Told base A v L1 Q1) (h2 : Told base' A u L2 Q2) (hr : MRow base B r (Q1 ++ Q2)) (hk : Kept v.ownBlock.toList A B) : Told base B r (L1 ++ L2) (Q1 ++ Q2) := by
 have hc := mrow_clean h1.row
 refine ⟨hr, by rw [List.map_append, h1.is, h2.is], fun y hy => ?_⟩
 rcases List.mem_append.1 hy with h | h
 ·exact hc.byt hk (h1.byt y h)
 ·exact hc.byt hk (h2.byt y h)
theorem told_len {base : Nat} {A : World} {v : Value} {L : List Ms} {Q : List Mv} (h : Told base A v L Q) : Q.length = L.length := by rw [← h.is, List.length_map]
set_option maxRecDepth 100000 in
theorem results_two {fn : Func} {q r : Tmp} (h : fn.results = #[.cell q 76, .cell r 28]) (tmps : Array Value) (w : World) (g k : Nat) (v e : Value) (hq : tmps[q]? = some (.pointer (some ⟨g, 0, none⟩))) (hr : tmps[r]? = some (.pointer (some ⟨k, 0, none⟩))) (hv : Blk w g 76 #[v]) (he : Blk w k 28 #[e]) :
  (results fn tmps).run Tryz.prog w = .ok (.tuple #[v, e]) w := by
 have c0 := (hv.cell 0).trans (show _ = some v from rfl)
 have c1 := (he.cell 0).trans (show _ = some e from rfl)
 simp [results, h, go_sem, hq, hr, c0, c1]
set_option maxRecDepth 100000 in
theorem tell_row (k : Int) (hk : k = 2 ∨ k = 3) (sa : Option Addr) (n cap : Nat) (P : List Lv) (base : Nat) (gr : Option Nat) (w : World) (hP : ORow base w (.slice sa n cap) P gr) (hbl : k = 2 → ∀ x ∈ P, x.bs.length ≤ 140737488351232) (hlen : P.length ≤ 900000) :
  Calls Tryz.prog 72 #[.int .i64 k, .slice sa n cap] w fun e w' => ∃ sT nT cT Q, e = .returned (.slice sT nT cT) ∧ Told w.heap.size w' (.slice sT nT cT) ((P.map Lv.lw).map (msgOf k)) Q ∧ Kept [] w w' := by
 have key : Calls Tryz.prog 72 #[.int .i64 k, .slice sa n cap] w fun e w' => ∃ v Q, e = .returned v ∧ Told w.heap.size w' v (P.map fun x => msgOf k x.lw) Q ∧ Kept [] w w' := by
  rcases hk with rfl | rfl
  ·exact tell_data sa n cap P base gr w hP.lrow (hbl rfl) hlen
  ·exact tell_other 3 (by decide) sa n cap P base gr w hP.row hlen
 refine key.mono ?_
 rintro e w' ⟨v, Q, rfl, hT, hk⟩
 obtain ⟨sT, cT, rfl⟩ := hT.row.form
 exact ⟨sT, _, cT, Q, rfl, by rw [List.map_map]; exact hT, hk⟩
theorem orow_form {base : Nat} {W : World} {v : Value} {P : List Lv} {gr : Option Nat} (h : ORow base W v P gr) : ∃ sa n cap, v = .slice sa n cap := by
 obtain ⟨a', cap', e1, _⟩ := h.row.open
 exact ⟨_, _, _, e1⟩
theorem orow_lt {base : Nat} {W : World} {v : Value} {P : List Lv} {gr : Option Nat} (h : ORow base W v P gr) : ∀ g, gr = some g → base ≤ g := fun g hg => by
 obtain ⟨a', cap', e1, _, _, h1⟩ := h.row
 rcases h1 with ⟨_, _, e⟩ | ⟨k, off, cur, _, e, hb, _⟩
 ·rw [hg] at e; cases e
 ·rw [hg] at e
  cases e
  exact hb
theorem MiOp.all {lo m d b1 b2 : Nat} {M : Mr} {f b p q h hi : Nat} {F : List Nat} {gr : Option Nat} {W : World} (H : MiOp W lo m d b1 b2 f b p q h hi F gr M) : Clean W (own m f b q h F gr ++ [d, b1, b2]) := H.clean.app (disk_clean H.disk)
end Go.Proofs.YtoaeficfmcncjaaGreat.Mirror
namespace Go.Proofs.YtoaeficfmcncjaaGreat.Mirror
open Go.RowKit
open Math
open Flight (Fw Fv FlAt Off)
open Later (Lw Lv QAt Foot RowAt)
open Pack (Ms Mv)
variable {W A B : World} {lo m d b1 b2 f b p q h hi : Nat} {F K : List Nat} {gr : Option Nat} {M : Mr}
theorem q_base {W : World} {base base' q : Nat} {L : List Lw} (h : QAt W base q none L) (hb : base' ≤ base) : QAt W base' q none L := by
 obtain ⟨v, P, h1, h2, h3, h4⟩ := h.blk
 exact ⟨⟨v, P, h1, h2.mono hb, h3, h4⟩, Nat.le_trans hb h.low⟩
end Go.Proofs.YtoaeficfmcncjaaGreat.Mirror
namespace Go.Proofs.YtoaeficfmcncjaaGreat.Mirror
open Go.RowKit
open Math
open Flight (Fw Fv FlAt Off turnL endL endOk)
open Later (Lw Lv QAt Foot RowAt)
open Pack (Ms Mv)
section
variable {ops : Array Oper} {o : Oper} {a : Act} {w : World} {Q : Exit → Act → World → Prop}
end
variable {W A B : World} {lo m d b1 b2 f b p q h hi : Nat} {F K : List Nat} {gr : Option Nat} {M : Mr}
end Go.Proofs.YtoaeficfmcncjaaGreat.Mirror
namespace Go.Proofs.YtoaeficfmcncjaaGreat.Mirror
open Go.RowKit
open Math
open Flight (Fw Fv FlAt Off turnL endL endOk)
open Later (Lw Lv QAt Foot RowAt)
open Pack (Ms Mv)
variable {lo m d b1 b2 : Nat} {K : List Nat} {M : Mr}
end Go.Proofs.YtoaeficfmcncjaaGreat.Mirror
namespace Go.Proofs.YtoaeficfmcncjaaGreat.Mirror
open Go.RowKit
open Math
open Flight (Fw Fv FlAt Off turnL endL endOk)
open Later (Lw Lv QAt Foot RowAt)
open Pack (Ms Mv)
variable {lo m d b1 b2 : Nat} {K : List Nat} {M : Mr}
section
set_option maxRecDepth 100000
set_option maxHeartbeats 4000000 in
theorem hot_any (w : World) (H : MiAt w lo m d b1 b2 K M) : Calls Tryz.prog 17 #[.pointer (some ⟨m, 0, none⟩)] w fun e w' => e = .returned (.int .u64 (Hot.mask M.hot : Nat)) ∧ Kept [] w w' := by
 have q1 : Calls Tryz.prog 56 #[.pointer (some ⟨m, 0, none⟩)] w fun e w' => e = .returned (.bool true) ∧ w = w' := (made_any w H).mono (fun _ _ h => ⟨h.1, h.2.symm⟩)
 obtain ⟨f, b, p, q, h, hi, F, gr, rfl, H⟩ := H
 obtain ⟨v, hv⟩ := H.hot
 have q2 := Hot.mask_any h (h + 1) M.most v M.hot w hv
 have c2 := H.five.2.2.1
 clear H hv
 go_enter Tryz.func17, Tryz.ntmps17
 go_wp2_with (first
  | (go_at_call 56; refine q1.mono ?_; clear q1; rintro e w1 ⟨rfl, rfl⟩)
  | (go_at_call 57; refine q2.mono ?_; clear q2; rintro e w2 ⟨rfl, hb⟩))
 go_ret
 exact ⟨rfl, of_below hb⟩
set_option maxHeartbeats 4000000 in
theorem flights_any (w : World) (H : MiAt w lo m d b1 b2 K M) (hF : M.fly.length ≤ 600) : Calls Tryz.prog 21 #[.pointer (some ⟨m, 0, none⟩)] w fun e w' => ∃ v, e = .returned v ∧ Flight.Listed 94 w.heap.size w' v M.fly ∧ Kept [] w w' := by
 have q1 : Calls Tryz.prog 56 #[.pointer (some ⟨m, 0, none⟩)] w fun e w' => e = .returned (.bool true) ∧ w = w' := (made_any w H).mono (fun _ _ h => ⟨h.1, h.2.symm⟩)
 obtain ⟨f, b, p, q, h, hi, F, gr, rfl, H⟩ := H
 have q2 := Flight.list_any w H.fly hF
 have c0 := H.five.1
 clear H
 go_enter Tryz.func21, Tryz.ntmps21
 go_wp2_with (first
  | (go_at_call 56; refine q1.mono ?_; clear q1; rintro e w1 ⟨rfl, rfl⟩)
  | (go_at_call 60; refine q2.mono ?_; clear q2; rintro e w2 ⟨v, rfl, hl, hk⟩))
 go_ret
 exact ⟨_, rfl, hl, hk⟩
set_option maxHeartbeats 4000000 in
theorem later_any (w : World) (H : MiAt w lo m d b1 b2 K M) (hL : M.lat.length ≤ 1000000) : Calls Tryz.prog 24 #[.pointer (some ⟨m, 0, none⟩)] w fun e w' => ∃ v, e = .returned v ∧ Later.SpsAt w' v (Later.sps M.lat) ∧ Kept [] w w' := by
 have q1 : Calls Tryz.prog 56 #[.pointer (some ⟨m, 0, none⟩)] w fun e w' => e = .returned (.bool true) ∧ w = w' := (made_any w H).mono (fun _ _ h => ⟨h.1, h.2.symm⟩)
 obtain ⟨f, b, p, q, h, hi, F, gr, rfl, H⟩ := H
 have q2 := Later.spans_any w H.lat hL
 have c0 := H.five.2.1
 clear H
 go_enter Tryz.func24, Tryz.ntmps24
 go_wp2_with (first
  | (go_at_call 56; refine q1.mono ?_; clear q1; rintro e w1 ⟨rfl, rfl⟩)
  | (go_at_call 62; refine q2.mono ?_; clear q2; rintro e w2 ⟨v, rfl, hl, hk⟩))
 go_ret
 exact ⟨_, rfl, hl, hk⟩
end
end Go.Proofs.YtoaeficfmcncjaaGreat.Mirror
namespace Go.Proofs.YtoaeficfmcncjaaGreat.Mirror
open Go.RowKit
open Math
open Flight (Fw Fv FlAt Off turnL endL endOk)
open Later (Lw Lv QAt Foot RowAt)
open Pack (Ms Mv)
theorem fl_low {W : World} {lo lo' hi f b p : Nat} {F : List Nat} {L : List (Int × Fw)} (h : FlAt W lo hi f b p F L) (hl : lo' ≤ lo) : FlAt W lo' hi f b p F L := by
 obtain ⟨n, D, h1, h2⟩ := h.map
 refine ⟨h.blk, ⟨n, D, h1, fun k hk => ⟨(h2 k hk).1, fun r hr => ?_⟩⟩, h.tree, h.good, h.fit, h.fF, h.bF, ⟨Nat.le_trans hl h.young.1, Nat.le_trans hl h.young.2.1, fun k hk => Nat.le_trans hl (h.young.2.2 k hk)⟩, h.hih⟩
 obtain ⟨x, x1, x2, x3, x4⟩ := (h2 k hk).2 r hr
 exact ⟨x, x1, x2, x3.mono hl (Nat.le_refl _), x4⟩
set_option maxRecDepth 100000 in
set_option maxHeartbeats 4000000 in
theorem loaded_ok (most mask : Nat) (h1 : 1 ≤ most) (h2 : most ≤ 16) (hm : mask < 18446744073709551616) (w : World) : Calls Tryz.prog 43 #[.int .i64 (most : Int), .int .u64 (mask : Int)] w fun e w' => e = .returned (.tuple #[.pointer (some ⟨w.heap.size, 0, none⟩), .int .i64 0]) ∧ HotAt w' w.heap.size most (Bits.Math.elems mask) ∧ Kept [] w w' := by
 have q1 := Hot.new_ok most w h1 h2
 have ka := kept_alloc [] w (.cells #[.int .i64 (most : Int), .slice none 0 0] 208)
 have hs : Hot.SetAt (w.alloc (.cells #[.int .i64 (most : Int), .slice none 0 0] 208)) w.heap.size (w.heap.size + 1) most (.slice none 0 0) [] := ⟨blk_new w 208 _, Nat.lt_succ_self _, by simp, Hot.Nums.nil _ _, Hot.Good.nil, h1, h2⟩
 have q2 := Hot.load_any _ _ most _ _ mask hm _ hs
 go_enter Tryz.func43, Tryz.ntmps43
 go_wp2_with (first
  | (go_at_call 92; refine q1.mono ?_; clear q1; rintro e w1 ⟨rfl, rfl⟩)
  | (go_at_call 91; refine q2.mono ?_; clear q2; rintro e w2 ⟨rfl, hv, hk⟩))
 go_ret2
 exact ⟨rfl, hv, (ka.young (of_hot hk) (Nat.le_refl _))⟩
variable {d b1 b2 : Nat} {s : Dk}
set_option maxRecDepth 100000 in
set_option maxHeartbeats 4000000 in
theorem new_ok (most mask : Nat) (who : Int) (hw : who = 0 ∨ who = 1) (h1 : 1 ≤ most) (h2 : most ≤ 16) (hm : mask < 18446744073709551616) (w : World) (hd : DiskAt w d b1 b2 s) : Calls Tryz.prog 10 #[.pointer (some ⟨d, 0, none⟩), .int .i64 (most : Int), .int .i64 who, .int .u64 (mask : Int)] w fun e w' => ∃ m K, e = .returned (.tuple #[.pointer (some ⟨m, 0, none⟩), .int .i64 0]) ∧ MiAt w' w.heap.size m d b1 b2 K ⟨s, most, Bits.Math.elems mask, [], [], decide (who = 0)⟩ ∧ Kept [] w w' := by
 have q1 : Calls Tryz.prog 42 #[.pointer (some ⟨d, 0, none⟩)] w fun e w' => e = .returned (.bool true) ∧ w = w' := (Go.Proofs.YtoaeficfmcncjaaGreat.made_any d b1 b2 s w hd).mono (fun _ _ h => ⟨h.1, h.2.symm⟩)
 have q2 := loaded_ok most mask h1 h2 hm w
 have q3 := fun W => Flight.new_any W
 have q4 := fun W => Later.new_any W
 have q5 := fun W => Role.arbiter_any who W
 have hlt := hd.lt
 obtain ⟨A, hA⟩ : ∃ A, decide (who = 0) = A := ⟨_, rfl⟩
 rw [hA] at q5 ⊢
 have hd' : Hid (DiskAt w d b1 b2 s) := hd
 clear hd
 have hg : who = 0 ∨ who = 1 := hw
 have key : ∀ w1 w2 w3 f b p F, HotAt w1 w.heap.size most (Bits.Math.elems mask) → Kept [] w w1 → FlAt w2 w1.heap.size w2.heap.size f b p F [] → Kept [] w1 w2 → QAt w3 w2.heap.size w2.heap.size none [] → Kept [] w2 w3 → w3.heap.size = w2.heap.size + 1 →
   MiAt (w3.alloc (.cells #[.pointer (some ⟨f, 0, none⟩), .pointer (some ⟨w2.heap.size, 0, none⟩), .pointer (some ⟨w.heap.size, 0, none⟩), .pointer (some ⟨d, 0, none⟩), .bool A] 105)) w.heap.size w3.heap.size d b1 b2 (own w3.heap.size f b w2.heap.size w.heap.size F none) ⟨s, most, Bits.Math.elems mask, [], [], A⟩ ∧ Kept [] w (w3.alloc (.cells #[.pointer (some ⟨f, 0, none⟩), .pointer (some ⟨w2.heap.size, 0, none⟩), .pointer (some ⟨w.heap.size, 0, none⟩), .pointer (some ⟨d, 0, none⟩), .bool A] 105)) := fun w1 w2 w3 f b p F hh k1 hf k2 hq k3 hsz => by
  have k4 := kept_alloc [] w3 (.cells #[.pointer (some ⟨f, 0, none⟩), .pointer (some ⟨w2.heap.size, 0, none⟩), .pointer (some ⟨w.heap.size, 0, none⟩), .pointer (some ⟨d, 0, none⟩), .bool A] 105)
  have z1 := k1.size
  have z2 := k2.size
  have hl := hh.lt
  obtain ⟨y1, y2, y3⟩ := hf.young
  obtain ⟨_, t1, _, _⟩ := hf.tree
  have fl : ∀ k ∈ f :: b :: F, w1.heap.size ≤ k ∧ k < w2.heap.size := fun k hk => by
   rcases List.mem_cons.1 hk with rfl | hk
   ·exact ⟨y1, hf.blk.lt⟩
   rcases List.mem_cons.1 hk with rfl | hk
   ·obtain ⟨es, cl, e⟩ := hf.map.isMap
    exact ⟨y2, (Array.getElem?_eq_some_iff.1 e).1⟩
   ·exact ⟨y3 k hk, t1.lt k hk⟩
  refine ⟨⟨f, b, p, w2.heap.size, w.heap.size, w2.heap.size, F, none, rfl, ⟨blk_new w3 105 _, fl_low (hf.kept0 (k3.trans k4)) z1, (q_base hq (by omega)).kept0 k4, hh.kept (k2.trans (k3.trans k4)) (by simp) (clean_nil _), hd'.out.kept (k1.trans (k2.trans (k3.trans k4))) (by simp) (by simp) (by simp), ⟨hlt.1, hlt.2.1, hlt.2.2⟩, ⟨by omega, Nat.le_refl _⟩, fun k hk => ?_, fun k hk => ?_, by omega⟩⟩, k1.trans (k2.trans (k3.trans k4))⟩
  ·have := fl k hk
   refine ⟨by omega, by omega, fun hm => ?_⟩
   simp at hm
   omega
  ·simp at hk
   subst hk
   omega
 clear hA
 rcases hw with rfl | rfl
 all_goals
  go_enter Tryz.func10, Tryz.ntmps10
  go_wp2_with (first
   | (go_at_call 42; refine q1.mono ?_; clear q1; rintro e w0 ⟨rfl, rfl⟩)
   | (go_at_call 43; refine q2.mono ?_; clear q2; rintro e w1 ⟨rfl, hh, hk1⟩)
   | (go_at_call 44; refine (q3 _).mono ?_; clear q3; rintro e w2 ⟨f, b, p, F, rfl, hf, hk2⟩)
   | (go_at_call 45; refine (q4 _).mono ?_; clear q4; rintro e w3 ⟨rfl, hq, hsz, hk3⟩)
   | (go_at_call 46; refine (q5 _).mono ?_; clear q5; rintro e w4 ⟨rfl, rfl⟩))
  go_ret2
  obtain ⟨h8, h9⟩ := key _ _ _ f b p F hh hk1 hf hk2 hq hk3 hsz
  rw [hsz] at h8
  exact ⟨_, _, rfl, h8, h9⟩
end Go.Proofs.YtoaeficfmcncjaaGreat.Mirror
namespace Go.Proofs.YtoaeficfmcncjaaGreat.Mirror
open Go.RowKit
open Math
open Flight (Fw Fv FlAt Off turnL endL endOk)
open Later (Lw Lv QAt Foot RowAt)
open Pack (Ms Mv)
end Go.Proofs.YtoaeficfmcncjaaGreat.Mirror
namespace Go.Proofs.YtoaeficfmcncjaaGreat.Mirror
open Go.RowKit
open Math
open Later (Lw Lv QAt Foot RowAt)
open Pack (Ms Mv)
def z16 : List Nat := zeros 16
def lm0 : Mr := ⟨made 16, 3, Bits.Math.elems 0, [], [], decide ((0 : Int) = 0)⟩
def lm1 : Mr := wrS lm0 ⟨5, 0, 1, z16⟩
def lx : Mv := ⟨3, 5, 0, 0, false, none, 0, 0, []⟩
section
set_option maxRecDepth 100000
theorem lv1 : wrB lm0 ⟨5, 0, 1, z16⟩ = true := by kernel_rfl
theorem lv2 : wrE lm0 ⟨5, 0, 1, z16⟩ = 0 := by kernel_rfl
theorem lv3 : tkE lm1 lx.ms = 0 := by kernel_rfl
theorem lv5 : Hot.mask (tkS lm1 lx.ms).hot = 1 := by kernel_rfl
theorem lv6 : lm1.fly.length = 1 ∧ lm1.lat.length = 0 ∧ lm1.d.ops = 4 := ⟨by kernel_rfl, by kernel_rfl, by kernel_rfl⟩
end
theorem bts_zeros (W : World) (X : List Nat) (hX : ∀ x ∈ X, x < W.heap.size) : Bts (W.alloc (.cells ((zeros 16).map enc).toArray 5)) X (.slice (some ⟨W.heap.size, 0, none⟩) 16 16) z16 := by
 refine ⟨by decide, some ⟨W.heap.size, 0, none⟩, 16, rfl, fun e => (by cases e), .inr ⟨W.heap.size, 0, rfl, Nat.le_refl _, by simp, fun hm => by have := hX _ hm; omega, fun j hj => ?_⟩⟩
 have hb := blk_new W 5 ((zeros 16).map enc).toArray
 rw [Nat.zero_add, hb.cell j]
 have hj : j < 16 := hj
 rcases (by omega : j = 0 ∨ j = 1 ∨ j = 2 ∨ j = 3 ∨ j = 4 ∨ j = 5 ∨ j = 6 ∨ j = 7 ∨ j = 8 ∨ j = 9 ∨ j = 10 ∨ j = 11 ∨ j = 12 ∨ j = 13 ∨ j = 14 ∨ j = 15) with rfl | rfl | rfl | rfl | rfl | rfl | rfl | rfl | rfl | rfl | rfl | rfl | rfl | rfl | rfl | rfl <;> rfl
theorem goes_past {X A B : World} {lo m d b1 b2 : Nat} {K K' : List Nat} {M : Mr} (h0 : Kept [] X A) (g : Goes A B lo m d b1 b2 K K' M) (hK : ∀ k ∈ K ++ [d, b1, b2], X.heap.size ≤ k) : Kept [] X B := h0.youngs g.kept fun k hk => .inr (hK k hk)
theorem no_of {W : World} {k : Nat} {t T : TypeId} {c : Array Value} (h : Blk W k t c) (hT : t ≠ T) : ∀ c', ¬ Blk W k T c' := fun _ h' => hT (Later.blk_type h h')
theorem no_map {W : World} {k : Nat} {es clock} (h : W.heap[k]? = some (.map es clock)) (T : TypeId) : ∀ c', ¬ Blk W k T c' := fun _ h' => by
 unfold Blk at h'
 rw [h] at h'
 cases h'
theorem tr_no {W : World} : ∀ {t : Itree.Tr}, Itree.TrAt W t → ∀ k ∈ t.blks, ∀ c, ¬ Blk W k 47 c
 | .nil, _, _, hk => by cases hk
 | .node b x e h l r, ⟨h1, h2, h3⟩, k, hk => by
  simp only [Itree.Tr.blks, List.mem_cons, List.mem_append] at hk
  rcases hk with rfl | hk | hk
  ·exact no_of h1 (by decide)
  ·exact tr_no h2 k hk
  ·exact tr_no h3 k hk
theorem MiAt.no_msg {W : World} {lo m d b1 b2 : Nat} {K : List Nat} {M : Mr} (H : MiAt W lo m d b1 b2 K M) : ∀ k ∈ K ++ [d, b1, b2], ∀ c, ¬ Blk W k 47 c := by
 obtain ⟨f, b, p, q, h, hi, F, gr, rfl, H⟩ := H
 obtain ⟨_, ⟨t, t1, _, _, rfl⟩, _, _⟩ := H.fly.tree
 obtain ⟨_, _, e1⟩ := H.fly.map.isMap
 obtain ⟨v, P, l1, l2, _⟩ := H.lat.blk
 obtain ⟨_, hh⟩ := H.hot
 obtain ⟨_, s1, _⟩ := H.disk.safe
 obtain ⟨_, _, e2⟩ := s1.isMap
 obtain ⟨_, _, e3⟩ := H.disk.fresh.isMap
 intro k hk
 simp only [own, List.mem_cons, List.mem_append, List.cons_append, List.not_mem_nil, or_false] at hk
 rcases hk with rfl | rfl | rfl | rfl | rfl | (hk | rfl | hk) | rfl | rfl | rfl
 ·exact no_of H.box (by decide)
 ·exact no_of (show Blk W k _ _ from hh.cells) (by decide)
 ·exact no_of H.fly.blk (by decide)
 ·exact no_map e1 _
 ·exact no_of t1.blk (by decide)
 ·exact tr_no t1.nodes k hk
 ·exact no_of l1 (by decide)
 ·obtain ⟨_, _, c, hc⟩ := l2.low k (by simpa using hk)
  exact no_of hc (by decide)
 ·exact no_of H.disk.cells (by decide)
 ·exact no_map e2 _
 ·exact no_map e3 _
theorem cell_lt {W : World} {g i : Nat} {v : Value} (h : W.cell? ⟨g, i, none⟩ = some v) : g < W.heap.size := by
 rcases Nat.lt_or_ge g W.heap.size with h1 | h1
 ·exact h1
 ·simp [World.cell?, Array.getElem?_eq_none h1] at h
theorem goes_low {A B : World} {lo m d b1 b2 n : Nat} {K K' : List Nat} {M : Mr} (g : Goes A B lo m d b1 b2 K K' M) (h : ∀ k ∈ K ++ [d, b1, b2], n ≤ k) (hn : n ≤ A.heap.size) : ∀ k ∈ K' ++ [d, b1, b2], n ≤ k := fun k hk => by
 rcases List.mem_append.1 hk with h1 | h1
 ·rcases g.new k h1 with h2 | h2
  ·exact h k (List.mem_append.2 (.inl h2))
  ·omega
 ·exact h k (List.mem_append.2 (.inr h1))
set_option maxRecDepth 100000 in
theorem lvT : tkT lm1 lx.ms = [5] := by kernel_rfl
theorem IRow.ints {base : Nat} {W : World} {v : Value} {l : List Int} (h : IRow base W v l) : Bits.IntsAt W.heap.size W v l := by
 obtain ⟨_, ⟨rfl, h0⟩ | ⟨g, cap, cur, rfl, hb, hg, h1, h2, h3, h4⟩⟩ := h
 ·have : l = [] := by simpa using h0
  subst this
  exact ⟨none, 0, rfl, .inl rfl⟩
 ·refine ⟨some ⟨g, 0, none⟩, cap, rfl, .inr ⟨g, 0, rfl, (Array.getElem?_eq_some_iff.1 hg).1, fun j hj => ?_⟩⟩
  have e : cur.toList[j]? = some (.int .i64 l[j]) := by
   have := congrArg (fun t => t[j]?) h4
   rw [Nat.mul_one] at this
   simp only [List.getElem?_take, hj, if_true, List.getElem?_map, List.getElem?_eq_getElem hj, Option.map_some] at this
   exact this
  have hc : Blk W g 3 cur := hg
  rw [Nat.zero_add, hc.cell j]
  simpa [hj] using e
theorem ints_lit (W : World) (a : Int) : Bits.IntsAt (W.alloc (.cells #[.int .i64 a] 3)).heap.size (W.alloc (.cells #[.int .i64 a] 3)) (.slice (some ⟨W.heap.size, 0, none⟩) 1 1) [a] :=
 ⟨some ⟨W.heap.size, 0, none⟩, 1, rfl, .inr ⟨W.heap.size, 0, rfl, by rw [World.size_alloc]; omega, fun j hj => by
  have h0 : j = 0 := by simpa using hj
  subst h0
  exact ((blk_new W 3 #[.int .i64 a]).cell 0).trans rfl⟩⟩
theorem ints_kept {A B : World} {v : Value} {l : List Int} (h : Bits.IntsAt A.heap.size A v l) (hk : Kept [] A B) : Bits.IntsAt B.heap.size B v l := (h.below (hk.below (Nat.le_refl _) (by simp))).mono hk.size
set_option maxRecDepth 100000 in
set_option maxHeartbeats 4000000 in
theorem lives_any (w : World) : Calls Tryz.prog 7 #[] w fun e w' => e = .returned (.bool true) ∧ Kept [] w w' := by
 have q1 : Calls Tryz.prog 8 #[.int .i64 16] w fun e w' => e = .returned (.tuple #[.pointer (some ⟨w.heap.size + 2, 0, none⟩), .int .i64 0]) ∧ DiskAt w' (w.heap.size + 2) w.heap.size (w.heap.size + 1) (made 16) ∧ Kept [] w w' := new_any 16 (by omega) (by omega) w
 have q2 : ∀ W d b1 b2, DiskAt W d b1 b2 (made 16) → Calls Tryz.prog 10 #[.pointer (some ⟨d, 0, none⟩), .int .i64 3, .int .i64 0, .int .u64 0] W fun e w' => ∃ m K, e = .returned (.tuple #[.pointer (some ⟨m, 0, none⟩), .int .i64 0]) ∧ MiAt w' W.heap.size m d b1 b2 K lm0 ∧ Kept [] W w' := fun W d b1 b2 h => new_ok 3 0 0 (.inl rfl) (by omega) (by omega) (by omega) W h
 have q3 : ∀ W lo m d b1 b2 K, MiAt W lo m d b1 b2 K lm0 → Calls Tryz.prog 31 #[.pointer (some ⟨m, 0, none⟩), .int .i64 5, .agg #[.int .i64 0, .int .i64 1], .slice (some ⟨W.heap.size, 0, none⟩) 16 16] (W.alloc (.cells ((zeros 16).map enc).toArray 5)) fun e w' => ∃ g cap K', e = .returned (.tuple #[.bool true, .slice (some ⟨g, 0, none⟩) 1 cap, .int .i64 0]) ∧ w'.cell? ⟨g, 1, none⟩ = some (.int .i64 5) ∧ W.heap.size ≤ g ∧ g ∉ K' ++ [d, b1, b2] ∧ Goes W w' lo m d b1 b2 K K' lm1 := fun W lo m d b1 b2 K h => by
  have ka := kept_alloc [] W (.cells ((zeros 16).map enc).toArray 5)
  have hw := write_any 5 0 1 (some ⟨W.heap.size, 0, none⟩) 16 16 z16 (by omega) (by omega) _ (h.kept0 ka) (bts_zeros W _ h.lt) (by decide) (by decide) (by decide) (by decide)
  refine hw.mono ?_
  rintro e w' ⟨v, Q, K', rfl, hT, hG⟩
  have hO : wrO lm0 ⟨5, 0, 1, z16⟩ = [msgOf 2 ⟨5, 0, 1, z16⟩] := by
   unfold wrO
   rw [lv1]
   rfl
  rw [hO] at hT
  rw [lv1, lv2]
  obtain ⟨y, rfl, hy⟩ : ∃ y, Q = [y] ∧ y.ms = msgOf 2 ⟨5, 0, 1, z16⟩ := by
   have := hT.is
   have hl := congrArg List.length this
   rw [List.length_map] at hl
   obtain ⟨y, rfl⟩ := List.length_eq_one_iff.1 (show Q.length = 1 from hl)
   exact ⟨y, rfl, by simpa using this⟩
  obtain ⟨sa, cap, rfl⟩ := hT.row.form
  obtain ⟨g, rfl, hg, hr⟩ := hT.row.at 0 y rfl
  have hi : y.i = 5 := congrArg Ms.i hy
  refine ⟨g, cap, K', rfl, ?_, ?_, ?_, ⟨hG.at_, fun k hk => (hG.new k hk).imp id fun h => Nat.le_trans ka.size h, (ka.mono (by simp)).trans hG.kept⟩⟩
  ·have := hr 1 (.int .i64 y.i) rfl
   rw [hi] at this
   exact this
  ·exact Nat.le_trans ka.size hg
  ·obtain ⟨cur, hc⟩ := hT.row.blk g rfl
   exact fun hm => hG.at_.no_msg g hm cur hc
 have q4 : ∀ W lo m d b1 b2 K, MiAt W lo m d b1 b2 K lm1 → Calls Tryz.prog 34 #[.pointer (some ⟨m, 0, none⟩), .agg #[.int .i64 3, .int .i64 5, .int .i64 0, .int .u64 0, .bool false, .slice none 0 0]] W fun e w' => ∃ sa cap v K', e = .returned (.tuple #[.slice sa 1 cap, v, .int .i64 0]) ∧ IRow W.heap.size w' (.slice sa 1 cap) [5] ∧ Goes W w' lo m d b1 b2 K K' (tkS lm1 lx.ms) := fun W lo m d b1 b2 K h => by
  have ht := take_any lx (by decide) (by decide) W h ⟨by simp [lx], none, 0, rfl, fun _ => rfl, .inl rfl⟩ (by decide) (by rw [lv6.1]; decide) (by rw [lv6.2.1]; decide) (by rw [lv6.2.2]; decide)
  refine ht.mono ?_
  rintro e w' ⟨vi, v, Q, K', rfl, hI, hT, hG⟩
  have h5 : tkT lm1 lx.ms = [5] := lvT
  rw [h5] at hI
  rw [lv3]
  obtain ⟨sa, cap, rfl⟩ := irow_form hI
  exact ⟨sa, cap, v, K', rfl, hI, hG⟩
 have q5 : ∀ W lo m d b1 b2 K, MiAt W lo m d b1 b2 K (tkS lm1 lx.ms) → Calls Tryz.prog 17 #[.pointer (some ⟨m, 0, none⟩)] W fun e w' => e = .returned (.int .u64 1) ∧ Kept [] W w' := fun W lo m d b1 b2 K h => by
  have := hot_any W h
  rw [lv5] at this
  exact this
 have m16 : ∀ W : World, (Instr.makeSlice 45 (.int .i64 16) (.int .i64 16)).run Tryz.prog W = .ok (.slice (some ⟨W.heap.size, 0, none⟩) 16 16) (W.alloc (.cells ((zeros 16).map enc).toArray 5)) := fun W => make_bytes 16 (by omega) W
 go_enter Tryz.func7, Tryz.ntmps7
 go_wp2_with (first
  | (go_at_call 8; refine q1.mono ?_; clear q1; rintro e w1 ⟨rfl, hD1, hk1⟩)
  | (go_at_call 10; refine (q2 _ _ _ _ hD1).mono ?_; clear q2; rintro e w2 ⟨m, K2, rfl, hM2, hk2⟩; have hk02 := hk1.trans hk2; have hlow : Hid (∀ k ∈ K2 ++ [w.heap.size + 2, w.heap.size, w.heap.size + 1], w.heap.size ≤ k) := fun k hk => (by have h1 := hM2.low.1; have h2 := hk1.size; rcases List.mem_append.1 hk with h | h; exact Nat.le_trans h2 (h1 k h).1; simp at h; omega))
  | (go_at_call 31; refine (q3 _ _ _ _ _ _ _ hM2).mono ?_; clear q3; rintro e w3 ⟨g, cap3, K3, rfl, hc3, hg3, hn3, hG3⟩; have hk03 := goes_past hk02 hG3 hlow.out; have hlow3 : Hid (∀ k ∈ K3 ++ [w.heap.size + 2, w.heap.size, w.heap.size + 1], w.heap.size ≤ k) := goes_low hG3 hlow.out hk02.size)
  | (go_at_call 34; refine (q4 _ _ _ _ _ _ _ hG3.at_).mono ?_; clear q4; rintro e w4 ⟨sa, cap4, v, K4, rfl, hI4, hG4⟩; have hk04 := goes_past hk03 hG4 hlow3.out; have hc4 : w4.cell? ⟨g, 1, none⟩ = some (.int .i64 5) := (World.cell?_of_block (hG4.kept.block g (cell_lt hc3) hn3)).trans hc3; have q6 := Bits.ints_any (.slice sa 1 cap4) _ [5] _ (by decide) (ints_kept hI4.ints (kept_alloc [] w4 (.cells #[.int .i64 5] 3))) (ints_lit w4 5))
  | (go_at_call 41; refine q6.mono ?_; clear q6; rintro e w5 ⟨rfl, n5, rfl⟩; have hk45 := (kept_alloc [] w4 (.cells #[.int .i64 5] 3)).trans (kept_drewN [] _ n5))
  | (go_at_call 17; refine (q5 _ _ _ _ _ _ _ (hG4.at_.kept0 hk45)).mono ?_; clear q5; rintro e w6 ⟨rfl, hk6⟩))
 go_ret
 exact ⟨rfl, (hk04.trans hk45).trans hk6⟩
end Go.Proofs.YtoaeficfmcncjaaGreat.Mirror
