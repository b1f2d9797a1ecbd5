/-
  The walk of ResyncActs.
-/
import Derived.Test.YtfiofdmefgkloaaGreatReW
import Derived.Deep.CutBlock
namespace Go.Proofs.YtfiofdmefgkloaaGreat.Resync
open Go.RowKit
open Math Copying
open Pack (Mv Ms mv0 good)
open Bits.Math (has without elems)

theorem toldS_ops (s : Dk) (e : Int) : (toldS s e).ops ≤ s.ops + 2 := by
  unfold toldS
  split
  · exact map_ops _ _
  · omega
theorem takeS_ops (r : Rs) (x : Ms) (hs : r.d.size ≤ 1024) : (takeS r x).d.ops ≤ r.d.ops + 1027 := by
  have h1 := toldS_ops r.d x.o
  have h2 := ext_ops r.d hs x
  by_cases c1 : r.over = true
  · rw [takeS, if_pos c1]
    omega
  · rw [takeS, if_neg c1]
    by_cases c2 : r.src = true
    · rw [if_pos c2]
      by_cases c3 : x.k = 7 ∧ has r.left x.o = true
      · rw [if_pos c3]
        by_cases c4 : toldE r.d x.o = 0
        · rw [if_pos c4]
          show (toldS r.d x.o).ops ≤ _
          omega
        · rw [if_neg c4]
          show (toldS r.d x.o).ops ≤ _
          omega
      · rw [if_neg c3]
        omega
    · rw [if_neg c2]
      by_cases c3 : x.k = 6
      · rw [if_pos c3]
        by_cases c4 : extE r.d x = 0
        · rw [if_pos c4]
          exact h2
        · rw [if_neg c4]
          exact h2
      · rw [if_neg c3]
        by_cases c4 : x.k = 8
        · rw [if_pos c4]
          show r.d.ops ≤ _
          omega
        · rw [if_neg c4]
          omega
theorem bare_row (P : List Ms) (hP : ∀ m ∈ P, m.m < 18446744073709551616 ∧ m.i = 0) (lo hi : Nat) (W : World) : ∀ y ∈ P.map bare, y.At lo hi W := fun y hy => by
  obtain ⟨m, hm, rfl⟩ := List.mem_map.1 hy
  obtain ⟨h1, h2⟩ := hP m hm
  exact ⟨Pack.byteRow_nil lo hi W, h1, by show _ ≤ m.i; omega, by show m.i ≤ _; omega⟩
theorem takeL_fine (r : Rs) (x : Ms) : ∀ m ∈ takeL r x, m.m < 18446744073709551616 ∧ m.i = 0 ∧ m.d = [] := by
  unfold takeL
  split
  · simp
  · split
    · split <;> simp [endM]
    · split <;> simp [haveM]
theorem wpAnyH_stronger {P : Program} {ops : Array Oper} {Q : Exit → Act → World → Prop} {md : Region.Mode} {S S' : World → Prop} (hS : ∀ w, S' w → S w) :
    ∀ (fuel : Nat) (listed : Array Bool) (a : Act) (w : World), wpAnyH P md ops Q S' fuel listed a w → wpAnyH P md ops Q S fuel listed a w
  | 0, _, _, _, h => h
  | fuel + 1, _, _, _, h => ⟨h.1, fun i hi => wpOp_mono (fun _ _ h' => ⟨hS _ h'.1, wpAnyH_stronger hS fuel _ _ _ h'.2⟩) (h.2 i hi)⟩
theorem two_new (W : World) (t : TypeId) (A B : Array Value) : Blk ((W.drew.alloc (.cells A t)).alloc (.cells B t)) W.heap.size t A ∧ Blk ((W.drew.alloc (.cells A t)).alloc (.cells B t)) (W.heap.size + 1) t B ∧ Kept [] W ((W.drew.alloc (.cells A t)).alloc (.cells B t)) := by
  have h1 := (blk_new W.drew t A).kept (kept_alloc [] (W.drew.alloc (.cells A t)) (.cells B t)) (by simp)
  have h2 := blk_new (W.drew.alloc (.cells A t)) t B
  have e : (W.drew.alloc (.cells A t)).heap.size = W.heap.size + 1 := by simp
  rw [e] at h2
  exact ⟨h1, h2, ((kept_drew [] W).trans (kept_alloc [] _ _)).trans (kept_alloc [] _ _)⟩
/-- What a play begins with, in its block. -/
theorem boxT (w : World) (who z : Int) (x y : Mv) : ∃ W0, w.alloc (.cells #[.int .i64 who, .int .i64 z, .int .i64 x.k, .int .i64 x.i, .int .i64 x.o, .int .u64 (x.m : Int), .bool x.s, .slice x.sa x.len x.cap, .int .i64 y.k, .int .i64 y.i, .int .i64 y.o, .int .u64 (y.m : Int), .bool y.s, .slice y.sa y.len y.cap] 28) = W0 ∧ Kept [] w W0 ∧ ∀ W, Kept [] W0 W → (W.cell? ⟨w.heap.size, 0, none⟩ = some (.int .i64 who) ∧ W.cell? ⟨w.heap.size, 1, none⟩ = some (.int .i64 z) ∧ W.cell? ⟨w.heap.size, 2, none⟩ = some (.int .i64 x.k) ∧ W.cell? ⟨w.heap.size, 3, none⟩ = some (.int .i64 x.i) ∧ W.cell? ⟨w.heap.size, 4, none⟩ = some (.int .i64 x.o) ∧ W.cell? ⟨w.heap.size, 5, none⟩ = some (.int .u64 (x.m : Int)) ∧ W.cell? ⟨w.heap.size, 6, none⟩ = some (.bool x.s) ∧ W.cell? ⟨w.heap.size, 7, none⟩ = some (.slice x.sa x.len x.cap) ∧ W.cell? ⟨w.heap.size, 8, none⟩ = some (.int .i64 y.k) ∧ W.cell? ⟨w.heap.size, 9, none⟩ = some (.int .i64 y.i) ∧ W.cell? ⟨w.heap.size, 10, none⟩ = some (.int .i64 y.o) ∧ W.cell? ⟨w.heap.size, 11, none⟩ = some (.int .u64 (y.m : Int)) ∧ W.cell? ⟨w.heap.size, 12, none⟩ = some (.bool y.s) ∧ W.cell? ⟨w.heap.size, 13, none⟩ = some (.slice y.sa y.len y.cap)) := by
  refine ⟨_, rfl, kept_alloc [] w _, fun W hk => ?_⟩
  have hb := (blk_new w 28 #[.int .i64 who, .int .i64 z, .int .i64 x.k, .int .i64 x.i, .int .i64 x.o, .int .u64 (x.m : Int), .bool x.s, .slice x.sa x.len x.cap, .int .i64 y.k, .int .i64 y.i, .int .i64 y.o, .int .u64 (y.m : Int), .bool y.s, .slice y.sa y.len y.cap]).kept hk (by simp)
  exact ⟨(hb.cell 0).trans rfl, (hb.cell 1).trans rfl, (hb.cell 2).trans rfl, (hb.cell 3).trans rfl, (hb.cell 4).trans rfl, (hb.cell 5).trans rfl, (hb.cell 6).trans rfl, (hb.cell 7).trans rfl, (hb.cell 8).trans rfl, (hb.cell 9).trans rfl, (hb.cell 10).trans rfl, (hb.cell 11).trans rfl, (hb.cell 12).trans rfl, (hb.cell 13).trans rfl⟩
theorem kept_over {a b c : World} {L : List Nat} (h : Kept [] a b) (k : Kept L b c) (hL : ∀ x ∈ L, a.heap.size ≤ x) : Kept [] a c :=
  ⟨k.os.trans h.os, k.tape.trans h.tape, k.output.trans h.output, Nat.le_trans h.size k.size, fun j hj _ => (k.block j (Nat.lt_of_lt_of_le hj h.size) (fun hm => by have := hL j hm; omega)).trans (h.block j hj (by simp))⟩
/-- The disk of a play stays calm. -/
theorem puts_calm {s : Dk} (h : Math.Calm s) (base r : Int) (y : Nat) : Math.Calm (putS s base r y) ∧ (putS s base r y).size = s.size := by
  unfold putS
  split
  · split
    · exact ⟨h, rfl⟩
    · split
      · exact ⟨h, rfl⟩
      · unfold putsS
        have hc := h.wrote (putK s base r) (putX s base r y)
        have hz := wroteS_size s (putK s base r) (putX s base r y)
        split
        · obtain ⟨a, b⟩ := flush_is hc.1 (by have := hc.2; omega)
          rw [b]
          refine ⟨⟨hc.1, ?_⟩, hz⟩
          have := hc.2
          show (if 0 < (wroteS s (putK s base r) (putX s base r y)).fuse then (wroteS s (putK s base r) (putX s base r y)).fuse - 1 else (wroteS s (putK s base r) (putX s base r y)).fuse) < 0
          rw [if_neg (by omega)]
          exact this
        · exact ⟨hc, hz⟩
  · exact ⟨h, rfl⟩
theorem map_calm {s : Dk} (h : Math.Calm s) (m : Nat) : Math.Calm (mapS s m) ∧ (mapS s m).size = s.size := by
  unfold mapS
  split
  · exact ⟨h, rfl⟩
  · split
    · exact ⟨h, rfl⟩
    · exact puts_calm h 6 2 m
theorem log_calm {s : Dk} (h : Math.Calm s) (m : Nat) : Math.Calm (logS s m) ∧ (logS s m).size = s.size := by
  unfold logS
  split
  · exact ⟨h, rfl⟩
  · split
    · exact ⟨h, rfl⟩
    · exact puts_calm h 2 4 m
theorem ret_calm {s : Dk} (h : Math.Calm s) (z : Nat) : Math.Calm (retS s z) ∧ (retS s z).size = s.size := by
  obtain ⟨h1, h2⟩ := map_calm h z
  unfold retS
  split
  · obtain ⟨h3, h4⟩ := log_calm h1 0
    exact ⟨h3, h4.trans h2⟩
  · exact ⟨h1, h2⟩
/-- What a new disk gives: every extent that its data area has. -/
theorem gives_new (S : Nat) (a b : Nat) : ∀ e ∈ elems (Role.uni a b (S : Int)), gotE (retS (made (8 + S)) (Role.uni a b (S : Int))) (Span.wOff (e : Nat)) (Span.wLen (e : Nat)) = 0 := fun e he => by
  obtain ⟨h1, h2⟩ := ret_calm (Math.calm_made (8 + S)) (Role.uni a b (S : Int))
  have he1 : e < 64 := Bits.Math.elems_lt _ _ he
  have he2 : e < Role.exts (S : Int) := by
    have ht : (Role.uni a b (S : Int)).testBit e = true := by
      unfold elems Bits.Math.lst at he
      simpa using (List.mem_filter.1 he).2
    unfold Role.uni at ht
    rw [Nat.testBit_mod_two_pow] at ht
    have := (Bool.and_eq_true _ _ ▸ ht : _ ∧ _).1
    simpa using this
  have he3 : 4 * e + 4 ≤ S := by
    unfold Role.exts at he2
    have := Nat.lt_of_lt_of_le he2 (Nat.min_le_left _ _)
    omega
  have hd : dataN (retS (made (8 + S)) (Role.uni a b (S : Int))) = S := by
    unfold dataN
    rw [h2]
    show 8 + S - 8 = S
    omega
  rw [Span.wOff_in (by omega) (by omega), Span.wLen_in (by omega) (by omega)]
  unfold gotE
  rw [hd, h1.1]
  have hg : Span.Math.good (4 * (e : Int)) 4 (S : Nat) = true := by
    have hp : Span.Math.plain (4 * (e : Int)) 4 = true := by
      unfold Span.Math.plain
      simp
      try omega
    unfold Span.Math.good
    rw [hp]
    simp
    omega
  rw [if_pos hg]
  rfl
/-- Both resyncs, apart. -/
structure Both30 (W : World) (o pl d b1 b2 oo pp r g cap : Nat) (x : Rs) : Prop where
  re : ReAt W o pl d b1 b2 x
  rr : RrAt W oo pp r g cap x
  ne : ∀ k ∈ [o, pl, d, b1, b2], k ∉ [oo, pp, r, g]
section
variable {A B C : World} {o pl d b1 b2 oo pp r g cap : Nat} {x x' : Rs}
theorem Both30.kept (h : Both30 A o pl d b1 b2 oo pp r g cap x) (hk : Kept [] A B) : Both30 B o pl d b1 b2 oo pp r g cap x := ⟨h.re.kept0 hk, h.rr.kept0 hk, h.ne⟩
theorem Both30.rr_kept (h : Both30 A o pl d b1 b2 oo pp r g cap x) (hk : Kept [o, pl, d, b1, b2] A B) : RrAt B oo pp r g cap x := h.rr.kept hk (fun k hk hm => h.ne k hm hk)
theorem Both30.turned (h : Both30 A o pl d b1 b2 oo pp r g cap x) (h1 : ReAt B o pl d b1 b2 x') (k1 : Kept [o, pl, d, b1, b2] A B) (h2 : RrAt C oo pp r g cap x') (k2 : Kept [oo, pp, r, g] B C) : Both30 C o pl d b1 b2 oo pp r g cap x' ∧ Kept [o, pl, d, b1, b2, oo, pp, r, g] A C :=
  ⟨⟨h1.kept k2 (fun k hk => h.ne k hk), h2, h.ne⟩, (k1.mono (fun k hk => by simp at hk ⊢; omega)).trans (k2.mono (fun k hk => by simp at hk ⊢; omega))⟩
end
set_option maxRecDepth 100000 in
set_option maxHeartbeats 16000000 in
/-- ResyncActs -/
theorem acts_any (who z : Int) (x y : Mv) (hz0 : -9223372036854775808 ≤ z) (hz1 : z ≤ 9223372036854775807) (a0 : Option Addr) (len cap0 : Nat) (acts : List Ac) (hlen : len ≤ 9223372036854775807) (hxn : x.len ≤ 9223372036854775807) (hyn : y.len ≤ 9223372036854775807) (w : World) (hx : x.At 0 w.heap.size w) (hy : y.At 0 w.heap.size w) (hacts : AcsAt w.heap.size w a0 len cap0 acts) :
    Calls Tryz.prog 3 #[.slice a0 len cap0, .agg #[.int .i64 who, .int .i64 z, .int .i64 x.k, .int .i64 x.i, .int .i64 x.o, .int .u64 (x.m : Int), .bool x.s, .slice x.sa x.len x.cap, .int .i64 y.k, .int .i64 y.i, .int .i64 y.o, .int .u64 (y.m : Int), .bool y.s, .slice y.sa y.len y.cap]] w fun e w' => e = .returned (.bool true) ∧ Kept [] w w' := by
  obtain ⟨W0, hW0, hK0, hr⟩ := boxT w who z x y
  have kd := kept_drew [] W0
  have q7 := lives_any
  have hxl : Hid (x.len = x.d.length) := hx.1.len
  have hyl : Hid (y.len = y.d.length) := hy.1.len
  have hxm := hx.2
  have hym := hy.2
  replace hr : Hid _ := hr
  go_enter Tryz.func3, Tryz.ntmps3
  go_upto_region 1 with fail
  go_cut [5, 6, 7, 8] from 25 (fun s5 s6 s7 s8 W => ∃ bx bn, s5 = .int .i64 who ∧ s6 = .int .i64 z ∧ s7 = .pointer (some ⟨bx, 0, none⟩) ∧ s8 = .pointer (some ⟨bn, 0, none⟩) ∧ x.In W bx ∧ y.In W bn ∧ Kept [] w W)
  case first =>
    as_aux_lemma =>
      clear hx hy hacts hxl hyl hxn hyn hxm hym q7 hz0 hz1
      go_region_held3 (fun W => W.cell? ⟨w.heap.size, 0, none⟩ = some (.int .i64 who) ∧ W.cell? ⟨w.heap.size, 1, none⟩ = some (.int .i64 z) ∧ W.cell? ⟨w.heap.size, 2, none⟩ = some (.int .i64 x.k) ∧ W.cell? ⟨w.heap.size, 3, none⟩ = some (.int .i64 x.i) ∧ W.cell? ⟨w.heap.size, 4, none⟩ = some (.int .i64 x.o) ∧ W.cell? ⟨w.heap.size, 5, none⟩ = some (.int .u64 (x.m : Int)) ∧ W.cell? ⟨w.heap.size, 6, none⟩ = some (.bool x.s) ∧ W.cell? ⟨w.heap.size, 7, none⟩ = some (.slice x.sa x.len x.cap) ∧ W.cell? ⟨w.heap.size, 8, none⟩ = some (.int .i64 y.k) ∧ W.cell? ⟨w.heap.size, 9, none⟩ = some (.int .i64 y.i) ∧ W.cell? ⟨w.heap.size, 10, none⟩ = some (.int .i64 y.o) ∧ W.cell? ⟨w.heap.size, 11, none⟩ = some (.int .u64 (y.m : Int)) ∧ W.cell? ⟨w.heap.size, 12, none⟩ = some (.bool y.s) ∧ W.cell? ⟨w.heap.size, 13, none⟩ = some (.slice y.sa y.len y.cap)) (first | exact hr.out _ kd | exact hr.out _ (kd.trans (kept_alloc [] _ _)) | exact hr.out _ ((kd.trans (kept_alloc [] _ _)).trans (kept_alloc [] _ _))) (fail)
      all_goals
        go_wp2_with fail
        go_meet
      all_goals
        obtain ⟨h1, h2, h3⟩ := two_new W0 26 #[.int .i64 x.k, .int .i64 x.i, .int .i64 x.o, .int .u64 (x.m : Int), .bool x.s, .slice x.sa x.len x.cap] #[.int .i64 y.k, .int .i64 y.i, .int .i64 y.o, .int .u64 (y.m : Int), .bool y.s, .slice y.sa y.len y.cap]
        obtain ⟨h4, h5, h6⟩ := two_new W0 26 #[.int .i64 y.k, .int .i64 y.i, .int .i64 y.o, .int .u64 (y.m : Int), .bool y.s, .slice y.sa y.len y.cap] #[.int .i64 x.k, .int .i64 x.i, .int .i64 x.o, .int .u64 (x.m : Int), .bool x.s, .slice x.sa x.len x.cap]
        first
          | exact ⟨_, _, rfl, rfl, rfl, rfl, h1, h2, hK0.trans h3⟩
          | exact ⟨_, _, rfl, rfl, rfl, rfl, h5, h4, hK0.trans h6⟩
  case rest =>
    obtain ⟨bx, bn, rfl, rfl, rfl, rfl, hX, hY, hKc⟩ := hcut
    clear hr hW0 hK0 kd
    by_cases hno : z < 0 ∨ 32 < z ∨ 40 < len
    · clear hX hY hx hy hacts hxm hym
      rcases (show z < 0 ∨ (¬ (z < 0) ∧ 32 < z) ∨ (¬ (z < 0) ∧ ¬ (32 < z) ∧ (40 : Int) < (len : Int)) by omega) with g1 | ⟨g1, g2⟩ | ⟨g1, g2, g3⟩
      all_goals clear hno
      all_goals
        go_wp2_with (first
          | (go_at_call 7; refine (q7 _).mono ?_; rintro e w3 ⟨rfl, hk3⟩))
        go_ret
        exact ⟨rfl, hKc.trans hk3⟩
    obtain ⟨S, rfl⟩ : ∃ S : Nat, z = S := ⟨z.toNat, by omega⟩
    have hS : S ≤ 32 := by omega
    have hle : len ≤ 40 := by omega
    have g1 : ¬ ((S : Int) < 0) := by omega
    have g2 : ¬ (32 < (S : Int)) := by omega
    have g3 : ¬ ((40 : Int) < (len : Int)) := by omega
    have q8 := new_ex (8 + S) (by omega) (by omega) wc
    have q9 := fun W => refNew_any (8 + S) (by omega) (by omega) W
    simp only [Int.natCast_add, Int.cast_ofNat_Int] at q8 q9
    clear hno
    go_upto_region 6 with (first
      | (go_at_call 8; refine q8.mono ?_; rintro e w4 ⟨d, b1, b2, rfl, hD, hdl, hk4⟩)
      | (go_at_call 9; refine (q9 _).mono ?_; rintro e w5 ⟨g, cap, rfl, hR, hg, hk5⟩; have hD5 := hD.kept hk5 (by simp) (by simp) (by simp)))
    have hlt := hD.lt
    have hs4 := hk4.size
    have hs5 := hk5.size
    have hKc5 := hk4.trans hk5
    have hX5 := hX.kept hKc5 (by simp)
    have hY5 := hY.kept hKc5 (by simp)
    have hxl5 := hX.lt
    have hyl5 := hY.lt
    have hcs := hKc.size
    obtain ⟨r, hr⟩ : ∃ r, w4.heap.size = r := ⟨_, rfl⟩
    rw [hr] at hR hg ⊢
    obtain ⟨hrl, hgl⟩ := hR.1.lt
    have fx : ∀ K W, Kept K w5 W → bx ∉ K → x.In W bx := fun K W hk h => hX5.kept hk h
    have fy : ∀ K W, Kept K w5 W → bn ∉ K → y.In W bn := fun K W hk h => hY5.kept hk h
    have hzz := Role.uni_lt x.m y.m (S : Int) hxm hym
    have hKw := hKc.trans hKc5
    have hKl := hKw.size
    obtain ⟨c0, c1, c2, c3, c4, c5⟩ := hX5.six
    obtain ⟨e0, e1, e2, e3, e4, e5⟩ := hY5.six
    replace fx : Hid _ := fx
    replace fy : Hid _ := fy
    clear q8 q9 hX hY hD hk4 hk5 hKc5 hX5 hY5 hKc
    by_cases hok : greetB x.ms = true ∧ greetB y.ms = true ∧ (who = 0 ∨ who = 1)
    · obtain ⟨hgx, hgy, hwho⟩ := hok
      by_cases hE : retE (made (8 + S)) (Role.uni x.m y.m (S : Int)) = 0
      · as_aux_lemma =>
          have hd0 : (retS (made (8 + S)) (Role.uni x.m y.m (S : Int))).ops ≤ 4 := ret_ops (made (8 + S)) _
          have q1 := fun W (h : DiskAt W d b1 b2 (made (8 + S))) => begin_go d b1 b2 (made (8 + S)) who (S : Int) x y hxl.out hxn hyl.out hyn hxm hym (by omega) (by omega) hgx hgy hwho (by show (0 : Nat) ≤ _; omega) hE (fun _ => gives_new S x.m y.m) W h
          have q2 := fun W (h : RefAt W r g cap (made (8 + S))) h1 h2 => rbegin_go r g cap (made (8 + S)) who (S : Int) x y hxl.out hxn hyl.out hyn hxm hym hgx hgy hwho (by show (0 : Nat) ≤ _; omega) hE (fun _ => gives_new S x.m y.m) W h h1 h2
          obtain ⟨T, hT⟩ : ∃ T, beginR (retS (made (8 + S)) (Role.uni x.m y.m (S : Int))) (Role.uni x.m y.m (S : Int)) (Role.gives who x.s y.s) = T := ⟨_, rfl⟩
          have hT0 : T.d.ops ≤ 4 := by
            rw [← hT]
            exact hd0
          rw [hT] at q1 q2
          generalize beginL (retS (made (8 + S)) (Role.uni x.m y.m (S : Int))) (Role.uni x.m y.m (S : Int)) (Role.gives who x.s y.s) = L at *
          clear hd0 hT hE hzz
          generalize made (8 + S) = s0 at *
          clear hgx hgy hwho
          go_upto_region 10 with (first
            | (go_at_call 10; refine (q1 _ hD5).mono ?_; clear q1; rintro e w6 ⟨o, pl, sa, n, ca, P, lo, rfl, hRe, ⟨l1, l2, l3, l4, l5, l6⟩, hrow, hms, hmem, hk6⟩; obtain ⟨c0, c1, c2, c3, c4, c5⟩ := (fx.out _ w6 hk6 (by simp; omega)).six; obtain ⟨e0, e1, e2, e3, e4, e5⟩ := (fy.out _ w6 hk6 (by simp; omega)).six; have hR6 := hR.kept hk6 (by simp; omega) (by simp; omega); have hl6 := hk6.size)
            | (go_at_call 11; refine (q2 _ hR6 (by omega) (by omega)).mono ?_; clear q2; rintro e w7 ⟨oo, pp, sb, m, cb, Q, rfl, hRr, ⟨m1, m2⟩, hrow2, hms2, hmem2, hk7⟩; have qa := all_any sa sb n m ca cb lo w6.heap.size lo w6.heap.size w6.heap.size w7.heap.size P Q w7 (hrow.kept hk7 (fun k h1 h2 => by have := (hrow.lt k h1).1; simp at h2; omega)) hrow2 (fun y hy => (hmem y hy).kept (Nat.le_refl _) hk7 (fun k hk => by simp at hk; omega)) hk7.size hmem2 (Nat.le_refl _) (hms.trans hms2.symm))
            | (go_at_call 12; refine qa.mono ?_; clear qa; rintro e w8 ⟨rfl, hk8⟩))
          have hBoth : Both30 w8 o pl d b1 b2 oo pp r g cap T := Both30.kept ⟨hRe.kept hk7 (fun k hk hm => by simp at hk hm; omega), hRr, fun k hk hm => by have := hRe.lt; simp at hk hm; omega⟩ hk8
          have hKB : Kept [] w w8 := (kept_over (kept_over hKw hk6 (by simp; omega)) hk7 (by simp; omega)).trans hk8
          have hall : Hid (∀ k ∈ [o, pl, d, b1, b2, oo, pp, r, g], w.heap.size ≤ k) := fun k hk => by
            simp at hk
            omega
          clear hRe hRr hrow hrow2 hms hms2 hmem hmem2 hk6 hk7 hk8 hR hR6 hD5 fx fy c0 c1 c2 c3 c4 c5 e0 e1 e2 e3 e4 e5 l1 l2 l3 l4 l5 l6 m1 m2 hl6 hx hy hxl hyl hxn hyn hxm hym
          go_wp2_with fail
          go_loopw [19] (fun i wr => ∃ (j : Nat) (st : Rs), j ≤ len ∧ i = .int .i64 j ∧ Both30 wr o pl d b1 b2 oo pp r g cap st ∧ st.d.ops ≤ 4 + 1100 * j ∧ Kept [] w wr) (fun i _ => len - (RowKit.intOf i).toNat)
          case atStart => exact ⟨0, T, by omega, rfl, hBoth, by omega, hKB⟩
          case round =>
            obtain ⟨j, st, hj, rfl, hB, ho, hK⟩ := hrel
            clear hBoth hKB hT0
            by_cases hlt : j < len
            · obtain ⟨hal, haok, hnil | ⟨blk, off, rfl, hcap, hblk, hcs⟩⟩ := hacts.kept (Nat.le_refl _) hK (by simp)
              · rw [hnil] at hal
                simp at hal
                omega
              obtain ⟨a, ha⟩ : ∃ a, acts[j]? = some a := ⟨_, List.getElem?_eq_getElem (by rw [hal]; exact hlt)⟩
              have hok := haok a (List.mem_of_getElem? ha)
              have hr : Hid (wr.rangeAt blk (off + j * 9) a.cells) := hcs j a ha
              have kk4 : (j : Int) < (len : Int) := by omega
              have kcap : (j : Int) < (cap0 : Int) := by omega
              have hm1 : Hid (len - (j + 1) < len - j) := by show _ < _; omega
              have hz0 : Blk (wr.alloc (.cells #[.int .i64 0, .int .i64 0, .int .u64 0, .int .i64 0, .int .i64 0, .int .i64 0, .int .u64 0, .bool false, .slice none 0 0] 46)) wr.heap.size 46 #[.int .i64 0, .int .i64 0, .int .u64 0, .int .i64 0, .int .i64 0, .int .i64 0, .int .u64 0, .bool false, .slice none 0 0] := blk_new wr 46 _
              have hsz : Hid (a.cells.length = 9) := rfl
              have hltB := hB.re.lt
              have hltR := hB.rr.lt
              have hops : st.d.ops ≤ 900000 := by omega
              have hal0 := hok.len0
              have hval := hB.re.disk.valid
              clear hcs hal haok hacts ha
              by_cases hbig : 200 < a.x.len
              · as_aux_lemma =>
                  have kb : (200 : Int) < (a.x.len : Int) := by omega
                  go_wp2_with (first
                    | refine wpList_load_mid rfl 46 _ rfl blk (off + j * 9) rfl a.cells _ hr.out Tryz.underlying46 rfl (by rw [hsz.out]; exact Tryz.size46) ?_
                    | (refine wpList_store_blk rfl 46 _ _ rfl wr.heap.size 46 _ a.cells rfl rfl hz0 hsz.out (by rw [hsz.out]; exact Tryz.size46) a.one ?_; intro w7 hB7 hk7 hz7; have hk07 : Kept [] wr w7 := (kept_alloc [] wr _).young hk7 (Nat.le_refl _); have hBo7 := hB.kept hk07; have hB7' : a.In w7 wr.heap.size := hB7; obtain ⟨c0, c1, c2, c3, c4, c5, c6, c7, c8⟩ := hB7'.nine)
                    | (go_at_call 7; refine (q7 _).mono ?_; rintro e w8 ⟨rfl, hk8⟩))
                  go_ret
                  exact ⟨rfl, (hK.trans hk07).trans hk8⟩
              · have kb : ¬ ((200 : Int) < (a.x.len : Int)) := by omega
                go_upto_block 2 with (first
                  | refine wpList_load_mid rfl 46 _ rfl blk (off + j * 9) rfl a.cells _ hr.out Tryz.underlying46 rfl (by rw [hsz.out]; exact Tryz.size46) ?_
                  | (refine wpList_store_blk rfl 46 _ _ rfl wr.heap.size 46 _ a.cells rfl rfl hz0 hsz.out (by rw [hsz.out]; exact Tryz.size46) a.one ?_; intro w7 hB7 hk7 hz7; have hk07 : Kept [] wr w7 := (kept_alloc [] wr _).young hk7 (Nat.le_refl _); have hBo7 := hB.kept hk07; have hB7' : a.In w7 wr.heap.size := hB7; obtain ⟨c0, c1, c2, c3, c4, c5, c6, c7, c8⟩ := hB7'.nine))
                have hKw7 := hK.trans hk07
                have hrow := hok.row.kept hK.size hk07 (by simp)
                go_cut [] from 93 to 212 (fun W => ∃ st, Both30 W o pl d b1 b2 oo pp r g cap st ∧ st.d.ops ≤ 4 + 1100 * (j + 1) ∧ Kept [] w W)
                case first =>
                  as_aux_lemma =>
                    have hap : ∀ k ∈ [d, b1, b2], k < 0 ∨ w.heap.size ≤ k := fun k hk => .inr (hall.out k (by simp at hk ⊢; omega))
                    have har : ∀ k ∈ [r, g], k < 0 ∨ w.heap.size ≤ k := fun k hk => .inr (hall.out k (by simp at hk ⊢; omega))
                    have hap5 : ∀ k ∈ [o, pl, d, b1, b2], k < 0 ∨ w.heap.size ≤ k := fun k hk => .inr (hall.out k (by simp at hk ⊢; omega))
                    have hL7 : w.heap.size ≤ w7.heap.size := hKw7.size
                    have hl07 := hk07.size
                    by_cases n0 : a.k = 0
                    · have q9 := fun W (h : ReAt W o pl d b1 b2 st) (hx : a.x.At 0 w.heap.size W) (hh : w.heap.size ≤ W.heap.size) => take_any o pl d b1 b2 st a.x 0 w.heap.size hops W h hx hh hal0 hap
                      have q10 := fun W (h : RrAt W oo pp r g cap st) (hx : a.x.At 0 w.heap.size W) (hh : w.heap.size ≤ W.heap.size) => rtake_any oo pp r g cap st a.x 0 w.heap.size hops W h hx hh hal0 har
                      have hs' := takeS_ops st a.x.ms hval.top
                      have hbat : ∀ W, ∀ y ∈ (takeL st a.x.ms).map bare, y.At 0 0 W := fun W => bare_row _ (fun m hm => ⟨(takeL_fine st a.x.ms m hm).1, (takeL_fine st a.x.ms m hm).2.1⟩) 0 0 W
                      generalize takeS st a.x.ms = st' at *
                      generalize takeE st a.x.ms = ge at *
                      generalize (takeL st a.x.ms).map bare = BL at *
                      replace hbat : Hid _ := hbat
                      go_wp2_with (first
                        | (go_at_call 13; refine (q9 _ hBo7.re hrow hL7).mono ?_; clear q9; rintro e w8 ⟨sa8, n8, cap8, rfl, hr8, hR8, hk8⟩; obtain ⟨-, -, -, e3, e4, e5, e6, e7, e8⟩ := (hB7'.kept hk8 (by simp; omega)).nine; have hrow8 := hrow.kept hL7 hk8 hap5; have hl8 := hk8.size; have hRr8 := hBo7.rr_kept hk8)
                        | (go_at_call 14; refine (q10 _ hRr8 hrow8 (Nat.le_trans hL7 hl8)).mono ?_; clear q10; rintro e w9 ⟨sa9, n9, cap9, rfl, hr9, hR9, hk9⟩; obtain ⟨hBo9, hkk9⟩ := hBo7.turned hR8 hk8 hR9 hk9; have hltr := hRr8.lt; have qa := all_any sa8 sa9 n8 n9 cap8 cap9 w7.heap.size w8.heap.size 0 0 0 0 BL BL w9 (hr8.kept hk9 (fun k h1 h2 => by have := (hr8.lt k h1).1; have := hBo7.rr.lt; simp at h2; omega)) hr9 (hbat.out w9) (Nat.zero_le _) (hbat.out w9) (Nat.zero_le _) rfl)
                        | (go_at_call 12; refine qa.mono ?_; clear qa; rintro e w10 ⟨rfl, hk10⟩; have hBo10 := hBo9.kept hk10))
                      go_meet
                      case rel => exact ⟨st', hBo10, by omega, (kept_over hKw7 hkk9 hall.out).trans hk10⟩
                    obtain ⟨s, sq, sl, se⟩ := st
                    simp only at ho hops hval
                    by_cases n1 : a.k = 1
                    · have q9 := fun W (h : DiskAt W d b1 b2 s) => crash_any d b1 b2 s a.m hok.m0 W h
                      have q10 := fun W (h : RefAt W r g cap s) => refCrash_any r g cap s a.m hok.m0 W h
                      have hs' : (crashed s a.m).ops = s.ops := rfl
                      generalize crashed s a.m = s' at *
                      go_wp2_with (first
                        | (go_at_call 15; refine (q9 _ hBo7.re.disk).mono ?_; clear q9; rintro e w8 ⟨rfl, hD8, hk8⟩; have hR8 := hBo7.re.turned hD8 hk8; have hk85 : Kept [o, pl, d, b1, b2] w7 w8 := hk8.mono (fun k hk => by simp at hk ⊢; omega); obtain ⟨-, -, e2, -, -, -, -, -, -⟩ := (hB7'.kept hk8 (by simp; omega)).nine; have hRr8 := hBo7.rr_kept hk85)
                        | (go_at_call 16; refine (q10 _ hRr8.disk).mono ?_; clear q10; rintro e w9 ⟨rfl, hR9, hk9⟩; obtain ⟨hBo9, hkk9⟩ := hBo7.turned hR8 hk85 (hRr8.turned hR9 hk9) (hk9.mono (fun k hk => by simp at hk ⊢; omega))))
                      go_meet
                      case rel => exact ⟨⟨s', sq, sl, se⟩, hBo9, by show s'.ops ≤ _; omega, kept_over hKw7 hkk9 hall.out⟩
                    by_cases n2 : a.k = 2
                    · have q9 := fun W (h : DiskAt W d b1 b2 s) => fuse_any d b1 b2 s a.t hok.t0 hok.t1 W h
                      have q10 := fun W (h : RefAt W r g cap s) => setFuse_any r g cap s a.t hok.t0 hok.t1 W h
                      have hs' : (fused s a.t).ops = s.ops := rfl
                      generalize fused s a.t = s' at *
                      go_wp2_with (first
                        | (go_at_call 17; refine (q9 _ hBo7.re.disk).mono ?_; clear q9; rintro e w8 ⟨rfl, hD8, hk8', hz8⟩; replace hz8 : Hid _ := hz8; have hk8 : Kept [d, b1, b2] w7 w8 := hk8'.mono (by simp); have hR8 := hBo7.re.turned hD8 hk8; have hk85 : Kept [o, pl, d, b1, b2] w7 w8 := hk8.mono (fun k hk => by simp at hk ⊢; omega); obtain ⟨-, e1, -, -, -, -, -, -, -⟩ := (hB7'.kept hk8 (by simp; omega)).nine; have hRr8 := hBo7.rr_kept hk85)
                        | (go_at_call 18; refine (q10 _ hRr8.disk).mono ?_; clear q10; rintro e w9 ⟨rfl, hR9, hk9'⟩; have hk9 : Kept [r, g] w8 w9 := hk9'.mono (by simp); obtain ⟨hBo9, hkk9⟩ := hBo7.turned hR8 hk85 (hRr8.turned hR9 hk9) (hk9.mono (fun k hk => by simp at hk ⊢; omega))))
                      go_meet
                      case rel => exact ⟨⟨s', sq, sl, se⟩, hBo9, by show s'.ops ≤ _; omega, kept_over hKw7 hkk9 hall.out⟩
                    · have z0 : (a.k == 0) = false := by simpa using n0
                      have z1 : (a.k == 1) = false := by simpa using n1
                      have z2 : (a.k == 2) = false := by simpa using n2
                      go_wp2_with fail
                      go_meet
                      case rel => exact ⟨⟨s, sq, sl, se⟩, hBo7, by show s.ops ≤ _; omega, hKw7⟩
                case rest =>
                  as_aux_lemma =>
                    obtain ⟨⟨s', sq, sl, se⟩, hB', ho', hK'⟩ := hcut
                    have hQ := hB'.kept (kept_drew [] wc)
                    have hKq := hK'.trans (kept_drew [] wc)
                    have qs := fun W (h : DiskAt W d b1 b2 s') => dget_any d b1 b2 s' W h
                    have qr := fun W (h : RefAt W r g cap s') => refGet11_any r g cap s' W h
                    have qi := fun W (h : DiskAt W d b1 b2 s') => dImage_any d b1 b2 s' W h
                    have qj := fun W (h : RefAt W r g cap s') => rImage_any r g cap s' W h
                    have qo := fun W (h : DiskAt W d b1 b2 s') => ops_any d b1 b2 s' W h
                    have q1 := fun W h => source_any o pl d b1 b2 ⟨s', sq, sl, se⟩ W h
                    have q2 := fun W h => over_any o pl d b1 b2 ⟨s', sq, sl, se⟩ W h
                    have q3 := fun W h => left_any o pl d b1 b2 ⟨s', sq, sl, se⟩ W h
                    simp only at q1 q2 q3 ho'
                    generalize latestY s' 6 2 = LY at *
                    generalize imgL s' = IL at *
                    clear c0 c1 c2 c3 c4 c5 c6 c7 c8 hBo7 hB7 hB7' hrow hB hok hz0 hr
                    go_wp2_with fail
                    refine wp_region_held_drew (S := fun W => Kept [] wc.drew W) (by kernel_rfl) (Kept.refl _ _) (fun hP => ?_)
                    have hH := hP
                    clear hP
                    refine wpAnyH_take (i := 0) (oi := { dst := some 160, op := Op.move (Operand.tmp 13), type := 37, pos := "law.go:74", after := #[], guard := none }) (v := (.pointer (some ⟨o, 0, none⟩))) rfl (by kernel_rfl) (by kernel_rfl) (by kernel_rfl) (fun _ _ _ h => h) (Or.inl ⟨by rfl, fun W hSw => by go_simp⟩) hH ?_
                    try simp only [Act.put, List.setIfInBounds_toArray, List.set_cons_zero, List.set_cons_succ]
                    refine wpAnyH_take (i := 2) (oi := { dst := some 162, op := Op.move (Operand.tmp 16), type := 41, pos := "law.go:74", after := #[], guard := none }) (v := (.pointer (some ⟨oo, 0, none⟩))) rfl (by kernel_rfl) (by kernel_rfl) (by kernel_rfl) (fun _ _ _ h => h) (Or.inl ⟨by rfl, fun W hSw => by go_simp⟩) hH ?_
                    try simp only [Act.put, List.setIfInBounds_toArray, List.set_cons_zero, List.set_cons_succ]
                    refine wpAnyH_take (i := 3) (oi := { dst := some 163, op := Op.nilCheck (Operand.tmp 162), type := 0, pos := "law.go:74", after := #[{ on := 2, ground := Ground.data }], guard := none }) (v := (.pointer (some ⟨oo, 0, none⟩))) rfl (by kernel_rfl) (by kernel_rfl) (by kernel_rfl) (fun _ _ _ h => h) (Or.inl ⟨by rfl, fun W hSw => by go_simp⟩) hH ?_
                    try simp only [Act.put, List.setIfInBounds_toArray, List.set_cons_zero, List.set_cons_succ]
                    refine wpAnyH_take (i := 4) (oi := { dst := some 164, op := Op.fieldAddr 55 (Operand.tmp 163) 1, type := 0, pos := "law.go:74", after := #[{ on := 3, ground := Ground.data }], guard := none }) (v := (.pointer (some ⟨oo, 1, none⟩))) rfl (by kernel_rfl) (by kernel_rfl) (by kernel_rfl) (fun _ _ _ h => h) (Or.inl ⟨by rfl, fun W hSw => by go_simp⟩) hH ?_
                    try simp only [Act.put, List.setIfInBounds_toArray, List.set_cons_zero, List.set_cons_succ]
                    refine wpAnyH_take (i := 5) (oi := { dst := some 165, op := Op.load 4 (Operand.tmp 164), type := 4, pos := "law.go:74", after := #[{ on := 4, ground := Ground.data }], guard := none }) (v := (.bool sq)) rfl (by kernel_rfl) (by kernel_rfl) (by kernel_rfl) (fun _ _ _ h => h) (Or.inl ⟨by rfl, fun W hSw => by have hc := (hQ.kept hSw).rr.four; simp only at hc; go_simp⟩) hH ?_
                    try simp only [Act.put, List.setIfInBounds_toArray, List.set_cons_zero, List.set_cons_succ]
                    refine wpAnyH_ready (rs := [1]) (by kernel_rfl) (by simp) ?_
                    refine AllReadyH.cons (o := { dst := some 161, op := Op.call { callee := Callee.value (Operand.func 19), args := #[Operand.tmp 160], argTypes := #[37] }, type := 4, pos := "law.go:74", after := #[{ on := 0, ground := Ground.data }], guard := none }) rfl (fun K hK => ?_) AllReadyH.nil
                    go_simp
                    refine (q1 _ hQ.re).mono ?_
                    rintro e w' ⟨rfl, rfl⟩
                    go_wp2_with fail
                    have hH1 := hH
                    refine hK.out _ _ hH1 (fun _ => ?_)
                    replace hH := hH1
                    clear hK K hH1
                    try simp only [Act.put, List.setIfInBounds_toArray, List.set_cons_zero, List.set_cons_succ]
                    refine wpAnyH_take (i := 6) (oi := { dst := some 166, op := Op.binOp BinOp.neq 4 (Operand.tmp 161) (Operand.tmp 165) 4, type := 4, pos := "law.go:74", after := #[{ on := 1, ground := Ground.data }, { on := 5, ground := Ground.data }], guard := none }) (v := (.bool false)) rfl (by kernel_rfl) (by kernel_rfl) (by kernel_rfl) (fun _ _ _ h => h) (Or.inl ⟨by rfl, fun W hSw => by go_simp⟩) hH ?_
                    try simp only [Act.put, List.setIfInBounds_toArray, List.set_cons_zero, List.set_cons_succ]
                    refine wpAnyH_take (i := 7) (oi := { dst := some 167, op := Op.move (Operand.tmp 166), type := 4, pos := "law.go:74", after := #[{ on := 6, ground := Ground.data }, { on := 1, ground := Ground.chain }], guard := none }) (v := (.bool false)) rfl (by kernel_rfl) (by kernel_rfl) (by kernel_rfl) (fun _ _ _ h => h) (Or.inl ⟨by rfl, fun W hSw => by go_simp⟩) hH ?_
                    try simp only [Act.put, List.setIfInBounds_toArray, List.set_cons_zero, List.set_cons_succ]
                    refine wpAnyH_take (i := 8) (oi := { dst := some 168, op := Op.move (Operand.tmp 13), type := 37, pos := "law.go:74", after := #[{ on := 7, ground := Ground.guard }], guard := some (7, false) }) (v := (.pointer (some ⟨o, 0, none⟩))) rfl (by kernel_rfl) (by kernel_rfl) (by kernel_rfl) (fun _ _ _ h => h) (Or.inl ⟨by rfl, fun W hSw => by go_simp⟩) hH ?_
                    try simp only [Act.put, List.setIfInBounds_toArray, List.set_cons_zero, List.set_cons_succ]
                    refine wpAnyH_take (i := 10) (oi := { dst := some 170, op := Op.move (Operand.tmp 16), type := 41, pos := "law.go:74", after := #[{ on := 7, ground := Ground.guard }], guard := some (7, false) }) (v := (.pointer (some ⟨oo, 0, none⟩))) rfl (by kernel_rfl) (by kernel_rfl) (by kernel_rfl) (fun _ _ _ h => h) (Or.inl ⟨by rfl, fun W hSw => by go_simp⟩) hH ?_
                    try simp only [Act.put, List.setIfInBounds_toArray, List.set_cons_zero, List.set_cons_succ]
                    refine wpAnyH_take (i := 11) (oi := { dst := some 171, op := Op.nilCheck (Operand.tmp 170), type := 0, pos := "law.go:74", after := #[{ on := 10, ground := Ground.data }, { on := 7, ground := Ground.guard }], guard := some (7, false) }) (v := (.pointer (some ⟨oo, 0, none⟩))) rfl (by kernel_rfl) (by kernel_rfl) (by kernel_rfl) (fun _ _ _ h => h) (Or.inl ⟨by rfl, fun W hSw => by go_simp⟩) hH ?_
                    try simp only [Act.put, List.setIfInBounds_toArray, List.set_cons_zero, List.set_cons_succ]
                    refine wpAnyH_take (i := 12) (oi := { dst := some 172, op := Op.fieldAddr 55 (Operand.tmp 171) 3, type := 0, pos := "law.go:74", after := #[{ on := 11, ground := Ground.data }, { on := 7, ground := Ground.guard }], guard := some (7, false) }) (v := (.pointer (some ⟨oo, 3, none⟩))) rfl (by kernel_rfl) (by kernel_rfl) (by kernel_rfl) (fun _ _ _ h => h) (Or.inl ⟨by rfl, fun W hSw => by go_simp⟩) hH ?_
                    try simp only [Act.put, List.setIfInBounds_toArray, List.set_cons_zero, List.set_cons_succ]
                    refine wpAnyH_take (i := 13) (oi := { dst := some 173, op := Op.load 4 (Operand.tmp 172), type := 4, pos := "law.go:74", after := #[{ on := 12, ground := Ground.data }, { on := 7, ground := Ground.guard }], guard := some (7, false) }) (v := (.bool se)) rfl (by kernel_rfl) (by kernel_rfl) (by kernel_rfl) (fun _ _ _ h => h) (Or.inl ⟨by rfl, fun W hSw => by have hc := (hQ.kept hSw).rr.four; simp only at hc; go_simp⟩) hH ?_
                    try simp only [Act.put, List.setIfInBounds_toArray, List.set_cons_zero, List.set_cons_succ]
                    refine wpAnyH_ready (rs := [9]) (by kernel_rfl) (by simp) ?_
                    refine AllReadyH.cons (o := { dst := some 169, op := Op.call { callee := Callee.value (Operand.func 20), args := #[Operand.tmp 168], argTypes := #[37] }, type := 4, pos := "law.go:74", after := #[{ on := 8, ground := Ground.data }, { on := 7, ground := Ground.chain }, { on := 7, ground := Ground.guard }], guard := some (7, false) }) rfl (fun K hK => ?_) AllReadyH.nil
                    go_simp
                    refine (q2 _ hQ.re).mono ?_
                    rintro e w' ⟨rfl, rfl⟩
                    go_wp2_with fail
                    have hH1 := hH
                    refine hK.out _ _ hH1 (fun _ => ?_)
                    replace hH := hH1
                    clear hK K hH1
                    try simp only [Act.put, List.setIfInBounds_toArray, List.set_cons_zero, List.set_cons_succ]
                    refine wpAnyH_take (i := 14) (oi := { dst := some 174, op := Op.binOp BinOp.neq 4 (Operand.tmp 169) (Operand.tmp 173) 4, type := 4, pos := "law.go:74", after := #[{ on := 9, ground := Ground.data }, { on := 13, ground := Ground.data }, { on := 7, ground := Ground.guard }], guard := some (7, false) }) (v := (.bool false)) rfl (by kernel_rfl) (by kernel_rfl) (by kernel_rfl) (fun _ _ _ h => h) (Or.inl ⟨by rfl, fun W hSw => by go_simp⟩) hH ?_
                    try simp only [Act.put, List.setIfInBounds_toArray, List.set_cons_zero, List.set_cons_succ]
                    refine wpAnyH_take (i := 15) (oi := { dst := some 175, op := Op.pick (Operand.tmp 167) (Operand.const (Value.bool true)) (Operand.tmp 174), type := 4, pos := "law.go:74", after := #[{ on := 7, ground := Ground.data }, { on := 14, ground := Ground.data }], guard := none }) (v := (.bool false)) rfl (by kernel_rfl) (by kernel_rfl) (by kernel_rfl) (fun _ _ _ h => h) (Or.inl ⟨by rfl, fun W hSw => by go_simp⟩) hH ?_
                    try simp only [Act.put, List.setIfInBounds_toArray, List.set_cons_zero, List.set_cons_succ]
                    refine wpAnyH_take (i := 16) (oi := { dst := some 176, op := Op.move (Operand.tmp 175), type := 4, pos := "law.go:74", after := #[{ on := 15, ground := Ground.data }, { on := 9, ground := Ground.chain }], guard := none }) (v := (.bool false)) rfl (by kernel_rfl) (by kernel_rfl) (by kernel_rfl) (fun _ _ _ h => h) (Or.inl ⟨by rfl, fun W hSw => by go_simp⟩) hH ?_
                    try simp only [Act.put, List.setIfInBounds_toArray, List.set_cons_zero, List.set_cons_succ]
                    refine wpAnyH_take (i := 17) (oi := { dst := some 177, op := Op.move (Operand.tmp 13), type := 37, pos := "law.go:74", after := #[{ on := 16, ground := Ground.guard }], guard := some (16, false) }) (v := (.pointer (some ⟨o, 0, none⟩))) rfl (by kernel_rfl) (by kernel_rfl) (by kernel_rfl) (fun _ _ _ h => h) (Or.inl ⟨by rfl, fun W hSw => by go_simp⟩) hH ?_
                    try simp only [Act.put, List.setIfInBounds_toArray, List.set_cons_zero, List.set_cons_succ]
                    refine wpAnyH_take (i := 19) (oi := { dst := some 179, op := Op.move (Operand.tmp 16), type := 41, pos := "law.go:74", after := #[{ on := 16, ground := Ground.guard }], guard := some (16, false) }) (v := (.pointer (some ⟨oo, 0, none⟩))) rfl (by kernel_rfl) (by kernel_rfl) (by kernel_rfl) (fun _ _ _ h => h) (Or.inl ⟨by rfl, fun W hSw => by go_simp⟩) hH ?_
                    try simp only [Act.put, List.setIfInBounds_toArray, List.set_cons_zero, List.set_cons_succ]
                    refine wpAnyH_take (i := 20) (oi := { dst := some 180, op := Op.nilCheck (Operand.tmp 179), type := 0, pos := "law.go:74", after := #[{ on := 19, ground := Ground.data }, { on := 16, ground := Ground.guard }], guard := some (16, false) }) (v := (.pointer (some ⟨oo, 0, none⟩))) rfl (by kernel_rfl) (by kernel_rfl) (by kernel_rfl) (fun _ _ _ h => h) (Or.inl ⟨by rfl, fun W hSw => by go_simp⟩) hH ?_
                    try simp only [Act.put, List.setIfInBounds_toArray, List.set_cons_zero, List.set_cons_succ]
                    refine wpAnyH_take (i := 21) (oi := { dst := some 181, op := Op.fieldAddr 55 (Operand.tmp 180) 2, type := 0, pos := "law.go:74", after := #[{ on := 20, ground := Ground.data }, { on := 16, ground := Ground.guard }], guard := some (16, false) }) (v := (.pointer (some ⟨oo, 2, none⟩))) rfl (by kernel_rfl) (by kernel_rfl) (by kernel_rfl) (fun _ _ _ h => h) (Or.inl ⟨by rfl, fun W hSw => by go_simp⟩) hH ?_
                    try simp only [Act.put, List.setIfInBounds_toArray, List.set_cons_zero, List.set_cons_succ]
                    refine wpAnyH_take (i := 22) (oi := { dst := some 182, op := Op.load 53 (Operand.tmp 181), type := 53, pos := "law.go:74", after := #[{ on := 21, ground := Ground.data }, { on := 16, ground := Ground.guard }], guard := some (16, false) }) (v := (.pointer (some ⟨pp, 0, none⟩))) rfl (by kernel_rfl) (by kernel_rfl) (by kernel_rfl) (fun _ _ _ h => h) (Or.inl ⟨by rfl, fun W hSw => by have hc := (hQ.kept hSw).rr.four; simp only at hc; go_simp⟩) hH ?_
                    try simp only [Act.put, List.setIfInBounds_toArray, List.set_cons_zero, List.set_cons_succ]
                    refine wpAnyH_take (i := 23) (oi := { dst := some 183, op := Op.nilCheck (Operand.tmp 182), type := 0, pos := "law.go:74", after := #[{ on := 22, ground := Ground.data }, { on := 16, ground := Ground.guard }], guard := some (16, false) }) (v := (.pointer (some ⟨pp, 0, none⟩))) rfl (by kernel_rfl) (by kernel_rfl) (by kernel_rfl) (fun _ _ _ h => h) (Or.inl ⟨by rfl, fun W hSw => by go_simp⟩) hH ?_
                    try simp only [Act.put, List.setIfInBounds_toArray, List.set_cons_zero, List.set_cons_succ]
                    refine wpAnyH_take (i := 24) (oi := { dst := some 184, op := Op.fieldAddr 58 (Operand.tmp 183) 1, type := 0, pos := "law.go:74", after := #[{ on := 23, ground := Ground.data }, { on := 16, ground := Ground.guard }], guard := some (16, false) }) (v := (.pointer (some ⟨pp, 1, none⟩))) rfl (by kernel_rfl) (by kernel_rfl) (by kernel_rfl) (fun _ _ _ h => h) (Or.inl ⟨by rfl, fun W hSw => by go_simp⟩) hH ?_
                    try simp only [Act.put, List.setIfInBounds_toArray, List.set_cons_zero, List.set_cons_succ]
                    refine wpAnyH_take (i := 25) (oi := { dst := some 185, op := Op.load 23 (Operand.tmp 184), type := 23, pos := "law.go:74", after := #[{ on := 24, ground := Ground.data }, { on := 16, ground := Ground.guard }], guard := some (16, false) }) (v := (.int .u64 (sl : Int))) rfl (by kernel_rfl) (by kernel_rfl) (by kernel_rfl) (fun _ _ _ h => h) (Or.inl ⟨by rfl, fun W hSw => by have hc := (hQ.kept hSw).rr.four; simp only at hc; go_simp⟩) hH ?_
                    try simp only [Act.put, List.setIfInBounds_toArray, List.set_cons_zero, List.set_cons_succ]
                    refine wpAnyH_ready (rs := [18]) (by kernel_rfl) (by simp) ?_
                    refine AllReadyH.cons (o := { dst := some 178, op := Op.call { callee := Callee.value (Operand.func 21), args := #[Operand.tmp 177], argTypes := #[37] }, type := 23, pos := "law.go:74", after := #[{ on := 17, ground := Ground.data }, { on := 16, ground := Ground.chain }, { on := 16, ground := Ground.guard }], guard := some (16, false) }) rfl (fun K hK => ?_) AllReadyH.nil
                    go_simp
                    refine (q3 _ hQ.re).mono ?_
                    rintro e w' ⟨rfl, rfl⟩
                    go_wp2_with fail
                    have hH1 := hH
                    refine hK.out _ _ hH1 (fun _ => ?_)
                    replace hH := hH1
                    clear hK K hH1
                    try simp only [Act.put, List.setIfInBounds_toArray, List.set_cons_zero, List.set_cons_succ]
                    refine wpAnyH_take (i := 26) (oi := { dst := some 186, op := Op.binOp BinOp.neq 23 (Operand.tmp 178) (Operand.tmp 185) 23, type := 4, pos := "law.go:74", after := #[{ on := 18, ground := Ground.data }, { on := 25, ground := Ground.data }, { on := 16, ground := Ground.guard }], guard := some (16, false) }) (v := (.bool false)) rfl (by kernel_rfl) (by kernel_rfl) (by kernel_rfl) (fun _ _ _ h => h) (Or.inl ⟨by rfl, fun W hSw => by go_simp⟩) hH ?_
                    try simp only [Act.put, List.setIfInBounds_toArray, List.set_cons_zero, List.set_cons_succ]
                    refine wpAnyH_take (i := 27) (oi := { dst := some 187, op := Op.pick (Operand.tmp 176) (Operand.const (Value.bool true)) (Operand.tmp 186), type := 4, pos := "law.go:74", after := #[{ on := 16, ground := Ground.data }, { on := 26, ground := Ground.data }], guard := none }) (v := (.bool false)) rfl (by kernel_rfl) (by kernel_rfl) (by kernel_rfl) (fun _ _ _ h => h) (Or.inl ⟨by rfl, fun W hSw => by go_simp⟩) hH ?_
                    try simp only [Act.put, List.setIfInBounds_toArray, List.set_cons_zero, List.set_cons_succ]
                    refine wpAnyH_take (i := 28) (oi := { dst := some 188, op := Op.move (Operand.tmp 187), type := 4, pos := "law.go:74", after := #[{ on := 27, ground := Ground.data }, { on := 18, ground := Ground.chain }], guard := none }) (v := (.bool false)) rfl (by kernel_rfl) (by kernel_rfl) (by kernel_rfl) (fun _ _ _ h => h) (Or.inl ⟨by rfl, fun W hSw => by go_simp⟩) hH ?_
                    try simp only [Act.put, List.setIfInBounds_toArray, List.set_cons_zero, List.set_cons_succ]
                    refine wpAnyH_take (i := 29) (oi := { dst := some 189, op := Op.move (Operand.tmp 9), type := 30, pos := "law.go:74", after := #[{ on := 28, ground := Ground.guard }], guard := some (28, false) }) (v := (.pointer (some ⟨d, 0, none⟩))) rfl (by kernel_rfl) (by kernel_rfl) (by kernel_rfl) (fun _ _ _ h => h) (Or.inl ⟨by rfl, fun W hSw => by go_simp⟩) hH ?_
                    try simp only [Act.put, List.setIfInBounds_toArray, List.set_cons_zero, List.set_cons_succ]
                    refine wpAnyH_take (i := 31) (oi := { dst := some 191, op := Op.move (Operand.tmp 11), type := 34, pos := "law.go:74", after := #[{ on := 28, ground := Ground.guard }], guard := some (28, false) }) (v := (.pointer (some ⟨r, 0, none⟩))) rfl (by kernel_rfl) (by kernel_rfl) (by kernel_rfl) (fun _ _ _ h => h) (Or.inl ⟨by rfl, fun W hSw => by go_simp⟩) hH ?_
                    try simp only [Act.put, List.setIfInBounds_toArray, List.set_cons_zero, List.set_cons_succ]
                    refine wpAnyH_ready (rs := [30]) (by kernel_rfl) (by simp) ?_
                    refine AllReadyH.cons (o := { dst := some 190, op := Op.call { callee := Callee.value (Operand.func 22), args := #[Operand.tmp 189], argTypes := #[30] }, type := 23, pos := "law.go:74", after := #[{ on := 29, ground := Ground.data }, { on := 28, ground := Ground.chain }, { on := 28, ground := Ground.guard }], guard := some (28, false) }) rfl (fun K hK => ?_) AllReadyH.nil
                    go_simp
                    refine (qs _ hQ.re.disk).mono ?_
                    rintro e w8 ⟨rfl, hk8⟩
                    go_wp2_with fail
                    refine hK.out _ _ hk8 (fun _ => ?_)
                    clear hK K
                    refine wpAnyH_stronger (S' := fun W => Kept [] w8 W) (fun W h => hk8.trans h) _ _ _ _ ?_
                    replace hH := Kept.refl [] w8
                    replace hQ := hQ.kept hk8
                    replace hKq := hKq.trans hk8
                    try simp only [Act.put, List.setIfInBounds_toArray, List.set_cons_zero, List.set_cons_succ]
                    refine wpAnyH_ready (rs := [32]) (by kernel_rfl) (by simp) ?_
                    refine AllReadyH.cons (o := { dst := some 192, op := Op.call { callee := Callee.value (Operand.func 23), args := #[Operand.tmp 191], argTypes := #[34] }, type := 23, pos := "law.go:74", after := #[{ on := 31, ground := Ground.data }, { on := 30, ground := Ground.chain }, { on := 28, ground := Ground.guard }], guard := some (28, false) }) rfl (fun K hK => ?_) AllReadyH.nil
                    go_simp
                    refine (qr _ hQ.rr.disk).mono ?_
                    rintro e w9 ⟨rfl, hk9⟩
                    go_wp2_with fail
                    refine hK.out _ _ hk9 (fun _ => ?_)
                    clear hK K
                    refine wpAnyH_stronger (S' := fun W => Kept [] w9 W) (fun W h => hk9.trans h) _ _ _ _ ?_
                    replace hH := Kept.refl [] w9
                    replace hQ := hQ.kept hk9
                    replace hKq := hKq.trans hk9
                    try simp only [Act.put, List.setIfInBounds_toArray, List.set_cons_zero, List.set_cons_succ]
                    refine wpAnyH_take (i := 33) (oi := { dst := some 193, op := Op.binOp BinOp.neq 23 (Operand.tmp 190) (Operand.tmp 192) 23, type := 4, pos := "law.go:74", after := #[{ on := 30, ground := Ground.data }, { on := 32, ground := Ground.data }, { on := 28, ground := Ground.guard }], guard := some (28, false) }) (v := (.bool false)) rfl (by kernel_rfl) (by kernel_rfl) (by kernel_rfl) (fun _ _ _ h => h) (Or.inl ⟨by rfl, fun W hSw => by go_simp⟩) hH ?_
                    try simp only [Act.put, List.setIfInBounds_toArray, List.set_cons_zero, List.set_cons_succ]
                    refine wpAnyH_take (i := 34) (oi := { dst := some 194, op := Op.pick (Operand.tmp 188) (Operand.const (Value.bool true)) (Operand.tmp 193), type := 4, pos := "law.go:74", after := #[{ on := 28, ground := Ground.data }, { on := 33, ground := Ground.data }], guard := none }) (v := (.bool false)) rfl (by kernel_rfl) (by kernel_rfl) (by kernel_rfl) (fun _ _ _ h => h) (Or.inl ⟨by rfl, fun W hSw => by go_simp⟩) hH ?_
                    try simp only [Act.put, List.setIfInBounds_toArray, List.set_cons_zero, List.set_cons_succ]
                    refine wpAnyH_take (i := 35) (oi := { dst := some 195, op := Op.move (Operand.tmp 194), type := 4, pos := "law.go:74", after := #[{ on := 34, ground := Ground.data }, { on := 32, ground := Ground.chain }], guard := none }) (v := (.bool false)) rfl (by kernel_rfl) (by kernel_rfl) (by kernel_rfl) (fun _ _ _ h => h) (Or.inl ⟨by rfl, fun W hSw => by go_simp⟩) hH ?_
                    try simp only [Act.put, List.setIfInBounds_toArray, List.set_cons_zero, List.set_cons_succ]
                    refine wpAnyH_take (i := 36) (oi := { dst := some 196, op := Op.move (Operand.tmp 9), type := 30, pos := "law.go:74", after := #[{ on := 35, ground := Ground.guard }], guard := some (35, false) }) (v := (.pointer (some ⟨d, 0, none⟩))) rfl (by kernel_rfl) (by kernel_rfl) (by kernel_rfl) (fun _ _ _ h => h) (Or.inl ⟨by rfl, fun W hSw => by go_simp⟩) hH ?_
                    try simp only [Act.put, List.setIfInBounds_toArray, List.set_cons_zero, List.set_cons_succ]
                    refine wpAnyH_take (i := 39) (oi := { dst := some 199, op := Op.move (Operand.tmp 11), type := 34, pos := "law.go:74", after := #[{ on := 35, ground := Ground.guard }], guard := some (35, false) }) (v := (.pointer (some ⟨r, 0, none⟩))) rfl (by kernel_rfl) (by kernel_rfl) (by kernel_rfl) (fun _ _ _ h => h) (Or.inl ⟨by rfl, fun W hSw => by go_simp⟩) hH ?_
                    try simp only [Act.put, List.setIfInBounds_toArray, List.set_cons_zero, List.set_cons_succ]
                    refine wpAnyH_ready (rs := [37]) (by kernel_rfl) (by simp) ?_
                    refine AllReadyH.cons (o := { dst := some 197, op := Op.call { callee := Callee.value (Operand.func 24), args := #[Operand.tmp 196], argTypes := #[30] }, type := 24, pos := "law.go:74", after := #[{ on := 36, ground := Ground.data }, { on := 35, ground := Ground.chain }, { on := 35, ground := Ground.guard }], guard := some (35, false) }) rfl (fun K hK => ?_) AllReadyH.nil
                    go_simp
                    refine (qi _ hQ.re.disk).mono ?_
                    rintro e w10 ⟨v10, rfl, hR10, hk10⟩
                    go_wp2_with fail
                    refine hK.out _ _ hk10 (fun _ => ?_)
                    clear hK K
                    refine wpAnyH_stronger (S' := fun W => Kept [] w10 W) (fun W h => hk10.trans h) _ _ _ _ ?_
                    replace hH := Kept.refl [] w10
                    replace hQ := hQ.kept hk10
                    replace hKq := hKq.trans hk10
                    try simp only [Act.put, List.setIfInBounds_toArray, List.set_cons_zero, List.set_cons_succ]
                    refine wpAnyH_take (i := 38) (oi := { dst := some 198, op := Op.convert 24 9 (Operand.tmp 197), type := 9, pos := "law.go:74", after := #[{ on := 37, ground := Ground.data }, { on := 35, ground := Ground.guard }], guard := some (35, false) }) (v := (.string (txt IL))) rfl (by kernel_rfl) (by kernel_rfl) (by kernel_rfl) (fun _ _ _ h => h) (Or.inl ⟨by rfl, fun W hSw => by have hc := conv_txt (hR10.kept (Nat.le_refl _) hSw (by simp)); go_simp⟩) hH ?_
                    try simp only [Act.put, List.setIfInBounds_toArray, List.set_cons_zero, List.set_cons_succ]
                    refine wpAnyH_ready (rs := [40]) (by kernel_rfl) (by simp) ?_
                    refine AllReadyH.cons (o := { dst := some 200, op := Op.call { callee := Callee.value (Operand.func 25), args := #[Operand.tmp 199], argTypes := #[34] }, type := 24, pos := "law.go:74", after := #[{ on := 39, ground := Ground.data }, { on := 37, ground := Ground.chain }, { on := 35, ground := Ground.guard }], guard := some (35, false) }) rfl (fun K hK => ?_) AllReadyH.nil
                    go_simp
                    refine (qj _ hQ.rr.disk).mono ?_
                    rintro e w11 ⟨v11, rfl, hR11, hk11⟩
                    go_wp2_with fail
                    refine hK.out _ _ hk11 (fun _ => ?_)
                    clear hK K
                    refine wpAnyH_stronger (S' := fun W => Kept [] w11 W) (fun W h => hk11.trans h) _ _ _ _ ?_
                    replace hH := Kept.refl [] w11
                    replace hQ := hQ.kept hk11
                    replace hKq := hKq.trans hk11
                    try simp only [Act.put, List.setIfInBounds_toArray, List.set_cons_zero, List.set_cons_succ]
                    refine wpAnyH_take (i := 41) (oi := { dst := some 201, op := Op.convert 24 9 (Operand.tmp 200), type := 9, pos := "law.go:74", after := #[{ on := 40, ground := Ground.data }, { on := 35, ground := Ground.guard }], guard := some (35, false) }) (v := (.string (txt IL))) rfl (by kernel_rfl) (by kernel_rfl) (by kernel_rfl) (fun _ _ _ h => h) (Or.inl ⟨by rfl, fun W hSw => by have hc := conv_txt (hR11.kept (Nat.le_refl _) hSw (by simp)); go_simp⟩) hH ?_
                    try simp only [Act.put, List.setIfInBounds_toArray, List.set_cons_zero, List.set_cons_succ]
                    refine wpAnyH_take (i := 42) (oi := { dst := some 202, op := Op.binOp BinOp.neq 9 (Operand.tmp 198) (Operand.tmp 201) 9, type := 4, pos := "law.go:74", after := #[{ on := 38, ground := Ground.data }, { on := 41, ground := Ground.data }, { on := 35, ground := Ground.guard }], guard := some (35, false) }) (v := (.bool false)) rfl (by kernel_rfl) (by kernel_rfl) (by kernel_rfl) (fun _ _ _ h => h) (Or.inl ⟨by rfl, fun W hSw => by go_simp⟩) hH ?_
                    try simp only [Act.put, List.setIfInBounds_toArray, List.set_cons_zero, List.set_cons_succ]
                    refine wpAnyH_take (i := 43) (oi := { dst := some 203, op := Op.pick (Operand.tmp 195) (Operand.const (Value.bool true)) (Operand.tmp 202), type := 4, pos := "law.go:74", after := #[{ on := 35, ground := Ground.data }, { on := 42, ground := Ground.data }], guard := none }) (v := (.bool false)) rfl (by kernel_rfl) (by kernel_rfl) (by kernel_rfl) (fun _ _ _ h => h) (Or.inl ⟨by rfl, fun W hSw => by go_simp⟩) hH ?_
                    try simp only [Act.put, List.setIfInBounds_toArray, List.set_cons_zero, List.set_cons_succ]
                    refine wpAnyH_take (i := 44) (oi := { dst := some 204, op := Op.move (Operand.tmp 203), type := 4, pos := "law.go:74", after := #[{ on := 43, ground := Ground.data }, { on := 40, ground := Ground.chain }], guard := none }) (v := (.bool false)) rfl (by kernel_rfl) (by kernel_rfl) (by kernel_rfl) (fun _ _ _ h => h) (Or.inl ⟨by rfl, fun W hSw => by go_simp⟩) hH ?_
                    try simp only [Act.put, List.setIfInBounds_toArray, List.set_cons_zero, List.set_cons_succ]
                    refine wpAnyH_take (i := 45) (oi := { dst := some 205, op := Op.move (Operand.tmp 9), type := 30, pos := "law.go:74", after := #[{ on := 44, ground := Ground.guard }], guard := some (44, false) }) (v := (.pointer (some ⟨d, 0, none⟩))) rfl (by kernel_rfl) (by kernel_rfl) (by kernel_rfl) (fun _ _ _ h => h) (Or.inl ⟨by rfl, fun W hSw => by go_simp⟩) hH ?_
                    try simp only [Act.put, List.setIfInBounds_toArray, List.set_cons_zero, List.set_cons_succ]
                    refine wpAnyH_take (i := 47) (oi := { dst := some 207, op := Op.move (Operand.tmp 11), type := 34, pos := "law.go:74", after := #[{ on := 44, ground := Ground.guard }], guard := some (44, false) }) (v := (.pointer (some ⟨r, 0, none⟩))) rfl (by kernel_rfl) (by kernel_rfl) (by kernel_rfl) (fun _ _ _ h => h) (Or.inl ⟨by rfl, fun W hSw => by go_simp⟩) hH ?_
                    try simp only [Act.put, List.setIfInBounds_toArray, List.set_cons_zero, List.set_cons_succ]
                    refine wpAnyH_take (i := 48) (oi := { dst := some 208, op := Op.nilCheck (Operand.tmp 207), type := 0, pos := "law.go:74", after := #[{ on := 47, ground := Ground.data }, { on := 44, ground := Ground.guard }], guard := some (44, false) }) (v := (.pointer (some ⟨r, 0, none⟩))) rfl (by kernel_rfl) (by kernel_rfl) (by kernel_rfl) (fun _ _ _ h => h) (Or.inl ⟨by rfl, fun W hSw => by go_simp⟩) hH ?_
                    try simp only [Act.put, List.setIfInBounds_toArray, List.set_cons_zero, List.set_cons_succ]
                    refine wpAnyH_take (i := 49) (oi := { dst := some 209, op := Op.fieldAddr 66 (Operand.tmp 208) 3, type := 0, pos := "law.go:74", after := #[{ on := 48, ground := Ground.data }, { on := 44, ground := Ground.guard }], guard := some (44, false) }) (v := (.pointer (some ⟨r, 3, none⟩))) rfl (by kernel_rfl) (by kernel_rfl) (by kernel_rfl) (fun _ _ _ h => h) (Or.inl ⟨by rfl, fun W hSw => by go_simp⟩) hH ?_
                    try simp only [Act.put, List.setIfInBounds_toArray, List.set_cons_zero, List.set_cons_succ]
                    refine wpAnyH_take (i := 50) (oi := { dst := some 210, op := Op.load 3 (Operand.tmp 209), type := 3, pos := "law.go:74", after := #[{ on := 49, ground := Ground.data }, { on := 44, ground := Ground.guard }], guard := some (44, false) }) (v := (.int .i64 (s'.ops : Int))) rfl (by kernel_rfl) (by kernel_rfl) (by kernel_rfl) (fun _ _ _ h => h) (Or.inl ⟨by rfl, fun W hSw => by have hc := (hQ.kept hSw).rr.disk.1.four.2.2.2; simp only at hc; go_simp⟩) hH ?_
                    try simp only [Act.put, List.setIfInBounds_toArray, List.set_cons_zero, List.set_cons_succ]
                    refine wpAnyH_ready (rs := [46]) (by kernel_rfl) (by simp) ?_
                    refine AllReadyH.cons (o := { dst := some 206, op := Op.call { callee := Callee.value (Operand.func 26), args := #[Operand.tmp 205], argTypes := #[30] }, type := 3, pos := "law.go:74", after := #[{ on := 45, ground := Ground.data }, { on := 44, ground := Ground.chain }, { on := 44, ground := Ground.guard }], guard := some (44, false) }) rfl (fun K hK => ?_) AllReadyH.nil
                    go_simp
                    refine (qo _ hQ.re.disk).mono ?_
                    rintro e w' ⟨rfl, rfl⟩
                    go_wp2_with fail
                    have hH1 := hH
                    refine hK.out _ _ hH1 (fun _ => ?_)
                    replace hH := hH1
                    clear hK K hH1
                    try simp only [Act.put, List.setIfInBounds_toArray, List.set_cons_zero, List.set_cons_succ]
                    refine wpAnyH_take (i := 51) (oi := { dst := some 211, op := Op.binOp BinOp.neq 3 (Operand.tmp 206) (Operand.tmp 210) 3, type := 4, pos := "law.go:74", after := #[{ on := 46, ground := Ground.data }, { on := 50, ground := Ground.data }, { on := 44, ground := Ground.guard }], guard := some (44, false) }) (v := (.bool false)) rfl (by kernel_rfl) (by kernel_rfl) (by kernel_rfl) (fun _ _ _ h => h) (Or.inl ⟨by rfl, fun W hSw => by go_simp⟩) hH ?_
                    try simp only [Act.put, List.setIfInBounds_toArray, List.set_cons_zero, List.set_cons_succ]
                    refine wpAnyH_take (i := 52) (oi := { dst := some 212, op := Op.pick (Operand.tmp 204) (Operand.const (Value.bool true)) (Operand.tmp 211), type := 4, pos := "law.go:74", after := #[{ on := 44, ground := Ground.data }, { on := 51, ground := Ground.data }], guard := none }) (v := (.bool false)) rfl (by kernel_rfl) (by kernel_rfl) (by kernel_rfl) (fun _ _ _ h => h) (Or.inl ⟨by rfl, fun W hSw => by go_simp⟩) hH ?_
                    try simp only [Act.put, List.setIfInBounds_toArray, List.set_cons_zero, List.set_cons_succ]
                    refine wpAnyH_done (by kernel_rfl) ?_ _
                    go_wp2_with fail
                    go_roundw
                    case rel => exact ⟨j + 1, ⟨s', sq, sl, se⟩, by omega, by go_num, hQ, ho', hKq⟩
                    case measure => simp [RowKit.intOf]; omega
            · obtain rfl : j = len := by omega
              clear hacts
              go_wp2_with (first
                | (go_at_call 7; refine (q7 _).mono ?_; rintro e w12 ⟨rfl, hk12⟩))
              go_ret
              exact ⟨rfl, hK.trans hk12⟩
      · as_aux_lemma =>
          have q1 := fun W (h : DiskAt W d b1 b2 (made (8 + S))) => begin_bad (some ⟨d, 0, none⟩) who (S : Int) x y hxl.out hxn hyl.out hyn hxm hym (by omega) (by omega) hgx hgy hwho (retE (made (8 + S)) (Role.uni x.m y.m (S : Int))) hE (fun w' => DiskAt w' d b1 b2 (retS (made (8 + S)) (Role.uni x.m y.m (S : Int)))) [d, b1, b2] W (fun W' hk => retire_any d b1 b2 (made (8 + S)) _ hzz (by show (0 : Nat) ≤ _; omega) W' (h.kept hk (by simp) (by simp) (by simp)))
          have q2 := fun W (h : RefAt W r g cap (made (8 + S))) => rbegin_bad r g cap (made (8 + S)) who (S : Int) x y hxl.out hxn hyl.out hyn hxm hym hgx hgy hwho (by show (0 : Nat) ≤ _; omega) hE W h
          have qa := fun W => all_any none none 0 0 0 0 0 0 0 0 0 0 [] [] W (MRow.nil 0 W) (MRow.nil 0 W) (by simp) (Nat.zero_le _) (by simp) (Nat.zero_le _) rfl
          generalize retE (made (8 + S)) (Role.uni x.m y.m (S : Int)) = E at *
          generalize retS (made (8 + S)) (Role.uni x.m y.m (S : Int)) = t at *
          generalize made (8 + S) = s0 at *
          clear hx hy hacts hgx hgy hwho hzz
          go_upto_region 10 with (first
            | (go_at_call 10; refine (q1 _ hD5).mono ?_; clear q1; rintro e w6 ⟨rfl, -, hk6⟩; obtain ⟨c0, c1, c2, c3, c4, c5⟩ := (fx.out _ w6 hk6 (by simp; omega)).six; obtain ⟨e0, e1, e2, e3, e4, e5⟩ := (fy.out _ w6 hk6 (by simp; omega)).six; have hR6 := hR.kept hk6 (by simp; omega) (by simp; omega))
            | (go_at_call 11; refine (q2 _ hR6).mono ?_; clear q2; rintro e w7 ⟨rfl, -, hk7⟩)
            | (go_at_call 12; refine (qa _).mono ?_; clear qa; rintro e w8 ⟨rfl, hk8⟩))
          have hKn : Kept [] w w8 := (kept_over (kept_over hKw hk6 (by simp; omega)) hk7 (by simp; omega)).trans hk8
          go_wp2_with fail
          go_loopw [19] (fun i wr => i = .int .i64 0 ∧ Kept [] w wr) (fun _ _ => 0)
          case atStart => exact ⟨rfl, hKn⟩
          case round =>
            obtain ⟨rfl, hK⟩ := hrel
            by_cases hl : (0 : Int) < (len : Int)
            all_goals
              go_wp2_with (first
                | (go_at_call 7; refine (q7 _).mono ?_; rintro e w9 ⟨rfl, hk9⟩))
              go_ret
              exact ⟨rfl, hK.trans hk9⟩
    · as_aux_lemma =>
        have hno : greetB x.ms = false ∨ greetB y.ms = false ∨ decide (who = 0 ∨ who = 1) = false := by
          by_cases h1 : greetB x.ms = true
          · by_cases h2 : greetB y.ms = true
            · exact .inr (.inr (by simpa using fun h => hok ⟨h1, h2, h⟩))
            · exact .inr (.inl (by simpa using h2))
          · exact .inl (by simpa using h1)
        have q1 := fun W => begin_arg (some ⟨d, 0, none⟩) who (S : Int) x y hxl.out hxn hyl.out hyn W hno
        have q2 := fun W => rbegin_arg (some ⟨r, 0, none⟩) who (S : Int) x y hxl.out hxn hyl.out hyn W hno
        have qa := fun W => all_any none none 0 0 0 0 0 0 0 0 0 0 [] [] W (MRow.nil 0 W) (MRow.nil 0 W) (by simp) (Nat.zero_le _) (by simp) (Nat.zero_le _) rfl
        clear hok hno hx hy hacts
        go_upto_region 10 with (first
          | (go_at_call 10; refine (q1 _).mono ?_; clear q1; rintro e w6 ⟨rfl, hk6⟩; obtain ⟨c0, c1, c2, c3, c4, c5⟩ := (fx.out [] w6 hk6 (by simp)).six; obtain ⟨e0, e1, e2, e3, e4, e5⟩ := (fy.out [] w6 hk6 (by simp)).six)
          | (go_at_call 11; refine (q2 _).mono ?_; clear q2; rintro e w7 ⟨rfl, hk7⟩)
          | (go_at_call 12; refine (qa _).mono ?_; clear qa; rintro e w8 ⟨rfl, hk8⟩))
        have hKn : Kept [] w w8 := ((hKw.trans hk6).trans hk7).trans hk8
        go_wp2_with fail
        go_loopw [19] (fun i wr => i = .int .i64 0 ∧ Kept [] w wr) (fun _ _ => 0)
        case atStart => exact ⟨rfl, hKn⟩
        case round =>
          obtain ⟨rfl, hK⟩ := hrel
          by_cases hl : (0 : Int) < (len : Int)
          all_goals
            go_wp2_with (first
              | (go_at_call 7; refine (q7 _).mono ?_; rintro e w9 ⟨rfl, hk9⟩))
            go_ret
            exact ⟨rfl, hK.trans hk9⟩
end Go.Proofs.YtfiofdmefgkloaaGreat.Resync
