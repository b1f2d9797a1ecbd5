import Derived.Test.YtfiofdmefgkloaaGreatCpD
import Derived.Test.YtfiofdmefgkloaaGreatDataT
import Derived.Test.YtfiofdmefgkloaaGreatPkH
/-
  The document's Give, Put and Told.
-/
namespace Go.Proofs.YtfiofdmefgkloaaGreat.Copying
open Go.RowKit
open Math
open Pack (Mv Ms mv0 good)

set_option maxRecDepth 100000 in
set_option maxHeartbeats 1000000 in
/-- twainref29.Give -/
theorem rGive_any (r g cap : Nat) (s : Dk) (e : Int) (w : World) (h : RefAt w r g cap s) :
    Calls Tryz.prog 44 #[.pointer (some ⟨r, 0, none⟩), .int .i64 e] w fun x w' => ∃ v : Mv, x = .returned (.tuple #[v.val, .int .i64 (gotE s (Span.wOff e) (Span.wLen e) : Nat)]) ∧ v.ms = giveM s e ∧ v.At w.heap.size w'.heap.size w' ∧ Kept [] w w' := by
  have hk0 := kept_alloc [] w (.cells #[.int .i64 0, .int .i64 0, .int .i64 0, .int .u64 0, .bool false, .slice none 0 0] 26)
  have hB0 := zero_new w
  have q := rExtent_any r g cap s e _ (h.kept hk0 (by simp) (by simp))
  have hM : Hid (giveM s e = if gotE s (Span.wOff e) (Span.wLen e) = 0 then ⟨6, 0, e, 0, false, gotL s (Span.wOff e) (Span.wLen e)⟩ else mv0.ms) := rfl
  generalize giveM s e = M at *
  generalize gotE s (Span.wOff e) (Span.wLen e) = E at *
  generalize gotL s (Span.wOff e) (Span.wLen e) = bs at *
  by_cases he : E = 0
  · subst he
    have hM' : Hid (M = ⟨6, 0, e, 0, false, bs⟩) := hM.out.trans (if_pos rfl)
    clear hM
    go_enter Tryz.func44, Tryz.ntmps44
    go_wp2_with (first
      | (go_at_call 86; refine q.mono ?_; rintro x w1 ⟨v, rfl, hR, hk1⟩; obtain ⟨a1, cap1, e1⟩ := hR.slice; subst e1; have hB1 := hB0.kept hk1 (by simp))
      | (refine wpList_store_blk rfl 26 _ _ rfl w.heap.size 26 _ [.int .i64 6, .int .i64 0, .int .i64 e, .int .u64 0, .bool false, .slice a1 bs.length cap1] rfl rfl hB1 rfl Pack.Tryz.sizeM (by simp [Value.oneCell']) ?_; intro w4 hB4 hk4 hz4; replace hz4 : Hid _ := hz4))
    refine bodyPost_ret (results_msg rfl _ _ w.heap.size _ _ _ _ _ _ rfl hB4) rfl ⟨⟨6, 0, e, 0, false, a1, bs.length, cap1, bs⟩, rfl, hM'.out.symm, ⟨?_, (by show (0 : Nat) < _; decide), (by show _ ≤ (0 : Int); decide), (by show (0 : Int) ≤ _; decide)⟩, ?_⟩
    · have e4 := hz4.out
      have h1 := hR.kept (Nat.le_refl _) hk4 (by simp)
      exact Pack.ByteRow.mono (to_pack h1) (by simp) (by omega)
    · exact (hk0.trans hk1).young hk4 (Nat.le_refl _)
  · have he' : ((E : Int) != 0) = true := by simp; omega
    have hM' : Hid (M = mv0.ms) := hM.out.trans (if_neg he)
    clear hM
    go_enter Tryz.func44, Tryz.ntmps44
    go_wp2_with (first
      | (go_at_call 86; refine q.mono ?_; rintro x w1 ⟨v, rfl, hR, hk1⟩; obtain ⟨a1, cap1, e1⟩ := hR.slice; subst e1; have hB1 := hB0.kept hk1 (by simp))
      | (refine wpList_store_blk rfl 26 _ _ rfl w.heap.size 26 _ [.int .i64 0, .int .i64 0, .int .i64 0, .int .u64 0, .bool false, .slice none 0 0] rfl rfl hB1 rfl Pack.Tryz.sizeM (by simp [Value.oneCell']) ?_; intro w4 hB4 hk4 hz4; replace hz4 : Hid _ := hz4))
    refine bodyPost_ret (results_msg rfl _ _ w.heap.size _ _ _ _ _ _ rfl hB4) rfl ⟨mv0, rfl, hM'.out.symm, Pack.mv0_at _ _ _, (hk0.trans hk1).young hk4 (Nat.le_refl _)⟩
set_option maxRecDepth 100000 in
set_option maxHeartbeats 1000000 in
/-- twainref29.Told -/
theorem rTold_any (r g cap : Nat) (s : Dk) (e : Int) (hops : s.ops ≤ 999998) (w : World) (h : RefAt w r g cap s) :
    Calls Tryz.prog 49 #[.pointer (some ⟨r, 0, none⟩), .int .i64 e] w fun x w' => x = .returned (.tuple #[.int .u64 (toldX s e : Nat), .int .i64 (toldE s e : Nat)]) ∧ RefAt w' r g cap (toldS s e) ∧ Kept [r, g] w w' := by
  unfold toldX toldE toldS
  by_cases he : 0 ≤ e ∧ e ≤ 63
  · rw [if_pos he, if_pos he, if_pos he]
    have q := refClear11_any r g cap s e h.2 hops w h
    obtain ⟨h0, h1⟩ := he
    generalize clearX s e = cx at *
    generalize mapS s (clearM s e) = s' at *
    generalize mapE s (clearM s e) = er at *
    go_enter Tryz.func49, Tryz.ntmps49
    go_wp2_with (first
      | (go_at_call 92; refine q.mono ?_; rintro x w1 ⟨rfl, hP, hk1⟩))
    go_ret2
    exact ⟨rfl, hP, hk1⟩
  · rw [if_neg he, if_neg he, if_neg he]
    by_cases h0 : e < 0
    · go_enter Tryz.func49, Tryz.ntmps49
      go_wp2_with fail
      go_ret2
      exact ⟨rfl, h, Kept.refl _ _⟩
    · have h1 : 63 < e := by omega
      clear he
      go_enter Tryz.func49, Tryz.ntmps49
      go_wp2_with fail
      go_ret2
      exact ⟨rfl, h, Kept.refl _ _⟩
/-- What a Put of the document's has laid when it begins: its message, its result. -/
theorem pair_new (w : World) (x : Mv) : x.In ((w.alloc (.cells #[.int .i64 x.k, .int .i64 x.i, .int .i64 x.o, .int .u64 (x.m : Int), .bool x.s, .slice x.sa x.len x.cap] 26)).alloc (.cells #[.int .i64 0, .int .i64 0, .int .i64 0, .int .u64 0, .bool false, .slice none 0 0] 26)) w.heap.size ∧
    Blk ((w.alloc (.cells #[.int .i64 x.k, .int .i64 x.i, .int .i64 x.o, .int .u64 (x.m : Int), .bool x.s, .slice x.sa x.len x.cap] 26)).alloc (.cells #[.int .i64 0, .int .i64 0, .int .i64 0, .int .u64 0, .bool false, .slice none 0 0] 26)) (w.heap.size + 1) 26 #[.int .i64 0, .int .i64 0, .int .i64 0, .int .u64 0, .bool false, .slice none 0 0] ∧
    Kept [] w ((w.alloc (.cells #[.int .i64 x.k, .int .i64 x.i, .int .i64 x.o, .int .u64 (x.m : Int), .bool x.s, .slice x.sa x.len x.cap] 26)).alloc (.cells #[.int .i64 0, .int .i64 0, .int .i64 0, .int .u64 0, .bool false, .slice none 0 0] 26)) := by
  have h1 : x.In (w.alloc (.cells #[.int .i64 x.k, .int .i64 x.i, .int .i64 x.o, .int .u64 (x.m : Int), .bool x.s, .slice x.sa x.len x.cap] 26)) w.heap.size := blk_new w 26 _
  have k1 := kept_alloc [] w (.cells #[.int .i64 x.k, .int .i64 x.i, .int .i64 x.o, .int .u64 (x.m : Int), .bool x.s, .slice x.sa x.len x.cap] 26)
  have e1 : (w.alloc (.cells #[.int .i64 x.k, .int .i64 x.i, .int .i64 x.o, .int .u64 (x.m : Int), .bool x.s, .slice x.sa x.len x.cap] 26)).heap.size = w.heap.size + 1 := by simp
  obtain ⟨A, hA⟩ : ∃ A, w.alloc (.cells #[.int .i64 x.k, .int .i64 x.i, .int .i64 x.o, .int .u64 (x.m : Int), .bool x.s, .slice x.sa x.len x.cap] 26) = A := ⟨_, rfl⟩
  rw [hA] at h1 k1 e1 ⊢
  have h3 := zero_new A
  rw [e1] at h3
  exact ⟨h1.kept (kept_alloc [] A _) (by simp), h3, k1.trans (kept_alloc [] A _)⟩
set_option maxRecDepth 100000 in
set_option maxHeartbeats 1000000 in
theorem rPut_bad (r : Nat) (x : Mv) (hl : x.len = x.d.length) (hlen : x.len ≤ 9223372036854775807) (w : World) (h : x.k = 6 → good x.ms = false) :
    Calls Tryz.prog 51 #[.pointer (some ⟨r, 0, none⟩), x.val] w fun e w' => e = .returned (.tuple #[mv0.val, .int .i64 2]) ∧ Kept [] w w' := by
  obtain ⟨hX, hB, hk0⟩ := pair_new w x
  have hq := fun W => Pack.refGood_any x hl hlen W
  clear hl hlen
  generalize hG : good x.ms = G at *
  obtain ⟨a0, a1, a2, a3, a4, a5⟩ := hX.six
  clear hX hG
  obtain ⟨k, i, o, m, s, sa, len, cap, d⟩ := x
  simp only [Mv.val] at *
  by_cases hk : k = 6
  · subst hk
    have hg : G = false := h rfl
    subst hg
    clear h
    go_enter Tryz.func51, Tryz.ntmps51
    go_wp2_with (first
    | (go_at_call 80; refine (hq _).mono ?_; rintro e w1 ⟨rfl, hk1⟩; replace hB := hB.kept hk1 (by simp); replace hk0 := hk0.trans hk1)
    | (refine wpList_store_blk rfl 26 _ _ rfl (w.heap.size + 1) 26 _ [.int .i64 0, .int .i64 0, .int .i64 0, .int .u64 0, .bool false, .slice none 0 0] rfl rfl hB rfl Pack.Tryz.sizeM (by simp [Value.oneCell']) ?_; intro w4 hB4 hk4 hz4; replace hz4 : Hid _ := hz4))
    refine bodyPost_ret (results_msg rfl _ _ (w.heap.size + 1) _ _ _ _ _ _ rfl hB4) rfl ⟨rfl, hk0.young (g := w.heap.size + 1) hk4 (by omega)⟩
  · have hn : (k != 6) = true := by simp; omega
    go_enter Tryz.func51, Tryz.ntmps51
    go_wp2_with (first
    | (refine wpList_store_blk rfl 26 _ _ rfl (w.heap.size + 1) 26 _ [.int .i64 0, .int .i64 0, .int .i64 0, .int .u64 0, .bool false, .slice none 0 0] rfl rfl hB rfl Pack.Tryz.sizeM (by simp [Value.oneCell']) ?_; intro w4 hB4 hk4 hz4; replace hz4 : Hid _ := hz4))
    refine bodyPost_ret (results_msg rfl _ _ (w.heap.size + 1) _ _ _ _ _ _ rfl hB4) rfl ⟨rfl, hk0.young (g := w.heap.size + 1) hk4 (by omega)⟩
/-- What lies about while the document's Put goes on. -/
structure RMid (w : World) (x : Mv) (r g cap : Nat) (s : Dk) (W : World) : Prop where
  box : x.In W w.heap.size
  res : Blk W (w.heap.size + 1) 26 #[.int .i64 0, .int .i64 0, .int .i64 0, .int .u64 0, .bool false, .slice none 0 0]
  ref : RefAt W r g cap s
  kept : Kept [r, g] w W
theorem RMid.quiet {w A B : World} {x : Mv} {r g cap : Nat} {s : Dk} (h : RMid w x r g cap s A) (hk : Kept [] A B) : RMid w x r g cap s B := ⟨h.box.kept hk (by simp), h.res.kept hk (by simp), h.ref.kept hk (by simp) (by simp), h.kept.trans (hk.mono (by simp))⟩
theorem RMid.turn {w A B : World} {x : Mv} {r g cap : Nat} {s s' : Dk} (h : RMid w x r g cap s A) (hr : r < w.heap.size) (hg : g < w.heap.size) (hB : RefAt B r g cap s') (hk : Kept [r, g] A B) : RMid w x r g cap s' B :=
  ⟨h.box.kept hk (by simp; omega), h.res.kept hk (by simp; omega), hB, h.kept.trans hk⟩
set_option maxRecDepth 100000 in
set_option maxHeartbeats 4000000 in
/-- twainref29.Put, of a good Ext -/
theorem rPut_good (r g cap : Nat) (s : Dk) (x : Mv) (lo hi : Nat) (w : World) (h : RefAt w r g cap s) (hops : s.ops ≤ 900000) (hx : x.At lo hi w) (hhi : hi ≤ w.heap.size) (hlen : x.len ≤ 9223372036854775807) (hap : ∀ k ∈ [r, g], k < lo ∨ hi ≤ k) (hr : r < w.heap.size) (hgr : g < w.heap.size) (h6 : x.k = 6) (hgd : good x.ms = true) :
    Calls Tryz.prog 51 #[.pointer (some ⟨r, 0, none⟩), x.val] w fun e w' => e = .returned (.tuple #[(if stepE s x.o x.d = 0 then haveV x.o else mv0).val, .int .i64 (stepE s x.o x.d : Nat)]) ∧ RefAt w' r g cap (stepS s x.o x.d) ∧ Kept [r, g] w w' := by
  have hM : RMid w x r g cap s ((w.alloc (.cells #[.int .i64 x.k, .int .i64 x.i, .int .i64 x.o, .int .u64 (x.m : Int), .bool x.s, .slice x.sa x.len x.cap] 26)).alloc (.cells #[.int .i64 0, .int .i64 0, .int .i64 0, .int .u64 0, .bool false, .slice none 0 0] 26)) :=
    ⟨(pair_new w x).1, (pair_new w x).2.1, h.kept (pair_new w x).2.2 (by simp) (by simp), (pair_new w x).2.2.mono (by simp)⟩
  have hk0 := (pair_new w x).2.2
  have q0 : ∀ W, Calls Tryz.prog 80 #[x.val] W fun e w' => e = .returned (.bool true) ∧ Kept [] W w' := fun W => by
    have := Pack.refGood_any x hx.len hlen W
    rw [hgd] at this
    exact this
  have hs1 : (areaS s (Span.wOff x.o) (Span.wLen x.o) x.d).ops ≤ s.ops + 1024 := putS_ops s h.2.top _ _ _
  have hs2 := flush_ops (areaS s (Span.wOff x.o) (Span.wLen x.o) x.d)
  have q1 : ∀ W, Kept [] w W → RefAt W r g cap s → Calls Tryz.prog 94 #[.pointer (some ⟨r, 0, none⟩), .int .i64 x.o, .slice x.sa x.len x.cap] W fun e w' => e = .returned (.int .i64 (areaE s (Span.wOff x.o) (Span.wLen x.o) x.d : Nat)) ∧ RefAt w' r g cap (areaS s (Span.wOff x.o) (Span.wLen x.o) x.d) ∧ Kept [r, g] W w' :=
    fun W hk hR => rSetExtent_any r g cap s x.o _ x.d lo hi W hR hops (of_pack (hx.row.kept hhi hk (by simp))) (Nat.le_trans hhi hk.size) hap
  have q2 := fun W (hW : RefAt W r g cap (areaS s (Span.wOff x.o) (Span.wLen x.o) x.d)) => refFlush_any r g cap (areaS s (Span.wOff x.o) (Span.wLen x.o) x.d) (by omega) W hW
  have q3 := fun W (hW : RefAt W r g cap (flushS (areaS s (Span.wOff x.o) (Span.wLen x.o) x.d))) => refClear11_any r g cap (flushS (areaS s (Span.wOff x.o) (Span.wLen x.o) x.d)) x.o hW.2 (by omega) W hW
  unfold stepE stepS
  generalize areaE s (Span.wOff x.o) (Span.wLen x.o) x.d = e1 at *
  generalize areaS s (Span.wOff x.o) (Span.wLen x.o) x.d = s1 at *
  generalize flushE s1 = e2 at *
  generalize flushS s1 = s2 at *
  generalize clearX s2 x.o = cx at *
  generalize mapE s2 (clearM s2 x.o) = e3 at *
  generalize mapS s2 (clearM s2 x.o) = s3 at *
  clear hgd hlen hx hops hs1 hs2
  obtain ⟨a0, a1, a2, a3, a4, a5⟩ := hM.box.six
  have hrr : Hid (r < w.heap.size ∧ g < w.heap.size) := ⟨hr, hgr⟩
  clear hr hgr h hhi hap
  obtain ⟨k, i, o, m, s, sa, len, cap', d⟩ := x
  simp only [Mv.val, haveV] at *
  subst h6
  by_cases z1 : e1 = 0
  · subst z1
    simp only [if_true]
    by_cases z2 : e2 = 0
    · subst z2
      simp only [if_true]
      by_cases z3 : e3 = 0
      · subst z3
        simp only [if_true]
        go_enter Tryz.func51, Tryz.ntmps51
        go_wp2_with (first
      | (go_at_call 80; refine (q0 _).mono ?_; rintro e w1 ⟨rfl, hk1⟩; replace hM := hM.quiet hk1; replace hk0 := hk0.trans hk1; obtain ⟨b0, b1, b2, b3, b4, b5⟩ := hM.box.six)
      | (go_at_call 94; refine (q1 _ hk0 hM.ref).mono ?_; rintro e w2 ⟨rfl, hR2, hk2⟩; replace hM := hM.turn hrr.out.1 hrr.out.2 hR2 hk2; obtain ⟨c0, c1, c2, c3, c4, c5⟩ := hM.box.six; have hB := hM.res)
      | (go_at_call 95; refine (q2 _ hM.ref).mono ?_; rintro e w3 ⟨rfl, hR3, hk3⟩; replace hM := hM.turn hrr.out.1 hrr.out.2 hR3 hk3; obtain ⟨d0, d1, d2, d3, d4, d5⟩ := hM.box.six; replace hB := hM.res)
      | (go_at_call 92; refine (q3 _ hM.ref).mono ?_; rintro e w5 ⟨rfl, hR5, hk5⟩; replace hM := hM.turn hrr.out.1 hrr.out.2 hR5 hk5; obtain ⟨f0, f1, f2, f3, f4, f5⟩ := hM.box.six; replace hB := hM.res)
      | (refine wpList_store_blk rfl 26 _ _ rfl (w.heap.size + 1) 26 _ [.int .i64 7, .int .i64 0, .int .i64 o, .int .u64 0, .bool false, .slice none 0 0] rfl rfl hB rfl Pack.Tryz.sizeM (by simp [Value.oneCell']) ?_; intro w4 hB4 hk4 hz4; replace hz4 : Hid _ := hz4))
        have y := hrr.out
        refine bodyPost_ret (results_msg rfl _ _ (w.heap.size + 1) _ _ _ _ _ _ rfl hB4) rfl ⟨rfl, hM.ref.kept hk4 (by simp; omega) (by simp; omega), hM.kept.young (g := w.heap.size + 1) (hk4.mono (by simp)) (by omega)⟩
      · have n3 : ((e3 : Int) != 0) = true := by simp; omega
        rw [if_neg z3]
        unfold mv0
        clear z3
        go_enter Tryz.func51, Tryz.ntmps51
        go_wp2_with (first
      | (go_at_call 80; refine (q0 _).mono ?_; rintro e w1 ⟨rfl, hk1⟩; replace hM := hM.quiet hk1; replace hk0 := hk0.trans hk1; obtain ⟨b0, b1, b2, b3, b4, b5⟩ := hM.box.six)
      | (go_at_call 94; refine (q1 _ hk0 hM.ref).mono ?_; rintro e w2 ⟨rfl, hR2, hk2⟩; replace hM := hM.turn hrr.out.1 hrr.out.2 hR2 hk2; obtain ⟨c0, c1, c2, c3, c4, c5⟩ := hM.box.six; have hB := hM.res)
      | (go_at_call 95; refine (q2 _ hM.ref).mono ?_; rintro e w3 ⟨rfl, hR3, hk3⟩; replace hM := hM.turn hrr.out.1 hrr.out.2 hR3 hk3; obtain ⟨d0, d1, d2, d3, d4, d5⟩ := hM.box.six; replace hB := hM.res)
      | (go_at_call 92; refine (q3 _ hM.ref).mono ?_; rintro e w5 ⟨rfl, hR5, hk5⟩; replace hM := hM.turn hrr.out.1 hrr.out.2 hR5 hk5; obtain ⟨f0, f1, f2, f3, f4, f5⟩ := hM.box.six; replace hB := hM.res)
      | (refine wpList_store_blk rfl 26 _ _ rfl (w.heap.size + 1) 26 _ [.int .i64 0, .int .i64 0, .int .i64 0, .int .u64 0, .bool false, .slice none 0 0] rfl rfl hB rfl Pack.Tryz.sizeM (by simp [Value.oneCell']) ?_; intro w4 hB4 hk4 hz4; replace hz4 : Hid _ := hz4))
        have y := hrr.out
        refine bodyPost_ret (results_msg rfl _ _ (w.heap.size + 1) _ _ _ _ _ _ rfl hB4) rfl ⟨rfl, hM.ref.kept hk4 (by simp; omega) (by simp; omega), hM.kept.young (g := w.heap.size + 1) (hk4.mono (by simp)) (by omega)⟩
    · have n2 : ((e2 : Int) != 0) = true := by simp; omega
      have m2 : ((e2 : Int) == 0) = false := by simp; omega
      rw [if_neg z2, if_neg z2, if_neg z2]
      unfold mv0
      clear z2
      go_enter Tryz.func51, Tryz.ntmps51
      go_wp2_with (first
      | (go_at_call 80; refine (q0 _).mono ?_; rintro e w1 ⟨rfl, hk1⟩; replace hM := hM.quiet hk1; replace hk0 := hk0.trans hk1; obtain ⟨b0, b1, b2, b3, b4, b5⟩ := hM.box.six)
      | (go_at_call 94; refine (q1 _ hk0 hM.ref).mono ?_; rintro e w2 ⟨rfl, hR2, hk2⟩; replace hM := hM.turn hrr.out.1 hrr.out.2 hR2 hk2; obtain ⟨c0, c1, c2, c3, c4, c5⟩ := hM.box.six; have hB := hM.res)
      | (go_at_call 95; refine (q2 _ hM.ref).mono ?_; rintro e w3 ⟨rfl, hR3, hk3⟩; replace hM := hM.turn hrr.out.1 hrr.out.2 hR3 hk3; obtain ⟨d0, d1, d2, d3, d4, d5⟩ := hM.box.six; replace hB := hM.res)
      | (refine wpList_store_blk rfl 26 _ _ rfl (w.heap.size + 1) 26 _ [.int .i64 0, .int .i64 0, .int .i64 0, .int .u64 0, .bool false, .slice none 0 0] rfl rfl hB rfl Pack.Tryz.sizeM (by simp [Value.oneCell']) ?_; intro w4 hB4 hk4 hz4; replace hz4 : Hid _ := hz4))
      have y := hrr.out
      refine bodyPost_ret (results_msg rfl _ _ (w.heap.size + 1) _ _ _ _ _ _ rfl hB4) rfl ⟨rfl, hM.ref.kept hk4 (by simp; omega) (by simp; omega), hM.kept.young (g := w.heap.size + 1) (hk4.mono (by simp)) (by omega)⟩
  · have n1 : ((e1 : Int) != 0) = true := by simp; omega
    have m1 : ((e1 : Int) == 0) = false := by simp; omega
    rw [if_neg z1, if_neg z1, if_neg z1]
    unfold mv0
    clear z1
    go_enter Tryz.func51, Tryz.ntmps51
    go_wp2_with (first
      | (go_at_call 80; refine (q0 _).mono ?_; rintro e w1 ⟨rfl, hk1⟩; replace hM := hM.quiet hk1; replace hk0 := hk0.trans hk1; obtain ⟨b0, b1, b2, b3, b4, b5⟩ := hM.box.six)
      | (go_at_call 94; refine (q1 _ hk0 hM.ref).mono ?_; rintro e w2 ⟨rfl, hR2, hk2⟩; replace hM := hM.turn hrr.out.1 hrr.out.2 hR2 hk2; obtain ⟨c0, c1, c2, c3, c4, c5⟩ := hM.box.six; have hB := hM.res)
      | (refine wpList_store_blk rfl 26 _ _ rfl (w.heap.size + 1) 26 _ [.int .i64 0, .int .i64 0, .int .i64 0, .int .u64 0, .bool false, .slice none 0 0] rfl rfl hB rfl Pack.Tryz.sizeM (by simp [Value.oneCell']) ?_; intro w4 hB4 hk4 hz4; replace hz4 : Hid _ := hz4))
    have y := hrr.out
    refine bodyPost_ret (results_msg rfl _ _ (w.heap.size + 1) _ _ _ _ _ _ rfl hB4) rfl ⟨rfl, hM.ref.kept hk4 (by simp; omega) (by simp; omega), hM.kept.young (g := w.heap.size + 1) (hk4.mono (by simp)) (by omega)⟩
set_option maxRecDepth 100000 in
/-- twainref29.Put -/
theorem rPut_any (r g cap : Nat) (s : Dk) (x : Mv) (lo hi : Nat) (w : World) (h : RefAt w r g cap s) (hops : s.ops ≤ 900000) (hx : x.At lo hi w) (hhi : hi ≤ w.heap.size) (hlen : x.len ≤ 9223372036854775807) (hap : ∀ k ∈ [r, g], k < lo ∨ hi ≤ k) (hr : r < w.heap.size) (hgr : g < w.heap.size) :
    Calls Tryz.prog 51 #[.pointer (some ⟨r, 0, none⟩), x.val] w fun e w' => e = .returned (.tuple #[(extV s x.ms).val, .int .i64 (extE s x.ms : Nat)]) ∧ RefAt w' r g cap (extS s x.ms) ∧ Kept [r, g] w w' := by
  by_cases he : isExt x.ms = true
  · obtain ⟨h6, hg⟩ := isExt_yes he
    have e1 : extE s x.ms = stepE s x.o x.d := if_pos he
    have e2 : extS s x.ms = stepS s x.o x.d := if_pos he
    have e3 : extV s x.ms = if stepE s x.o x.d = 0 then haveV x.o else mv0 := by
      unfold extV
      by_cases hz : stepE s x.o x.d = 0
      · rw [if_pos ⟨he, hz⟩, if_pos hz]
        rfl
      · rw [if_neg (fun q => hz q.2), if_neg hz]
    rw [e1, e2, e3]
    exact rPut_good r g cap s x lo hi w h hops hx hhi hlen hap hr hgr h6 hg
  · have he' : isExt x.ms = false := by simpa using he
    have e1 : extE s x.ms = 2 := if_neg he
    have e2 : extS s x.ms = s := if_neg he
    have e3 : extV s x.ms = mv0 := if_neg (fun q => he q.1)
    rw [e1, e2, e3]
    exact (rPut_bad r x hx.len hlen w (isExt_no he')).mono fun e w' ⟨hr, hk⟩ => ⟨hr, h.kept hk (by simp) (by simp), hk.mono (by simp)⟩
end Go.Proofs.YtfiofdmefgkloaaGreat.Copying

