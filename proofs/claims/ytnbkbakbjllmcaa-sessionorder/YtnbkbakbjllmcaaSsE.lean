/-
  The walk of the program's session: Take.
-/
import Derived.Test.YtnbkbakbjllmcaaSsD
import Derived.Deep.CutRange
namespace Go.Proofs.Ytnbkbakbjllmcaa.Session
open Go.RowKit
open Outbox (Ob nums OutAt Bv Byt NoByt RowAt NRow)
open Inbox (InAt)
open Keep (KpAt)
open Wire (Ps Pv bytesL parseM parseE)

/-- What open answers. -/
def opHas (s : Ss) (p : Ps) : Bool := decide (p.k = 3) && Inbox.takeB s.last p.s
def opB (s : Ss) (p : Ps) : List Nat := if opHas s p then p.d else []
def opS (s : Ss) (p : Ps) : Ss := if p.k = 3 then (s.ackd p.a).gone p.s else s.ackd p.a
def opL (s : Ss) (p : Ps) : List (List Nat) := ((s.ob.ackL p.a).map fun n => bytesL ((s.ackd p.a).msg n)) ++ (if p.k = 3 then [bytesL (opS s p).ping] else [])
set_option maxRecDepth 100000 in
theorem open_any {base : Nat} {F : Foot} {s : Ss} (y : Pv) (w : World) (h : SsAt w base F s) (hs : s.ob.n + s.ob.l.length ≤ 1000000) (hb : ∀ b ∈ s.ob.l, b.length ≤ 1000) :
    Calls Try.prog 31 #[.agg #[.int .u32 (s.my : Int), .int .u32 (s.peer : Int), .pointer (some ⟨F.g, 0, none⟩), .pointer (some ⟨F.i, 0, none⟩)], .agg #[.int .u32 (y.f : Int), .int .u32 (y.t : Int), .int .i64 y.k, .int .i64 y.s, .int .i64 y.a, .slice y.sa y.len y.cap]] w fun e w' => ∃ v sb lb cb, e = .returned (.tuple #[.agg #[.bool false, .bool (opHas s y.ps), .slice sb lb cb], v]) ∧ (opHas s y.ps = true → sb = y.sa ∧ lb = y.len ∧ cb = y.cap) ∧ (opHas s y.ps = false → sb = none ∧ lb = 0 ∧ cb = 0) ∧ Opened w base F (opS s y.ps) (opL s y.ps) v w' := by
  by_cases hk : y.k = 3
  · have e2 : opS s y.ps = (s.ackd y.a).gone y.s := if_pos hk
    have e3 : opL s y.ps = ((s.ob.ackL y.a).map fun n => bytesL ((s.ackd y.a).msg n)) ++ [bytesL ((s.ackd y.a).gone y.s).ping] := by
      unfold opL
      rw [e2]
      congr 1
      exact if_pos hk
    have e1 : opHas s y.ps = Inbox.takeB s.last y.s := by
      show (decide (y.k = 3) && _) = _
      rw [decide_eq_true hk]
      rfl
    rw [e1, e2, e3]
    cases ht : Inbox.takeB s.last y.s with
    | false =>
      refine (open_msg_false y hk ht w h hs hb).mono ?_
      rintro e w' ⟨v, rfl, ho⟩
      exact ⟨v, none, 0, 0, rfl, fun e => (by cases e), fun _ => ⟨rfl, rfl, rfl⟩, ho⟩
    | true =>
      refine (open_msg_true y hk ht w h hs hb).mono ?_
      rintro e w' ⟨v, rfl, ho⟩
      exact ⟨v, y.sa, y.len, y.cap, rfl, fun _ => ⟨rfl, rfl, rfl⟩, fun e => (by cases e), ho⟩
  · have e2 : opS s y.ps = s.ackd y.a := if_neg hk
    have e3 : opL s y.ps = (s.ob.ackL y.a).map fun n => bytesL ((s.ackd y.a).msg n) := by
      unfold opL
      rw [show (if y.ps.k = 3 then [bytesL (opS s y.ps).ping] else []) = [] from if_neg hk, List.append_nil]
      rfl
    have e1 : opHas s y.ps = false := by
      show (decide (y.k = 3) && _) = _
      rw [decide_eq_false hk]
      rfl
    rw [e1, e2, e3]
    refine (open_ping y hk w h hs hb).mono ?_
    rintro e w' ⟨v, rfl, ho⟩
    exact ⟨v, none, 0, 0, rfl, fun e => (by cases e), fun _ => ⟨rfl, rfl, rfl⟩, ho⟩
/-- Bytes that no block of K holds. -/
def Far (K : List Nat) (W : World) (x : Bv) : Prop :=
  (∀ b ∈ x.bs, b < 256) ∧ x.len = x.bs.length ∧ (x.sa = none → x.cap = 0) ∧ (x.bs = [] ∨ ∃ g off, x.sa = some ⟨g, off, none⟩ ∧ x.bs.length ≤ x.cap ∧ g < W.heap.size ∧ g ∉ K ∧ ∀ j, j < x.bs.length → W.cell? ⟨g, off + j, none⟩ = some (.int .u8 ((x.bs[j]?.getD 0 : Nat) : Int)))
theorem Far.step {K K1 K' : List Nat} {A B : World} {x : Bv} (h : Far K A x) (hk : Kept K1 A B) (h1 : ∀ k ∈ K1, k ∈ K) (h2 : ∀ k ∈ K', k ∈ K ∨ A.heap.size ≤ k) : Far K' B x := by
  obtain ⟨hb, hl, hn, h | ⟨g, off, e, hc, hg, hK, hj⟩⟩ := h
  · exact ⟨hb, hl, hn, .inl h⟩
  · refine ⟨hb, hl, hn, .inr ⟨g, off, e, hc, Nat.lt_of_lt_of_le hg hk.size, fun hm => ?_, fun j h => (World.cell?_of_block (hk.block g hg (fun hm => hK (h1 g hm)))).trans (hj j h)⟩⟩
    rcases h2 g hm with h | h
    · exact hK h
    · omega
theorem Far.row {K : List Nat} {W : World} {x : Bv} (h : Far K W x) : Outbox.ByteRow W.heap.size W (.slice x.sa x.len x.cap) x.bs := by
  obtain ⟨hb, hl, hn, h | ⟨g, off, e, hc, hg, hK, hj⟩⟩ := h
  · exact ⟨hb, x.sa, x.cap, by rw [hl], hn, .inl h⟩
  · exact ⟨hb, x.sa, x.cap, by rw [hl], hn, .inr ⟨g, off, e, hc, hg, hj⟩⟩
theorem Far.wire {K : List Nat} {W : World} {x : Bv} (h : Far K W x) : Wire.ByteRow 0 W.heap.size W (.slice x.sa x.len x.cap) x.bs := by
  obtain ⟨hb, hl, hn, h | ⟨g, off, e, hc, hg, hK, hj⟩⟩ := h
  · exact ⟨hb, x.sa, x.cap, by rw [hl], hn, .inl h⟩
  · exact ⟨hb, x.sa, x.cap, by rw [hl], hn, .inr ⟨g, off, e, hc, Nat.zero_le _, hg, hj⟩⟩
theorem far_byt {K : List Nat} {W : World} {x : Bv} (h : x.At W) (hK : NoByt K W) : Far K W x := by
  obtain ⟨sa, len, cap, bs⟩ := x
  obtain ⟨hb, a, cap', e, hn, h⟩ := h
  injection e with e1 e2 e3
  have e1 : sa = a := e1
  have e3 : cap = cap' := e3
  subst e1 e3
  rcases h with h | ⟨g, off, cur, e, hc, hB, hj⟩
  · exact ⟨hb, e2, hn, .inl h⟩
  · exact ⟨hb, e2, hn, .inr ⟨g, off, e, hc, hB.lt, fun hm => hK g hm cur hB, fun j hl => (hB.cell _).trans (hj j hl)⟩⟩
theorem far_nil (K : List Nat) (W : World) : Far K W ⟨none, 0, 0, []⟩ := ⟨by simp, rfl, fun _ => rfl, .inl rfl⟩
theorem far_range {K : List Nat} {W : World} {lo hi : Nat} {sa : Option Addr} {len cap : Nat} {bs : List Nat} (h : Wire.ByteRow lo hi W (.slice sa len cap) bs) (hh : hi ≤ W.heap.size) (hK : ∀ k ∈ K, k < lo ∨ hi ≤ k) : Far K W ⟨sa, len, cap, bs⟩ := by
  obtain ⟨hb, a, cap', e, hn, h⟩ := h
  injection e with e1 e2 e3
  subst e1 e3
  rcases h with h | ⟨g, off, e, hc, h1, h2, hj⟩
  · exact ⟨hb, e2, hn, .inl h⟩
  · exact ⟨hb, e2, hn, .inr ⟨g, off, e, hc, by show g < _; omega, fun hm => by have := hK g hm; omega, hj⟩⟩
set_option maxRecDepth 100000 in
set_option maxHeartbeats 1000000 in
/-- Take, of what is nothing to it -/
theorem take_deaf {base : Nat} {F : Foot} {s : Ss} (w : World) (h : SsAt w base F s) (v : Value) (bs : List Nat) (lo hi : Nat) (hv : Wire.ByteRow lo hi w v bs) (hh : hi ≤ w.heap.size) (hlen : bs.length ≤ 1000) (hd : s.deaf bs = true) :
    Calls Try.prog 10 #[.pointer (some ⟨F.o, 0, none⟩), v] w fun e w' => e = .returned (.tuple #[.agg #[.bool false, .bool false, .slice none 0 0], .slice none 0 0]) ∧ Kept [] w w' := by
  have kA := kept_alloc [] w (.cells #[.bool false, .bool false, .slice none 0 0] 41)
  have hA := blk_new w 41 #[.bool false, .bool false, .slice none 0 0]
  obtain ⟨W1, hW1⟩ : ∃ W1, w.alloc (.cells #[.bool false, .bool false, .slice none 0 0] 41) = W1 := ⟨_, rfl⟩
  rw [hW1] at kA hA
  have hS1 := h.kept0 kA
  have q := made_any W1 hS1
  have qp := Wire.parse_any v bs lo hi W1 (hv.kept hh kA (by simp)) (Nat.le_trans hh kA.size) (by omega)
  obtain ⟨sa, z, cap, rfl, -⟩ := Wire.row_of (hv.at hh)
  unfold Ss.deaf at hd
  by_cases hE : parseE bs = 0
  · rw [hE] at qp hd
    replace hd : (((parseM bs).f : Int) < (s.peer : Int)) := by
      have : (parseM bs).f < s.peer := by simpa using hd
      omega
    clear hE
    generalize parseM bs = PM at *
    go_enter Try.func10, Try.ntmps10
    go_wp2_with (first
      | (go_at_call 20; refine q.mono ?_; rintro e W1 ⟨rfl, rfl⟩)
      | (go_at_call 28; refine qp.mono ?_; rintro e w2 ⟨y, rfl, hy, hyA, hk2⟩; subst hy; simp only [Pv.ps] at hd)
      | (refine wpList_store_blk rfl 47 _ _ rfl w2.heap.size 47 _ [.int .u32 (y.f : Int), .int .u32 (y.t : Int), .int .i64 y.k, .int .i64 y.s, .int .i64 y.a, .slice y.sa y.len y.cap] rfl rfl (blk_new w2 47 #[.int .u32 0, .int .u32 0, .int .i64 0, .int .i64 0, .int .i64 0, .slice none 0 0]) rfl Wire.Try.sizeP (by simp [Value.oneCell']) ?_; intro w3 hb3 hk3 hz3))
    have kB := kept_alloc [] w2 (.cells #[.int .u32 0, .int .u32 0, .int .i64 0, .int .i64 0, .int .i64 0, .slice none 0 0] 47)
    have kC : Kept [] w2 w3 := kB.young hk3 (Nat.le_refl _)
    have hS3 := hS1.kept0 (hk2.trans kC)
    have hY3 : y.In w3 w2.heap.size := hb3
    have hA3 := hA.kept (hk2.trans kC) (by simp)
    have kD := kA.trans (hk2.trans kC)
    have z23 : w2.heap.size < w3.heap.size := hY3.lt
    clear kA qp q hW1 hS1 hA hb3 hk3 hz3 kB
    have c := fun n => (hS3.kept0 (kept_drewN [] w3 n)).six
    have u := fun n => (hY3.kept (kept_drewN [] w3 n) (by simp)).six
    go_quiet (fail)
    have kq_w4 := kept_drewN [] w3 nq
    obtain ⟨w4, hq_w4⟩ : ∃ w4, w3.drewN nq = w4 := ⟨_, rfl⟩
    rw [hq_w4] at kq_w4 ⊢
    clear hq_w4 c u nq
    have hS4 := hS3.kept0 kq_w4
    have hY4 := hY3.kept kq_w4 (by simp)
    have hA4 := hA3.kept kq_w4 (by simp)
    go_wp2_with (refine wpList_store_blk rfl 41 _ _ rfl w.heap.size 41 _ [.bool false, .bool false, .slice none 0 0] rfl rfl hA4 rfl Try.sizeGot (by simp [Value.oneCell']) ?_; intro w9 hb9 hk9 hz9)
    refine bodyPost_ret (Wire.results_row_tmp rfl _ _ w.heap.size _ rfl (run_loadVar_row (P := Try.prog) w9 w.heap.size 41 41 _ (0, 0) _ hb9 Try.underlying41 rfl Try.sizeGot)) rfl ?_
    exact ⟨rfl, (kD.trans kq_w4).young hk9 (Nat.le_refl _)⟩
  · replace hE : (parseE bs != 0) = true := by simpa using hE
    clear hd
    generalize parseM bs = PM at *
    generalize parseE bs = PE at *
    go_enter Try.func10, Try.ntmps10
    go_wp2_with (first
      | (go_at_call 20; refine q.mono ?_; rintro e W1 ⟨rfl, rfl⟩)
      | (go_at_call 28; refine qp.mono ?_; rintro e w2 ⟨y, rfl, hy, hyA, hk2⟩; clear hy)
      | (refine wpList_store_blk rfl 47 _ _ rfl w2.heap.size 47 _ [.int .u32 (y.f : Int), .int .u32 (y.t : Int), .int .i64 y.k, .int .i64 y.s, .int .i64 y.a, .slice y.sa y.len y.cap] rfl rfl (blk_new w2 47 #[.int .u32 0, .int .u32 0, .int .i64 0, .int .i64 0, .int .i64 0, .slice none 0 0]) rfl Wire.Try.sizeP (by simp [Value.oneCell']) ?_; intro w3 hb3 hk3 hz3))
    have kB := kept_alloc [] w2 (.cells #[.int .u32 0, .int .u32 0, .int .i64 0, .int .i64 0, .int .i64 0, .slice none 0 0] 47)
    have kC : Kept [] w2 w3 := kB.young hk3 (Nat.le_refl _)
    have hS3 := hS1.kept0 (hk2.trans kC)
    have hY3 : y.In w3 w2.heap.size := hb3
    have hA3 := hA.kept (hk2.trans kC) (by simp)
    have kD := kA.trans (hk2.trans kC)
    have z23 : w2.heap.size < w3.heap.size := hY3.lt
    clear kA qp q hW1 hS1 hA hb3 hk3 hz3 kB
    have c := fun n => (hS3.kept0 (kept_drewN [] w3 n)).six
    have u := fun n => (hY3.kept (kept_drewN [] w3 n) (by simp)).six
    go_quiet (fail)
    have kq_w4 := kept_drewN [] w3 nq
    obtain ⟨w4, hq_w4⟩ : ∃ w4, w3.drewN nq = w4 := ⟨_, rfl⟩
    rw [hq_w4] at kq_w4 ⊢
    clear hq_w4 c u nq
    have hS4 := hS3.kept0 kq_w4
    have hY4 := hY3.kept kq_w4 (by simp)
    have hA4 := hA3.kept kq_w4 (by simp)
    go_wp2_with (refine wpList_store_blk rfl 41 _ _ rfl w.heap.size 41 _ [.bool false, .bool false, .slice none 0 0] rfl rfl hA4 rfl Try.sizeGot (by simp [Value.oneCell']) ?_; intro w9 hb9 hk9 hz9)
    refine bodyPost_ret (Wire.results_row_tmp rfl _ _ w.heap.size _ rfl (run_loadVar_row (P := Try.prog) w9 w.heap.size 41 41 _ (0, 0) _ hb9 Try.underlying41 rfl Try.sizeGot)) rfl ?_
    exact ⟨rfl, (kD.trans kq_w4).young hk9 (Nat.le_refl _)⟩
theorem Kept.more {L M : List Nat} {a b c : World} (h : Kept L a b) (k : Kept M b c) (hM : ∀ x ∈ M, x ∈ L ∨ a.heap.size ≤ x) : Kept L a c :=
  ⟨k.os.trans h.os, k.tape.trans h.tape, k.output.trans h.output, Nat.le_trans h.size k.size, fun i hi hL => (k.block i (Nat.lt_of_lt_of_le hi h.size) (fun hm => (hM i hm).elim hL (fun h2 => by omega))).trans (h.block i hi hL)⟩
theorem opS_is (s : Ss) (p : Ps) : (opS s p).my = s.my ∧ (opS s p).peer = s.peer := by
  unfold opS
  split <;> exact ⟨rfl, rfl⟩
theorem foot_none {F : Foot} {g i : Nat} {n : Nat} (hg : n ≤ g) (hi : n ≤ i) : ∀ k ∈ (Foot.mk F.o g i F.k none).l, k ∈ F.l ∨ n ≤ k := fun k hk => by
  simp only [Foot.l, List.mem_cons, Option.toList, List.not_mem_nil, or_false] at hk ⊢
  rcases hk with e | e | e | e
  · simp [e]
  · exact .inr (by omega)
  · exact .inr (by omega)
  · simp [e]
set_option maxRecDepth 100000 in
set_option maxHeartbeats 4000000 in
/-- Take, of a known boot, for another -/
theorem take_old_other {base : Nat} {F : Foot} {s : Ss} (w : World) (h : SsAt w base F s) (v : Value) (bs : List Nat) (lo hi : Nat) (hv : Wire.ByteRow lo hi w v bs) (hh : hi ≤ w.heap.size) (hlen : bs.length ≤ 1000) (hE : parseE bs = 0) (hN : s.isNew bs = false) (hd : s.deaf bs = false) (hT : ((parseM bs).t = s.my) → False) (hs : s.ob.n + s.ob.l.length ≤ 1000000) (hb : ∀ b ∈ s.ob.l, b.length ≤ 1000) (_hbw : base ≤ w.heap.size) :
    Calls Try.prog 10 #[.pointer (some ⟨F.o, 0, none⟩), v] w fun e w' => ∃ v P F', e = .returned (.tuple #[.agg #[.bool false, .bool false, .slice none 0 0], v]) ∧ Told w.heap.size w' v P [bytesL (s.turned bs).ping] ∧ After w base F F' (s.turned bs) w' := by
  have kA := kept_alloc [] w (.cells #[.bool false, .bool false, .slice none 0 0] 41)
  have hA := blk_new w 41 #[.bool false, .bool false, .slice none 0 0]
  obtain ⟨W1, hW1⟩ : ∃ W1, w.alloc (.cells #[.bool false, .bool false, .slice none 0 0] 41) = W1 := ⟨_, rfl⟩
  rw [hW1] at kA hA
  have hS1 := h.kept0 kA
  have hA1lt : Hid (w.heap.size < W1.heap.size) := hA.lt
  have q := made_any W1 hS1
  have qp := Wire.parse_any v bs lo hi W1 (hv.kept hh kA (by simp)) (Nat.le_trans hh kA.size) (by omega)
  obtain ⟨sa, z, cap, rfl, -⟩ := Wire.row_of (hv.at hh)
  rw [hE] at qp
  have hf0 : ¬ (((parseM bs).f : Int) < (s.peer : Int)) := by
    unfold Ss.deaf at hd
    simp at hd
    omega
  have hf1 : ¬ ((s.peer : Int) < ((parseM bs).f : Int)) := by
    unfold Ss.isNew at hN
    rw [hd] at hN
    simp at hN
    omega
  have hto : (((parseM bs).t : Int) != (s.my : Int)) = true := by
    simp
    exact fun e => hT (by omega)
  have hturn : Hid (s.turned bs = s) := by
    show _ = _
    unfold Ss.turned
    rw [hN]
    rfl
  clear hE hN hd hT
  generalize parseM bs = PM at *
  obtain ⟨t, ht⟩ : ∃ t, Hid (s.turned bs = t) := ⟨_, rfl⟩
  rw [ht.out] at hturn ⊢
  clear ht
  have zA := kA.size
  go_enter Try.func10, Try.ntmps10
  go_wp2_with (first
    | (go_at_call 20; refine q.mono ?_; rintro e W1 ⟨rfl, rfl⟩)
    | (go_at_call 28; refine qp.mono ?_; rintro e w2 ⟨y, rfl, hy, hyA, hk2⟩; subst hy; simp only [Pv.ps] at hf0 hf1 hto hturn)
    | (refine wpList_store_blk rfl 47 _ _ rfl w2.heap.size 47 _ [.int .u32 (y.f : Int), .int .u32 (y.t : Int), .int .i64 y.k, .int .i64 y.s, .int .i64 y.a, .slice y.sa y.len y.cap] rfl rfl (blk_new w2 47 #[.int .u32 0, .int .u32 0, .int .i64 0, .int .i64 0, .int .i64 0, .slice none 0 0]) rfl Wire.Try.sizeP (by simp [Value.oneCell']) ?_; intro w3 hb3 hk3 hz3))
  have kB := kept_alloc [] w2 (.cells #[.int .u32 0, .int .u32 0, .int .i64 0, .int .i64 0, .int .i64 0, .slice none 0 0] 47)
  have kC : Kept [] w2 w3 := kB.young hk3 (Nat.le_refl _)
  have hS3 := hS1.kept0 (hk2.trans kC)
  have hY3 : y.In w3 w2.heap.size := hb3
  have hA3 := hA.kept (hk2.trans kC) (by simp)
  have kD := kA.trans (hk2.trans kC)
  have z23 : w2.heap.size < w3.heap.size := hY3.lt
  clear kA qp q hW1 hS1 hA hb3 hk3 hz3 kB
  have c := fun n => (hS3.kept0 (kept_drewN [] w3 n)).six
  have u := fun n => (hY3.kept (kept_drewN [] w3 n) (by simp)).six
  go_quiet (fail)
  have kq_w4 := kept_drewN [] w3 nq
  obtain ⟨w4, hq_w4⟩ : ∃ w4, w3.drewN nq = w4 := ⟨_, rfl⟩
  rw [hq_w4] at kq_w4 ⊢
  clear hq_w4 c u nq
  have hS4 := hS3.kept0 kq_w4
  have hY4 := hY3.kept kq_w4 (by simp)
  have hA4 := hA3.kept kq_w4 (by simp)
  go_wp2_with fail
  have c := fun n => (hS4.kept0 (kept_drewN [] w4 n)).six
  have u := fun n => (hY4.kept (kept_drewN [] w4 n) (by simp)).six
  go_quiet (fail)
  have kq_w5 := kept_drewN [] w4 nq
  obtain ⟨w5, hq_w5⟩ : ∃ w5, w4.drewN nq = w5 := ⟨_, rfl⟩
  rw [hq_w5] at kq_w5 ⊢
  clear hq_w5 c u nq
  have hS5 := hS4.kept0 kq_w5
  have hY5 := hY4.kept kq_w5 (by simp)
  have hA5 := hA4.kept kq_w5 (by simp)
  have kE : Kept [] w w5 := (kD.trans kq_w4).trans kq_w5
  have z25 : w2.heap.size ≤ w5.heap.size := Nat.le_trans (Nat.le_trans kC.size kq_w4.size) kq_w5.size
  have zy := hY5.lt
  have za := hA5.lt
  have zw : w.heap.size < w2.heap.size := Nat.lt_of_lt_of_le (show w.heap.size < W1.heap.size from hA1lt.out) hk2.size
  have hlt := fun k (hm : k ∈ F.l) => (h.lt k hm).2
  go_wp2_with fail
  rw [← hturn.out] at hS5 hto
  have hS6 := hS5
  have hY6 := hY5
  have hA6 := hA5
  have kF : Kept F.l w w5 := kE.mono (by simp)
  have hb6 := hyA.row.kept (Nat.le_refl _) (kC.trans (kq_w4.trans kq_w5)) (by simp)
  have hs6 : t.ob.n + t.ob.l.length ≤ 1000000 := by rw [hturn.out]; exact hs
  have hb6' : ∀ b ∈ t.ob.l, b.length ≤ 1000 := by rw [hturn.out]; exact hb
  obtain ⟨F6, hF6⟩ : ∃ F6, F = F6 := ⟨_, rfl⟩
  have hFo : F6.o = F.o := by rw [hF6]
  have hnew : ∀ k ∈ F6.l, k ∈ F.l ∨ w2.heap.size ≤ k := fun k hm => .inl (by rw [hF6]; exact hm)
  rw [hF6] at hS6
  clear hF6
  clear hS3 hS4 hS5 hY3 hY4 hY5 hA3 hA4 hA5 kD kq_w4 kq_w5 hs hb hv h hf0 hf1
  have c := fun n => (hS6.kept0 (kept_drewN [] w5 n)).six
  have u := fun n => (hY6.kept (kept_drewN [] w5 n) (by simp)).six
  rw [hFo] at c
  go_quiet (fail)
  have kq_w7 := kept_drewN [] w5 nq
  obtain ⟨w7, hq_w7⟩ : ∃ w7, w5.drewN nq = w7 := ⟨_, rfl⟩
  rw [hq_w7] at kq_w7 ⊢
  clear hq_w7 c u nq
  have hS7 := hS6.kept0 kq_w7
  have hY7 := hY6.kept kq_w7 (by simp)
  have hA7 := hA6.kept kq_w7 (by simp)
  have kG : Kept F.l w w7 := kF.trans (kq_w7.mono (by simp))
  have z7 := kq_w7.size
  have hb7 := hb6.kept z25 kq_w7 (by simp)
  obtain ⟨d0, d1, d2, d3, d4, d5⟩ := hS7.six
  rw [hFo] at d0 d1 d2 d3 d4 d5
  have kH := kept_alloc [] w7 (.cells #[.int .i64 0] 3)
  have hS8 := hS7.kept0 kH
  have hA8 := hA7.kept kH (by simp)
  have qt := tell_ping F6 t base hS8.my2 hS8.peer _ hS8.inn _ _ _ _ [0] (one_nought w7) (by simp) (by simp)
  go_wp2_with (first
    | (go_at_call 22; refine qt.mono ?_; rintro e w8 ⟨v8, P8, rfl, hT8, hk8⟩)
    | (refine wpList_store_blk rfl 41 _ _ rfl w.heap.size 41 _ [.bool false, .bool false, .slice none 0 0] rfl rfl (hA8.kept hk8 (by simp)) rfl Try.sizeGot (by simp [Value.oneCell']) ?_; intro w9 hb9 hk9 hz9))
  refine bodyPost_ret (Wire.results_row_tmp rfl _ _ w.heap.size _ rfl (run_loadVar_row (P := Try.prog) w9 w.heap.size 41 41 _ (0, 0) _ hb9 Try.underlying41 rfl Try.sizeGot)) rfl ?_
  have hA9 := hA8.kept hk8 (by simp)
  have nb9 : NoByt [w.heap.size] w8 := NoByt.cons (Outbox.noByt_nil _) hA9 (by decide)
  have nr9 : NoRow [w.heap.size] w8 := NoRow.cons (noRow_nil _) hA9 (by decide)
  have hkk := kG.size
  have hkk2 := kH.size
  refine ⟨_, P8, F6, rfl, (hT8.keptT hk9 nb9 nr9).lower (Nat.le_trans hkk hkk2), (hS8.kept0 hk8).kept hk9 (fun k hm e => ?_) nb9, hFo, ?_, fun k hm => (hnew k hm).imp id (fun h => by omega)⟩
  · rw [List.mem_singleton] at e
    rcases hnew k hm with h1 | h1
    · have := hlt k h1
      omega
    · omega
  · exact ((kG.trans (kH.mono (by simp))).trans (hk8.mono (by simp))).young (hk9.mono (by simp)) (Nat.le_refl _)
set_option maxRecDepth 100000 in
set_option maxHeartbeats 4000000 in
/-- Take, of a new boot, for another -/
theorem take_new_other {base : Nat} {F : Foot} {s : Ss} (w : World) (h : SsAt w base F s) (v : Value) (bs : List Nat) (lo hi : Nat) (hv : Wire.ByteRow lo hi w v bs) (hh : hi ≤ w.heap.size) (hlen : bs.length ≤ 1000) (hE : parseE bs = 0) (hN : s.isNew bs = true) (hd : s.deaf bs = false) (hT : ((parseM bs).t = s.my) → False) (_hs : s.ob.n + s.ob.l.length ≤ 1000000) (_hb : ∀ b ∈ s.ob.l, b.length ≤ 1000) (hbw : base ≤ w.heap.size) :
    Calls Try.prog 10 #[.pointer (some ⟨F.o, 0, none⟩), v] w fun e w' => ∃ v P F', e = .returned (.tuple #[.agg #[.bool true, .bool false, .slice none 0 0], v]) ∧ Told w.heap.size w' v P [bytesL (s.turned bs).ping] ∧ After w base F F' (s.turned bs) w' := by
  have kA := kept_alloc [] w (.cells #[.bool false, .bool false, .slice none 0 0] 41)
  have hA := blk_new w 41 #[.bool false, .bool false, .slice none 0 0]
  obtain ⟨W1, hW1⟩ : ∃ W1, w.alloc (.cells #[.bool false, .bool false, .slice none 0 0] 41) = W1 := ⟨_, rfl⟩
  rw [hW1] at kA hA
  have hS1 := h.kept0 kA
  have hA1lt : Hid (w.heap.size < W1.heap.size) := hA.lt
  have q := made_any W1 hS1
  have qp := Wire.parse_any v bs lo hi W1 (hv.kept hh kA (by simp)) (Nat.le_trans hh kA.size) (by omega)
  obtain ⟨sa, z, cap, rfl, -⟩ := Wire.row_of (hv.at hh)
  rw [hE] at qp
  have hf0 : ¬ (((parseM bs).f : Int) < (s.peer : Int)) := by
    unfold Ss.deaf at hd
    simp at hd
    omega
  have hf1 : ((s.peer : Int) < ((parseM bs).f : Int)) := by
    unfold Ss.isNew at hN
    rw [hd] at hN
    simp at hN
    omega
  have hto : (((parseM bs).t : Int) != (s.my : Int)) = true := by
    simp
    exact fun e => hT (by omega)
  have hturn : Hid (s.turned bs = { s with peer := (parseM bs).f, ob := Outbox.made s.ob.w, last := 0, age := 0 }) := by
    show _ = _
    unfold Ss.turned
    rw [hN]
    rfl
  clear hE hN hd hT
  generalize parseM bs = PM at *
  obtain ⟨t, ht⟩ : ∃ t, Hid (s.turned bs = t) := ⟨_, rfl⟩
  rw [ht.out] at hturn ⊢
  clear ht
  have zA := kA.size
  go_enter Try.func10, Try.ntmps10
  go_wp2_with (first
    | (go_at_call 20; refine q.mono ?_; rintro e W1 ⟨rfl, rfl⟩)
    | (go_at_call 28; refine qp.mono ?_; rintro e w2 ⟨y, rfl, hy, hyA, hk2⟩; subst hy; simp only [Pv.ps] at hf0 hf1 hto hturn)
    | (refine wpList_store_blk rfl 47 _ _ rfl w2.heap.size 47 _ [.int .u32 (y.f : Int), .int .u32 (y.t : Int), .int .i64 y.k, .int .i64 y.s, .int .i64 y.a, .slice y.sa y.len y.cap] rfl rfl (blk_new w2 47 #[.int .u32 0, .int .u32 0, .int .i64 0, .int .i64 0, .int .i64 0, .slice none 0 0]) rfl Wire.Try.sizeP (by simp [Value.oneCell']) ?_; intro w3 hb3 hk3 hz3))
  have kB := kept_alloc [] w2 (.cells #[.int .u32 0, .int .u32 0, .int .i64 0, .int .i64 0, .int .i64 0, .slice none 0 0] 47)
  have kC : Kept [] w2 w3 := kB.young hk3 (Nat.le_refl _)
  have hS3 := hS1.kept0 (hk2.trans kC)
  have hY3 : y.In w3 w2.heap.size := hb3
  have hA3 := hA.kept (hk2.trans kC) (by simp)
  have kD := kA.trans (hk2.trans kC)
  have z23 : w2.heap.size < w3.heap.size := hY3.lt
  clear kA qp q hW1 hS1 hA hb3 hk3 hz3 kB
  have c := fun n => (hS3.kept0 (kept_drewN [] w3 n)).six
  have u := fun n => (hY3.kept (kept_drewN [] w3 n) (by simp)).six
  go_quiet (fail)
  have kq_w4 := kept_drewN [] w3 nq
  obtain ⟨w4, hq_w4⟩ : ∃ w4, w3.drewN nq = w4 := ⟨_, rfl⟩
  rw [hq_w4] at kq_w4 ⊢
  clear hq_w4 c u nq
  have hS4 := hS3.kept0 kq_w4
  have hY4 := hY3.kept kq_w4 (by simp)
  have hA4 := hA3.kept kq_w4 (by simp)
  go_wp2_with fail
  have c := fun n => (hS4.kept0 (kept_drewN [] w4 n)).six
  have u := fun n => (hY4.kept (kept_drewN [] w4 n) (by simp)).six
  go_quiet (fail)
  have kq_w5 := kept_drewN [] w4 nq
  obtain ⟨w5, hq_w5⟩ : ∃ w5, w4.drewN nq = w5 := ⟨_, rfl⟩
  rw [hq_w5] at kq_w5 ⊢
  clear hq_w5 c u nq
  have hS5 := hS4.kept0 kq_w5
  have hY5 := hY4.kept kq_w5 (by simp)
  have hA5 := hA4.kept kq_w5 (by simp)
  have kE : Kept [] w w5 := (kD.trans kq_w4).trans kq_w5
  have z25 : w2.heap.size ≤ w5.heap.size := Nat.le_trans (Nat.le_trans kC.size kq_w4.size) kq_w5.size
  have zy := hY5.lt
  have za := hA5.lt
  have zw : w.heap.size < w2.heap.size := Nat.lt_of_lt_of_le (show w.heap.size < W1.heap.size from hA1lt.out) hk2.size
  have hlt := fun k (hm : k ∈ F.l) => (h.lt k hm).2
  have qm := meet_any y.f hyA.f w5 hS5 (Nat.le_trans hbw kE.size)
  obtain ⟨d0, d1, d2, d3, d4, d5⟩ := hS5.six
  obtain ⟨y0, y1, y2, y3, y4, y5⟩ := hY5.six
  go_wp2_with (go_at_call 29; refine qm.mono ?_; rintro e w6 ⟨g, i, rfl, hS6, hg6, hi6, hk6⟩)
  clear d0 d1 d2 d3 d4 d5 y0 y1 y2 y3 y4 y5
  rw [← hturn.out] at hS6
  have fo : F.o ∈ F.l := by simp [Foot.l]
  have fk : F.k ∈ F.l := by simp [Foot.l]
  have n1 := hlt _ fo
  have n2 := hlt _ fk
  have hY6 := hY5.kept hk6 (by simp; omega)
  have hA6 := hA5.kept hk6 (by simp; omega)
  have kF : Kept F.l w w6 := (kE.mono (by simp)).trans (hk6.mono (by simp [fo, fk]))
  have hb6 := hyA.row.kept (Nat.le_refl _) (kC.trans (kq_w4.trans kq_w5)) (by simp)
  replace hb6 := hb6.kept z25 hk6 (by intro k hm; simp at hm; left; have : W1.heap.size ≥ w.heap.size := zA; omega)
  have hnew := foot_none (F := F) hg6 hi6
  replace hnew : ∀ k ∈ (Foot.mk F.o g i F.k none).l, k ∈ F.l ∨ w2.heap.size ≤ k := fun k hm => (hnew k hm).imp id (fun h => by omega)
  have hs6 : t.ob.n + t.ob.l.length ≤ 1000000 := by rw [hturn.out]; show 1 + 0 ≤ _; omega
  have hb6' : ∀ b ∈ t.ob.l, b.length ≤ 1000 := by rw [hturn.out]; intro b hm; cases hm
  have hmy : t.my = s.my := by rw [hturn.out]
  rw [← hmy] at hto
  have hFo : (Foot.mk F.o g i F.k none).o = F.o := rfl
  obtain ⟨F6, hF6⟩ : ∃ F6, Foot.mk F.o g i F.k none = F6 := ⟨_, rfl⟩
  rw [hF6] at hS6 hnew hFo
  have hk6s := hk6.size
  clear hF6 hg6 hi6 hk6 qm hmy
  clear hS3 hS4 hS5 hY3 hY4 hY5 hA3 hA4 hA5 kD kq_w4 kq_w5 _hs _hb hv h hf0 hf1
  have c := fun n => (hS6.kept0 (kept_drewN [] w6 n)).six
  have u := fun n => (hY6.kept (kept_drewN [] w6 n) (by simp)).six
  rw [hFo] at c
  go_quiet (fail)
  have kq_w7 := kept_drewN [] w6 nq
  obtain ⟨w7, hq_w7⟩ : ∃ w7, w6.drewN nq = w7 := ⟨_, rfl⟩
  rw [hq_w7] at kq_w7 ⊢
  clear hq_w7 c u nq
  have hS7 := hS6.kept0 kq_w7
  have hY7 := hY6.kept kq_w7 (by simp)
  have hA7 := hA6.kept kq_w7 (by simp)
  have kG : Kept F.l w w7 := kF.trans (kq_w7.mono (by simp))
  have z7 := kq_w7.size
  have hb7 := hb6.kept (Nat.le_trans z25 hk6s) kq_w7 (by simp)
  obtain ⟨d0, d1, d2, d3, d4, d5⟩ := hS7.six
  rw [hFo] at d0 d1 d2 d3 d4 d5
  have kH := kept_alloc [] w7 (.cells #[.int .i64 0] 3)
  have hS8 := hS7.kept0 kH
  have hA8 := hA7.kept kH (by simp)
  have qt := tell_ping F6 t base hS8.my2 hS8.peer _ hS8.inn _ _ _ _ [0] (one_nought w7) (by simp) (by simp)
  go_wp2_with (first
    | (go_at_call 22; refine qt.mono ?_; rintro e w8 ⟨v8, P8, rfl, hT8, hk8⟩)
    | (refine wpList_store_blk rfl 41 _ _ rfl w.heap.size 41 _ [.bool true, .bool false, .slice none 0 0] rfl rfl (hA8.kept hk8 (by simp)) rfl Try.sizeGot (by simp [Value.oneCell']) ?_; intro w9 hb9 hk9 hz9))
  refine bodyPost_ret (Wire.results_row_tmp rfl _ _ w.heap.size _ rfl (run_loadVar_row (P := Try.prog) w9 w.heap.size 41 41 _ (0, 0) _ hb9 Try.underlying41 rfl Try.sizeGot)) rfl ?_
  have hA9 := hA8.kept hk8 (by simp)
  have nb9 : NoByt [w.heap.size] w8 := NoByt.cons (Outbox.noByt_nil _) hA9 (by decide)
  have nr9 : NoRow [w.heap.size] w8 := NoRow.cons (noRow_nil _) hA9 (by decide)
  have hkk := kG.size
  have hkk2 := kH.size
  refine ⟨_, P8, F6, rfl, (hT8.keptT hk9 nb9 nr9).lower (Nat.le_trans hkk hkk2), (hS8.kept0 hk8).kept hk9 (fun k hm e => ?_) nb9, hFo, ?_, fun k hm => (hnew k hm).imp id (fun h => by omega)⟩
  · rw [List.mem_singleton] at e
    rcases hnew k hm with h1 | h1
    · have := hlt k h1
      omega
    · omega
  · exact ((kG.trans (kH.mono (by simp))).trans (hk8.mono (by simp))).young (hk9.mono (by simp)) (Nat.le_refl _)
set_option maxRecDepth 100000 in
set_option maxHeartbeats 4000000 in
/-- Take, of a known boot, for this one -/
theorem take_old_mine {base : Nat} {F : Foot} {s : Ss} (w : World) (h : SsAt w base F s) (v : Value) (bs : List Nat) (lo hi : Nat) (hv : Wire.ByteRow lo hi w v bs) (hh : hi ≤ w.heap.size) (hlen : bs.length ≤ 1000) (hE : parseE bs = 0) (hN : s.isNew bs = false) (hd : s.deaf bs = false) (hT : ((parseM bs).t = s.my)) (hs : s.ob.n + s.ob.l.length ≤ 1000000) (hb : ∀ b ∈ s.ob.l, b.length ≤ 1000) (_hbw : base ≤ w.heap.size) :
    Calls Try.prog 10 #[.pointer (some ⟨F.o, 0, none⟩), v] w fun e w' => ∃ v P F' sb lb cb, e = .returned (.tuple #[.agg #[.bool false, .bool (opHas { (s.turned bs) with age := 0 } (parseM bs)), .slice sb lb cb], v]) ∧ (∀ K : List Nat, (∀ k ∈ K, k ∈ F'.l ∨ k < w.heap.size) → Far K w' ⟨sb, lb, cb, opB { (s.turned bs) with age := 0 } (parseM bs)⟩) ∧ Told w.heap.size w' v P (opL { (s.turned bs) with age := 0 } (parseM bs)) ∧ After w base F F' (opS { (s.turned bs) with age := 0 } (parseM bs)) w' := by
  have kA := kept_alloc [] w (.cells #[.bool false, .bool false, .slice none 0 0] 41)
  have hA := blk_new w 41 #[.bool false, .bool false, .slice none 0 0]
  obtain ⟨W1, hW1⟩ : ∃ W1, w.alloc (.cells #[.bool false, .bool false, .slice none 0 0] 41) = W1 := ⟨_, rfl⟩
  rw [hW1] at kA hA
  have hS1 := h.kept0 kA
  have hA1lt : Hid (w.heap.size < W1.heap.size) := hA.lt
  have q := made_any W1 hS1
  have qp := Wire.parse_any v bs lo hi W1 (hv.kept hh kA (by simp)) (Nat.le_trans hh kA.size) (by omega)
  obtain ⟨sa, z, cap, rfl, -⟩ := Wire.row_of (hv.at hh)
  rw [hE] at qp
  have hf0 : ¬ (((parseM bs).f : Int) < (s.peer : Int)) := by
    unfold Ss.deaf at hd
    simp at hd
    omega
  have hf1 : ¬ ((s.peer : Int) < ((parseM bs).f : Int)) := by
    unfold Ss.isNew at hN
    rw [hd] at hN
    simp at hN
    omega
  have hto : (((parseM bs).t : Int) != (s.my : Int)) = false := by
    simp
    omega
  have hturn : Hid (s.turned bs = s) := by
    show _ = _
    unfold Ss.turned
    rw [hN]
    rfl
  clear hE hN hd hT
  generalize parseM bs = PM at *
  obtain ⟨t, ht⟩ : ∃ t, Hid (s.turned bs = t) := ⟨_, rfl⟩
  rw [ht.out] at hturn ⊢
  clear ht
  have zA := kA.size
  obtain ⟨t0, ht0⟩ : ∃ t0 : Ss, Hid (Ss.mk t.my t.peer t.ob t.last t.pat 0 = t0) := ⟨_, rfl⟩
  rw [ht0.out]
  go_enter Try.func10, Try.ntmps10
  go_wp2_with (first
    | (go_at_call 20; refine q.mono ?_; rintro e W1 ⟨rfl, rfl⟩)
    | (go_at_call 28; refine qp.mono ?_; rintro e w2 ⟨y, rfl, hy, hyA, hk2⟩; have ef : y.f = PM.f := congrArg Ps.f hy; have et : y.t = PM.t := congrArg Ps.t hy; rw [← ef] at hf0 hf1; rw [← et] at hto; clear ef et; replace hy : Hid _ := hy)
    | (refine wpList_store_blk rfl 47 _ _ rfl w2.heap.size 47 _ [.int .u32 (y.f : Int), .int .u32 (y.t : Int), .int .i64 y.k, .int .i64 y.s, .int .i64 y.a, .slice y.sa y.len y.cap] rfl rfl (blk_new w2 47 #[.int .u32 0, .int .u32 0, .int .i64 0, .int .i64 0, .int .i64 0, .slice none 0 0]) rfl Wire.Try.sizeP (by simp [Value.oneCell']) ?_; intro w3 hb3 hk3 hz3))
  have kB := kept_alloc [] w2 (.cells #[.int .u32 0, .int .u32 0, .int .i64 0, .int .i64 0, .int .i64 0, .slice none 0 0] 47)
  have kC : Kept [] w2 w3 := kB.young hk3 (Nat.le_refl _)
  have hS3 := hS1.kept0 (hk2.trans kC)
  have hY3 : y.In w3 w2.heap.size := hb3
  have hA3 := hA.kept (hk2.trans kC) (by simp)
  have kD := kA.trans (hk2.trans kC)
  have z23 : w2.heap.size < w3.heap.size := hY3.lt
  clear kA qp q hW1 hS1 hA hb3 hk3 hz3 kB
  have c := fun n => (hS3.kept0 (kept_drewN [] w3 n)).six
  have u := fun n => (hY3.kept (kept_drewN [] w3 n) (by simp)).six
  go_quiet (fail)
  have kq_w4 := kept_drewN [] w3 nq
  obtain ⟨w4, hq_w4⟩ : ∃ w4, w3.drewN nq = w4 := ⟨_, rfl⟩
  rw [hq_w4] at kq_w4 ⊢
  clear hq_w4 c u nq
  have hS4 := hS3.kept0 kq_w4
  have hY4 := hY3.kept kq_w4 (by simp)
  have hA4 := hA3.kept kq_w4 (by simp)
  go_wp2_with fail
  have c := fun n => (hS4.kept0 (kept_drewN [] w4 n)).six
  have u := fun n => (hY4.kept (kept_drewN [] w4 n) (by simp)).six
  go_quiet (fail)
  have kq_w5 := kept_drewN [] w4 nq
  obtain ⟨w5, hq_w5⟩ : ∃ w5, w4.drewN nq = w5 := ⟨_, rfl⟩
  rw [hq_w5] at kq_w5 ⊢
  clear hq_w5 c u nq
  have hS5 := hS4.kept0 kq_w5
  have hY5 := hY4.kept kq_w5 (by simp)
  have hA5 := hA4.kept kq_w5 (by simp)
  have kE : Kept [] w w5 := (kD.trans kq_w4).trans kq_w5
  have z25 : w2.heap.size ≤ w5.heap.size := Nat.le_trans (Nat.le_trans kC.size kq_w4.size) kq_w5.size
  have zy := hY5.lt
  have za := hA5.lt
  have zw : w.heap.size < w2.heap.size := Nat.lt_of_lt_of_le (show w.heap.size < W1.heap.size from hA1lt.out) hk2.size
  have hlt := fun k (hm : k ∈ F.l) => (h.lt k hm).2
  go_wp2_with fail
  rw [← hturn.out] at hS5 hto
  have hS6 := hS5
  have hY6 := hY5
  have hA6 := hA5
  have kF : Kept F.l w w5 := kE.mono (by simp)
  have hb6 := hyA.row.kept (Nat.le_refl _) (kC.trans (kq_w4.trans kq_w5)) (by simp)
  have hs6 : t.ob.n + t.ob.l.length ≤ 1000000 := by rw [hturn.out]; exact hs
  have hb6' : ∀ b ∈ t.ob.l, b.length ≤ 1000 := by rw [hturn.out]; exact hb
  obtain ⟨F6, hF6⟩ : ∃ F6, F = F6 := ⟨_, rfl⟩
  have hFo : F6.o = F.o := by rw [hF6]
  have hnew : ∀ k ∈ F6.l, k ∈ F.l ∨ w2.heap.size ≤ k := fun k hm => .inl (by rw [hF6]; exact hm)
  rw [hF6] at hS6
  clear hF6
  clear hS3 hS4 hS5 hY3 hY4 hY5 hA3 hA4 hA5 kD kq_w4 kq_w5 hs hb hv h hf0 hf1
  have c := fun n => (hS6.kept0 (kept_drewN [] w5 n)).six
  have u := fun n => (hY6.kept (kept_drewN [] w5 n) (by simp)).six
  rw [hFo] at c
  go_quiet (fail)
  have kq_w7 := kept_drewN [] w5 nq
  obtain ⟨w7, hq_w7⟩ : ∃ w7, w5.drewN nq = w7 := ⟨_, rfl⟩
  rw [hq_w7] at kq_w7 ⊢
  clear hq_w7 c u nq
  have hS7 := hS6.kept0 kq_w7
  have hY7 := hY6.kept kq_w7 (by simp)
  have hA7 := hA6.kept kq_w7 (by simp)
  have kG : Kept F.l w w7 := kF.trans (kq_w7.mono (by simp))
  have z7 := kq_w7.size
  have hb7 := hb6.kept z25 kq_w7 (by simp)
  obtain ⟨d0, d1, d2, d3, d4, d5⟩ := hS7.six
  rw [hFo] at d0 d1 d2 d3 d4 d5
  have qh := Keep.heard_any w7 hS7.kp
  go_wp2_with (go_at_call 30; refine qh.mono ?_; rintro e w8 ⟨rfl, hK8, hk8⟩)
  clear d0 d1 d2 d3 d4 d5 qh
  have hS8 := hS7.keep 0 hK8 hk8
  have fk8 : F6.k ∈ F6.l := by simp [Foot.l]
  have nk8 := hnew _ fk8
  have hY8 : y.In w8 w2.heap.size := hY7.kept hk8 (by
    simp
    intro e
    exact blk_ne hY7 hS7.kp.1 (by decide) e)
  have hA8 := hA7.kept hk8 (by
    simp
    intro e
    exact blk_ne hA7 hS7.kp.1 (by decide) e)
  have hk8s := hk8.size
  have kJ : Kept F.l w w8 := Kept.more kG hk8 (fun k hm => by
    rw [List.mem_singleton] at hm
    subst hm
    exact nk8.imp id (fun h => by omega))
  have hb8 := hb7.kept (Nat.le_trans z25 z7) hk8 (by
    intro k hm
    rw [List.mem_singleton] at hm
    subst hm
    rcases nk8 with h1 | h1
    · have := hlt _ h1
      exact .inl (by omega)
    · exact .inr h1)
  rw [ht0.out] at hS8
  have hs8 : t0.ob.n + t0.ob.l.length ≤ 1000000 := by rw [← ht0.out]; exact hs6
  have hb8' : ∀ b ∈ t0.ob.l, b.length ≤ 1000 := by rw [← ht0.out]; exact hb6'
  have qo := fun A (hA : SsAt A base F6 t0) => open_any y A hA hs8 hb8'
  rw [hy.out] at qo
  obtain ⟨e1, e2⟩ := opS_is t0 PM
  replace e1 : Hid _ := e1
  replace e2 : Hid _ := e2
  have fY : w2.heap.size ∉ F6.l := fun hm => by
    obtain ⟨v', P', h1', h2', _⟩ := hS8.out.blk
    simp only [Foot.l, List.mem_cons] at hm
    rcases hm with e | e | e | e | e
    · exact blk_ne hY8 hS8.blk (by decide) e
    · exact blk_ne hY8 h1' (by decide) e
    · exact blk_ne hY8 hS8.inn.1 (by decide) e
    · exact blk_ne hY8 hS8.kp.1 (by decide) e
    · obtain ⟨_, _, cur, hc⟩ := h2'.low w2.heap.size (by simpa using e)
      exact blk_ne hY8 hc (by decide) rfl
  go_cut [9, 10] from 67 to 75 (fun pg pl A => ∃ g P sl cl sb lb cb, pg = .pointer (some ⟨g, 0, none⟩) ∧ pl = .slice sl P.length cl ∧ Blk A g 41 #[.bool false, .bool (opHas t0 PM), .slice sb lb cb] ∧ (opHas t0 PM = true → sb = y.sa ∧ lb = y.len ∧ cb = y.cap) ∧ (opHas t0 PM = false → sb = none ∧ lb = 0 ∧ cb = 0) ∧ Told w8.heap.size A (.slice sl P.length cl) P (opL t0 PM) ∧ SsAt A base F6 (opS t0 PM) ∧ w8.heap.size ≤ g ∧ Kept F6.l w8 A)
  case first =>
    have hSS : ∀ (A : World) (s' : Ss), SsAt A base F6 s' → s'.my = t0.my → s'.peer = t0.peer → y.In A w2.heap.size → (A.cell? ⟨F.o, 1, none⟩ = some (.int .u32 (t0.my : Int)) ∧ A.cell? ⟨F.o, 2, none⟩ = some (.int .u32 (t0.peer : Int)) ∧ A.cell? ⟨F.o, 3, none⟩ = some (.pointer (some ⟨F6.g, 0, none⟩)) ∧ A.cell? ⟨F.o, 4, none⟩ = some (.pointer (some ⟨F6.i, 0, none⟩))) ∧ y.In A w2.heap.size := fun A s' hA a1 a2 a3 => by
      obtain ⟨d0, d1, d2, d3, d4, d5⟩ := hA.six
      rw [hFo] at d1 d2 d3 d4
      rw [a1] at d1
      rw [a2] at d2
      exact ⟨⟨d1, d2, d3, d4⟩, a3⟩
    have kd := kept_drew [] w8
    have hS9 := hS8.kept0 kd
    have hY9 := hY8.kept kd (by simp)
    have hlt6 := fun k (hm : k ∈ F6.l) => (hS8.lt k hm).2
    clear hS8 hY8 hS6 hS7 hY6 hY7
    refine wp_region_held_drew (S := fun W => (W.cell? ⟨F.o, 1, none⟩ = some (.int .u32 (t0.my : Int)) ∧ W.cell? ⟨F.o, 2, none⟩ = some (.int .u32 (t0.peer : Int)) ∧ W.cell? ⟨F.o, 3, none⟩ = some (.pointer (some ⟨F6.g, 0, none⟩)) ∧ W.cell? ⟨F.o, 4, none⟩ = some (.pointer (some ⟨F6.i, 0, none⟩))) ∧ y.In W w2.heap.size) (by kernel_rfl) (hSS _ t0 hS9 rfl rfl hY9) (fun hP => ?_)
    have hH := hP
    clear hP
    refine wpAnyH_take (i := 0) (oi := ⟨some 68, _, _, _, _, _⟩) (v := (.pointer (some ⟨F.o, 0, none⟩))) rfl (by kernel_rfl) (by kernel_rfl) (by kernel_rfl) (fun _ _ _ h => h) (Or.inl ⟨by rfl, fun W hSw => by go_simp⟩) hH ?_
    try simp only [Act.put, List.setIfInBounds_toArray, List.set_cons_zero, List.set_cons_succ]
    refine wpAnyH_take (i := 1) (oi := ⟨some 69, _, _, _, _, _⟩) (v := (.pointer (some ⟨F.o, 0, none⟩))) rfl (by kernel_rfl) (by kernel_rfl) (by kernel_rfl) (fun _ _ _ h => h) (Or.inl ⟨by rfl, fun W hSw => by go_simp⟩) hH ?_
    try simp only [Act.put, List.setIfInBounds_toArray, List.set_cons_zero, List.set_cons_succ]
    refine wpAnyH_take (i := 2) (oi := ⟨some 70, _, _, _, _, _⟩) (v := (.pointer (some ⟨F.o, 1, none⟩))) rfl (by kernel_rfl) (by kernel_rfl) (by kernel_rfl) (fun _ _ _ h => h) (Or.inl ⟨by rfl, fun W hSw => by go_simp⟩) hH ?_
    try simp only [Act.put, List.setIfInBounds_toArray, List.set_cons_zero, List.set_cons_succ]
    refine wpAnyH_take (i := 3) (oi := ⟨some 71, _, _, _, _, _⟩) (v := (.agg #[.int .u32 (t0.my : Int), .int .u32 (t0.peer : Int), .pointer (some ⟨F6.g, 0, none⟩), .pointer (some ⟨F6.i, 0, none⟩)])) rfl (by kernel_rfl) (by kernel_rfl) (by kernel_rfl) (fun _ _ _ h => h) (Or.inl ⟨by rfl, fun W hSw => by obtain ⟨⟨c1, c2, c3, c4⟩, hYw⟩ := hSw; obtain ⟨y0, y1, y2, y3, y4, y5⟩ := Pv.In.six hYw; go_simp⟩) hH ?_
    try simp only [Act.put, List.setIfInBounds_toArray, List.set_cons_zero, List.set_cons_succ]
    refine wpAnyH_take (i := 4) (oi := ⟨some 72, _, _, _, _, _⟩) (v := (.agg #[.int .u32 (y.f : Int), .int .u32 (y.t : Int), .int .i64 y.k, .int .i64 y.s, .int .i64 y.a, .slice y.sa y.len y.cap])) rfl (by kernel_rfl) (by kernel_rfl) (by kernel_rfl) (fun _ _ _ h => h) (Or.inl ⟨by rfl, fun W hSw => by obtain ⟨⟨c1, c2, c3, c4⟩, hYw⟩ := hSw; obtain ⟨y0, y1, y2, y3, y4, y5⟩ := Pv.In.six hYw; go_simp⟩) hH ?_
    try simp only [Act.put, List.setIfInBounds_toArray, List.set_cons_zero, List.set_cons_succ]
    refine wpAnyH_ready (rs := [5, 9]) (by kernel_rfl) (by simp) ?_
    refine AllReadyH.cons (o := ⟨some 73, _, _, _, _, _⟩) rfl (fun KK hKK => ?_) (AllReadyH.cons (o := ⟨some 9, _, _, _, _, _⟩) rfl (fun KK hKK => ?_) AllReadyH.nil)
    · go_simp
      refine (qo _ hS9).mono ?_
      rintro e w10 ⟨v10, sb, lb, cb, rfl, hx1, hx2, hO10⟩
      obtain ⟨P10, hT10⟩ := hO10.told
      obtain ⟨sl, cl, rfl⟩ := hT10.row.form
      have hY10 := (hY9).kept hO10.kept fY
      go_wp2_with fail
      have hH1 := hSS _ _ hO10.at' e1.out e2.out hY10
      refine hKK.out _ _ hH1 (fun _ => ?_)
      replace hH := hH1
      clear hKK KK hH1
      try simp only [Act.put, List.setIfInBounds_toArray, List.set_cons_zero, List.set_cons_succ]
      refine wpAnyH_take (i := 6) (oi := ⟨some 67, _, _, _, _, _⟩) (v := (.tuple #[.agg #[.bool false, .bool (opHas t0 PM), .slice sb lb cb], .slice sl P10.length cl])) rfl (by kernel_rfl) (by kernel_rfl) (by kernel_rfl) (fun _ _ _ h => h) (Or.inl ⟨by rfl, fun W hSw => by go_simp⟩) hH ?_
      try simp only [Act.put, List.setIfInBounds_toArray, List.set_cons_zero, List.set_cons_succ]
      refine wpAnyH_take (i := 7) (oi := ⟨some 74, _, _, _, _, _⟩) (v := (.agg #[.bool false, .bool (opHas t0 PM), .slice sb lb cb])) rfl (by kernel_rfl) (by kernel_rfl) (by kernel_rfl) (fun _ _ _ h => h) (Or.inl ⟨by rfl, fun W hSw => by go_simp⟩) hH ?_
      try simp only [Act.put, List.setIfInBounds_toArray, List.set_cons_zero, List.set_cons_succ]
      refine wpAnyH_take (i := 8) (oi := ⟨some 75, _, _, _, _, _⟩) (v := (.slice sl P10.length cl)) rfl (by kernel_rfl) (by kernel_rfl) (by kernel_rfl) (fun _ _ _ h => h) (Or.inl ⟨by rfl, fun W hSw => by go_simp⟩) hH ?_
      try simp only [Act.put, List.setIfInBounds_toArray, List.set_cons_zero, List.set_cons_succ]
      refine wpAnyH_ready (rs := [9]) (by kernel_rfl) (by simp) ?_
      refine AllReadyH.cons (o := ⟨some 9, _, _, _, _, _⟩) rfl (fun KK hKK => ?_) AllReadyH.nil
      go_simp
      have hH1 := hSS _ _ (hO10.at'.kept0 (kept_alloc [] w10 (.cells #[.bool false, .bool false, .slice none 0 0] 41))) e1.out e2.out (hY10.kept (kept_alloc [] w10 (.cells #[.bool false, .bool false, .slice none 0 0] 41)) (by simp))
      refine hKK.out _ _ hH1 (fun _ => ?_)
      replace hH := hH1
      clear hKK KK hH1
      try simp only [Act.put, List.setIfInBounds_toArray, List.set_cons_zero, List.set_cons_succ]
      have kX := kept_alloc [] w10 (.cells #[.bool false, .bool false, .slice none 0 0] 41)
      have hGb := blk_new w10 41 #[.bool false, .bool false, .slice none 0 0]
      have hT11 := hT10.kept0 kX
      have hS11 := hO10.at'.kept0 kX
      have hY11 := hY10.kept kX (by simp)
      have k11 : Kept F6.l w8 (w10.alloc (.cells #[.bool false, .bool false, .slice none 0 0] 41)) := (kd.mono (by simp)).trans (hO10.kept.trans (kX.mono (by simp)))
      have hge : w8.heap.size ≤ w10.heap.size := hO10.kept.size
      refine wpAnyH_ready (rs := [10]) (by kernel_rfl) (by simp) ?_
      refine AllReadyH.cons (o := ⟨none, _, _, _, _, _⟩) rfl (fun KK hKK => ?_) AllReadyH.nil
      refine step_store_part rfl 41 (.tmp 9) (.tmp 74) rfl w10.heap.size 41 [] [.bool false, .bool false, .slice none 0 0] [] [.bool false, .bool (opHas t0 PM), .slice sb lb cb] 0 rfl (by simp [Act.eval]) (by simp [Act.eval]) hGb rfl Try.sizeGot (by simp [Value.oneCell']) ?_
      intro w12 hb12 hk12 hz12
      have nb12 : NoByt [w10.heap.size] _ := NoByt.cons (Outbox.noByt_nil _) hGb (by decide)
      have nr12 : NoRow [w10.heap.size] _ := NoRow.cons (noRow_nil _) hGb (by decide)
      have hfree : ∀ k ∈ F6.l, k ∉ [w10.heap.size] := fun k hm e => by
        rw [List.mem_singleton] at e
        have := hlt6 k hm
        omega
      have hS12 := hS11.kept hk12 hfree nb12
      have hY12 := hY11.kept hk12 (by
        simp
        intro e
        exact blk_ne hY11 hGb (by decide) e)
      have hH1 := hSS _ _ hS12 e1.out e2.out hY12
      refine hKK.out _ _ hH1 (fun _ => ?_)
      replace hH := hH1
      clear hKK KK hH1
      try simp only [Act.put]
      refine wpAnyH_take (i := 11) (oi := ⟨some 10, _, _, _, _, _⟩) (v := (.slice sl P10.length cl)) rfl (by kernel_rfl) (by kernel_rfl) (by kernel_rfl) (fun _ _ _ h => h) (Or.inl ⟨by rfl, fun W hSw => by go_simp⟩) hH ?_
      try simp only [Act.put, List.setIfInBounds_toArray, List.set_cons_zero, List.set_cons_succ]
      refine wpAnyH_done (by kernel_rfl) ?_ _
      go_wp2_with fail
      go_meet
      exact ⟨_, P10, sl, cl, sb, lb, cb, rfl, rfl, hb12, hx1, hx2, (hT11.keptT hk12 nb12 nr12).lower (Nat.le_refl _), hS12, hge, k11.young (hk12.mono (by simp)) hge⟩
    · go_simp
      have kX := kept_alloc [] w8.drew (.cells #[.bool false, .bool false, .slice none 0 0] 41)
      have hH1 := hSS _ _ (hS9.kept0 kX) rfl rfl (hY9.kept kX (by simp))
      refine hKK.out _ _ hH1 (fun _ => ?_)
      replace hH := hH1
      clear hKK KK hH1
      have hGb0 := blk_new w8.drew 41 #[.bool false, .bool false, .slice none 0 0]
      have fG : w8.drew.heap.size ∉ F6.l := fun hm => by have := hlt6 _ hm; exact Nat.lt_irrefl _ this
      try simp only [Act.put, List.setIfInBounds_toArray, List.set_cons_zero, List.set_cons_succ]
      refine wpAnyH_ready (rs := [5]) (by kernel_rfl) (by simp) ?_
      refine AllReadyH.cons (o := ⟨some 73, _, _, _, _, _⟩) rfl (fun KK hKK => ?_) AllReadyH.nil
      go_simp
      refine (qo _ (hS9.kept0 kX)).mono ?_
      rintro e w10 ⟨v10, sb, lb, cb, rfl, hx1, hx2, hO10⟩
      obtain ⟨P10, hT10⟩ := hO10.told
      obtain ⟨sl, cl, rfl⟩ := hT10.row.form
      have hY10 := (hY9.kept kX (by simp)).kept hO10.kept fY
      go_wp2_with fail
      have hH1 := hSS _ _ hO10.at' e1.out e2.out hY10
      refine hKK.out _ _ hH1 (fun _ => ?_)
      replace hH := hH1
      clear hKK KK hH1
      try simp only [Act.put, List.setIfInBounds_toArray, List.set_cons_zero, List.set_cons_succ]
      refine wpAnyH_take (i := 6) (oi := ⟨some 67, _, _, _, _, _⟩) (v := (.tuple #[.agg #[.bool false, .bool (opHas t0 PM), .slice sb lb cb], .slice sl P10.length cl])) rfl (by kernel_rfl) (by kernel_rfl) (by kernel_rfl) (fun _ _ _ h => h) (Or.inl ⟨by rfl, fun W hSw => by go_simp⟩) hH ?_
      try simp only [Act.put, List.setIfInBounds_toArray, List.set_cons_zero, List.set_cons_succ]
      refine wpAnyH_take (i := 7) (oi := ⟨some 74, _, _, _, _, _⟩) (v := (.agg #[.bool false, .bool (opHas t0 PM), .slice sb lb cb])) rfl (by kernel_rfl) (by kernel_rfl) (by kernel_rfl) (fun _ _ _ h => h) (Or.inl ⟨by rfl, fun W hSw => by go_simp⟩) hH ?_
      try simp only [Act.put, List.setIfInBounds_toArray, List.set_cons_zero, List.set_cons_succ]
      refine wpAnyH_take (i := 8) (oi := ⟨some 75, _, _, _, _, _⟩) (v := (.slice sl P10.length cl)) rfl (by kernel_rfl) (by kernel_rfl) (by kernel_rfl) (fun _ _ _ h => h) (Or.inl ⟨by rfl, fun W hSw => by go_simp⟩) hH ?_
      try simp only [Act.put, List.setIfInBounds_toArray, List.set_cons_zero, List.set_cons_succ]
      have hGb := hGb0.kept hO10.kept fG
      have hT11 := hT10
      have hS11 := hO10.at'
      have hY11 := hY10
      have k11 : Kept F6.l w8 w10 := (kd.mono (by simp)).trans ((kX.mono (by simp)).trans hO10.kept)
      have hge : w8.heap.size ≤ w8.drew.heap.size := Nat.le_refl _
      refine wpAnyH_ready (rs := [10]) (by kernel_rfl) (by simp) ?_
      refine AllReadyH.cons (o := ⟨none, _, _, _, _, _⟩) rfl (fun KK hKK => ?_) AllReadyH.nil
      refine step_store_part rfl 41 (.tmp 9) (.tmp 74) rfl w8.drew.heap.size 41 [] [.bool false, .bool false, .slice none 0 0] [] [.bool false, .bool (opHas t0 PM), .slice sb lb cb] 0 rfl (by simp [Act.eval]) (by simp [Act.eval]) hGb rfl Try.sizeGot (by simp [Value.oneCell']) ?_
      intro w12 hb12 hk12 hz12
      have nb12 : NoByt [w8.drew.heap.size] _ := NoByt.cons (Outbox.noByt_nil _) hGb (by decide)
      have nr12 : NoRow [w8.drew.heap.size] _ := NoRow.cons (noRow_nil _) hGb (by decide)
      have hfree : ∀ k ∈ F6.l, k ∉ [w8.drew.heap.size] := fun k hm e => by
        rw [List.mem_singleton] at e
        have := hlt6 k hm
        omega
      have hS12 := hS11.kept hk12 hfree nb12
      have hY12 := hY11.kept hk12 (by
        simp
        intro e
        exact blk_ne hY11 hGb (by decide) e)
      have hH1 := hSS _ _ hS12 e1.out e2.out hY12
      refine hKK.out _ _ hH1 (fun _ => ?_)
      replace hH := hH1
      clear hKK KK hH1
      try simp only [Act.put]
      refine wpAnyH_take (i := 11) (oi := ⟨some 10, _, _, _, _, _⟩) (v := (.slice sl P10.length cl)) rfl (by kernel_rfl) (by kernel_rfl) (by kernel_rfl) (fun _ _ _ h => h) (Or.inl ⟨by rfl, fun W hSw => by go_simp⟩) hH ?_
      try simp only [Act.put, List.setIfInBounds_toArray, List.set_cons_zero, List.set_cons_succ]
      refine wpAnyH_done (by kernel_rfl) ?_ _
      go_wp2_with fail
      go_meet
      exact ⟨_, P10, sl, cl, sb, lb, cb, rfl, rfl, hb12, hx1, hx2, (hT11.keptT hk12 nb12 nr12).lower (Nat.le_trans (Nat.le_refl _) kX.size), hS12, hge, k11.young (hk12.mono (by simp)) hge⟩
  case rest =>
    obtain ⟨gg, PP, sl, cl, sb, lb, cb, rfl, rfl, hB, hx1, hx2, hTc, hSc, hge, hkc⟩ := hcut
    have hlt6 := fun k (hm : k ∈ F6.l) => (hS8.lt k hm).2
    have fA : w.heap.size ∉ F6.l := fun hm => by
      rcases hnew _ hm with h1 | h1
      · have := hlt _ h1
        omega
      · omega
    have hAc := hA8.kept hkc fA
    have hbc := hb8.kept (Nat.le_trans (Nat.le_trans z25 z7) hk8s) hkc (by
      intro k hm
      rcases hnew k hm with h1 | h1
      · have := hlt _ h1
        exact .inl (by omega)
      · exact .inr h1)
    have hkcs := hkc.size
    have hwg : w.heap.size ≠ gg := by omega
    have fg : ∀ k ∈ F6.l, k ∉ [gg] := fun k hm e => by
      rw [List.mem_singleton] at e
      have := hlt6 k hm
      omega
    have fw : ∀ k ∈ F6.l, k ∉ [w.heap.size] := fun k hm e => by
      rw [List.mem_singleton] at e
      subst e
      exact fA hm
    go_wp2_with (first
      | (refine Wire.wpList_store_cell rfl 4 _ _ rfl gg 0 41 _ (.bool false) rfl rfl hB (by simp) Wire.Try.sizeF rfl ?_; intro w10 hb10 hk10; simp only [List.setIfInBounds_toArray, List.set_cons_zero] at hb10; have g0 : w10.cell? ⟨gg, 0, none⟩ = some (.bool false) := (hb10.cell 0).trans rfl; have g1 : w10.cell? ⟨gg, 1, none⟩ = some (.bool (opHas t0 PM)) := (hb10.cell 1).trans rfl; have g2 : w10.cell? ⟨gg, 2, none⟩ = some (.slice sb lb cb) := (hb10.cell 2).trans rfl)
      | (refine wpList_store_blk rfl 41 _ _ rfl w.heap.size 41 _ [.bool false, .bool (opHas t0 PM), .slice sb lb cb] rfl rfl (hAc.kept hk10 (by simpa using hwg)) rfl Try.sizeGot (by simp [Value.oneCell']) ?_; intro w9 hb9 hk9 hz9))
    refine bodyPost_ret (Wire.results_row_tmp rfl _ _ w.heap.size _ rfl (run_loadVar_row (P := Try.prog) w9 w.heap.size 41 41 _ (0, 0) _ hb9 Try.underlying41 rfl Try.sizeGot)) rfl ?_
    have hA10 := hAc.kept hk10 (by simpa using hwg)
    have nb10 : NoByt [gg] wc := NoByt.cons (Outbox.noByt_nil _) hB (by decide)
    have nr10 : NoRow [gg] wc := NoRow.cons (noRow_nil _) hB (by decide)
    have nb9 : NoByt [w.heap.size] w10 := NoByt.cons (Outbox.noByt_nil _) hA10 (by decide)
    have nr9 : NoRow [w.heap.size] w10 := NoRow.cons (noRow_nil _) hA10 (by decide)
    have kjs := kJ.size
    refine ⟨.slice sl PP.length cl, PP, F6, sb, lb, cb, rfl, ?_, ((hTc.keptT hk10 nb10 nr10).keptT hk9 nb9 nr9).lower kjs, ((hSc.kept hk10 fg nb10).kept hk9 fw nb9), hFo, ?_, fun k hm => (hnew k hm).imp id (fun h => by omega)⟩
    · intro KX hKX
      have hbd := (hbc.kept (Nat.le_trans (Nat.le_trans (Nat.le_trans z25 z7) hk8s) hkcs) hk10 (by
        intro k hm
        rw [List.mem_singleton] at hm
        exact .inr (by omega))).kept (Nat.le_trans (Nat.le_trans (Nat.le_trans (Nat.le_trans z25 z7) hk8s) hkcs) hk10.size) hk9 (by
        intro k hm
        rw [List.mem_singleton] at hm
        exact .inl (by have := hA1lt.out; omega))
      have hd : y.d = PM.d := congrArg Ps.d hy.out
      rw [hd] at hbd
      unfold opB
      cases hh : opHas t0 PM with
      | false =>
        obtain ⟨rfl, rfl, rfl⟩ := hx2 hh
        exact far_nil _ _
      | true =>
        obtain ⟨rfl, rfl, rfl⟩ := hx1 hh
        refine far_range hbd (Nat.le_trans (Nat.le_trans (Nat.le_trans (Nat.le_trans (Nat.le_trans z25 z7) hk8s) hkcs) hk10.size) hk9.size) (fun k hmK => ?_)
        rcases hKX k hmK with hm | hm
        · rcases hnew k hm with h1 | h1
          · have := hlt _ h1
            exact .inl (by have := hA1lt.out; omega)
          · exact .inr h1
        · exact .inl (by have := hA1lt.out; omega)
    · exact Kept.young (g := w.heap.size) (Kept.young (g := gg) (Kept.more kJ hkc (fun k hm => (hnew k hm).imp id (fun h => by omega))) (hk10.mono (by simp)) (by omega)) (hk9.mono (by simp)) (Nat.le_refl _)
set_option maxRecDepth 100000 in
set_option maxHeartbeats 4000000 in
/-- Take, of a new boot, for this one -/
theorem take_new_mine {base : Nat} {F : Foot} {s : Ss} (w : World) (h : SsAt w base F s) (v : Value) (bs : List Nat) (lo hi : Nat) (hv : Wire.ByteRow lo hi w v bs) (hh : hi ≤ w.heap.size) (hlen : bs.length ≤ 1000) (hE : parseE bs = 0) (hN : s.isNew bs = true) (hd : s.deaf bs = false) (hT : ((parseM bs).t = s.my)) (_hs : s.ob.n + s.ob.l.length ≤ 1000000) (_hb : ∀ b ∈ s.ob.l, b.length ≤ 1000) (hbw : base ≤ w.heap.size) :
    Calls Try.prog 10 #[.pointer (some ⟨F.o, 0, none⟩), v] w fun e w' => ∃ v P F' sb lb cb, e = .returned (.tuple #[.agg #[.bool true, .bool (opHas { (s.turned bs) with age := 0 } (parseM bs)), .slice sb lb cb], v]) ∧ (∀ K : List Nat, (∀ k ∈ K, k ∈ F'.l ∨ k < w.heap.size) → Far K w' ⟨sb, lb, cb, opB { (s.turned bs) with age := 0 } (parseM bs)⟩) ∧ Told w.heap.size w' v P (opL { (s.turned bs) with age := 0 } (parseM bs)) ∧ After w base F F' (opS { (s.turned bs) with age := 0 } (parseM bs)) w' := by
  have kA := kept_alloc [] w (.cells #[.bool false, .bool false, .slice none 0 0] 41)
  have hA := blk_new w 41 #[.bool false, .bool false, .slice none 0 0]
  obtain ⟨W1, hW1⟩ : ∃ W1, w.alloc (.cells #[.bool false, .bool false, .slice none 0 0] 41) = W1 := ⟨_, rfl⟩
  rw [hW1] at kA hA
  have hS1 := h.kept0 kA
  have hA1lt : Hid (w.heap.size < W1.heap.size) := hA.lt
  have q := made_any W1 hS1
  have qp := Wire.parse_any v bs lo hi W1 (hv.kept hh kA (by simp)) (Nat.le_trans hh kA.size) (by omega)
  obtain ⟨sa, z, cap, rfl, -⟩ := Wire.row_of (hv.at hh)
  rw [hE] at qp
  have hf0 : ¬ (((parseM bs).f : Int) < (s.peer : Int)) := by
    unfold Ss.deaf at hd
    simp at hd
    omega
  have hf1 : ((s.peer : Int) < ((parseM bs).f : Int)) := by
    unfold Ss.isNew at hN
    rw [hd] at hN
    simp at hN
    omega
  have hto : (((parseM bs).t : Int) != (s.my : Int)) = false := by
    simp
    omega
  have hturn : Hid (s.turned bs = { s with peer := (parseM bs).f, ob := Outbox.made s.ob.w, last := 0, age := 0 }) := by
    show _ = _
    unfold Ss.turned
    rw [hN]
    rfl
  clear hE hN hd hT
  generalize parseM bs = PM at *
  obtain ⟨t, ht⟩ : ∃ t, Hid (s.turned bs = t) := ⟨_, rfl⟩
  rw [ht.out] at hturn ⊢
  clear ht
  have zA := kA.size
  obtain ⟨t0, ht0⟩ : ∃ t0 : Ss, Hid (Ss.mk t.my t.peer t.ob t.last t.pat 0 = t0) := ⟨_, rfl⟩
  rw [ht0.out]
  go_enter Try.func10, Try.ntmps10
  go_wp2_with (first
    | (go_at_call 20; refine q.mono ?_; rintro e W1 ⟨rfl, rfl⟩)
    | (go_at_call 28; refine qp.mono ?_; rintro e w2 ⟨y, rfl, hy, hyA, hk2⟩; have ef : y.f = PM.f := congrArg Ps.f hy; have et : y.t = PM.t := congrArg Ps.t hy; rw [← ef] at hf0 hf1 hturn; rw [← et] at hto; clear ef et; replace hy : Hid _ := hy)
    | (refine wpList_store_blk rfl 47 _ _ rfl w2.heap.size 47 _ [.int .u32 (y.f : Int), .int .u32 (y.t : Int), .int .i64 y.k, .int .i64 y.s, .int .i64 y.a, .slice y.sa y.len y.cap] rfl rfl (blk_new w2 47 #[.int .u32 0, .int .u32 0, .int .i64 0, .int .i64 0, .int .i64 0, .slice none 0 0]) rfl Wire.Try.sizeP (by simp [Value.oneCell']) ?_; intro w3 hb3 hk3 hz3))
  have kB := kept_alloc [] w2 (.cells #[.int .u32 0, .int .u32 0, .int .i64 0, .int .i64 0, .int .i64 0, .slice none 0 0] 47)
  have kC : Kept [] w2 w3 := kB.young hk3 (Nat.le_refl _)
  have hS3 := hS1.kept0 (hk2.trans kC)
  have hY3 : y.In w3 w2.heap.size := hb3
  have hA3 := hA.kept (hk2.trans kC) (by simp)
  have kD := kA.trans (hk2.trans kC)
  have z23 : w2.heap.size < w3.heap.size := hY3.lt
  clear kA qp q hW1 hS1 hA hb3 hk3 hz3 kB
  have c := fun n => (hS3.kept0 (kept_drewN [] w3 n)).six
  have u := fun n => (hY3.kept (kept_drewN [] w3 n) (by simp)).six
  go_quiet (fail)
  have kq_w4 := kept_drewN [] w3 nq
  obtain ⟨w4, hq_w4⟩ : ∃ w4, w3.drewN nq = w4 := ⟨_, rfl⟩
  rw [hq_w4] at kq_w4 ⊢
  clear hq_w4 c u nq
  have hS4 := hS3.kept0 kq_w4
  have hY4 := hY3.kept kq_w4 (by simp)
  have hA4 := hA3.kept kq_w4 (by simp)
  go_wp2_with fail
  have c := fun n => (hS4.kept0 (kept_drewN [] w4 n)).six
  have u := fun n => (hY4.kept (kept_drewN [] w4 n) (by simp)).six
  go_quiet (fail)
  have kq_w5 := kept_drewN [] w4 nq
  obtain ⟨w5, hq_w5⟩ : ∃ w5, w4.drewN nq = w5 := ⟨_, rfl⟩
  rw [hq_w5] at kq_w5 ⊢
  clear hq_w5 c u nq
  have hS5 := hS4.kept0 kq_w5
  have hY5 := hY4.kept kq_w5 (by simp)
  have hA5 := hA4.kept kq_w5 (by simp)
  have kE : Kept [] w w5 := (kD.trans kq_w4).trans kq_w5
  have z25 : w2.heap.size ≤ w5.heap.size := Nat.le_trans (Nat.le_trans kC.size kq_w4.size) kq_w5.size
  have zy := hY5.lt
  have za := hA5.lt
  have zw : w.heap.size < w2.heap.size := Nat.lt_of_lt_of_le (show w.heap.size < W1.heap.size from hA1lt.out) hk2.size
  have hlt := fun k (hm : k ∈ F.l) => (h.lt k hm).2
  have qm := meet_any y.f hyA.f w5 hS5 (Nat.le_trans hbw kE.size)
  obtain ⟨d0, d1, d2, d3, d4, d5⟩ := hS5.six
  obtain ⟨y0, y1, y2, y3, y4, y5⟩ := hY5.six
  go_wp2_with (go_at_call 29; refine qm.mono ?_; rintro e w6 ⟨g, i, rfl, hS6, hg6, hi6, hk6⟩)
  clear d0 d1 d2 d3 d4 d5 y0 y1 y2 y3 y4 y5
  rw [← hturn.out] at hS6
  have fo : F.o ∈ F.l := by simp [Foot.l]
  have fk : F.k ∈ F.l := by simp [Foot.l]
  have n1 := hlt _ fo
  have n2 := hlt _ fk
  have hY6 := hY5.kept hk6 (by simp; omega)
  have hA6 := hA5.kept hk6 (by simp; omega)
  have kF : Kept F.l w w6 := (kE.mono (by simp)).trans (hk6.mono (by simp [fo, fk]))
  have hb6 := hyA.row.kept (Nat.le_refl _) (kC.trans (kq_w4.trans kq_w5)) (by simp)
  replace hb6 := hb6.kept z25 hk6 (by intro k hm; simp at hm; left; have : W1.heap.size ≥ w.heap.size := zA; omega)
  have hnew := foot_none (F := F) hg6 hi6
  replace hnew : ∀ k ∈ (Foot.mk F.o g i F.k none).l, k ∈ F.l ∨ w2.heap.size ≤ k := fun k hm => (hnew k hm).imp id (fun h => by omega)
  have hs6 : t.ob.n + t.ob.l.length ≤ 1000000 := by rw [hturn.out]; show 1 + 0 ≤ _; omega
  have hb6' : ∀ b ∈ t.ob.l, b.length ≤ 1000 := by rw [hturn.out]; intro b hm; cases hm
  have hmy : t.my = s.my := by rw [hturn.out]
  rw [← hmy] at hto
  have hFo : (Foot.mk F.o g i F.k none).o = F.o := rfl
  obtain ⟨F6, hF6⟩ : ∃ F6, Foot.mk F.o g i F.k none = F6 := ⟨_, rfl⟩
  rw [hF6] at hS6 hnew hFo
  have hk6s := hk6.size
  clear hF6 hg6 hi6 hk6 qm hmy
  clear hS3 hS4 hS5 hY3 hY4 hY5 hA3 hA4 hA5 kD kq_w4 kq_w5 _hs _hb hv h hf0 hf1
  have c := fun n => (hS6.kept0 (kept_drewN [] w6 n)).six
  have u := fun n => (hY6.kept (kept_drewN [] w6 n) (by simp)).six
  rw [hFo] at c
  go_quiet (fail)
  have kq_w7 := kept_drewN [] w6 nq
  obtain ⟨w7, hq_w7⟩ : ∃ w7, w6.drewN nq = w7 := ⟨_, rfl⟩
  rw [hq_w7] at kq_w7 ⊢
  clear hq_w7 c u nq
  have hS7 := hS6.kept0 kq_w7
  have hY7 := hY6.kept kq_w7 (by simp)
  have hA7 := hA6.kept kq_w7 (by simp)
  have kG : Kept F.l w w7 := kF.trans (kq_w7.mono (by simp))
  have z7 := kq_w7.size
  have hb7 := hb6.kept (Nat.le_trans z25 hk6s) kq_w7 (by simp)
  obtain ⟨d0, d1, d2, d3, d4, d5⟩ := hS7.six
  rw [hFo] at d0 d1 d2 d3 d4 d5
  have qh := Keep.heard_any w7 hS7.kp
  go_wp2_with (go_at_call 30; refine qh.mono ?_; rintro e w8 ⟨rfl, hK8, hk8⟩)
  clear d0 d1 d2 d3 d4 d5 qh
  have hS8 := hS7.keep 0 hK8 hk8
  have fk8 : F6.k ∈ F6.l := by simp [Foot.l]
  have nk8 := hnew _ fk8
  have hY8 : y.In w8 w2.heap.size := hY7.kept hk8 (by
    simp
    intro e
    exact blk_ne hY7 hS7.kp.1 (by decide) e)
  have hA8 := hA7.kept hk8 (by
    simp
    intro e
    exact blk_ne hA7 hS7.kp.1 (by decide) e)
  have hk8s := hk8.size
  have kJ : Kept F.l w w8 := Kept.more kG hk8 (fun k hm => by
    rw [List.mem_singleton] at hm
    subst hm
    exact nk8.imp id (fun h => by omega))
  have hb8 := hb7.kept (Nat.le_trans (Nat.le_trans z25 hk6s) z7) hk8 (by
    intro k hm
    rw [List.mem_singleton] at hm
    subst hm
    rcases nk8 with h1 | h1
    · have := hlt _ h1
      exact .inl (by omega)
    · exact .inr h1)
  rw [ht0.out] at hS8
  have hs8 : t0.ob.n + t0.ob.l.length ≤ 1000000 := by rw [← ht0.out]; exact hs6
  have hb8' : ∀ b ∈ t0.ob.l, b.length ≤ 1000 := by rw [← ht0.out]; exact hb6'
  have qo := fun A (hA : SsAt A base F6 t0) => open_any y A hA hs8 hb8'
  rw [hy.out] at qo
  obtain ⟨e1, e2⟩ := opS_is t0 PM
  replace e1 : Hid _ := e1
  replace e2 : Hid _ := e2
  have fY : w2.heap.size ∉ F6.l := fun hm => by
    obtain ⟨v', P', h1', h2', _⟩ := hS8.out.blk
    simp only [Foot.l, List.mem_cons] at hm
    rcases hm with e | e | e | e | e
    · exact blk_ne hY8 hS8.blk (by decide) e
    · exact blk_ne hY8 h1' (by decide) e
    · exact blk_ne hY8 hS8.inn.1 (by decide) e
    · exact blk_ne hY8 hS8.kp.1 (by decide) e
    · obtain ⟨_, _, cur, hc⟩ := h2'.low w2.heap.size (by simpa using e)
      exact blk_ne hY8 hc (by decide) rfl
  go_cut [9, 10] from 67 to 75 (fun pg pl A => ∃ g P sl cl sb lb cb, pg = .pointer (some ⟨g, 0, none⟩) ∧ pl = .slice sl P.length cl ∧ Blk A g 41 #[.bool false, .bool (opHas t0 PM), .slice sb lb cb] ∧ (opHas t0 PM = true → sb = y.sa ∧ lb = y.len ∧ cb = y.cap) ∧ (opHas t0 PM = false → sb = none ∧ lb = 0 ∧ cb = 0) ∧ Told w8.heap.size A (.slice sl P.length cl) P (opL t0 PM) ∧ SsAt A base F6 (opS t0 PM) ∧ w8.heap.size ≤ g ∧ Kept F6.l w8 A)
  case first =>
    have hSS : ∀ (A : World) (s' : Ss), SsAt A base F6 s' → s'.my = t0.my → s'.peer = t0.peer → y.In A w2.heap.size → (A.cell? ⟨F.o, 1, none⟩ = some (.int .u32 (t0.my : Int)) ∧ A.cell? ⟨F.o, 2, none⟩ = some (.int .u32 (t0.peer : Int)) ∧ A.cell? ⟨F.o, 3, none⟩ = some (.pointer (some ⟨F6.g, 0, none⟩)) ∧ A.cell? ⟨F.o, 4, none⟩ = some (.pointer (some ⟨F6.i, 0, none⟩))) ∧ y.In A w2.heap.size := fun A s' hA a1 a2 a3 => by
      obtain ⟨d0, d1, d2, d3, d4, d5⟩ := hA.six
      rw [hFo] at d1 d2 d3 d4
      rw [a1] at d1
      rw [a2] at d2
      exact ⟨⟨d1, d2, d3, d4⟩, a3⟩
    have kd := kept_drew [] w8
    have hS9 := hS8.kept0 kd
    have hY9 := hY8.kept kd (by simp)
    have hlt6 := fun k (hm : k ∈ F6.l) => (hS8.lt k hm).2
    clear hS8 hY8 hS6 hS7 hY6 hY7
    refine wp_region_held_drew (S := fun W => (W.cell? ⟨F.o, 1, none⟩ = some (.int .u32 (t0.my : Int)) ∧ W.cell? ⟨F.o, 2, none⟩ = some (.int .u32 (t0.peer : Int)) ∧ W.cell? ⟨F.o, 3, none⟩ = some (.pointer (some ⟨F6.g, 0, none⟩)) ∧ W.cell? ⟨F.o, 4, none⟩ = some (.pointer (some ⟨F6.i, 0, none⟩))) ∧ y.In W w2.heap.size) (by kernel_rfl) (hSS _ t0 hS9 rfl rfl hY9) (fun hP => ?_)
    have hH := hP
    clear hP
    refine wpAnyH_take (i := 0) (oi := ⟨some 68, _, _, _, _, _⟩) (v := (.pointer (some ⟨F.o, 0, none⟩))) rfl (by kernel_rfl) (by kernel_rfl) (by kernel_rfl) (fun _ _ _ h => h) (Or.inl ⟨by rfl, fun W hSw => by go_simp⟩) hH ?_
    try simp only [Act.put, List.setIfInBounds_toArray, List.set_cons_zero, List.set_cons_succ]
    refine wpAnyH_take (i := 1) (oi := ⟨some 69, _, _, _, _, _⟩) (v := (.pointer (some ⟨F.o, 0, none⟩))) rfl (by kernel_rfl) (by kernel_rfl) (by kernel_rfl) (fun _ _ _ h => h) (Or.inl ⟨by rfl, fun W hSw => by go_simp⟩) hH ?_
    try simp only [Act.put, List.setIfInBounds_toArray, List.set_cons_zero, List.set_cons_succ]
    refine wpAnyH_take (i := 2) (oi := ⟨some 70, _, _, _, _, _⟩) (v := (.pointer (some ⟨F.o, 1, none⟩))) rfl (by kernel_rfl) (by kernel_rfl) (by kernel_rfl) (fun _ _ _ h => h) (Or.inl ⟨by rfl, fun W hSw => by go_simp⟩) hH ?_
    try simp only [Act.put, List.setIfInBounds_toArray, List.set_cons_zero, List.set_cons_succ]
    refine wpAnyH_take (i := 3) (oi := ⟨some 71, _, _, _, _, _⟩) (v := (.agg #[.int .u32 (t0.my : Int), .int .u32 (t0.peer : Int), .pointer (some ⟨F6.g, 0, none⟩), .pointer (some ⟨F6.i, 0, none⟩)])) rfl (by kernel_rfl) (by kernel_rfl) (by kernel_rfl) (fun _ _ _ h => h) (Or.inl ⟨by rfl, fun W hSw => by obtain ⟨⟨c1, c2, c3, c4⟩, hYw⟩ := hSw; obtain ⟨y0, y1, y2, y3, y4, y5⟩ := Pv.In.six hYw; go_simp⟩) hH ?_
    try simp only [Act.put, List.setIfInBounds_toArray, List.set_cons_zero, List.set_cons_succ]
    refine wpAnyH_take (i := 4) (oi := ⟨some 72, _, _, _, _, _⟩) (v := (.agg #[.int .u32 (y.f : Int), .int .u32 (y.t : Int), .int .i64 y.k, .int .i64 y.s, .int .i64 y.a, .slice y.sa y.len y.cap])) rfl (by kernel_rfl) (by kernel_rfl) (by kernel_rfl) (fun _ _ _ h => h) (Or.inl ⟨by rfl, fun W hSw => by obtain ⟨⟨c1, c2, c3, c4⟩, hYw⟩ := hSw; obtain ⟨y0, y1, y2, y3, y4, y5⟩ := Pv.In.six hYw; go_simp⟩) hH ?_
    try simp only [Act.put, List.setIfInBounds_toArray, List.set_cons_zero, List.set_cons_succ]
    refine wpAnyH_ready (rs := [5, 9]) (by kernel_rfl) (by simp) ?_
    refine AllReadyH.cons (o := ⟨some 73, _, _, _, _, _⟩) rfl (fun KK hKK => ?_) (AllReadyH.cons (o := ⟨some 9, _, _, _, _, _⟩) rfl (fun KK hKK => ?_) AllReadyH.nil)
    · go_simp
      refine (qo _ hS9).mono ?_
      rintro e w10 ⟨v10, sb, lb, cb, rfl, hx1, hx2, hO10⟩
      obtain ⟨P10, hT10⟩ := hO10.told
      obtain ⟨sl, cl, rfl⟩ := hT10.row.form
      have hY10 := (hY9).kept hO10.kept fY
      go_wp2_with fail
      have hH1 := hSS _ _ hO10.at' e1.out e2.out hY10
      refine hKK.out _ _ hH1 (fun _ => ?_)
      replace hH := hH1
      clear hKK KK hH1
      try simp only [Act.put, List.setIfInBounds_toArray, List.set_cons_zero, List.set_cons_succ]
      refine wpAnyH_take (i := 6) (oi := ⟨some 67, _, _, _, _, _⟩) (v := (.tuple #[.agg #[.bool false, .bool (opHas t0 PM), .slice sb lb cb], .slice sl P10.length cl])) rfl (by kernel_rfl) (by kernel_rfl) (by kernel_rfl) (fun _ _ _ h => h) (Or.inl ⟨by rfl, fun W hSw => by go_simp⟩) hH ?_
      try simp only [Act.put, List.setIfInBounds_toArray, List.set_cons_zero, List.set_cons_succ]
      refine wpAnyH_take (i := 7) (oi := ⟨some 74, _, _, _, _, _⟩) (v := (.agg #[.bool false, .bool (opHas t0 PM), .slice sb lb cb])) rfl (by kernel_rfl) (by kernel_rfl) (by kernel_rfl) (fun _ _ _ h => h) (Or.inl ⟨by rfl, fun W hSw => by go_simp⟩) hH ?_
      try simp only [Act.put, List.setIfInBounds_toArray, List.set_cons_zero, List.set_cons_succ]
      refine wpAnyH_take (i := 8) (oi := ⟨some 75, _, _, _, _, _⟩) (v := (.slice sl P10.length cl)) rfl (by kernel_rfl) (by kernel_rfl) (by kernel_rfl) (fun _ _ _ h => h) (Or.inl ⟨by rfl, fun W hSw => by go_simp⟩) hH ?_
      try simp only [Act.put, List.setIfInBounds_toArray, List.set_cons_zero, List.set_cons_succ]
      refine wpAnyH_ready (rs := [9]) (by kernel_rfl) (by simp) ?_
      refine AllReadyH.cons (o := ⟨some 9, _, _, _, _, _⟩) rfl (fun KK hKK => ?_) AllReadyH.nil
      go_simp
      have hH1 := hSS _ _ (hO10.at'.kept0 (kept_alloc [] w10 (.cells #[.bool false, .bool false, .slice none 0 0] 41))) e1.out e2.out (hY10.kept (kept_alloc [] w10 (.cells #[.bool false, .bool false, .slice none 0 0] 41)) (by simp))
      refine hKK.out _ _ hH1 (fun _ => ?_)
      replace hH := hH1
      clear hKK KK hH1
      try simp only [Act.put, List.setIfInBounds_toArray, List.set_cons_zero, List.set_cons_succ]
      have kX := kept_alloc [] w10 (.cells #[.bool false, .bool false, .slice none 0 0] 41)
      have hGb := blk_new w10 41 #[.bool false, .bool false, .slice none 0 0]
      have hT11 := hT10.kept0 kX
      have hS11 := hO10.at'.kept0 kX
      have hY11 := hY10.kept kX (by simp)
      have k11 : Kept F6.l w8 (w10.alloc (.cells #[.bool false, .bool false, .slice none 0 0] 41)) := (kd.mono (by simp)).trans (hO10.kept.trans (kX.mono (by simp)))
      have hge : w8.heap.size ≤ w10.heap.size := hO10.kept.size
      refine wpAnyH_ready (rs := [10]) (by kernel_rfl) (by simp) ?_
      refine AllReadyH.cons (o := ⟨none, _, _, _, _, _⟩) rfl (fun KK hKK => ?_) AllReadyH.nil
      refine step_store_part rfl 41 (.tmp 9) (.tmp 74) rfl w10.heap.size 41 [] [.bool false, .bool false, .slice none 0 0] [] [.bool false, .bool (opHas t0 PM), .slice sb lb cb] 0 rfl (by simp [Act.eval]) (by simp [Act.eval]) hGb rfl Try.sizeGot (by simp [Value.oneCell']) ?_
      intro w12 hb12 hk12 hz12
      have nb12 : NoByt [w10.heap.size] _ := NoByt.cons (Outbox.noByt_nil _) hGb (by decide)
      have nr12 : NoRow [w10.heap.size] _ := NoRow.cons (noRow_nil _) hGb (by decide)
      have hfree : ∀ k ∈ F6.l, k ∉ [w10.heap.size] := fun k hm e => by
        rw [List.mem_singleton] at e
        have := hlt6 k hm
        omega
      have hS12 := hS11.kept hk12 hfree nb12
      have hY12 := hY11.kept hk12 (by
        simp
        intro e
        exact blk_ne hY11 hGb (by decide) e)
      have hH1 := hSS _ _ hS12 e1.out e2.out hY12
      refine hKK.out _ _ hH1 (fun _ => ?_)
      replace hH := hH1
      clear hKK KK hH1
      try simp only [Act.put]
      refine wpAnyH_take (i := 11) (oi := ⟨some 10, _, _, _, _, _⟩) (v := (.slice sl P10.length cl)) rfl (by kernel_rfl) (by kernel_rfl) (by kernel_rfl) (fun _ _ _ h => h) (Or.inl ⟨by rfl, fun W hSw => by go_simp⟩) hH ?_
      try simp only [Act.put, List.setIfInBounds_toArray, List.set_cons_zero, List.set_cons_succ]
      refine wpAnyH_done (by kernel_rfl) ?_ _
      go_wp2_with fail
      go_meet
      exact ⟨_, P10, sl, cl, sb, lb, cb, rfl, rfl, hb12, hx1, hx2, (hT11.keptT hk12 nb12 nr12).lower (Nat.le_refl _), hS12, hge, k11.young (hk12.mono (by simp)) hge⟩
    · go_simp
      have kX := kept_alloc [] w8.drew (.cells #[.bool false, .bool false, .slice none 0 0] 41)
      have hH1 := hSS _ _ (hS9.kept0 kX) rfl rfl (hY9.kept kX (by simp))
      refine hKK.out _ _ hH1 (fun _ => ?_)
      replace hH := hH1
      clear hKK KK hH1
      have hGb0 := blk_new w8.drew 41 #[.bool false, .bool false, .slice none 0 0]
      have fG : w8.drew.heap.size ∉ F6.l := fun hm => by have := hlt6 _ hm; exact Nat.lt_irrefl _ this
      try simp only [Act.put, List.setIfInBounds_toArray, List.set_cons_zero, List.set_cons_succ]
      refine wpAnyH_ready (rs := [5]) (by kernel_rfl) (by simp) ?_
      refine AllReadyH.cons (o := ⟨some 73, _, _, _, _, _⟩) rfl (fun KK hKK => ?_) AllReadyH.nil
      go_simp
      refine (qo _ (hS9.kept0 kX)).mono ?_
      rintro e w10 ⟨v10, sb, lb, cb, rfl, hx1, hx2, hO10⟩
      obtain ⟨P10, hT10⟩ := hO10.told
      obtain ⟨sl, cl, rfl⟩ := hT10.row.form
      have hY10 := (hY9.kept kX (by simp)).kept hO10.kept fY
      go_wp2_with fail
      have hH1 := hSS _ _ hO10.at' e1.out e2.out hY10
      refine hKK.out _ _ hH1 (fun _ => ?_)
      replace hH := hH1
      clear hKK KK hH1
      try simp only [Act.put, List.setIfInBounds_toArray, List.set_cons_zero, List.set_cons_succ]
      refine wpAnyH_take (i := 6) (oi := ⟨some 67, _, _, _, _, _⟩) (v := (.tuple #[.agg #[.bool false, .bool (opHas t0 PM), .slice sb lb cb], .slice sl P10.length cl])) rfl (by kernel_rfl) (by kernel_rfl) (by kernel_rfl) (fun _ _ _ h => h) (Or.inl ⟨by rfl, fun W hSw => by go_simp⟩) hH ?_
      try simp only [Act.put, List.setIfInBounds_toArray, List.set_cons_zero, List.set_cons_succ]
      refine wpAnyH_take (i := 7) (oi := ⟨some 74, _, _, _, _, _⟩) (v := (.agg #[.bool false, .bool (opHas t0 PM), .slice sb lb cb])) rfl (by kernel_rfl) (by kernel_rfl) (by kernel_rfl) (fun _ _ _ h => h) (Or.inl ⟨by rfl, fun W hSw => by go_simp⟩) hH ?_
      try simp only [Act.put, List.setIfInBounds_toArray, List.set_cons_zero, List.set_cons_succ]
      refine wpAnyH_take (i := 8) (oi := ⟨some 75, _, _, _, _, _⟩) (v := (.slice sl P10.length cl)) rfl (by kernel_rfl) (by kernel_rfl) (by kernel_rfl) (fun _ _ _ h => h) (Or.inl ⟨by rfl, fun W hSw => by go_simp⟩) hH ?_
      try simp only [Act.put, List.setIfInBounds_toArray, List.set_cons_zero, List.set_cons_succ]
      have hGb := hGb0.kept hO10.kept fG
      have hT11 := hT10
      have hS11 := hO10.at'
      have hY11 := hY10
      have k11 : Kept F6.l w8 w10 := (kd.mono (by simp)).trans ((kX.mono (by simp)).trans hO10.kept)
      have hge : w8.heap.size ≤ w8.drew.heap.size := Nat.le_refl _
      refine wpAnyH_ready (rs := [10]) (by kernel_rfl) (by simp) ?_
      refine AllReadyH.cons (o := ⟨none, _, _, _, _, _⟩) rfl (fun KK hKK => ?_) AllReadyH.nil
      refine step_store_part rfl 41 (.tmp 9) (.tmp 74) rfl w8.drew.heap.size 41 [] [.bool false, .bool false, .slice none 0 0] [] [.bool false, .bool (opHas t0 PM), .slice sb lb cb] 0 rfl (by simp [Act.eval]) (by simp [Act.eval]) hGb rfl Try.sizeGot (by simp [Value.oneCell']) ?_
      intro w12 hb12 hk12 hz12
      have nb12 : NoByt [w8.drew.heap.size] _ := NoByt.cons (Outbox.noByt_nil _) hGb (by decide)
      have nr12 : NoRow [w8.drew.heap.size] _ := NoRow.cons (noRow_nil _) hGb (by decide)
      have hfree : ∀ k ∈ F6.l, k ∉ [w8.drew.heap.size] := fun k hm e => by
        rw [List.mem_singleton] at e
        have := hlt6 k hm
        omega
      have hS12 := hS11.kept hk12 hfree nb12
      have hY12 := hY11.kept hk12 (by
        simp
        intro e
        exact blk_ne hY11 hGb (by decide) e)
      have hH1 := hSS _ _ hS12 e1.out e2.out hY12
      refine hKK.out _ _ hH1 (fun _ => ?_)
      replace hH := hH1
      clear hKK KK hH1
      try simp only [Act.put]
      refine wpAnyH_take (i := 11) (oi := ⟨some 10, _, _, _, _, _⟩) (v := (.slice sl P10.length cl)) rfl (by kernel_rfl) (by kernel_rfl) (by kernel_rfl) (fun _ _ _ h => h) (Or.inl ⟨by rfl, fun W hSw => by go_simp⟩) hH ?_
      try simp only [Act.put, List.setIfInBounds_toArray, List.set_cons_zero, List.set_cons_succ]
      refine wpAnyH_done (by kernel_rfl) ?_ _
      go_wp2_with fail
      go_meet
      exact ⟨_, P10, sl, cl, sb, lb, cb, rfl, rfl, hb12, hx1, hx2, (hT11.keptT hk12 nb12 nr12).lower (Nat.le_trans (Nat.le_refl _) kX.size), hS12, hge, k11.young (hk12.mono (by simp)) hge⟩
  case rest =>
    obtain ⟨gg, PP, sl, cl, sb, lb, cb, rfl, rfl, hB, hx1, hx2, hTc, hSc, hge, hkc⟩ := hcut
    have hlt6 := fun k (hm : k ∈ F6.l) => (hS8.lt k hm).2
    have fA : w.heap.size ∉ F6.l := fun hm => by
      rcases hnew _ hm with h1 | h1
      · have := hlt _ h1
        omega
      · omega
    have hAc := hA8.kept hkc fA
    have hbc := hb8.kept (Nat.le_trans (Nat.le_trans (Nat.le_trans z25 hk6s) z7) hk8s) hkc (by
      intro k hm
      rcases hnew k hm with h1 | h1
      · have := hlt _ h1
        exact .inl (by omega)
      · exact .inr h1)
    have hkcs := hkc.size
    have hwg : w.heap.size ≠ gg := by omega
    have fg : ∀ k ∈ F6.l, k ∉ [gg] := fun k hm e => by
      rw [List.mem_singleton] at e
      have := hlt6 k hm
      omega
    have fw : ∀ k ∈ F6.l, k ∉ [w.heap.size] := fun k hm e => by
      rw [List.mem_singleton] at e
      subst e
      exact fA hm
    go_wp2_with (first
      | (refine Wire.wpList_store_cell rfl 4 _ _ rfl gg 0 41 _ (.bool true) rfl rfl hB (by simp) Wire.Try.sizeF rfl ?_; intro w10 hb10 hk10; simp only [List.setIfInBounds_toArray, List.set_cons_zero] at hb10; have g0 : w10.cell? ⟨gg, 0, none⟩ = some (.bool true) := (hb10.cell 0).trans rfl; have g1 : w10.cell? ⟨gg, 1, none⟩ = some (.bool (opHas t0 PM)) := (hb10.cell 1).trans rfl; have g2 : w10.cell? ⟨gg, 2, none⟩ = some (.slice sb lb cb) := (hb10.cell 2).trans rfl)
      | (refine wpList_store_blk rfl 41 _ _ rfl w.heap.size 41 _ [.bool true, .bool (opHas t0 PM), .slice sb lb cb] rfl rfl (hAc.kept hk10 (by simpa using hwg)) rfl Try.sizeGot (by simp [Value.oneCell']) ?_; intro w9 hb9 hk9 hz9))
    refine bodyPost_ret (Wire.results_row_tmp rfl _ _ w.heap.size _ rfl (run_loadVar_row (P := Try.prog) w9 w.heap.size 41 41 _ (0, 0) _ hb9 Try.underlying41 rfl Try.sizeGot)) rfl ?_
    have hA10 := hAc.kept hk10 (by simpa using hwg)
    have nb10 : NoByt [gg] wc := NoByt.cons (Outbox.noByt_nil _) hB (by decide)
    have nr10 : NoRow [gg] wc := NoRow.cons (noRow_nil _) hB (by decide)
    have nb9 : NoByt [w.heap.size] w10 := NoByt.cons (Outbox.noByt_nil _) hA10 (by decide)
    have nr9 : NoRow [w.heap.size] w10 := NoRow.cons (noRow_nil _) hA10 (by decide)
    have kjs := kJ.size
    refine ⟨.slice sl PP.length cl, PP, F6, sb, lb, cb, rfl, ?_, ((hTc.keptT hk10 nb10 nr10).keptT hk9 nb9 nr9).lower kjs, ((hSc.kept hk10 fg nb10).kept hk9 fw nb9), hFo, ?_, fun k hm => (hnew k hm).imp id (fun h => by omega)⟩
    · intro KX hKX
      have hbd := (hbc.kept (Nat.le_trans (Nat.le_trans (Nat.le_trans (Nat.le_trans z25 hk6s) z7) hk8s) hkcs) hk10 (by
        intro k hm
        rw [List.mem_singleton] at hm
        exact .inr (by omega))).kept (Nat.le_trans (Nat.le_trans (Nat.le_trans (Nat.le_trans (Nat.le_trans z25 hk6s) z7) hk8s) hkcs) hk10.size) hk9 (by
        intro k hm
        rw [List.mem_singleton] at hm
        exact .inl (by have := hA1lt.out; omega))
      have hd : y.d = PM.d := congrArg Ps.d hy.out
      rw [hd] at hbd
      unfold opB
      cases hh : opHas t0 PM with
      | false =>
        obtain ⟨rfl, rfl, rfl⟩ := hx2 hh
        exact far_nil _ _
      | true =>
        obtain ⟨rfl, rfl, rfl⟩ := hx1 hh
        refine far_range hbd (Nat.le_trans (Nat.le_trans (Nat.le_trans (Nat.le_trans (Nat.le_trans (Nat.le_trans z25 hk6s) z7) hk8s) hkcs) hk10.size) hk9.size) (fun k hmK => ?_)
        rcases hKX k hmK with hm | hm
        · rcases hnew k hm with h1 | h1
          · have := hlt _ h1
            exact .inl (by have := hA1lt.out; omega)
          · exact .inr h1
        · exact .inl (by have := hA1lt.out; omega)
    · exact Kept.young (g := w.heap.size) (Kept.young (g := gg) (Kept.more kJ hkc (fun k hm => (hnew k hm).imp id (fun h => by omega))) (hk10.mono (by simp)) (by omega)) (hk9.mono (by simp)) (Nat.le_refl _)
end Go.Proofs.Ytnbkbakbjllmcaa.Session
