/-
  The walk of the program's session: open.
-/
import Derived.Test.YtnbkbakbjllmcaaSsC
namespace Go.Proofs.Ytnbkbakbjllmcaa.Session
open Go.RowKit
open Outbox (Ob nums OutAt Bv Byt NoByt RowAt NRow)
open Inbox (InAt)
open Keep (KpAt)
open Wire (Ps Pv bytesL parseM parseE)

set_option maxRecDepth 100000 in
theorem Try.sizeGot : (Try.prog.info? 41).map (·.size) = some 3 := by kernel_rfl
/-- Behind an Ack; behind a Seq. -/
def Ss.ackd (s : Ss) (z : Int) : Ss := { s with ob := s.ob.ack z }
def Ss.gone (s : Ss) (z : Int) : Ss := { s with last := Inbox.takeL s.last z }
theorem ack_w (s : Ob) (z : Int) : (s.ack z).w = s.w := by
  by_cases on : s.On z
  · rw [Ob.ack_in on]
    rfl
  · rw [Ob.ack_out on]
theorem ack_sum (s : Ob) (z : Int) (h : s.n + s.l.length ≤ 1000000) (h1 : 1 ≤ s.n) : (s.ack z).n + (s.ack z).l.length ≤ 1000000 := by
  by_cases on : s.On z
  · rw [Ob.ack_in on]
    obtain ⟨o1, o2⟩ := on
    have hw := s.way_le
    have hc := s.cut_len z.toNat
    show z.toNat + 1 + _ ≤ _
    omega
  · rw [Ob.ack_out on]
    exact h
theorem ack_mem (s : Ob) (z : Int) {b : List Nat} (h : b ∈ (s.ack z).l) : b ∈ s.l := by
  by_cases on : s.On z
  · rw [Ob.ack_in on] at h
    exact List.mem_of_mem_drop h
  · rw [Ob.ack_out on] at h
    exact h
theorem ackL_len (s : Ob) (z : Int) (h : s.w ≤ 64) : (s.ackL z).length ≤ 1000 := by
  by_cases on : s.On z
  · rw [Ob.ackL_in on, Outbox.nums_length]
    have : (s.cut z.toNat).way ≤ 64 := by
      unfold Ob.way
      have e : (s.cut z.toNat).w = s.w := rfl
      omega
    obtain ⟨o1, o2⟩ := on
    omega
  · rw [Ob.ackL_out on]
    simp
/-- No block of K is one of rows. -/
def NoRow (K : List Nat) (W : World) : Prop := ∀ k ∈ K, ∀ cur, ¬ Blk W k 34 cur
theorem noRow_nil (W : World) : NoRow [] W := fun k hk => by simp at hk
theorem NoRow.cons {k : Nat} {t : TypeId} {cur : Array Value} {K : List Nat} {W : World} (h : NoRow K W) (hb : Blk W k t cur) (ht : t ≠ 34) : NoRow (k :: K) W := fun j hj c hc => by
  rcases List.mem_cons.1 hj with e | e
  · subst e
    exact blk_ne hb hc ht rfl
  · exact h j e c hc
theorem BRow.keptT {K : List Nat} {A B : World} {base : Nat} {v : Value} {P : List Bv} (h : BRow base A v P) (hk : Kept K A B) (hr : NoRow K A) : BRow base B v P := h.kept hk (fun k e hm => by
  obtain ⟨cur, hc⟩ := h.blk k e
  exact hr k hm cur hc)
theorem Told.keptT {K : List Nat} {A B : World} {base : Nat} {v : Value} {P : List Bv} {L : List (List Nat)} (h : Told base A v P L) (hk : Kept K A B) (hb : NoByt K A) (hr : NoRow K A) : Told base B v P L :=
  ⟨h.row.keptT hk hr, h.bs, fun x hx => (h.mem x hx).kept hk hb⟩
theorem BRow.noByt {base : Nat} {W : World} {v : Value} {P : List Bv} (h : BRow base W v P) : NoByt v.ownBlock.toList W := fun k hm c hc => by
  obtain ⟨cur, hcur⟩ := h.blk k (by simpa using hm)
  exact blk_ne hc hcur (by decide) rfl
/-- What open leaves, and answers. -/
structure Opened (w : World) (base : Nat) (F : Foot) (s' : Ss) (L : List (List Nat)) (v : Value) (w' : World) : Prop where
  told : ∃ P, Told w.heap.size w' v P L
  at' : SsAt w' base F s'
  kept : Kept F.l w w'
set_option maxRecDepth 100000 in
set_option maxHeartbeats 2000000 in
/-- open, of what is no Msg -/
theorem open_ping {base : Nat} {F : Foot} {s : Ss} (y : Pv) (hk3 : ¬ (y.k = 3)) (w : World) (h : SsAt w base F s) (hs : s.ob.n + s.ob.l.length ≤ 1000000) (hb : ∀ b ∈ s.ob.l, b.length ≤ 1000) :
    Calls Try.prog 31 #[.agg #[.int .u32 (s.my : Int), .int .u32 (s.peer : Int), .pointer (some ⟨F.g, 0, none⟩), .pointer (some ⟨F.i, 0, none⟩)], .agg #[.int .u32 (y.f : Int), .int .u32 (y.t : Int), .int .i64 y.k, .int .i64 y.s, .int .i64 y.a, .slice y.sa y.len y.cap]] w fun e w' => ∃ v, e = .returned (.tuple #[.agg #[.bool false, .bool false, .slice none 0 0], v]) ∧ Opened w base F (s.ackd y.a) ((s.ob.ackL y.a).map fun n => bytesL ((s.ackd y.a).msg n)) v w' := by
  have hk3' : (y.k != 3) = true := by simpa using hk3
  have kA := kept_alloc [] w (.cells #[.int .u32 (s.my : Int), .int .u32 (s.peer : Int), .pointer (some ⟨F.g, 0, none⟩), .pointer (some ⟨F.i, 0, none⟩)] 53)
  have hA : PairAt _ w.heap.size s.my s.peer F.g F.i := blk_new w 53 #[.int .u32 (s.my : Int), .int .u32 (s.peer : Int), .pointer (some ⟨F.g, 0, none⟩), .pointer (some ⟨F.i, 0, none⟩)]
  obtain ⟨W1, hW1⟩ : ∃ W1, w.alloc (.cells #[.int .u32 (s.my : Int), .int .u32 (s.peer : Int), .pointer (some ⟨F.g, 0, none⟩), .pointer (some ⟨F.i, 0, none⟩)] 53) = W1 := ⟨_, rfl⟩
  rw [hW1] at kA hA
  have hz0 : w.heap.size < W1.heap.size := hA.lt
  have kB := kept_alloc [] W1 (.cells #[.int .u32 (y.f : Int), .int .u32 (y.t : Int), .int .i64 y.k, .int .i64 y.s, .int .i64 y.a, .slice y.sa y.len y.cap] 47)
  have hB : y.In _ W1.heap.size := blk_new W1 47 #[.int .u32 (y.f : Int), .int .u32 (y.t : Int), .int .i64 y.k, .int .i64 y.s, .int .i64 y.a, .slice y.sa y.len y.cap]
  replace hA := hA.kept kB (by simp)
  obtain ⟨W2, hW2⟩ : ∃ W2, W1.alloc (.cells #[.int .u32 (y.f : Int), .int .u32 (y.t : Int), .int .i64 y.k, .int .i64 y.s, .int .i64 y.a, .slice y.sa y.len y.cap] 47) = W2 := ⟨_, rfl⟩
  rw [hW2] at kB hB hA
  have kC := kept_alloc [] W2 (.cells #[.bool false, .bool false, .slice none 0 0] 41)
  have hC := blk_new W2 41 #[.bool false, .bool false, .slice none 0 0]
  replace hA := hA.kept kC (by simp)
  replace hB := hB.kept kC (by simp)
  obtain ⟨W3, hW3⟩ : ∃ W3, W2.alloc (.cells #[.bool false, .bool false, .slice none 0 0] 41) = W3 := ⟨_, rfl⟩
  rw [hW3] at kC hA hB hC
  have kD : Kept [] w W3.drew := ((kA.trans kB).trans kC).trans (kept_drew [] W3)
  replace hA := hA.kept (kept_drew [] W3) (by simp)
  replace hB := hB.kept (kept_drew [] W3) (by simp)
  replace hC := hC.kept (kept_drew [] W3) (by simp)
  have hS := h.kept0 kD
  have q1 := Outbox.acked_any W3.drew hS.out hs y.a
  have fA : w.heap.size ∉ F.l := fun hm => by have := (h.lt _ hm).2; omega
  have fB : W1.heap.size ∉ F.l := fun hm => by have := (h.lt _ hm).2; have := kA.size; omega
  have fC : W2.heap.size ∉ F.l := fun hm => by have := (h.lt _ hm).2; have := (kA.trans kB).size; omega
  have hsub : ∀ k ∈ F.g :: F.r.toList, k ∈ F.l := fun k hm => by
    simp only [Foot.l]
    rcases List.mem_cons.1 hm with e | e
    · simp [e]
    · simp at e
      simp [e]
  have hz1 : w.heap.size < W2.heap.size := Nat.lt_of_lt_of_le hz0 kB.size
  have hz2 : W2.heap.size < W3.drew.heap.size := hC.lt
  clear hz0
  obtain ⟨t1, ht1⟩ : ∃ t1, Hid (s.ackd y.a = t1) := ⟨_, rfl⟩
  have hS1 : ∀ w4, OutAt w4 base F.g F.r (s.ob.ack y.a) → Kept (F.g :: F.r.toList) W3.drew w4 → SsAt w4 base F t1 := fun w4 hO hk => by
    rw [← ht1.out]
    exact hS.outbox F.r _ hO hk (ack_w _ _)
  have et : Hid (t1.my = s.my ∧ t1.peer = s.peer ∧ t1.ob = s.ob.ack y.a ∧ t1.last = s.last) := by rw [← ht1.out]; exact ⟨rfl, rfl, rfl, rfl⟩
  have hs1 : t1.ob.n + t1.ob.l.length ≤ 1000000 := by rw [et.out.2.2.1]; exact ack_sum _ _ hs h.out.first
  have hb1 : ∀ b ∈ t1.ob.l, b.length ≤ 1000 := fun b hm => by rw [et.out.2.2.1] at hm; exact hb b (ack_mem _ _ hm)
  have hal : (s.ob.ackL y.a).length ≤ 1000 := ackL_len _ _ h.out.top
  obtain ⟨AL, hAL⟩ : ∃ AL, Hid (s.ob.ackL y.a = AL) := ⟨_, rfl⟩
  rw [hAL.out] at q1 hal
  obtain ⟨O1, hO1e⟩ : ∃ O1, Hid (s.ob.ack y.a = O1) := ⟨_, rfl⟩
  rw [hO1e.out] at q1 hS1
  have kD' : Hid (Kept [] w W3.drew) := kD
  have hlt := fun k (hm : k ∈ F.l) => (h.lt k hm).2
  clear hb hs h kA kB kC kD hS
  go_enter Try.func31, Try.ntmps31
  go_wp2_with fail
  refine wp_region_held_drew (S := fun W => PairAt W w.heap.size s.my s.peer F.g F.i ∧ y.In W W1.heap.size) (by kernel_rfl) ⟨hA, hB⟩ (fun hP => ?_)
  have hH := hP
  clear hP
  refine wpAnyH_take (i := 0) (oi := ⟨some 8, _, _, _, _, _⟩) (v := (.agg #[.int .u32 (s.my : Int), .int .u32 (s.peer : Int), .pointer (some ⟨F.g, 0, none⟩), .pointer (some ⟨F.i, 0, none⟩)])) rfl (by kernel_rfl) (by kernel_rfl) (by kernel_rfl) (fun _ _ _ h => h) (Or.inl ⟨by rfl, fun W hSw => by obtain ⟨c0, c1, c2, c3⟩ := PairAt.four hSw.1; go_simp⟩) hH ?_
  try simp only [Act.put, List.setIfInBounds_toArray, List.set_cons_zero, List.set_cons_succ]
  refine wpAnyH_take (i := 1) (oi := ⟨some 9, _, _, _, _, _⟩) (v := (.pointer (some ⟨w.heap.size, 2, none⟩))) rfl (by kernel_rfl) (by kernel_rfl) (by kernel_rfl) (fun _ _ _ h => h) (Or.inl ⟨by rfl, fun W hSw => by go_simp⟩) hH ?_
  try simp only [Act.put, List.setIfInBounds_toArray, List.set_cons_zero, List.set_cons_succ]
  refine wpAnyH_take (i := 2) (oi := ⟨some 10, _, _, _, _, _⟩) (v := (.pointer (some ⟨F.g, 0, none⟩))) rfl (by kernel_rfl) (by kernel_rfl) (by kernel_rfl) (fun _ _ _ h => h) (Or.inl ⟨by rfl, fun W hSw => by obtain ⟨c0, c1, c2, c3⟩ := PairAt.four hSw.1; go_simp⟩) hH ?_
  try simp only [Act.put, List.setIfInBounds_toArray, List.set_cons_zero, List.set_cons_succ]
  refine wpAnyH_take (i := 3) (oi := ⟨some 11, _, _, _, _, _⟩) (v := (.pointer (some ⟨W1.heap.size, 4, none⟩))) rfl (by kernel_rfl) (by kernel_rfl) (by kernel_rfl) (fun _ _ _ h => h) (Or.inl ⟨by rfl, fun W hSw => by go_simp⟩) hH ?_
  try simp only [Act.put, List.setIfInBounds_toArray, List.set_cons_zero, List.set_cons_succ]
  refine wpAnyH_take (i := 4) (oi := ⟨some 12, _, _, _, _, _⟩) (v := (.int .i64 y.a)) rfl (by kernel_rfl) (by kernel_rfl) (by kernel_rfl) (fun _ _ _ h => h) (Or.inl ⟨by rfl, fun W hSw => by obtain ⟨y0, y1, y2, y3, y4, y5⟩ := Pv.In.six hSw.2; go_simp⟩) hH ?_
  try simp only [Act.put, List.setIfInBounds_toArray, List.set_cons_zero, List.set_cons_succ]
  refine wpAnyH_ready (rs := [5]) (by kernel_rfl) (by simp) ?_
  refine AllReadyH.cons (o := ⟨some 13, _, _, _, _, _⟩) rfl (fun KK hKK => ?_) AllReadyH.nil
  go_simp
  refine q1.mono ?_
  rintro e w4 ⟨v4, rfl, hN4, hO4, hk4⟩
  obtain ⟨sa4, cap4, rfl, -, -⟩ := hN4.slice
  have hk4u := hk4
  replace hk4 := hk4.mono hsub
  have hS4 := hS1 w4 hO4 hk4u
  have qt := tell_msg F t1 base hS4.my2 hS4.peer w4 hS4.out hS4.inn hs1 hb1 _ _ _ _ AL hN4 hal
  rw [et.out.1, et.out.2.1] at qt
  go_wp2_with fail
  have hH1 := (⟨hA.kept hk4 fA, hB.kept hk4 fB⟩ : PairAt w4 w.heap.size s.my s.peer F.g F.i ∧ y.In w4 W1.heap.size)
  refine hKK.out _ _ hH1 (fun _ => ?_)
  replace hH := hH1
  clear hKK KK hH1
  try simp only [Act.put, List.setIfInBounds_toArray, List.set_cons_zero, List.set_cons_succ]
  refine wpAnyH_ready (rs := [6]) (by kernel_rfl) (by simp) ?_
  refine AllReadyH.cons (o := ⟨some 14, _, _, _, _, _⟩) rfl (fun KK hKK => ?_) AllReadyH.nil
  go_simp
  refine qt.mono ?_
  rintro e w5 ⟨v5, P5, rfl, hT5, hk5⟩
  obtain ⟨sa5, cap5, rfl⟩ := hT5.row.form
  go_wp2_with fail
  have hH1 := (⟨hH.1.kept hk5 (by simp), hH.2.kept hk5 (by simp)⟩ : PairAt w5 w.heap.size s.my s.peer F.g F.i ∧ y.In w5 W1.heap.size)
  refine hKK.out _ _ hH1 (fun _ => ?_)
  replace hH := hH1
  clear hKK KK hH1
  try simp only [Act.put, List.setIfInBounds_toArray, List.set_cons_zero, List.set_cons_succ]
  refine wpAnyH_take (i := 7) (oi := ⟨some 6, _, _, _, _, _⟩) (v := (.slice sa5 P5.length cap5)) rfl (by kernel_rfl) (by kernel_rfl) (by kernel_rfl) (fun _ _ _ h => h) (Or.inl ⟨by rfl, fun W hSw => by go_simp⟩) hH ?_
  try simp only [Act.put, List.setIfInBounds_toArray, List.set_cons_zero, List.set_cons_succ]
  refine wpAnyH_done (by kernel_rfl) ?_ _
  obtain ⟨hA5, hB5⟩ := hH
  have hS5 := hS4.kept0 hk5
  have hC5 := (hC.kept hk4 fC).kept hk5 (by simp)
  obtain ⟨y0, y1, y2, y3, y4, y5⟩ := hB5.six
  go_wp2_with (refine wpList_store_blk rfl 41 _ _ rfl W2.heap.size 41 _ [.bool false, .bool false, .slice none 0 0] rfl rfl hC5 rfl Try.sizeGot (by simp [Value.oneCell']) ?_; intro w6 hb6 hk6 hz6)
  refine bodyPost_ret (Wire.results_row_tmp rfl _ _ W2.heap.size _ rfl (run_loadVar_row (P := Try.prog) w6 W2.heap.size 41 41 _ (0, 0) _ hb6 Try.underlying41 rfl Try.sizeGot)) rfl ?_
  have z4 := hk4.size
  have z5 := hk5.size
  have z6 := kD'.out.size
  have nb : NoByt [W2.heap.size] w5 := NoByt.cons (Outbox.noByt_nil _) hC5 (by decide)
  refine ⟨_, rfl, ⟨P5, ?_⟩, ?_, ?_⟩
  · rw [ht1.out, hAL.out]
    exact (hT5.kept hk6 (by intro k hm; rw [List.mem_singleton] at hm; subst hm; have := hC.lt; omega) nb).lower (by omega)
  · rw [ht1.out]
    exact hS5.kept hk6 (by intro k hm; simp; intro e; subst e; exact fC hm) nb
  · have k1 : Kept F.l w w5 := ((kD'.out.mono (by simp)).trans hk4).trans (hk5.mono (by simp))
    exact k1.young (hk6.mono (by simp)) (Nat.le_of_lt hz1)
set_option maxRecDepth 100000 in
set_option maxHeartbeats 4000000 in
/-- open, of a Msg that is not the next -/
theorem open_msg_false {base : Nat} {F : Foot} {s : Ss} (y : Pv) (hk3 : y.k = 3) (htb : Inbox.takeB s.last y.s = false) (w : World) (h : SsAt w base F s) (hs : s.ob.n + s.ob.l.length ≤ 1000000) (hb : ∀ b ∈ s.ob.l, b.length ≤ 1000) :
    Calls Try.prog 31 #[.agg #[.int .u32 (s.my : Int), .int .u32 (s.peer : Int), .pointer (some ⟨F.g, 0, none⟩), .pointer (some ⟨F.i, 0, none⟩)], .agg #[.int .u32 (y.f : Int), .int .u32 (y.t : Int), .int .i64 y.k, .int .i64 y.s, .int .i64 y.a, .slice y.sa y.len y.cap]] w fun e w' => ∃ v, e = .returned (.tuple #[.agg #[.bool false, .bool false, .slice none 0 0], v]) ∧ Opened w base F ((s.ackd y.a).gone y.s) (((s.ob.ackL y.a).map fun n => bytesL ((s.ackd y.a).msg n)) ++ [bytesL ((s.ackd y.a).gone y.s).ping]) v w' := by
  have hk3' : (y.k != 3) = false := by simpa using hk3
  clear hk3
  have kA := kept_alloc [] w (.cells #[.int .u32 (s.my : Int), .int .u32 (s.peer : Int), .pointer (some ⟨F.g, 0, none⟩), .pointer (some ⟨F.i, 0, none⟩)] 53)
  have hA : PairAt _ w.heap.size s.my s.peer F.g F.i := blk_new w 53 #[.int .u32 (s.my : Int), .int .u32 (s.peer : Int), .pointer (some ⟨F.g, 0, none⟩), .pointer (some ⟨F.i, 0, none⟩)]
  obtain ⟨W1, hW1⟩ : ∃ W1, w.alloc (.cells #[.int .u32 (s.my : Int), .int .u32 (s.peer : Int), .pointer (some ⟨F.g, 0, none⟩), .pointer (some ⟨F.i, 0, none⟩)] 53) = W1 := ⟨_, rfl⟩
  rw [hW1] at kA hA
  have hz0 : w.heap.size < W1.heap.size := hA.lt
  have kB := kept_alloc [] W1 (.cells #[.int .u32 (y.f : Int), .int .u32 (y.t : Int), .int .i64 y.k, .int .i64 y.s, .int .i64 y.a, .slice y.sa y.len y.cap] 47)
  have hB : y.In _ W1.heap.size := blk_new W1 47 #[.int .u32 (y.f : Int), .int .u32 (y.t : Int), .int .i64 y.k, .int .i64 y.s, .int .i64 y.a, .slice y.sa y.len y.cap]
  replace hA := hA.kept kB (by simp)
  obtain ⟨W2, hW2⟩ : ∃ W2, W1.alloc (.cells #[.int .u32 (y.f : Int), .int .u32 (y.t : Int), .int .i64 y.k, .int .i64 y.s, .int .i64 y.a, .slice y.sa y.len y.cap] 47) = W2 := ⟨_, rfl⟩
  rw [hW2] at kB hB hA
  have kC := kept_alloc [] W2 (.cells #[.bool false, .bool false, .slice none 0 0] 41)
  have hC := blk_new W2 41 #[.bool false, .bool false, .slice none 0 0]
  replace hA := hA.kept kC (by simp)
  replace hB := hB.kept kC (by simp)
  obtain ⟨W3, hW3⟩ : ∃ W3, W2.alloc (.cells #[.bool false, .bool false, .slice none 0 0] 41) = W3 := ⟨_, rfl⟩
  rw [hW3] at kC hA hB hC
  have kD : Kept [] w W3.drew := ((kA.trans kB).trans kC).trans (kept_drew [] W3)
  replace hA := hA.kept (kept_drew [] W3) (by simp)
  replace hB := hB.kept (kept_drew [] W3) (by simp)
  replace hC := hC.kept (kept_drew [] W3) (by simp)
  have hS := h.kept0 kD
  have q1 := Outbox.acked_any W3.drew hS.out hs y.a
  have fA : w.heap.size ∉ F.l := fun hm => by have := (h.lt _ hm).2; omega
  have fB : W1.heap.size ∉ F.l := fun hm => by have := (h.lt _ hm).2; have := kA.size; omega
  have fC : W2.heap.size ∉ F.l := fun hm => by have := (h.lt _ hm).2; have := (kA.trans kB).size; omega
  have hsub : ∀ k ∈ F.g :: F.r.toList, k ∈ F.l := fun k hm => by
    simp only [Foot.l]
    rcases List.mem_cons.1 hm with e | e
    · simp [e]
    · simp at e
      simp [e]
  have hz1 : w.heap.size < W2.heap.size := Nat.lt_of_lt_of_le hz0 kB.size
  have hz2 : W2.heap.size < W3.drew.heap.size := hC.lt
  clear hz0
  obtain ⟨t1, ht1⟩ : ∃ t1, Hid (s.ackd y.a = t1) := ⟨_, rfl⟩
  have hS1 : ∀ w4, OutAt w4 base F.g F.r (s.ob.ack y.a) → Kept (F.g :: F.r.toList) W3.drew w4 → SsAt w4 base F t1 := fun w4 hO hk => by
    rw [← ht1.out]
    exact hS.outbox F.r _ hO hk (ack_w _ _)
  have et : Hid (t1.my = s.my ∧ t1.peer = s.peer ∧ t1.ob = s.ob.ack y.a ∧ t1.last = s.last) := by rw [← ht1.out]; exact ⟨rfl, rfl, rfl, rfl⟩
  have hs1 : t1.ob.n + t1.ob.l.length ≤ 1000000 := by rw [et.out.2.2.1]; exact ack_sum _ _ hs h.out.first
  have hb1 : ∀ b ∈ t1.ob.l, b.length ≤ 1000 := fun b hm => by rw [et.out.2.2.1] at hm; exact hb b (ack_mem _ _ hm)
  have hal : (s.ob.ackL y.a).length ≤ 1000 := ackL_len _ _ h.out.top
  obtain ⟨AL, hAL⟩ : ∃ AL, Hid (s.ob.ackL y.a = AL) := ⟨_, rfl⟩
  rw [hAL.out] at q1 hal
  obtain ⟨O1, hO1e⟩ : ∃ O1, Hid (s.ob.ack y.a = O1) := ⟨_, rfl⟩
  rw [hO1e.out] at q1 hS1
  have kD' : Hid (Kept [] w W3.drew) := kD
  have hlt := fun k (hm : k ∈ F.l) => (h.lt k hm).2
  clear hb hs h kA kB kC kD hS
  go_enter Try.func31, Try.ntmps31
  go_wp2_with fail
  refine wp_region_held_drew (S := fun W => PairAt W w.heap.size s.my s.peer F.g F.i ∧ y.In W W1.heap.size) (by kernel_rfl) ⟨hA, hB⟩ (fun hP => ?_)
  have hH := hP
  clear hP
  refine wpAnyH_take (i := 0) (oi := ⟨some 8, _, _, _, _, _⟩) (v := (.agg #[.int .u32 (s.my : Int), .int .u32 (s.peer : Int), .pointer (some ⟨F.g, 0, none⟩), .pointer (some ⟨F.i, 0, none⟩)])) rfl (by kernel_rfl) (by kernel_rfl) (by kernel_rfl) (fun _ _ _ h => h) (Or.inl ⟨by rfl, fun W hSw => by obtain ⟨c0, c1, c2, c3⟩ := PairAt.four hSw.1; go_simp⟩) hH ?_
  try simp only [Act.put, List.setIfInBounds_toArray, List.set_cons_zero, List.set_cons_succ]
  refine wpAnyH_take (i := 1) (oi := ⟨some 9, _, _, _, _, _⟩) (v := (.pointer (some ⟨w.heap.size, 2, none⟩))) rfl (by kernel_rfl) (by kernel_rfl) (by kernel_rfl) (fun _ _ _ h => h) (Or.inl ⟨by rfl, fun W hSw => by go_simp⟩) hH ?_
  try simp only [Act.put, List.setIfInBounds_toArray, List.set_cons_zero, List.set_cons_succ]
  refine wpAnyH_take (i := 2) (oi := ⟨some 10, _, _, _, _, _⟩) (v := (.pointer (some ⟨F.g, 0, none⟩))) rfl (by kernel_rfl) (by kernel_rfl) (by kernel_rfl) (fun _ _ _ h => h) (Or.inl ⟨by rfl, fun W hSw => by obtain ⟨c0, c1, c2, c3⟩ := PairAt.four hSw.1; go_simp⟩) hH ?_
  try simp only [Act.put, List.setIfInBounds_toArray, List.set_cons_zero, List.set_cons_succ]
  refine wpAnyH_take (i := 3) (oi := ⟨some 11, _, _, _, _, _⟩) (v := (.pointer (some ⟨W1.heap.size, 4, none⟩))) rfl (by kernel_rfl) (by kernel_rfl) (by kernel_rfl) (fun _ _ _ h => h) (Or.inl ⟨by rfl, fun W hSw => by go_simp⟩) hH ?_
  try simp only [Act.put, List.setIfInBounds_toArray, List.set_cons_zero, List.set_cons_succ]
  refine wpAnyH_take (i := 4) (oi := ⟨some 12, _, _, _, _, _⟩) (v := (.int .i64 y.a)) rfl (by kernel_rfl) (by kernel_rfl) (by kernel_rfl) (fun _ _ _ h => h) (Or.inl ⟨by rfl, fun W hSw => by obtain ⟨y0, y1, y2, y3, y4, y5⟩ := Pv.In.six hSw.2; go_simp⟩) hH ?_
  try simp only [Act.put, List.setIfInBounds_toArray, List.set_cons_zero, List.set_cons_succ]
  refine wpAnyH_ready (rs := [5]) (by kernel_rfl) (by simp) ?_
  refine AllReadyH.cons (o := ⟨some 13, _, _, _, _, _⟩) rfl (fun KK hKK => ?_) AllReadyH.nil
  go_simp
  refine q1.mono ?_
  rintro e w4 ⟨v4, rfl, hN4, hO4, hk4⟩
  obtain ⟨sa4, cap4, rfl, -, -⟩ := hN4.slice
  have hk4u := hk4
  replace hk4 := hk4.mono hsub
  have hS4 := hS1 w4 hO4 hk4u
  have qt := tell_msg F t1 base hS4.my2 hS4.peer w4 hS4.out hS4.inn hs1 hb1 _ _ _ _ AL hN4 hal
  rw [et.out.1, et.out.2.1] at qt
  go_wp2_with fail
  have hH1 := (⟨hA.kept hk4 fA, hB.kept hk4 fB⟩ : PairAt w4 w.heap.size s.my s.peer F.g F.i ∧ y.In w4 W1.heap.size)
  refine hKK.out _ _ hH1 (fun _ => ?_)
  replace hH := hH1
  clear hKK KK hH1
  try simp only [Act.put, List.setIfInBounds_toArray, List.set_cons_zero, List.set_cons_succ]
  refine wpAnyH_ready (rs := [6]) (by kernel_rfl) (by simp) ?_
  refine AllReadyH.cons (o := ⟨some 14, _, _, _, _, _⟩) rfl (fun KK hKK => ?_) AllReadyH.nil
  go_simp
  refine qt.mono ?_
  rintro e w5 ⟨v5, P5, rfl, hT5, hk5⟩
  obtain ⟨sa5, cap5, rfl⟩ := hT5.row.form
  go_wp2_with fail
  have hH1 := (⟨hH.1.kept hk5 (by simp), hH.2.kept hk5 (by simp)⟩ : PairAt w5 w.heap.size s.my s.peer F.g F.i ∧ y.In w5 W1.heap.size)
  refine hKK.out _ _ hH1 (fun _ => ?_)
  replace hH := hH1
  clear hKK KK hH1
  try simp only [Act.put, List.setIfInBounds_toArray, List.set_cons_zero, List.set_cons_succ]
  refine wpAnyH_take (i := 7) (oi := ⟨some 6, _, _, _, _, _⟩) (v := (.slice sa5 P5.length cap5)) rfl (by kernel_rfl) (by kernel_rfl) (by kernel_rfl) (fun _ _ _ h => h) (Or.inl ⟨by rfl, fun W hSw => by go_simp⟩) hH ?_
  try simp only [Act.put, List.setIfInBounds_toArray, List.set_cons_zero, List.set_cons_succ]
  refine wpAnyH_done (by kernel_rfl) ?_ _
  obtain ⟨hA5, hB5⟩ := hH
  have hS5 := hS4.kept0 hk5
  have hC5 := (hC.kept hk4 fC).kept hk5 (by simp)
  obtain ⟨y0, y1, y2, y3, y4, y5⟩ := hB5.six
  have kG := kept_alloc [] w5 (.cells #[.bool false, .bool false, .slice none 0 0] 41)
  have hG := blk_new w5 41 #[.bool false, .bool false, .slice none 0 0]
  replace hS5 := hS5.kept0 kG
  replace hA5 := hA5.kept kG (by simp)
  replace hC5 := hC5.kept kG (by simp)
  replace hT5 := hT5.kept0 kG
  replace hB5 := hB5.kept kG (by simp)
  obtain ⟨W6, hW6⟩ : ∃ W6, w5.alloc (.cells #[.bool false, .bool false, .slice none 0 0] 41) = W6 := ⟨_, rfl⟩
  rw [hW6] at kG hG hS5 hA5 hC5 hT5 hB5
  have q6 := Inbox.take_any y.s _ hS5.inn
  have el := et.out.2.2.2
  rw [el, htb] at q6
  clear el
  obtain ⟨u0, u1, u2, u3, u4, u5⟩ := hB5.six
  obtain ⟨c0, c1, c2, c3⟩ := hA5.four
  replace hk4 : Hid _ := hk4
  replace hk5 : Hid _ := hk5
  obtain ⟨t2, ht2⟩ : ∃ t2, Hid (t1.gone y.s = t2) := ⟨_, rfl⟩
  have et2 : Hid (t2.my = s.my ∧ t2.peer = s.peer) := by rw [← ht2.out]; exact ⟨et.out.1, et.out.2.1⟩
  have hS7' : ∀ w7, InAt w7 F.i (Inbox.takeL s.last y.s) → Kept [F.i] W6 w7 → SsAt w7 base F t2 := fun w7 hI hk => by
    rw [← ht2.out]
    refine hS5.inbox _ ?_ hk
    rw [et.out.2.2.2]
    exact hI
  have fi : F.i ∈ F.l := by simp [Foot.l]
  have ni := (hlt F.i fi)
  have nI : Hid (W1.heap.size ∉ [F.i]) := fun e => by rw [List.mem_singleton] at e; rw [e] at fB; exact fB fi
  have z4 := hk4.out.size
  have z5 := hk5.out.size
  have z6 := kD'.out.size
  have zG := kG.size
  generalize Inbox.takeL s.last y.s = TL at *
  have d1 := hA5.lt
  have d2 := hC5.lt
  have kI : Kept F.l w W6 := (((kD'.out.mono (by simp)).trans hk4.out).trans (hk5.out.mono (by simp))).trans (kG.mono (by simp))
  replace kI : Hid _ := kI
  have nG : Hid (w5.heap.size ≠ F.i ∧ w.heap.size ≠ F.i ∧ W2.heap.size ≠ F.i) := by refine ⟨?_, ?_, ?_⟩ <;> omega
  go_wp2_with (first
    | (go_at_call 55; refine q6.mono ?_; rintro e w8 ⟨rfl, hI7, hk7⟩; have hB7 := hB5.kept hk7 nI.out; obtain ⟨x0, x1, x2, x3, x4, x5⟩ := hB7.six))
  have hG8 := hG.kept hk7 (by simpa using nG.out.1)
  have hS8 := hS7' w8 hI7 hk7
  have nb7 : NoByt [F.i] W6 := NoByt.cons (Outbox.noByt_nil _) hS5.inn.1 (by decide)
  have nr7 : NoRow [F.i] W6 := NoRow.cons (noRow_nil _) hS5.inn.1 (by decide)
  have hT8 := hT5.keptT hk7 nb7 nr7
  have hA8 := hA5.kept hk7 (by simpa using nG.out.2.1)
  have hC8 := hC5.kept hk7 (by simpa using nG.out.2.2)
  have kJ : Kept F.l w w8 := kI.out.trans (hk7.mono (by simp [fi]))
  have kd := kept_drew [] w8
  replace hG8 := hG8.kept kd (by simp)
  replace hS8 := hS8.kept0 kd
  replace hT8 := hT8.kept0 kd
  replace hA8 := hA8.kept kd (by simp)
  replace hC8 := hC8.kept kd (by simp)
  replace kJ : Kept F.l w w8.drew := kJ.trans (kd.mono (by simp))
  have kE := kept_alloc [] w8.drew (.cells #[.int .i64 0] 3)
  have hS9 := hS8.kept0 kE
  have qt2 := tell_ping F t2 base hS9.my2 hS9.peer _ hS9.inn _ _ _ _ [0] (one_nought w8.drew) (by simp) (by simp)
  rw [et2.out.1, et2.out.2] at qt2
  have hlen5 : P5.length ≤ 1000 := by
    have := hT5.len
    rw [List.length_map] at this
    omega
  have kJs : w4.heap.size ≤ w8.drew.heap.size := by have : W6.heap.size ≤ w8.heap.size := hk7.size; show w4.heap.size ≤ w8.heap.size; omega
  clear y0 y1 y2 y3 y4 y5 c0 c1 c2 c3 u0 u1 u2 u3 u4 u5 x0 x1 x2 x3 x4 x5
  refine wp_region_held_drew (S := fun W => PairAt W w.heap.size s.my s.peer F.g F.i ∧ Blk W w5.heap.size 41 #[.bool false, .bool false, .slice none 0 0]) (by kernel_rfl) ⟨hA8, hG8⟩ (fun hP => ?_)
  have hH := hP
  clear hP
  refine wpAnyH_take (i := 0) (oi := ⟨some 28, _, _, _, _, _⟩) (v := (.agg #[.bool false, .bool false, .slice none 0 0])) rfl (by kernel_rfl) (by kernel_rfl) (by kernel_rfl) (fun _ _ _ h => h) (Or.inl ⟨by rfl, fun W hSw => by obtain ⟨g0, g1, g2⟩ : W.cell? ⟨w5.heap.size, 0, none⟩ = some (.bool false) ∧ W.cell? ⟨w5.heap.size, 1, none⟩ = some (.bool false) ∧ W.cell? ⟨w5.heap.size, 2, none⟩ = some (.slice none 0 0) := ⟨(Blk.cell hSw.2 0).trans rfl, (Blk.cell hSw.2 1).trans rfl, (Blk.cell hSw.2 2).trans rfl⟩; go_simp⟩) hH ?_
  try simp only [Act.put, List.setIfInBounds_toArray, List.set_cons_zero, List.set_cons_succ]
  refine wpAnyH_take (i := 1) (oi := ⟨some 29, _, _, _, _, _⟩) (v := (.slice sa5 P5.length cap5)) rfl (by kernel_rfl) (by kernel_rfl) (by kernel_rfl) (fun _ _ _ h => h) (Or.inl ⟨by rfl, fun W hSw => by go_simp⟩) hH ?_
  try simp only [Act.put, List.setIfInBounds_toArray, List.set_cons_zero, List.set_cons_succ]
  refine wpAnyH_take (i := 2) (oi := ⟨some 30, _, _, _, _, _⟩) (v := (.agg #[.int .u32 (s.my : Int), .int .u32 (s.peer : Int), .pointer (some ⟨F.g, 0, none⟩), .pointer (some ⟨F.i, 0, none⟩)])) rfl (by kernel_rfl) (by kernel_rfl) (by kernel_rfl) (fun _ _ _ h => h) (Or.inl ⟨by rfl, fun W hSw => by obtain ⟨c0, c1, c2, c3⟩ := PairAt.four hSw.1; go_simp⟩) hH ?_
  try simp only [Act.put, List.setIfInBounds_toArray, List.set_cons_zero, List.set_cons_succ]
  refine wpAnyH_ready (rs := [3]) (by kernel_rfl) (by simp) ?_
  refine AllReadyH.cons (o := ⟨some 31, _, _, _, _, _⟩) rfl (fun KK hKK => ?_) AllReadyH.nil
  go_simp
  have hH1 := (⟨hA8.kept kE (by simp), hG8.kept kE (by simp)⟩ : PairAt (w8.drew.alloc (.cells #[.int .i64 0] 3)) w.heap.size s.my s.peer F.g F.i ∧ Blk (w8.drew.alloc (.cells #[.int .i64 0] 3)) w5.heap.size 41 #[.bool false, .bool false, .slice none 0 0])
  refine hKK.out _ _ hH1 (fun _ => ?_)
  replace hH := hH1
  clear hKK KK hH1
  try simp only [Act.put, List.setIfInBounds_toArray, List.set_cons_zero, List.set_cons_succ]
  refine wpAnyH_ready (rs := [4]) (by kernel_rfl) (by simp) ?_
  refine AllReadyH.cons (o := ⟨some 32, _, _, _, _, _⟩) rfl (fun KK hKK => ?_) AllReadyH.nil
  go_simp
  refine qt2.mono ?_
  rintro e w9 ⟨v9, P9, rfl, hT9, hk9⟩
  obtain ⟨sa9, cap9, rfl⟩ := hT9.row.form
  have kF := kE.trans hk9
  go_wp2_with fail
  have hH1 := (⟨hA8.kept kF (by simp), hG8.kept kF (by simp)⟩ : (PairAt w9 w.heap.size s.my s.peer F.g F.i ∧ Blk w9 w5.heap.size 41 #[.bool false, .bool false, .slice none 0 0]))
  refine hKK.out _ _ hH1 (fun _ => ?_)
  replace hH := hH1
  clear hKK KK hH1
  try simp only [Act.put, List.setIfInBounds_toArray, List.set_cons_zero, List.set_cons_succ]
  refine wpAnyH_ready (rs := [5]) (by kernel_rfl) (by simp) ?_
  refine AllReadyH.cons (o := ⟨some 33, _, _, _, _, _⟩) rfl (fun KK hKK => ?_) AllReadyH.nil
  have hT8b := hT8.kept0 kF
  have hA9 := hA8.kept kF (by simp)
  have hG9 := hG8.kept kF (by simp)
  have hl9 : P9.length = 1 := hT9.len
  refine step_append_any rfl (.tmp 29) (.tmp 32) rfl w4.heap.size (.slice sa5 P5.length cap5) (.slice sa9 P9.length cap9) P5 P9 (by simp [Act.eval]) (by simp [Act.eval]) hT8b.row hT9.row.lies (by omega) (by have := kF.size; have := hk5.out.size; have := kG.size; have := kJs; omega) ?_
  intro sa10 n10 cap10 w10 hR10 hk10 hn10
  have nb10 := hT8b.row.noByt
  have fo : ∀ {t : TypeId} {k : Nat} {c : Array Value}, Blk w9 k t c → t ≠ 34 → k ∉ (Value.slice sa5 P5.length cap5).ownBlock.toList := fun hb ht hm => by
    obtain ⟨cur, hcur⟩ := hT8b.row.blk _ (by simpa using hm)
    exact blk_ne hb hcur ht rfl
  have hH1 := (⟨hA9.kept hk10 (fo hA9 (by decide)), hG9.kept hk10 (fo hG9 (by decide))⟩ : (PairAt w10 w.heap.size s.my s.peer F.g F.i ∧ Blk w10 w5.heap.size 41 #[.bool false, .bool false, .slice none 0 0]))
  refine hKK.out _ _ hH1 (fun _ => ?_)
  replace hH := hH1
  clear hKK KK hH1
  try simp only [Act.put, List.setIfInBounds_toArray, List.set_cons_zero, List.set_cons_succ]
  refine wpAnyH_ready (rs := [6]) (by kernel_rfl) (by simp) ?_
  refine AllReadyH.cons (o := ⟨none, _, _, _, _, _⟩) rfl (fun KK hKK => ?_) AllReadyH.nil
  have hC10 := (hC8.kept kF (by simp)).kept hk10 (fo (hC8.kept kF (by simp)) (by decide))
  refine step_store_part rfl 41 (.tmp 4) (.tmp 28) rfl W2.heap.size 41 [] [.bool false, .bool false, .slice none 0 0] [] [.bool false, .bool false, .slice none 0 0] 0 rfl (by simp [Act.eval]) (by simp [Act.eval]) hC10 rfl Try.sizeGot (by simp [Value.oneCell']) ?_
  intro w11 hb11 hk11 hz11
  have hW25 : W2.heap.size ≠ w5.heap.size ∧ w.heap.size ≠ W2.heap.size := by have := hC.lt; constructor <;> omega
  have hH1 := (⟨hH.1.kept hk11 (by simpa using hW25.2), hH.2.kept hk11 (by simpa using hW25.1.symm)⟩ : (PairAt w11 w.heap.size s.my s.peer F.g F.i ∧ Blk w11 w5.heap.size 41 #[.bool false, .bool false, .slice none 0 0]))
  refine hKK.out _ _ hH1 (fun _ => ?_)
  replace hH := hH1
  clear hKK KK hH1
  try simp only [Act.put]
  refine wpAnyH_take (i := 7) (oi := ⟨some 5, _, _, _, _, _⟩) (v := (.slice sa10 n10 cap10)) rfl (by kernel_rfl) (by kernel_rfl) (by kernel_rfl) (fun _ _ _ h => h) (Or.inl ⟨by rfl, fun W hSw => by go_simp⟩) hH ?_
  try simp only [Act.put, List.setIfInBounds_toArray, List.set_cons_zero, List.set_cons_succ]
  refine wpAnyH_done (by kernel_rfl) ?_ _
  go_wp2_with fail
  refine bodyPost_ret (Wire.results_row_tmp rfl _ _ W2.heap.size _ rfl (run_loadVar_row (P := Try.prog) w11 W2.heap.size 41 41 _ (0, 0) _ hb11 Try.underlying41 rfl Try.sizeGot)) rfl ?_
  have nb11 : NoByt [W2.heap.size] w10 := NoByt.cons (Outbox.noByt_nil _) hC10 (by decide)
  have nr11 : NoRow [W2.heap.size] w10 := NoRow.cons (noRow_nil _) hC10 (by decide)
  have hS10 : SsAt w10 base F t2 := (hS8.kept0 kF).kept hk10 (fun k hm hmm => by
    have h1 := (hT8b.row.lt k (by simpa using hmm)).1
    have h2 := hlt k hm
    omega) nb10
  refine ⟨_, rfl, ⟨P5 ++ P9, ?_⟩, ?_, ?_⟩
  · rw [ht1.out, hAL.out, ht2.out]
    refine ⟨(hR10.keptT hk11 nr11).low (by omega), ?_, fun z hz => ?_⟩
    · rw [List.map_append, hT8.bs, hT9.bs]
      rfl
    · rcases List.mem_append.1 hz with hz | hz
      · exact ((hT8b.mem z hz).kept hk10 nb10).kept hk11 nb11
      · exact ((hT9.mem z hz).kept hk10 nb10).kept hk11 nb11
  · rw [ht1.out, ht2.out]
    exact hS10.kept hk11 (fun k hm e => by
      rw [List.mem_singleton] at e
      have := hlt k hm
      omega) nb11
  · have k1 : Kept F.l w w9 := kJ.trans (kF.mono (by simp))
    refine ⟨(hk11.os.trans hk10.os).trans k1.os, (hk11.tape.trans hk10.tape).trans k1.tape, (hk11.output.trans hk10.output).trans k1.output, Nat.le_trans k1.size (Nat.le_trans hk10.size hk11.size), fun i hi hm => ?_⟩
    have a1 := k1.block i hi hm
    have a2 := hk10.block i (Nat.lt_of_lt_of_le hi k1.size) (fun e => by have := (hT8b.row.lt i (by simpa using e)).1; omega)
    have a3 := hk11.block i (Nat.lt_of_lt_of_le hi (Nat.le_trans k1.size hk10.size)) (by simp; omega)
    exact (a3.trans a2).trans a1
set_option maxRecDepth 100000 in
set_option maxHeartbeats 4000000 in
/-- open, of a Msg that is the next -/
theorem open_msg_true {base : Nat} {F : Foot} {s : Ss} (y : Pv) (hk3 : y.k = 3) (htb : Inbox.takeB s.last y.s = true) (w : World) (h : SsAt w base F s) (hs : s.ob.n + s.ob.l.length ≤ 1000000) (hb : ∀ b ∈ s.ob.l, b.length ≤ 1000) :
    Calls Try.prog 31 #[.agg #[.int .u32 (s.my : Int), .int .u32 (s.peer : Int), .pointer (some ⟨F.g, 0, none⟩), .pointer (some ⟨F.i, 0, none⟩)], .agg #[.int .u32 (y.f : Int), .int .u32 (y.t : Int), .int .i64 y.k, .int .i64 y.s, .int .i64 y.a, .slice y.sa y.len y.cap]] w fun e w' => ∃ v, e = .returned (.tuple #[.agg #[.bool false, .bool true, .slice y.sa y.len y.cap], v]) ∧ Opened w base F ((s.ackd y.a).gone y.s) (((s.ob.ackL y.a).map fun n => bytesL ((s.ackd y.a).msg n)) ++ [bytesL ((s.ackd y.a).gone y.s).ping]) v w' := by
  have hk3' : (y.k != 3) = false := by simpa using hk3
  clear hk3
  have kA := kept_alloc [] w (.cells #[.int .u32 (s.my : Int), .int .u32 (s.peer : Int), .pointer (some ⟨F.g, 0, none⟩), .pointer (some ⟨F.i, 0, none⟩)] 53)
  have hA : PairAt _ w.heap.size s.my s.peer F.g F.i := blk_new w 53 #[.int .u32 (s.my : Int), .int .u32 (s.peer : Int), .pointer (some ⟨F.g, 0, none⟩), .pointer (some ⟨F.i, 0, none⟩)]
  obtain ⟨W1, hW1⟩ : ∃ W1, w.alloc (.cells #[.int .u32 (s.my : Int), .int .u32 (s.peer : Int), .pointer (some ⟨F.g, 0, none⟩), .pointer (some ⟨F.i, 0, none⟩)] 53) = W1 := ⟨_, rfl⟩
  rw [hW1] at kA hA
  have hz0 : w.heap.size < W1.heap.size := hA.lt
  have kB := kept_alloc [] W1 (.cells #[.int .u32 (y.f : Int), .int .u32 (y.t : Int), .int .i64 y.k, .int .i64 y.s, .int .i64 y.a, .slice y.sa y.len y.cap] 47)
  have hB : y.In _ W1.heap.size := blk_new W1 47 #[.int .u32 (y.f : Int), .int .u32 (y.t : Int), .int .i64 y.k, .int .i64 y.s, .int .i64 y.a, .slice y.sa y.len y.cap]
  replace hA := hA.kept kB (by simp)
  obtain ⟨W2, hW2⟩ : ∃ W2, W1.alloc (.cells #[.int .u32 (y.f : Int), .int .u32 (y.t : Int), .int .i64 y.k, .int .i64 y.s, .int .i64 y.a, .slice y.sa y.len y.cap] 47) = W2 := ⟨_, rfl⟩
  rw [hW2] at kB hB hA
  have kC := kept_alloc [] W2 (.cells #[.bool false, .bool false, .slice none 0 0] 41)
  have hC := blk_new W2 41 #[.bool false, .bool false, .slice none 0 0]
  replace hA := hA.kept kC (by simp)
  replace hB := hB.kept kC (by simp)
  obtain ⟨W3, hW3⟩ : ∃ W3, W2.alloc (.cells #[.bool false, .bool false, .slice none 0 0] 41) = W3 := ⟨_, rfl⟩
  rw [hW3] at kC hA hB hC
  have kD : Kept [] w W3.drew := ((kA.trans kB).trans kC).trans (kept_drew [] W3)
  replace hA := hA.kept (kept_drew [] W3) (by simp)
  replace hB := hB.kept (kept_drew [] W3) (by simp)
  replace hC := hC.kept (kept_drew [] W3) (by simp)
  have hS := h.kept0 kD
  have q1 := Outbox.acked_any W3.drew hS.out hs y.a
  have fA : w.heap.size ∉ F.l := fun hm => by have := (h.lt _ hm).2; omega
  have fB : W1.heap.size ∉ F.l := fun hm => by have := (h.lt _ hm).2; have := kA.size; omega
  have fC : W2.heap.size ∉ F.l := fun hm => by have := (h.lt _ hm).2; have := (kA.trans kB).size; omega
  have hsub : ∀ k ∈ F.g :: F.r.toList, k ∈ F.l := fun k hm => by
    simp only [Foot.l]
    rcases List.mem_cons.1 hm with e | e
    · simp [e]
    · simp at e
      simp [e]
  have hz1 : w.heap.size < W2.heap.size := Nat.lt_of_lt_of_le hz0 kB.size
  have hz2 : W2.heap.size < W3.drew.heap.size := hC.lt
  clear hz0
  obtain ⟨t1, ht1⟩ : ∃ t1, Hid (s.ackd y.a = t1) := ⟨_, rfl⟩
  have hS1 : ∀ w4, OutAt w4 base F.g F.r (s.ob.ack y.a) → Kept (F.g :: F.r.toList) W3.drew w4 → SsAt w4 base F t1 := fun w4 hO hk => by
    rw [← ht1.out]
    exact hS.outbox F.r _ hO hk (ack_w _ _)
  have et : Hid (t1.my = s.my ∧ t1.peer = s.peer ∧ t1.ob = s.ob.ack y.a ∧ t1.last = s.last) := by rw [← ht1.out]; exact ⟨rfl, rfl, rfl, rfl⟩
  have hs1 : t1.ob.n + t1.ob.l.length ≤ 1000000 := by rw [et.out.2.2.1]; exact ack_sum _ _ hs h.out.first
  have hb1 : ∀ b ∈ t1.ob.l, b.length ≤ 1000 := fun b hm => by rw [et.out.2.2.1] at hm; exact hb b (ack_mem _ _ hm)
  have hal : (s.ob.ackL y.a).length ≤ 1000 := ackL_len _ _ h.out.top
  obtain ⟨AL, hAL⟩ : ∃ AL, Hid (s.ob.ackL y.a = AL) := ⟨_, rfl⟩
  rw [hAL.out] at q1 hal
  obtain ⟨O1, hO1e⟩ : ∃ O1, Hid (s.ob.ack y.a = O1) := ⟨_, rfl⟩
  rw [hO1e.out] at q1 hS1
  have kD' : Hid (Kept [] w W3.drew) := kD
  have hlt := fun k (hm : k ∈ F.l) => (h.lt k hm).2
  clear hb hs h kA kB kC kD hS
  go_enter Try.func31, Try.ntmps31
  go_wp2_with fail
  refine wp_region_held_drew (S := fun W => PairAt W w.heap.size s.my s.peer F.g F.i ∧ y.In W W1.heap.size) (by kernel_rfl) ⟨hA, hB⟩ (fun hP => ?_)
  have hH := hP
  clear hP
  refine wpAnyH_take (i := 0) (oi := ⟨some 8, _, _, _, _, _⟩) (v := (.agg #[.int .u32 (s.my : Int), .int .u32 (s.peer : Int), .pointer (some ⟨F.g, 0, none⟩), .pointer (some ⟨F.i, 0, none⟩)])) rfl (by kernel_rfl) (by kernel_rfl) (by kernel_rfl) (fun _ _ _ h => h) (Or.inl ⟨by rfl, fun W hSw => by obtain ⟨c0, c1, c2, c3⟩ := PairAt.four hSw.1; go_simp⟩) hH ?_
  try simp only [Act.put, List.setIfInBounds_toArray, List.set_cons_zero, List.set_cons_succ]
  refine wpAnyH_take (i := 1) (oi := ⟨some 9, _, _, _, _, _⟩) (v := (.pointer (some ⟨w.heap.size, 2, none⟩))) rfl (by kernel_rfl) (by kernel_rfl) (by kernel_rfl) (fun _ _ _ h => h) (Or.inl ⟨by rfl, fun W hSw => by go_simp⟩) hH ?_
  try simp only [Act.put, List.setIfInBounds_toArray, List.set_cons_zero, List.set_cons_succ]
  refine wpAnyH_take (i := 2) (oi := ⟨some 10, _, _, _, _, _⟩) (v := (.pointer (some ⟨F.g, 0, none⟩))) rfl (by kernel_rfl) (by kernel_rfl) (by kernel_rfl) (fun _ _ _ h => h) (Or.inl ⟨by rfl, fun W hSw => by obtain ⟨c0, c1, c2, c3⟩ := PairAt.four hSw.1; go_simp⟩) hH ?_
  try simp only [Act.put, List.setIfInBounds_toArray, List.set_cons_zero, List.set_cons_succ]
  refine wpAnyH_take (i := 3) (oi := ⟨some 11, _, _, _, _, _⟩) (v := (.pointer (some ⟨W1.heap.size, 4, none⟩))) rfl (by kernel_rfl) (by kernel_rfl) (by kernel_rfl) (fun _ _ _ h => h) (Or.inl ⟨by rfl, fun W hSw => by go_simp⟩) hH ?_
  try simp only [Act.put, List.setIfInBounds_toArray, List.set_cons_zero, List.set_cons_succ]
  refine wpAnyH_take (i := 4) (oi := ⟨some 12, _, _, _, _, _⟩) (v := (.int .i64 y.a)) rfl (by kernel_rfl) (by kernel_rfl) (by kernel_rfl) (fun _ _ _ h => h) (Or.inl ⟨by rfl, fun W hSw => by obtain ⟨y0, y1, y2, y3, y4, y5⟩ := Pv.In.six hSw.2; go_simp⟩) hH ?_
  try simp only [Act.put, List.setIfInBounds_toArray, List.set_cons_zero, List.set_cons_succ]
  refine wpAnyH_ready (rs := [5]) (by kernel_rfl) (by simp) ?_
  refine AllReadyH.cons (o := ⟨some 13, _, _, _, _, _⟩) rfl (fun KK hKK => ?_) AllReadyH.nil
  go_simp
  refine q1.mono ?_
  rintro e w4 ⟨v4, rfl, hN4, hO4, hk4⟩
  obtain ⟨sa4, cap4, rfl, -, -⟩ := hN4.slice
  have hk4u := hk4
  replace hk4 := hk4.mono hsub
  have hS4 := hS1 w4 hO4 hk4u
  have qt := tell_msg F t1 base hS4.my2 hS4.peer w4 hS4.out hS4.inn hs1 hb1 _ _ _ _ AL hN4 hal
  rw [et.out.1, et.out.2.1] at qt
  go_wp2_with fail
  have hH1 := (⟨hA.kept hk4 fA, hB.kept hk4 fB⟩ : PairAt w4 w.heap.size s.my s.peer F.g F.i ∧ y.In w4 W1.heap.size)
  refine hKK.out _ _ hH1 (fun _ => ?_)
  replace hH := hH1
  clear hKK KK hH1
  try simp only [Act.put, List.setIfInBounds_toArray, List.set_cons_zero, List.set_cons_succ]
  refine wpAnyH_ready (rs := [6]) (by kernel_rfl) (by simp) ?_
  refine AllReadyH.cons (o := ⟨some 14, _, _, _, _, _⟩) rfl (fun KK hKK => ?_) AllReadyH.nil
  go_simp
  refine qt.mono ?_
  rintro e w5 ⟨v5, P5, rfl, hT5, hk5⟩
  obtain ⟨sa5, cap5, rfl⟩ := hT5.row.form
  go_wp2_with fail
  have hH1 := (⟨hH.1.kept hk5 (by simp), hH.2.kept hk5 (by simp)⟩ : PairAt w5 w.heap.size s.my s.peer F.g F.i ∧ y.In w5 W1.heap.size)
  refine hKK.out _ _ hH1 (fun _ => ?_)
  replace hH := hH1
  clear hKK KK hH1
  try simp only [Act.put, List.setIfInBounds_toArray, List.set_cons_zero, List.set_cons_succ]
  refine wpAnyH_take (i := 7) (oi := ⟨some 6, _, _, _, _, _⟩) (v := (.slice sa5 P5.length cap5)) rfl (by kernel_rfl) (by kernel_rfl) (by kernel_rfl) (fun _ _ _ h => h) (Or.inl ⟨by rfl, fun W hSw => by go_simp⟩) hH ?_
  try simp only [Act.put, List.setIfInBounds_toArray, List.set_cons_zero, List.set_cons_succ]
  refine wpAnyH_done (by kernel_rfl) ?_ _
  obtain ⟨hA5, hB5⟩ := hH
  have hS5 := hS4.kept0 hk5
  have hC5 := (hC.kept hk4 fC).kept hk5 (by simp)
  obtain ⟨y0, y1, y2, y3, y4, y5⟩ := hB5.six
  have kG := kept_alloc [] w5 (.cells #[.bool false, .bool false, .slice none 0 0] 41)
  have hG := blk_new w5 41 #[.bool false, .bool false, .slice none 0 0]
  replace hS5 := hS5.kept0 kG
  replace hA5 := hA5.kept kG (by simp)
  replace hC5 := hC5.kept kG (by simp)
  replace hT5 := hT5.kept0 kG
  replace hB5 := hB5.kept kG (by simp)
  obtain ⟨W6, hW6⟩ : ∃ W6, w5.alloc (.cells #[.bool false, .bool false, .slice none 0 0] 41) = W6 := ⟨_, rfl⟩
  rw [hW6] at kG hG hS5 hA5 hC5 hT5 hB5
  have q6 := Inbox.take_any y.s _ hS5.inn
  have el := et.out.2.2.2
  rw [el, htb] at q6
  clear el
  obtain ⟨u0, u1, u2, u3, u4, u5⟩ := hB5.six
  obtain ⟨c0, c1, c2, c3⟩ := hA5.four
  replace hk4 : Hid _ := hk4
  replace hk5 : Hid _ := hk5
  obtain ⟨t2, ht2⟩ : ∃ t2, Hid (t1.gone y.s = t2) := ⟨_, rfl⟩
  have et2 : Hid (t2.my = s.my ∧ t2.peer = s.peer) := by rw [← ht2.out]; exact ⟨et.out.1, et.out.2.1⟩
  have hS7' : ∀ w7, InAt w7 F.i (Inbox.takeL s.last y.s) → Kept [F.i] W6 w7 → SsAt w7 base F t2 := fun w7 hI hk => by
    rw [← ht2.out]
    refine hS5.inbox _ ?_ hk
    rw [et.out.2.2.2]
    exact hI
  have fi : F.i ∈ F.l := by simp [Foot.l]
  have ni := (hlt F.i fi)
  have nI : Hid (W1.heap.size ∉ [F.i]) := fun e => by rw [List.mem_singleton] at e; rw [e] at fB; exact fB fi
  have z4 := hk4.out.size
  have z5 := hk5.out.size
  have z6 := kD'.out.size
  have zG := kG.size
  generalize Inbox.takeL s.last y.s = TL at *
  have d1 := hA5.lt
  have d2 := hC5.lt
  have kI : Kept F.l w W6 := (((kD'.out.mono (by simp)).trans hk4.out).trans (hk5.out.mono (by simp))).trans (kG.mono (by simp))
  replace kI : Hid _ := kI
  have nG : Hid (w5.heap.size ≠ F.i ∧ w.heap.size ≠ F.i ∧ W2.heap.size ≠ F.i) := by refine ⟨?_, ?_, ?_⟩ <;> omega
  go_wp2_with (first
    | (go_at_call 55; refine q6.mono ?_; rintro e w7 ⟨rfl, hI7, hk7⟩; have hB7 := hB5.kept hk7 nI.out; obtain ⟨x0, x1, x2, x3, x4, x5⟩ := hB7.six)
    | (refine wpList_store_blk rfl 41 _ _ rfl w5.heap.size 41 _ [.bool false, .bool true, .slice y.sa y.len y.cap] rfl rfl (hG.kept hk7 (by simpa using nG.out.1)) rfl Try.sizeGot (by simp [Value.oneCell']) ?_; intro w8 hG8 hk8 hz8))
  have hG7 := hG.kept hk7 (by simpa using nG.out.1)
  have hS7 := hS7' w7 hI7 hk7
  have nb7 : NoByt [F.i] W6 := NoByt.cons (Outbox.noByt_nil _) hS5.inn.1 (by decide)
  have nr7 : NoRow [F.i] W6 := NoRow.cons (noRow_nil _) hS5.inn.1 (by decide)
  have nb8 : NoByt [w5.heap.size] w7 := NoByt.cons (Outbox.noByt_nil _) hG7 (by decide)
  have nr8 : NoRow [w5.heap.size] w7 := NoRow.cons (noRow_nil _) hG7 (by decide)
  have f5 : ∀ k ∈ F.l, k ∉ [w5.heap.size] := fun k hm e => by
    rw [List.mem_singleton] at e
    have := hlt k hm
    omega
  have hS8 := hS7.kept hk8 f5 nb8
  have hT8 := (hT5.keptT hk7 nb7 nr7).keptT hk8 nb8 nr8
  have hA7 := hA5.kept hk7 (by simpa using nG.out.2.1)
  have hA8 := hA7.kept hk8 (by simp; omega)
  have hC8 := (hC5.kept hk7 (by simpa using nG.out.2.2)).kept hk8 (by simp; have := hC.lt; omega)
  have kJ : Kept F.l w w8 := Kept.young (g := w5.heap.size) (kI.out.trans (hk7.mono (by simp [fi]))) (hk8.mono (by simp)) (by omega)
  have kd := kept_drew [] w8
  replace hG8 := hG8.kept kd (by simp)
  replace hS8 := hS8.kept0 kd
  replace hT8 := hT8.kept0 kd
  replace hA8 := hA8.kept kd (by simp)
  replace hC8 := hC8.kept kd (by simp)
  replace kJ : Kept F.l w w8.drew := kJ.trans (kd.mono (by simp))
  have kE := kept_alloc [] w8.drew (.cells #[.int .i64 0] 3)
  have hS9 := hS8.kept0 kE
  have qt2 := tell_ping F t2 base hS9.my2 hS9.peer _ hS9.inn _ _ _ _ [0] (one_nought w8.drew) (by simp) (by simp)
  rw [et2.out.1, et2.out.2] at qt2
  have hlen5 : P5.length ≤ 1000 := by
    have := hT5.len
    rw [List.length_map] at this
    omega
  have kJs : w4.heap.size ≤ w8.drew.heap.size := by have : W6.heap.size ≤ w8.heap.size := Nat.le_trans hk7.size hk8.size; show w4.heap.size ≤ w8.heap.size; omega
  clear y0 y1 y2 y3 y4 y5 c0 c1 c2 c3 u0 u1 u2 u3 u4 u5 x0 x1 x2 x3 x4 x5
  refine wp_region_held_drew (S := fun W => PairAt W w.heap.size s.my s.peer F.g F.i ∧ Blk W w5.heap.size 41 #[.bool false, .bool true, .slice y.sa y.len y.cap]) (by kernel_rfl) ⟨hA8, hG8⟩ (fun hP => ?_)
  have hH := hP
  clear hP
  refine wpAnyH_take (i := 0) (oi := ⟨some 28, _, _, _, _, _⟩) (v := (.agg #[.bool false, .bool true, .slice y.sa y.len y.cap])) rfl (by kernel_rfl) (by kernel_rfl) (by kernel_rfl) (fun _ _ _ h => h) (Or.inl ⟨by rfl, fun W hSw => by obtain ⟨g0, g1, g2⟩ : W.cell? ⟨w5.heap.size, 0, none⟩ = some (.bool false) ∧ W.cell? ⟨w5.heap.size, 1, none⟩ = some (.bool true) ∧ W.cell? ⟨w5.heap.size, 2, none⟩ = some (.slice y.sa y.len y.cap) := ⟨(Blk.cell hSw.2 0).trans rfl, (Blk.cell hSw.2 1).trans rfl, (Blk.cell hSw.2 2).trans rfl⟩; go_simp⟩) hH ?_
  try simp only [Act.put, List.setIfInBounds_toArray, List.set_cons_zero, List.set_cons_succ]
  refine wpAnyH_take (i := 1) (oi := ⟨some 29, _, _, _, _, _⟩) (v := (.slice sa5 P5.length cap5)) rfl (by kernel_rfl) (by kernel_rfl) (by kernel_rfl) (fun _ _ _ h => h) (Or.inl ⟨by rfl, fun W hSw => by go_simp⟩) hH ?_
  try simp only [Act.put, List.setIfInBounds_toArray, List.set_cons_zero, List.set_cons_succ]
  refine wpAnyH_take (i := 2) (oi := ⟨some 30, _, _, _, _, _⟩) (v := (.agg #[.int .u32 (s.my : Int), .int .u32 (s.peer : Int), .pointer (some ⟨F.g, 0, none⟩), .pointer (some ⟨F.i, 0, none⟩)])) rfl (by kernel_rfl) (by kernel_rfl) (by kernel_rfl) (fun _ _ _ h => h) (Or.inl ⟨by rfl, fun W hSw => by obtain ⟨c0, c1, c2, c3⟩ := PairAt.four hSw.1; go_simp⟩) hH ?_
  try simp only [Act.put, List.setIfInBounds_toArray, List.set_cons_zero, List.set_cons_succ]
  refine wpAnyH_ready (rs := [3]) (by kernel_rfl) (by simp) ?_
  refine AllReadyH.cons (o := ⟨some 31, _, _, _, _, _⟩) rfl (fun KK hKK => ?_) AllReadyH.nil
  go_simp
  have hH1 := (⟨hA8.kept kE (by simp), hG8.kept kE (by simp)⟩ : PairAt (w8.drew.alloc (.cells #[.int .i64 0] 3)) w.heap.size s.my s.peer F.g F.i ∧ Blk (w8.drew.alloc (.cells #[.int .i64 0] 3)) w5.heap.size 41 #[.bool false, .bool true, .slice y.sa y.len y.cap])
  refine hKK.out _ _ hH1 (fun _ => ?_)
  replace hH := hH1
  clear hKK KK hH1
  try simp only [Act.put, List.setIfInBounds_toArray, List.set_cons_zero, List.set_cons_succ]
  refine wpAnyH_ready (rs := [4]) (by kernel_rfl) (by simp) ?_
  refine AllReadyH.cons (o := ⟨some 32, _, _, _, _, _⟩) rfl (fun KK hKK => ?_) AllReadyH.nil
  go_simp
  refine qt2.mono ?_
  rintro e w9 ⟨v9, P9, rfl, hT9, hk9⟩
  obtain ⟨sa9, cap9, rfl⟩ := hT9.row.form
  have kF := kE.trans hk9
  go_wp2_with fail
  have hH1 := (⟨hA8.kept kF (by simp), hG8.kept kF (by simp)⟩ : (PairAt w9 w.heap.size s.my s.peer F.g F.i ∧ Blk w9 w5.heap.size 41 #[.bool false, .bool true, .slice y.sa y.len y.cap]))
  refine hKK.out _ _ hH1 (fun _ => ?_)
  replace hH := hH1
  clear hKK KK hH1
  try simp only [Act.put, List.setIfInBounds_toArray, List.set_cons_zero, List.set_cons_succ]
  refine wpAnyH_ready (rs := [5]) (by kernel_rfl) (by simp) ?_
  refine AllReadyH.cons (o := ⟨some 33, _, _, _, _, _⟩) rfl (fun KK hKK => ?_) AllReadyH.nil
  have hT8b := hT8.kept0 kF
  have hA9 := hA8.kept kF (by simp)
  have hG9 := hG8.kept kF (by simp)
  have hl9 : P9.length = 1 := hT9.len
  refine step_append_any rfl (.tmp 29) (.tmp 32) rfl w4.heap.size (.slice sa5 P5.length cap5) (.slice sa9 P9.length cap9) P5 P9 (by simp [Act.eval]) (by simp [Act.eval]) hT8b.row hT9.row.lies (by omega) (by have := kF.size; have := hk5.out.size; have := kG.size; have := kJs; omega) ?_
  intro sa10 n10 cap10 w10 hR10 hk10 hn10
  have nb10 := hT8b.row.noByt
  have fo : ∀ {t : TypeId} {k : Nat} {c : Array Value}, Blk w9 k t c → t ≠ 34 → k ∉ (Value.slice sa5 P5.length cap5).ownBlock.toList := fun hb ht hm => by
    obtain ⟨cur, hcur⟩ := hT8b.row.blk _ (by simpa using hm)
    exact blk_ne hb hcur ht rfl
  have hH1 := (⟨hA9.kept hk10 (fo hA9 (by decide)), hG9.kept hk10 (fo hG9 (by decide))⟩ : (PairAt w10 w.heap.size s.my s.peer F.g F.i ∧ Blk w10 w5.heap.size 41 #[.bool false, .bool true, .slice y.sa y.len y.cap]))
  refine hKK.out _ _ hH1 (fun _ => ?_)
  replace hH := hH1
  clear hKK KK hH1
  try simp only [Act.put, List.setIfInBounds_toArray, List.set_cons_zero, List.set_cons_succ]
  refine wpAnyH_ready (rs := [6]) (by kernel_rfl) (by simp) ?_
  refine AllReadyH.cons (o := ⟨none, _, _, _, _, _⟩) rfl (fun KK hKK => ?_) AllReadyH.nil
  have hC10 := (hC8.kept kF (by simp)).kept hk10 (fo (hC8.kept kF (by simp)) (by decide))
  refine step_store_part rfl 41 (.tmp 4) (.tmp 28) rfl W2.heap.size 41 [] [.bool false, .bool false, .slice none 0 0] [] [.bool false, .bool true, .slice y.sa y.len y.cap] 0 rfl (by simp [Act.eval]) (by simp [Act.eval]) hC10 rfl Try.sizeGot (by simp [Value.oneCell']) ?_
  intro w11 hb11 hk11 hz11
  have hW25 : W2.heap.size ≠ w5.heap.size ∧ w.heap.size ≠ W2.heap.size := by have := hC.lt; constructor <;> omega
  have hH1 := (⟨hH.1.kept hk11 (by simpa using hW25.2), hH.2.kept hk11 (by simpa using hW25.1.symm)⟩ : (PairAt w11 w.heap.size s.my s.peer F.g F.i ∧ Blk w11 w5.heap.size 41 #[.bool false, .bool true, .slice y.sa y.len y.cap]))
  refine hKK.out _ _ hH1 (fun _ => ?_)
  replace hH := hH1
  clear hKK KK hH1
  try simp only [Act.put]
  refine wpAnyH_take (i := 7) (oi := ⟨some 5, _, _, _, _, _⟩) (v := (.slice sa10 n10 cap10)) rfl (by kernel_rfl) (by kernel_rfl) (by kernel_rfl) (fun _ _ _ h => h) (Or.inl ⟨by rfl, fun W hSw => by go_simp⟩) hH ?_
  try simp only [Act.put, List.setIfInBounds_toArray, List.set_cons_zero, List.set_cons_succ]
  refine wpAnyH_done (by kernel_rfl) ?_ _
  go_wp2_with fail
  refine bodyPost_ret (Wire.results_row_tmp rfl _ _ W2.heap.size _ rfl (run_loadVar_row (P := Try.prog) w11 W2.heap.size 41 41 _ (0, 0) _ hb11 Try.underlying41 rfl Try.sizeGot)) rfl ?_
  have nb11 : NoByt [W2.heap.size] w10 := NoByt.cons (Outbox.noByt_nil _) hC10 (by decide)
  have nr11 : NoRow [W2.heap.size] w10 := NoRow.cons (noRow_nil _) hC10 (by decide)
  have hS10 : SsAt w10 base F t2 := (hS8.kept0 kF).kept hk10 (fun k hm hmm => by
    have h1 := (hT8b.row.lt k (by simpa using hmm)).1
    have h2 := hlt k hm
    omega) nb10
  refine ⟨_, rfl, ⟨P5 ++ P9, ?_⟩, ?_, ?_⟩
  · rw [ht1.out, hAL.out, ht2.out]
    refine ⟨(hR10.keptT hk11 nr11).low (by omega), ?_, fun z hz => ?_⟩
    · rw [List.map_append, hT8.bs, hT9.bs]
      rfl
    · rcases List.mem_append.1 hz with hz | hz
      · exact ((hT8b.mem z hz).kept hk10 nb10).kept hk11 nb11
      · exact ((hT9.mem z hz).kept hk10 nb10).kept hk11 nb11
  · rw [ht1.out, ht2.out]
    exact hS10.kept hk11 (fun k hm e => by
      rw [List.mem_singleton] at e
      have := hlt k hm
      omega) nb11
  · have k1 : Kept F.l w w9 := kJ.trans (kF.mono (by simp))
    refine ⟨(hk11.os.trans hk10.os).trans k1.os, (hk11.tape.trans hk10.tape).trans k1.tape, (hk11.output.trans hk10.output).trans k1.output, Nat.le_trans k1.size (Nat.le_trans hk10.size hk11.size), fun i hi hm => ?_⟩
    have a1 := k1.block i hi hm
    have a2 := hk10.block i (Nat.lt_of_lt_of_le hi k1.size) (fun e => by have := (hT8b.row.lt i (by simpa using e)).1; omega)
    have a3 := hk11.block i (Nat.lt_of_lt_of_le hi (Nat.le_trans k1.size hk10.size)) (by simp; omega)
    exact (a3.trans a2).trans a1
end Go.Proofs.Ytnbkbakbjllmcaa.Session
