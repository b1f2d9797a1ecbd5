/-
  The walks of the program's session: what it is in memory; made, My, Peer, Alive, Full, Len; the packets hello, ping, msg.
-/
import Derived.Test.YtnbkbakbjllmcaaSsM
import Derived.Test.YtnbkbakbjllmcaaWrG
import Derived.Test.YtnbkbakbjllmcaaOtF
namespace Go.Proofs.Ytnbkbakbjllmcaa.Session
open Go.RowKit
open Outbox (Ob nums OutAt Bv Byt NoByt RowAt NRow)
open Inbox (InAt)
open Keep (KpAt)
open Wire (Ps Pv bytesL parseM parseE)

theorem blk_ne {W : World} {a b : Nat} {t t' : TypeId} {c c' : Array Value} (h : Blk W a t c) (h' : Blk W b t' c') (ht : t ≠ t') : a ≠ b := fun e => by
  subst e
  unfold Blk at h h'
  rw [h] at h'
  injection h' with h'
  injection h' with _ h' _
  exact ht h'
set_option maxRecDepth 100000 in
/-- Cells stored in a block's midst. -/
theorem setCells_mid {W : World} {g o : Nat} {t : TypeId} {cur : Array Value} {vs : List Value} (hg : W.heap[g]? = some (.cells cur t (0, 0))) (hl : o + vs.length ≤ cur.size) (h1 : ∀ v ∈ vs, v.oneCell' = true) : W.setCells g o vs = W.setRow g (cur.toList.take o ++ vs ++ cur.toList.drop (o + vs.length)).toArray := by
  have hin : ∀ j, j < vs.length → (W.cell? ⟨g, o + 0 + j, none⟩).isSome = true := fun j hj => by
    rw [cell_of_row W g _ cur t (0, 0) hg]
    simp
    omega
  have hfr : ∀ j, j < vs.length → W.frozen? ⟨g, o + 0 + j, none⟩ = false := fun j _ => by simp [World.frozen?, hg]
  have e1 := run_storeCells_cells (P := Try.prog) g o vs 0 W hin hfr h1
  have e2 := run_storeCells_at Try.prog g o t vs 0 cur W hg (by omega) h1
  rw [e1] at e2
  injection e2 with _ e3
section
variable {ops : Array Oper} {rest : List Oper} {o : Oper} {a : Act} {w : World} {Q : Exit → Act → World → Prop}
set_option maxRecDepth 100000 in
/-- A part of a block stored, at a step of a region that draws. -/
theorem step_store_part {K : Act → World → Prop} {E : Prop} (hgd : o.guard = none) (ty : TypeId) (x y : Operand) (ho : o.op = .store ty x y) (g : Nat) (t : TypeId) (pre old post cs : List Value) (n : Nat) (hn : pre.length = n)
    (hx : a.eval x = .pointer (some ⟨g, n, none⟩)) (hy : a.eval y = .agg cs.toArray) (h0 : Blk w g t (pre ++ old ++ post).toArray) (hl : cs.length = old.length) (hi : (Try.prog.info? ty).map (·.size) = some cs.length) (h1 : ∀ v ∈ cs, v.oneCell' = true)
    (h : ∀ w', Blk w' g t (pre ++ cs ++ post).toArray → Kept [g] w w' → Hid (w'.heap.size = w.heap.size) → K (a.put o.dst undef) w') : if Region.wanted o (yielded ops a.tmps) = true then Oper.wp Try.prog o a w K Q else E := by
  have hw : Region.wanted o (yielded ops a.tmps) = true := by simp [Region.wanted, hgd]
  rw [if_pos hw]
  refine wp_store_mid ty x y ho g n cs.toArray hx hy ?_ (by simpa using hi) (all_oneCell_toArray h1) ?_
  · intro j hj
    refine ⟨?_, h0.frozen _⟩
    rw [h0.cell]
    simp at hj
    simp
    omega
  · have e : w.setCells g n cs = w.setRow g (pre ++ cs ++ post).toArray := by
      rw [setCells_mid h0 (by simp; omega) h1]
      simp [← hn, hl, List.append_assoc]
    refine h _ ?_ ?_ ?_
    · simp only [] at *
      rw [e]
      exact setRow_heap w g _ _ t _ h0
    · simp only [] at *
      rw [e]
      exact ⟨rfl, rfl, rfl, by simp [World.setRow], fun k _ hk => setRow_other w g k _ (by simpa using hk)⟩
    · simp only [] at *
      rw [e]
      show _ = _
      simp [World.setRow]
set_option maxRecDepth 100000 in
/-- A part of a block stored. -/
theorem wpList_store_part (hgd : o.guard = none) (ty : TypeId) (x y : Operand) (ho : o.op = .store ty x y) (g : Nat) (t : TypeId) (pre old post cs : List Value) (n : Nat) (hn : pre.length = n)
    (hx : a.eval x = .pointer (some ⟨g, n, none⟩)) (hy : a.eval y = .agg cs.toArray) (h0 : Blk w g t (pre ++ old ++ post).toArray) (hl : cs.length = old.length) (hi : (Try.prog.info? ty).map (·.size) = some cs.length) (h1 : ∀ v ∈ cs, v.oneCell' = true)
    (h : ∀ w', Blk w' g t (pre ++ cs ++ post).toArray → Kept [g] w w' → Hid (w'.heap.size = w.heap.size) → wpList Try.prog ops Q rest (a.put o.dst undef) w') : wpList Try.prog ops Q (o :: rest) a w := by
  refine wpList_store_mid hgd ty x y ho g n cs.toArray hx hy ?_ (by simpa using hi) (all_oneCell_toArray h1) ?_
  · intro j hj
    refine ⟨?_, h0.frozen _⟩
    rw [h0.cell]
    simp at hj
    simp
    omega
  · have e : w.setCells g n cs = w.setRow g (pre ++ cs ++ post).toArray := by
      rw [setCells_mid h0 (by simp; omega) h1]
      simp [← hn, hl, List.append_assoc]
    refine h _ ?_ ?_ ?_
    · simp only [] at *
      rw [e]
      exact setRow_heap w g _ _ t _ h0
    · simp only [] at *
      rw [e]
      exact ⟨rfl, rfl, rfl, by simp [World.setRow], fun k _ hk => setRow_other w g k _ (by simpa using hk)⟩
    · simp only [] at *
      rw [e]
      show _ = _
      simp [World.setRow]
end
theorem ret_bool {a b : Bool} (h : a = b) : Ending.returned (.bool a) = .returned (.bool b) := by rw [h]
/-- A session's blocks: its own, the outbox, the inbox, the keep, the outbox's row. -/
structure Foot where
  o : Nat
  g : Nat
  i : Nat
  k : Nat
  r : Option Nat
def Foot.l (F : Foot) : List Nat := F.o :: F.g :: F.i :: F.k :: F.r.toList
/-- A session in memory. -/
structure SsAt (W : World) (base : Nat) (F : Foot) (s : Ss) : Prop where
  blk : Blk W F.o 56 #[.int .i64 (s.ob.w : Int), .int .u32 (s.my : Int), .int .u32 (s.peer : Int), .pointer (some ⟨F.g, 0, none⟩), .pointer (some ⟨F.i, 0, none⟩), .pointer (some ⟨F.k, 0, none⟩)]
  out : OutAt W base F.g F.r s.ob
  inn : InAt W F.i s.last
  kp : KpAt W F.k s.pat s.age
  my1 : 1 ≤ s.my
  my2 : s.my < 4294967296
  peer : s.peer < 4294967296
  lo : base ≤ F.o
  li : base ≤ F.i
  lk : base ≤ F.k
theorem SsAt.six {W : World} {base : Nat} {F : Foot} {s : Ss} (h : SsAt W base F s) : W.cell? ⟨F.o, 0, none⟩ = some (.int .i64 (s.ob.w : Int)) ∧ W.cell? ⟨F.o, 1, none⟩ = some (.int .u32 (s.my : Int)) ∧ W.cell? ⟨F.o, 2, none⟩ = some (.int .u32 (s.peer : Int)) ∧ W.cell? ⟨F.o, 3, none⟩ = some (.pointer (some ⟨F.g, 0, none⟩)) ∧ W.cell? ⟨F.o, 4, none⟩ = some (.pointer (some ⟨F.i, 0, none⟩)) ∧ W.cell? ⟨F.o, 5, none⟩ = some (.pointer (some ⟨F.k, 0, none⟩)) :=
  ⟨(h.blk.cell 0).trans rfl, (h.blk.cell 1).trans rfl, (h.blk.cell 2).trans rfl, (h.blk.cell 3).trans rfl, (h.blk.cell 4).trans rfl, (h.blk.cell 5).trans rfl⟩
theorem SsAt.kept {K : List Nat} {A B : World} {base : Nat} {F : Foot} {s : Ss} (h : SsAt A base F s) (hk : Kept K A B) (hF : ∀ k ∈ F.l, k ∉ K) (hb : NoByt K A) : SsAt B base F s :=
  ⟨h.blk.kept hk (hF _ (by simp [Foot.l])), h.out.kept hk (hF _ (by simp [Foot.l])) (fun g hg => hF g (by simp [Foot.l, hg])) hb, h.inn.kept hk (hF _ (by simp [Foot.l])), h.kp.kept hk (hF _ (by simp [Foot.l])), h.my1, h.my2, h.peer, h.lo, h.li, h.lk⟩
theorem SsAt.kept0 {A B : World} {base : Nat} {F : Foot} {s : Ss} (h : SsAt A base F s) (hk : Kept [] A B) : SsAt B base F s := h.kept hk (by simp) (Outbox.noByt_nil _)
/-- Its blocks: where, and none of bytes. -/
theorem SsAt.foot {W : World} {base : Nat} {F : Foot} {s : Ss} (h : SsAt W base F s) : NoByt F.l W :=
  by
  obtain ⟨v, P, h1, h2, _⟩ := h.out.blk
  refine NoByt.cons (NoByt.cons (NoByt.cons (NoByt.cons ?_ h.kp.1 (by decide)) h.inn.1 (by decide)) h1 (by decide)) h.blk (by decide)
  intro k hk c
  exact h.out.foot k (by simp at hk; simp [hk]) c
theorem SsAt.lt {W : World} {base : Nat} {F : Foot} {s : Ss} (h : SsAt W base F s) : ∀ k ∈ F.l, base ≤ k ∧ k < W.heap.size := fun k hk => by
  have h1 := h.lo
  have h2 := h.li
  have h3 := h.lk
  have h4 := h.out.low
  have g1 := h.blk.lt
  have g2 := h.out.lt.1
  have g3 := h.inn.1.lt
  have g4 := h.kp.1.lt
  simp only [Foot.l, List.mem_cons] at hk
  rcases hk with rfl | rfl | rfl | rfl | hk
  · omega
  · omega
  · omega
  · omega
  · have := h.out.lt.2 k (by simpa using hk)
    omega
theorem SsAt.ne {W : World} {base : Nat} {F : Foot} {s : Ss} (h : SsAt W base F s) : F.o ≠ F.g ∧ F.o ≠ F.i ∧ F.o ≠ F.k ∧ F.g ≠ F.i ∧ F.g ≠ F.k ∧ F.i ≠ F.k ∧ ∀ r, F.r = some r → r ≠ F.o ∧ r ≠ F.g ∧ r ≠ F.i ∧ r ≠ F.k := by
  obtain ⟨v, P, h1, h2, _⟩ := h.out.blk
  refine ⟨blk_ne h.blk h1 (by decide), blk_ne h.blk h.inn.1 (by decide), blk_ne h.blk h.kp.1 (by decide), blk_ne h1 h.inn.1 (by decide), blk_ne h1 h.kp.1 (by decide), blk_ne h.inn.1 h.kp.1 (by decide), fun r hr => ?_⟩
  obtain ⟨_, _, cur, hc⟩ := h2.low r hr
  exact ⟨blk_ne hc h.blk (by decide), blk_ne hc h1 (by decide), blk_ne hc h.inn.1 (by decide), blk_ne hc h.kp.1 (by decide)⟩
set_option maxRecDepth 100000 in
/-- made -/
theorem made_any {base : Nat} {F : Foot} {s : Ss} (w : World) (h : SsAt w base F s) :
    Calls Try.prog 20 #[.pointer (some ⟨F.o, 0, none⟩)] w fun e w' => e = .returned (.bool true) ∧ w' = w := by
  have c1 := h.six.2.1
  have i1 := h.my1
  go_enter Try.func20, Try.ntmps20
  go_wp2
  go_ret
  exact ⟨ret_bool (by simp; omega), rfl⟩
set_option maxRecDepth 100000 in
/-- Peer -/
theorem peer_any {base : Nat} {F : Foot} {s : Ss} (w : World) (h : SsAt w base F s) :
    Calls Try.prog 7 #[.pointer (some ⟨F.o, 0, none⟩)] w fun e w' => e = .returned (.int .u32 (s.peer : Int)) ∧ w' = w := by
  have c2 := h.six.2.2.1
  have q := made_any w h
  go_enter Try.func7, Try.ntmps7
  go_wp2_with (go_at_call 20; refine q.mono ?_; rintro e w ⟨rfl, rfl⟩)
  go_ret
  exact ⟨rfl, rfl⟩
set_option maxRecDepth 100000 in
/-- My -/
theorem my_any {base : Nat} {F : Foot} {s : Ss} (w : World) (h : SsAt w base F s) :
    Calls Try.prog 13 #[.pointer (some ⟨F.o, 0, none⟩)] w fun e w' => e = .returned (.int .u32 (s.my : Int)) ∧ w' = w := by
  have c2 := h.six.2.1
  have q := made_any w h
  go_enter Try.func13, Try.ntmps13
  go_wp2_with (go_at_call 20; refine q.mono ?_; rintro e w ⟨rfl, rfl⟩)
  go_ret
  exact ⟨rfl, rfl⟩
set_option maxRecDepth 100000 in
/-- Alive -/
theorem alive_any {base : Nat} {F : Foot} {s : Ss} (w : World) (h : SsAt w base F s) :
    Calls Try.prog 14 #[.pointer (some ⟨F.o, 0, none⟩)] w fun e w' => e = .returned (.bool (decide (s.age < s.pat))) ∧ Kept [] w w' := by
  have c5 := h.six.2.2.2.2.2
  have q := made_any w h
  have qk := Keep.alive_any w h.kp
  go_enter Try.func14, Try.ntmps14
  go_wp2_with (first
    | (go_at_call 20; refine q.mono ?_; rintro e w ⟨rfl, rfl⟩)
    | (go_at_call 37; refine qk.mono ?_; rintro e w1 ⟨rfl, hk1⟩))
  go_ret
  exact ⟨rfl, hk1⟩
/-- A pair in its block. -/
def PairAt (W : World) (b my peer g i : Nat) : Prop := Blk W b 53 #[.int .u32 (my : Int), .int .u32 (peer : Int), .pointer (some ⟨g, 0, none⟩), .pointer (some ⟨i, 0, none⟩)]
theorem PairAt.kept {K : List Nat} {A B : World} {b my peer g i : Nat} (h : PairAt A b my peer g i) (hk : Kept K A B) (hb : b ∉ K) : PairAt B b my peer g i := Blk.kept h hk hb
theorem PairAt.four {W : World} {b my peer g i : Nat} (h : PairAt W b my peer g i) : W.cell? ⟨b, 0, none⟩ = some (.int .u32 (my : Int)) ∧ W.cell? ⟨b, 1, none⟩ = some (.int .u32 (peer : Int)) ∧ W.cell? ⟨b, 2, none⟩ = some (.pointer (some ⟨g, 0, none⟩)) ∧ W.cell? ⟨b, 3, none⟩ = some (.pointer (some ⟨i, 0, none⟩)) :=
  ⟨(Blk.cell h 0).trans rfl, (Blk.cell h 1).trans rfl, (Blk.cell h 2).trans rfl, (Blk.cell h 3).trans rfl⟩
set_option maxRecDepth 100000 in
/-- hello -/
theorem hello_any (F : Foot) (s : Ss) (hm : s.my < 4294967296) (w : World) :
    Calls Try.prog 25 #[.agg #[.int .u32 (s.my : Int), .int .u32 (s.peer : Int), .pointer (some ⟨F.g, 0, none⟩), .pointer (some ⟨F.i, 0, none⟩)], .int .i64 0] w fun e w' => ∃ x : Pv, e = .returned (.agg #[.int .u32 (x.f : Int), .int .u32 (x.t : Int), .int .i64 x.k, .int .i64 x.s, .int .i64 x.a, .slice x.sa x.len x.cap]) ∧ x.ps = s.hello ∧ x.At 0 w'.heap.size w' ∧ Kept [] w w' := by
  have kA := kept_alloc [] w (.cells #[.int .u32 (s.my : Int), .int .u32 (s.peer : Int), .pointer (some ⟨F.g, 0, none⟩), .pointer (some ⟨F.i, 0, none⟩)] 53)
  have hA : PairAt _ w.heap.size s.my s.peer F.g F.i := blk_new w 53 #[.int .u32 (s.my : Int), .int .u32 (s.peer : Int), .pointer (some ⟨F.g, 0, none⟩), .pointer (some ⟨F.i, 0, none⟩)]
  obtain ⟨W1, hW1⟩ : ∃ W1, w.alloc (.cells #[.int .u32 (s.my : Int), .int .u32 (s.peer : Int), .pointer (some ⟨F.g, 0, none⟩), .pointer (some ⟨F.i, 0, none⟩)] 53) = W1 := ⟨_, rfl⟩
  rw [hW1] at kA hA
  have kB := kept_alloc [] W1 (.cells #[.int .u32 0, .int .u32 0, .int .i64 0, .int .i64 0, .int .i64 0, .slice none 0 0] 47)
  have hB := blk_new W1 47 #[.int .u32 0, .int .u32 0, .int .i64 0, .int .i64 0, .int .i64 0, .slice none 0 0]
  have hA2 := hA.kept kB (by simp)
  obtain ⟨W2, hW2⟩ : ∃ W2, W1.alloc (.cells #[.int .u32 0, .int .u32 0, .int .i64 0, .int .i64 0, .int .i64 0, .slice none 0 0] 47) = W2 := ⟨_, rfl⟩
  rw [hW2] at kB hB hA2
  have c0 := hA2.four.1
  go_enter Try.func25, Try.ntmps25
  go_wp2_with (refine wpList_store_blk rfl 47 _ _ rfl W1.heap.size 47 _ [.int .u32 (s.my : Int), .int .u32 0, .int .i64 1, .int .i64 0, .int .i64 0, .slice none 0 0] rfl rfl hB rfl Wire.Try.sizeP (by simp [Value.oneCell']) ?_; intro w6 hb6 hk6 hz6)
  refine bodyPost_ret (results_cell_row rfl _ _ W1.heap.size 47 _ (0, 0) _ rfl hb6 Try.underlying47 rfl Wire.Try.sizeP) rfl ?_
  exact ⟨⟨s.my, 0, 1, 0, 0, none, 0, 0, []⟩, rfl, rfl, ⟨Wire.byteRow_nil _ _ _, hm, by show 0 < _; decide⟩, (kA.trans kB).young hk6 kA.size⟩
set_option maxRecDepth 100000 in
set_option maxHeartbeats 1000000 in
/-- ping -/
theorem ping_any (F : Foot) (s : Ss) (hm : s.my < 4294967296) (hp : s.peer < 4294967296) (w : World) (hi : InAt w F.i s.last) :
    Calls Try.prog 27 #[.agg #[.int .u32 (s.my : Int), .int .u32 (s.peer : Int), .pointer (some ⟨F.g, 0, none⟩), .pointer (some ⟨F.i, 0, none⟩)], .int .i64 0] w fun e w' => ∃ x : Pv, e = .returned (.agg #[.int .u32 (x.f : Int), .int .u32 (x.t : Int), .int .i64 x.k, .int .i64 x.s, .int .i64 x.a, .slice x.sa x.len x.cap]) ∧ x.ps = s.ping ∧ x.At 0 w'.heap.size w' ∧ Kept [] w w' := by
  have kA := kept_alloc [] w (.cells #[.int .u32 (s.my : Int), .int .u32 (s.peer : Int), .pointer (some ⟨F.g, 0, none⟩), .pointer (some ⟨F.i, 0, none⟩)] 53)
  have hA : PairAt _ w.heap.size s.my s.peer F.g F.i := blk_new w 53 #[.int .u32 (s.my : Int), .int .u32 (s.peer : Int), .pointer (some ⟨F.g, 0, none⟩), .pointer (some ⟨F.i, 0, none⟩)]
  obtain ⟨W1, hW1⟩ : ∃ W1, w.alloc (.cells #[.int .u32 (s.my : Int), .int .u32 (s.peer : Int), .pointer (some ⟨F.g, 0, none⟩), .pointer (some ⟨F.i, 0, none⟩)] 53) = W1 := ⟨_, rfl⟩
  rw [hW1] at kA hA
  have kB := kept_alloc [] W1 (.cells #[.int .u32 0, .int .u32 0, .int .i64 0, .int .i64 0, .int .i64 0, .slice none 0 0] 47)
  have hB := blk_new W1 47 #[.int .u32 0, .int .u32 0, .int .i64 0, .int .i64 0, .int .i64 0, .slice none 0 0]
  have hA2 := hA.kept kB (by simp)
  obtain ⟨W2, hW2⟩ : ∃ W2, W1.alloc (.cells #[.int .u32 0, .int .u32 0, .int .i64 0, .int .i64 0, .int .i64 0, .slice none 0 0] 47) = W2 := ⟨_, rfl⟩
  rw [hW2] at kB hB hA2
  have kD := (kA.trans kB).trans (kept_drew [] W2)
  have q := Inbox.ack_any _ (hi.kept kD (by simp))
  replace hB := hB.kept (kept_drew [] W2) (by simp)
  replace hA2 := hA2.kept (kept_drew [] W2) (by simp)
  have hne : w.heap.size ≠ W1.heap.size := fun e => by have := hA.lt; omega
  go_enter Try.func27, Try.ntmps27
  go_wp2_with fail
  refine wp_region_held_drew (S := fun W => PairAt W w.heap.size s.my s.peer F.g F.i) (by kernel_rfl) hA2 (fun hP => ?_)
  have hH := hP
  clear hP
  refine wpAnyH_take (i := 0) (oi := ⟨some 5, _, _, _, _, _⟩) (v := (.pointer (some ⟨w.heap.size, 0, none⟩))) rfl (by kernel_rfl) (by kernel_rfl) (by kernel_rfl) (fun _ _ _ h => h) (Or.inl ⟨by rfl, fun W hSw => by go_simp⟩) hH ?_
  try simp only [Act.put, List.setIfInBounds_toArray, List.set_cons_zero, List.set_cons_succ]
  refine wpAnyH_take (i := 1) (oi := ⟨some 6, _, _, _, _, _⟩) (v := (.int .u32 (s.my : Int))) rfl (by kernel_rfl) (by kernel_rfl) (by kernel_rfl) (fun _ _ _ h => h) (Or.inl ⟨by rfl, fun W hSw => by obtain ⟨c0, c1, c2, c3⟩ := PairAt.four hSw; go_simp⟩) hH ?_
  try simp only [Act.put, List.setIfInBounds_toArray, List.set_cons_zero, List.set_cons_succ]
  refine wpAnyH_take (i := 2) (oi := ⟨some 7, _, _, _, _, _⟩) (v := (.pointer (some ⟨w.heap.size, 1, none⟩))) rfl (by kernel_rfl) (by kernel_rfl) (by kernel_rfl) (fun _ _ _ h => h) (Or.inl ⟨by rfl, fun W hSw => by go_simp⟩) hH ?_
  try simp only [Act.put, List.setIfInBounds_toArray, List.set_cons_zero, List.set_cons_succ]
  refine wpAnyH_take (i := 3) (oi := ⟨some 8, _, _, _, _, _⟩) (v := (.int .u32 (s.peer : Int))) rfl (by kernel_rfl) (by kernel_rfl) (by kernel_rfl) (fun _ _ _ h => h) (Or.inl ⟨by rfl, fun W hSw => by obtain ⟨c0, c1, c2, c3⟩ := PairAt.four hSw; go_simp⟩) hH ?_
  try simp only [Act.put, List.setIfInBounds_toArray, List.set_cons_zero, List.set_cons_succ]
  refine wpAnyH_take (i := 4) (oi := ⟨some 9, _, _, _, _, _⟩) (v := (.int .i64 0)) rfl (by kernel_rfl) (by kernel_rfl) (by kernel_rfl) (fun _ _ _ h => h) (Or.inl ⟨by rfl, fun W hSw => by go_simp⟩) hH ?_
  try simp only [Act.put, List.setIfInBounds_toArray, List.set_cons_zero, List.set_cons_succ]
  refine wpAnyH_take (i := 5) (oi := ⟨some 10, _, _, _, _, _⟩) (v := (.pointer (some ⟨w.heap.size, 3, none⟩))) rfl (by kernel_rfl) (by kernel_rfl) (by kernel_rfl) (fun _ _ _ h => h) (Or.inl ⟨by rfl, fun W hSw => by go_simp⟩) hH ?_
  try simp only [Act.put, List.setIfInBounds_toArray, List.set_cons_zero, List.set_cons_succ]
  refine wpAnyH_take (i := 6) (oi := ⟨some 11, _, _, _, _, _⟩) (v := (.pointer (some ⟨F.i, 0, none⟩))) rfl (by kernel_rfl) (by kernel_rfl) (by kernel_rfl) (fun _ _ _ h => h) (Or.inl ⟨by rfl, fun W hSw => by obtain ⟨c0, c1, c2, c3⟩ := PairAt.four hSw; go_simp⟩) hH ?_
  try simp only [Act.put, List.setIfInBounds_toArray, List.set_cons_zero, List.set_cons_succ]
  refine wpAnyH_ready (rs := [7]) (by kernel_rfl) (by simp) ?_
  refine AllReadyH.cons (o := ⟨some 12, _, _, _, _, _⟩) rfl (fun KK hKK => ?_) AllReadyH.nil
  go_simp
  refine q.mono ?_
  rintro e W3 ⟨rfl, rfl⟩
  go_wp2_with fail
  have hH1 := hA2
  refine hKK.out _ _ hH1 (fun _ => ?_)
  replace hH := hH1
  clear hKK KK hH1
  try simp only [Act.put, List.setIfInBounds_toArray, List.set_cons_zero, List.set_cons_succ]
  refine wpAnyH_take (i := 8) (oi := ⟨some 13, _, _, _, _, _⟩) (v := (.agg #[.int .u32 (s.my : Int), .int .u32 (s.peer : Int), .int .i64 2, .int .i64 0, .int .i64 (s.last : Int), .slice none 0 0])) rfl (by kernel_rfl) (by kernel_rfl) (by kernel_rfl) (fun _ _ _ h => h) (Or.inl ⟨by rfl, fun W hSw => by go_simp⟩) hH ?_
  try simp only [Act.put, List.setIfInBounds_toArray, List.set_cons_zero, List.set_cons_succ]
  refine wpAnyH_ready (rs := [9]) (by kernel_rfl) (by simp) ?_
  refine AllReadyH.cons (o := ⟨none, _, _, _, _, _⟩) rfl (fun KK hKK => ?_) AllReadyH.nil
  refine step_store_part rfl 47 (.tmp 4) (.tmp 13) rfl W1.heap.size 47 [] [.int .u32 0, .int .u32 0, .int .i64 0, .int .i64 0, .int .i64 0, .slice none 0 0] [] [.int .u32 (s.my : Int), .int .u32 (s.peer : Int), .int .i64 2, .int .i64 0, .int .i64 (s.last : Int), .slice none 0 0] 0 rfl (by simp [Act.eval]) (by simp [Act.eval]) hB rfl Wire.Try.sizeP (by simp [Value.oneCell']) ?_
  intro w6 hb6 hk6 hz6
  have hH1 := hA2.kept hk6 (by simpa using hne)
  refine hKK.out _ _ hH1 (fun _ => ?_)
  replace hH := hH1
  clear hKK KK hH1
  try simp only [Act.put]
  refine wpAnyH_done (by kernel_rfl) ?_ _
  go_wp2_with fail
  refine bodyPost_ret (results_cell_row rfl _ _ W1.heap.size 47 _ (0, 0) _ rfl hb6 Try.underlying47 rfl Wire.Try.sizeP) rfl ?_
  exact ⟨⟨s.my, s.peer, 2, 0, s.last, none, 0, 0, []⟩, rfl, rfl, ⟨Wire.byteRow_nil _ _ _, hm, hp⟩, kD.young hk6 kA.size⟩
/-- Bytes in a block of bytes are bytes in a block. -/
theorem byt_wire {W : World} {v : Value} {bs : List Nat} (h : Byt W v bs) : Wire.ByteRow 0 W.heap.size W v bs := by
  obtain ⟨hb, a, cap, e, hn, h | ⟨g, off, e2, hl, h2, hc⟩⟩ := h.row
  · exact ⟨hb, a, cap, e, hn, .inl h⟩
  · exact ⟨hb, a, cap, e, hn, .inr ⟨g, off, e2, hl, Nat.zero_le _, h2, hc⟩⟩
set_option maxRecDepth 100000 in
set_option maxHeartbeats 1000000 in
/-- msg -/
theorem msg_any (F : Foot) (s : Ss) (n base : Nat) (hm : s.my < 4294967296) (hp : s.peer < 4294967296) (w : World) (ho : OutAt w base F.g F.r s.ob) (hi : InAt w F.i s.last) (hs : s.ob.n + s.ob.l.length ≤ 1000000) (hb : ∀ b ∈ s.ob.l, b.length ≤ 1000) :
    Calls Try.prog 23 #[.agg #[.int .u32 (s.my : Int), .int .u32 (s.peer : Int), .pointer (some ⟨F.g, 0, none⟩), .pointer (some ⟨F.i, 0, none⟩)], .int .i64 (n : Int)] w fun e w' => ∃ x : Pv, e = .returned (.agg #[.int .u32 (x.f : Int), .int .u32 (x.t : Int), .int .i64 x.k, .int .i64 x.s, .int .i64 x.a, .slice x.sa x.len x.cap]) ∧ x.ps = s.msg n ∧ x.At 0 w'.heap.size w' ∧ Kept [] w w' := by
  have kA := kept_alloc [] w (.cells #[.int .u32 (s.my : Int), .int .u32 (s.peer : Int), .pointer (some ⟨F.g, 0, none⟩), .pointer (some ⟨F.i, 0, none⟩)] 53)
  have hA : PairAt _ w.heap.size s.my s.peer F.g F.i := blk_new w 53 #[.int .u32 (s.my : Int), .int .u32 (s.peer : Int), .pointer (some ⟨F.g, 0, none⟩), .pointer (some ⟨F.i, 0, none⟩)]
  obtain ⟨W1, hW1⟩ : ∃ W1, w.alloc (.cells #[.int .u32 (s.my : Int), .int .u32 (s.peer : Int), .pointer (some ⟨F.g, 0, none⟩), .pointer (some ⟨F.i, 0, none⟩)] 53) = W1 := ⟨_, rfl⟩
  rw [hW1] at kA hA
  have kB := kept_alloc [] W1 (.cells #[.int .u32 0, .int .u32 0, .int .i64 0, .int .i64 0, .int .i64 0, .slice none 0 0] 47)
  have hB := blk_new W1 47 #[.int .u32 0, .int .u32 0, .int .i64 0, .int .i64 0, .int .i64 0, .slice none 0 0]
  have hA2 := hA.kept kB (by simp)
  obtain ⟨W2, hW2⟩ : ∃ W2, W1.alloc (.cells #[.int .u32 0, .int .u32 0, .int .i64 0, .int .i64 0, .int .i64 0, .slice none 0 0] 47) = W2 := ⟨_, rfl⟩
  rw [hW2] at kB hB hA2
  have kD := kA.trans kB
  have q0 := Outbox.body_any _ (ho.kept0 kD) hs hb (n : Int)
  have hne : w.heap.size ≠ W1.heap.size := fun e => by have := hA.lt; omega
  have hi2 := hi.kept kD (by simp)
  have c2 := hA2.four.2.2.1
  go_enter Try.func23, Try.ntmps23
  go_wp2_with (go_at_call 44; refine q0.mono ?_; rintro e W3 ⟨sa, len, cap, rfl, hbt, hk3⟩)
  replace hi2 := (hi2.kept hk3 (by simp)).kept (kept_drew [] W3) (by simp)
  have q := Inbox.ack_any _ hi2
  replace kD := (kD.trans hk3).trans (kept_drew [] W3)
  replace hB := (hB.kept hk3 (by simp)).kept (kept_drew [] W3) (by simp)
  replace hA2 := (hA2.kept hk3 (by simp)).kept (kept_drew [] W3) (by simp)
  replace hbt := hbt.kept (kept_drew [] W3) (Outbox.noByt_nil _)
  have hnb : NoByt [W1.heap.size] W3.drew := NoByt.cons (Outbox.noByt_nil _) hB (by decide)
  clear c2
  refine wp_region_held_drew (S := fun W => PairAt W w.heap.size s.my s.peer F.g F.i) (by kernel_rfl) hA2 (fun hP => ?_)
  have hH := hP
  clear hP
  refine wpAnyH_take (i := 0) (oi := ⟨some 14, _, _, _, _, _⟩) (v := (.pointer (some ⟨w.heap.size, 0, none⟩))) rfl (by kernel_rfl) (by kernel_rfl) (by kernel_rfl) (fun _ _ _ h => h) (Or.inl ⟨by rfl, fun W hSw => by go_simp⟩) hH ?_
  try simp only [Act.put, List.setIfInBounds_toArray, List.set_cons_zero, List.set_cons_succ]
  refine wpAnyH_take (i := 1) (oi := ⟨some 15, _, _, _, _, _⟩) (v := (.int .u32 (s.my : Int))) rfl (by kernel_rfl) (by kernel_rfl) (by kernel_rfl) (fun _ _ _ h => h) (Or.inl ⟨by rfl, fun W hSw => by obtain ⟨c0, c1, c2, c3⟩ := PairAt.four hSw; go_simp⟩) hH ?_
  try simp only [Act.put, List.setIfInBounds_toArray, List.set_cons_zero, List.set_cons_succ]
  refine wpAnyH_take (i := 2) (oi := ⟨some 16, _, _, _, _, _⟩) (v := (.pointer (some ⟨w.heap.size, 1, none⟩))) rfl (by kernel_rfl) (by kernel_rfl) (by kernel_rfl) (fun _ _ _ h => h) (Or.inl ⟨by rfl, fun W hSw => by go_simp⟩) hH ?_
  try simp only [Act.put, List.setIfInBounds_toArray, List.set_cons_zero, List.set_cons_succ]
  refine wpAnyH_take (i := 3) (oi := ⟨some 17, _, _, _, _, _⟩) (v := (.int .u32 (s.peer : Int))) rfl (by kernel_rfl) (by kernel_rfl) (by kernel_rfl) (fun _ _ _ h => h) (Or.inl ⟨by rfl, fun W hSw => by obtain ⟨c0, c1, c2, c3⟩ := PairAt.four hSw; go_simp⟩) hH ?_
  try simp only [Act.put, List.setIfInBounds_toArray, List.set_cons_zero, List.set_cons_succ]
  refine wpAnyH_take (i := 4) (oi := ⟨some 18, _, _, _, _, _⟩) (v := (.int .i64 (n : Int))) rfl (by kernel_rfl) (by kernel_rfl) (by kernel_rfl) (fun _ _ _ h => h) (Or.inl ⟨by rfl, fun W hSw => by go_simp⟩) hH ?_
  try simp only [Act.put, List.setIfInBounds_toArray, List.set_cons_zero, List.set_cons_succ]
  refine wpAnyH_take (i := 5) (oi := ⟨some 19, _, _, _, _, _⟩) (v := (.pointer (some ⟨w.heap.size, 3, none⟩))) rfl (by kernel_rfl) (by kernel_rfl) (by kernel_rfl) (fun _ _ _ h => h) (Or.inl ⟨by rfl, fun W hSw => by go_simp⟩) hH ?_
  try simp only [Act.put, List.setIfInBounds_toArray, List.set_cons_zero, List.set_cons_succ]
  refine wpAnyH_take (i := 6) (oi := ⟨some 20, _, _, _, _, _⟩) (v := (.pointer (some ⟨F.i, 0, none⟩))) rfl (by kernel_rfl) (by kernel_rfl) (by kernel_rfl) (fun _ _ _ h => h) (Or.inl ⟨by rfl, fun W hSw => by obtain ⟨c0, c1, c2, c3⟩ := PairAt.four hSw; go_simp⟩) hH ?_
  try simp only [Act.put, List.setIfInBounds_toArray, List.set_cons_zero, List.set_cons_succ]
  refine wpAnyH_take (i := 8) (oi := ⟨some 22, _, _, _, _, _⟩) (v := (.slice sa len cap)) rfl (by kernel_rfl) (by kernel_rfl) (by kernel_rfl) (fun _ _ _ h => h) (Or.inl ⟨by rfl, fun W hSw => by go_simp⟩) hH ?_
  try simp only [Act.put, List.setIfInBounds_toArray, List.set_cons_zero, List.set_cons_succ]
  refine wpAnyH_ready (rs := [7]) (by kernel_rfl) (by simp) ?_
  refine AllReadyH.cons (o := ⟨some 21, _, _, _, _, _⟩) rfl (fun KK hKK => ?_) AllReadyH.nil
  go_simp
  refine q.mono ?_
  rintro e W4 ⟨rfl, rfl⟩
  go_wp2_with fail
  have hH1 := hA2
  refine hKK.out _ _ hH1 (fun _ => ?_)
  replace hH := hH1
  clear hKK KK hH1
  try simp only [Act.put, List.setIfInBounds_toArray, List.set_cons_zero, List.set_cons_succ]
  refine wpAnyH_take (i := 9) (oi := ⟨some 23, _, _, _, _, _⟩) (v := (.agg #[.int .u32 (s.my : Int), .int .u32 (s.peer : Int), .int .i64 3, .int .i64 (n : Int), .int .i64 (s.last : Int), .slice sa len cap])) rfl (by kernel_rfl) (by kernel_rfl) (by kernel_rfl) (fun _ _ _ h => h) (Or.inl ⟨by rfl, fun W hSw => by go_simp⟩) hH ?_
  try simp only [Act.put, List.setIfInBounds_toArray, List.set_cons_zero, List.set_cons_succ]
  refine wpAnyH_ready (rs := [10]) (by kernel_rfl) (by simp) ?_
  refine AllReadyH.cons (o := ⟨none, _, _, _, _, _⟩) rfl (fun KK hKK => ?_) AllReadyH.nil
  refine step_store_part rfl 47 (.tmp 4) (.tmp 23) rfl W1.heap.size 47 [] [.int .u32 0, .int .u32 0, .int .i64 0, .int .i64 0, .int .i64 0, .slice none 0 0] [] [.int .u32 (s.my : Int), .int .u32 (s.peer : Int), .int .i64 3, .int .i64 (n : Int), .int .i64 (s.last : Int), .slice sa len cap] 0 rfl (by simp [Act.eval]) (by simp [Act.eval]) hB rfl Wire.Try.sizeP (by simp [Value.oneCell']) ?_
  intro w6 hb6 hk6 hz6
  have hH1 := hA2.kept hk6 (by simpa using hne)
  refine hKK.out _ _ hH1 (fun _ => ?_)
  replace hH := hH1
  clear hKK KK hH1
  try simp only [Act.put]
  refine wpAnyH_done (by kernel_rfl) ?_ _
  go_wp2_with fail
  refine bodyPost_ret (results_cell_row rfl _ _ W1.heap.size 47 _ (0, 0) _ rfl hb6 Try.underlying47 rfl Wire.Try.sizeP) rfl ?_
  exact ⟨⟨s.my, s.peer, 3, n, s.last, sa, len, cap, (s.ob.body (n : Int)).getD []⟩, rfl, rfl, ⟨byt_wire (hbt.kept hk6 hnb), hm, hp⟩, kD.young hk6 kA.size⟩
end Go.Proofs.Ytnbkbakbjllmcaa.Session
