/-
  What the walk of SessionOrder rests on.
-/
import Derived.Test.YtnbkbakbjllmcaaSsJ
import Derived.Deep.CutRange
import Derived.Deep.CutBlock
namespace Go.Proofs.Ytnbkbakbjllmcaa.Session
open Go.RowKit
open Outbox (Ob nums OutAt Bv Byt NoByt RowAt NRow)
open Wire (Ps Pv bytesL parseM parseE)

theorem sendL_len (s : Ss) (b : List Nat) : (s.sendL b).length ≤ 1000 := by
  unfold Ss.sendL
  split
  · show 1 ≤ 1000
    omega
  · show 0 ≤ 1000
    omega
theorem tickL_len {s : Ss} (h : s.ob.w ≤ 64) : s.tickL.length ≤ 1000 := by
  unfold Ss.tickL
  split
  · show 1 ≤ 1000
    omega
  · split
    · show 1 ≤ 1000
      omega
    · unfold Ss.msgs Ob.window Ob.way
      rw [List.length_map, Outbox.nums_length]
      omega
theorem takeL_len {s : Ss} (b : List Nat) (h : s.ob.w ≤ 64) : (s.takeL b).length ≤ 1001 := by
  have hw : (s.turned b).ob.w = s.ob.w := by
    unfold Ss.turned
    split <;> rfl
  unfold Ss.takeL
  split
  · show 0 ≤ 1001
    omega
  · split
    · unfold Ss.free
      rename_i hm
      rw [if_pos hm, List.length_append]
      have := ackL_len (s.turned b).ob (parseM b).a (by omega)
      unfold Ss.msgs
      rw [List.length_map]
      split <;> simp <;> omega
    · show 1 ≤ 1001
      omega
set_option maxRecDepth 100000 in
/-- SessionOrder, of what is let go -/
theorem order_early (m : Int) (a0 : Option Addr) (len cap : Nat) (w : World) (h : m < 1 ∨ 64 < m ∨ 120 < len) :
    Calls Try.prog 3 #[.int .i64 m, .slice a0 len cap] w fun e w' => e = .returned (.bool true) ∧ Kept [] w w' := by
  have q := lives_any w
  by_cases h1 : m < 1
  · go_enter Try.func3, Try.ntmps3
    go_wp2_with (go_at_call 5; refine q.mono ?_; rintro e w1 ⟨rfl, hk1⟩)
    go_ret
    exact ⟨rfl, hk1⟩
  · by_cases h2 : 64 < m
    · go_enter Try.func3, Try.ntmps3
      go_wp2_with (go_at_call 5; refine q.mono ?_; rintro e w1 ⟨rfl, hk1⟩)
      go_ret
      exact ⟨rfl, hk1⟩
    · have h3 : (120 : Int) < (len : Int) := by omega
      go_enter Try.func3, Try.ntmps3
      go_wp2_with (go_at_call 5; refine q.mono ?_; rintro e w1 ⟨rfl, hk1⟩)
      go_ret
      exact ⟨rfl, hk1⟩
/-- How far the plain state of a play has come. -/
structure Far2 (m j : Nat) (A B : Sd) (wa wb : List (List Nat)) : Prop where
  both : Both A B wa wb
  my : A.s.my ≤ j + 1 ∧ B.s.my ≤ j + 1
  sent : A.sent.length ≤ j ∧ B.sent.length ≤ j
  win : A.s.ob.w = m ∧ B.s.ob.w = m
  got : A.got.length ≤ j ∧ B.got.length ≤ j
theorem Far2.ob {m j : Nat} {A B : Sd} {wa wb : List (List Nat)} (h : Far2 m j A B wa wb) (hj : j ≤ 1000) : (A.s.ob.n + A.s.ob.l.length ≤ 999999 ∧ ∀ b ∈ A.s.ob.l, b.length ≤ 1000) ∧ (B.s.ob.n + B.s.ob.l.length ≤ 999999 ∧ ∀ b ∈ B.s.ob.l, b.length ≤ 1000) := by
  have one : ∀ A : Sd, Side A → A.sent.length ≤ j → (A.s.ob.n + A.s.ob.l.length ≤ 999999 ∧ ∀ b ∈ A.s.ob.l, b.length ≤ 1000) := fun A hA hs => by
    have h1 := hA.first
    have h2 := hA.upto
    have h3 : A.s.ob.l.length = A.sent.length - (A.s.ob.n - 1) := by rw [hA.rest, List.length_drop]
    refine ⟨by omega, fun b hm => ?_⟩
    rw [hA.rest] at hm
    have := (hA.small b (List.mem_of_mem_drop hm)).2
    omega
  exact ⟨one A h.both.a h.sent.1, one B h.both.b h.sent.2⟩
set_option maxRecDepth 100000 in
theorem Try.sizeNet : (Try.prog.info? 36).map (·.size) = some 4 := by kernel_rfl
set_option maxRecDepth 100000 in
theorem Try.sizeOne : (Try.prog.info? 28).map (·.size) = some 4 := by kernel_rfl
theorem Far2.next {m j : Nat} {A B : Sd} {wa wb : List (List Nat)} (h : Far2 m j A B wa wb) : Far2 m (j + 1) A B wa wb := ⟨h.both, ⟨by have := h.my; omega, by have := h.my; omega⟩, ⟨by have := h.sent; omega, by have := h.sent; omega⟩, h.win, ⟨by have := h.got; omega, by have := h.got; omega⟩⟩
/-- A side's memory at its start. -/
def sv0 (F : Foot) : Sv := ⟨F, none, 0, none, 0, none, 0, [], [], []⟩
theorem half_start {W : World} {base my m : Nat} {K : List Nat} {F : Foot} (h : SsAt W base F (made my m 5)) : Half W base K (sv0 F) (start my m 5) [] :=
  ⟨h, BRow.nil _ _, BRow.nil _ _, BRow.nil _ _, rfl, rfl, rfl, fun x hx => (by cases hx), fun x hx => (by cases hx), fun x hx => (by cases hx)⟩
theorem st_start {w0 W W2 : World} {xb yb b1 b2 m : Nat} {F F' : Foot} (hF : SsAt W b1 F (made 1 m 5)) (hF' : SsAt W b2 F' (made 1 m 5)) (hx1 : xb < b1) (h12 : ∀ k ∈ F.l, k < b2) (hb : b1 ≤ b2) (h0 : w0.heap.size ≤ xb)
    (hx : Blk W xb 29 #[.pointer (some ⟨F.o, 0, none⟩), .int .u32 1, .slice none 0 0, .slice none 0 0, .pointer (some ⟨F'.o, 0, none⟩), .int .u32 1, .slice none 0 0, .slice none 0 0]) (hk : Kept [] w0 W) (hyb : W.heap.size = yb) (hy : Blk W2 yb 33 #[.slice none 0 0, .slice none 0 0]) (hk2 : Kept [] W W2) :
    St w0 w0.heap.size xb yb (sv0 F) (sv0 F') (start 1 m 5) (start 1 m 5) [] [] W2 := by
  have hG := (hF.kept0 hk2).lower (show w0.heap.size ≤ b1 by omega)
  have hG' := (hF'.kept0 hk2).lower (show w0.heap.size ≤ b2 by omega)
  have hl1 := fun k (hm : k ∈ F.l) => hF.lt k hm
  have hl2 := fun k (hm : k ∈ F'.l) => hF'.lt k hm
  have hxl := hx.lt
  have hyl := hy.lt
  have hz := hk2.size
  have hn : ∀ i k, k ∈ feet xb yb (sv0 F) (sv0 F') i → (i = 0 ∧ k ∈ F.l) ∨ (i = 4 ∧ k ∈ F'.l) ∨ (i = 8 ∧ k = xb) ∨ (i = 9 ∧ k = yb) := fun i k hm => by
    unfold feet at hm
    split at hm <;> first | exact .inl ⟨rfl, hm⟩ | exact .inr (.inl ⟨rfl, hm⟩) | exact .inr (.inr (.inl ⟨rfl, by simpa using hm⟩)) | exact .inr (.inr (.inr ⟨rfl, by simpa using hm⟩)) | exact absurd hm (by simp [sv0, Sv.foot, Sv.sent, Sv.got, Sv.way, Value.ownBlock])
  refine ⟨hx.kept hk2 (by simp), hy, half_start hG, half_start hG', ⟨fun i k hm => ?_, fun i j k hi hj => ?_⟩, hk.trans hk2, Nat.le_refl _, Nat.le_trans hk.size hz⟩
  · rcases hn i k hm with ⟨_, h⟩ | ⟨_, h⟩ | ⟨_, h⟩ | ⟨_, h⟩
    · have := hl1 k h
      omega
    · have := hl2 k h
      omega
    · omega
    · have := hk.size
      omega
  · have a1 := hn i k hi
    have a2 := hn j k hj
    have l1 := hl1 k
    have l2 := hl2 k
    have l3 := h12 k
    rcases a1 with ⟨e1, g1⟩ | ⟨e1, g1⟩ | ⟨e1, g1⟩ | ⟨e1, g1⟩ <;> rcases a2 with ⟨e2, g2⟩ | ⟨e2, g2⟩ | ⟨e2, g2⟩ | ⟨e2, g2⟩ <;> first
      | omega
      | (have := l1 g1; have := l3 g1; have := l2 g2; omega)
      | (have := l1 g2; have := l3 g2; have := l2 g1; omega)
      | (have := l1 g1; omega)
      | (have := l1 g2; omega)
      | (have := l2 g1; omega)
      | (have := l2 g2; omega)
set_option maxRecDepth 100000 in
/-- One cell of a block stored, at a step of a region that draws. -/
theorem step_store_cell {ops : Array Oper} {o : Oper} {a : Act} {w : World} {Q : Exit → Act → World → Prop} {K : Act → World → Prop} {E : Prop} (hgd : o.guard = none) (ty : TypeId) (x y : Operand) (ho : o.op = .store ty x y) (g j : Nat) (t : TypeId) (cs : Array Value) (v : Value)
    (hx : a.eval x = .pointer (some ⟨g, j, none⟩)) (hy : a.eval y = v) (h0 : Blk w g t cs) (hj : j < cs.size) (hi : (Try.prog.info? ty).map (·.size) = some 1) (h1 : v.oneCell' = true)
    (h : ∀ w', Blk w' g t (cs.setIfInBounds j v) → Kept [g] w w' → K (a.put o.dst undef) w') : if Region.wanted o (yielded ops a.tmps) = true then Oper.wp Try.prog o a w K Q else E := by
  have hw : Region.wanted o (yielded ops a.tmps) = true := by simp [Region.wanted, hgd]
  rw [if_pos hw]
  have hrun := run_storeCells_cells (P := Try.prog) g j [v] 0 w (fun i hi => by
    have : i = 0 := by simpa using hi
    subst this
    show (w.cell? ⟨g, j, none⟩).isSome = true
    rw [h0.cell]
    simp [hj]) (fun i hi => h0.frozen _) (fun u hu => by simp at hu; subst hu; exact h1)
  have hc : v.cells = #[v] := by cases v <;> first | rfl | cases h1
  have hs : (storeVar ty ⟨g, j, none⟩ v).run Try.prog w = .ok () (w.setCell ⟨g, j, none⟩ v) := by
    cases hq : Try.prog.info? ty with
    | none => simp [hq] at hi
    | some i =>
      have hs : i.size = 1 := by simpa [hq] using hi
      simp only [Nat.add_zero] at hrun
      simp [storeVar, sizeOf, typeInfo, hq, hc, hs, hrun, World.setCells]
  unfold Oper.wp execOp
  simp only [ho, hx, hy, Instr.storeAt, Instr.sureAddr, Sem.run_bind, Sem.run_pure, Result.andThen_ok, hs]
  exact h _ (h0.set j v) (kept_set (by simp) w j v)
/-- The types of a play's blocks. -/
def Ours (t : TypeId) : Prop := t = 56 ∨ t = 82 ∨ t = 86 ∨ t = 84 ∨ t = 34 ∨ t = 29 ∨ t = 33
theorem Half.ours {W : World} {base : Nat} {K : List Nat} {v : Sv} {A : Sd} {wy : List (List Nat)} (h : Half W base K v A wy) : ∀ i, ∀ k ∈ v.foot i, ∃ t cur, Blk W k t cur ∧ Ours t
  | 0 => fun k hk => by
    obtain ⟨v', P', h1', h2', _⟩ := h.ss.out.blk
    simp only [Sv.foot, Foot.l, List.mem_cons] at hk
    rcases hk with rfl | rfl | rfl | rfl | e
    · exact ⟨_, _, h.ss.blk, .inl rfl⟩
    · exact ⟨_, _, h1', .inr (.inl rfl)⟩
    · exact ⟨_, _, h.ss.inn.1, .inr (.inr (.inl rfl))⟩
    · exact ⟨_, _, h.ss.kp.1, .inr (.inr (.inr (.inl rfl)))⟩
    · obtain ⟨_, _, cur, hc⟩ := h2'.low k (by simpa using e)
      exact ⟨_, _, hc, .inr (.inr (.inr (.inr (.inl rfl))))⟩
  | 1 => fun k hk => by
    obtain ⟨cur, hc⟩ := h.sent.blk k (by simpa [Sv.foot] using hk)
    exact ⟨_, _, hc, .inr (.inr (.inr (.inr (.inl rfl))))⟩
  | 2 => fun k hk => by
    obtain ⟨cur, hc⟩ := h.got.blk k (by simpa [Sv.foot] using hk)
    exact ⟨_, _, hc, .inr (.inr (.inr (.inr (.inl rfl))))⟩
  | 3 => fun k hk => by
    obtain ⟨cur, hc⟩ := h.way.blk k (by simpa [Sv.foot] using hk)
    exact ⟨_, _, hc, .inr (.inr (.inr (.inr (.inl rfl))))⟩
  | _ + 4 => fun k hk => by simp [Sv.foot] at hk
theorem St.alien {w0 : World} {base xb yb : Nat} {a b : Sv} {A B : Sd} {wa wb : List (List Nat)} {W : World} (h : St w0 base xb yb a b A B wa wb W) {k : Nat} {t : TypeId} {cur : Array Value} (hB : Blk W k t cur) (ht : ¬ Ours t) : ∀ i, k ∉ feet xb yb a b i := fun i hm => by
  have fin : (∃ t cur, Blk W k t cur ∧ Ours t) → False := fun ⟨t', c', h1, h2⟩ => blk_ne hB h1 (fun e => ht (e ▸ h2)) rfl
  unfold feet at hm
  split at hm
  · exact fin (h.ha.ours 0 k hm)
  · exact fin (h.ha.ours 1 k hm)
  · exact fin (h.ha.ours 2 k hm)
  · exact fin (h.ha.ours 3 k hm)
  · exact fin (h.hb.ours 0 k hm)
  · exact fin (h.hb.ours 1 k hm)
  · exact fin (h.hb.ours 2 k hm)
  · exact fin (h.hb.ours 3 k hm)
  · rw [List.mem_singleton] at hm
    exact fin ⟨_, _, hm ▸ h.x, .inr (.inr (.inr (.inr (.inr (.inl rfl)))))⟩
  · rw [List.mem_singleton] at hm
    exact fin ⟨_, _, hm ▸ h.y, .inr (.inr (.inr (.inr (.inr (.inr rfl)))))⟩
  · cases hm
theorem notNet : ¬ Ours 36 := by unfold Ours; decide
theorem notGot : ¬ Ours 41 := by unfold Ours; decide
/-- A block within a function's text. -/
def findB (n : Nat) : Code → Option Code
  | .block m c => if m = n then some (.block m c) else findB n c
  | .seq a b => (findB n a).or (findB n b)
  | .cond _ a b => (findB n a).or (findB n b)
  | .loop c => findB n c
  | .scope c => findB n c
  | _ => none
/-- A frame that is as another one where a deed's own slots do not lie. -/
def Fits (L1 L2 L3 : List Value) (a : Act) : Prop := a.defers = [] ∧ a.tmps.size = 287 ∧ a.tmps.toList.take 14 = L1 ∧ (a.tmps.toList.drop 22).take 29 = L2 ∧ a.tmps.toList.drop 286 = L3
/-- What a deed of the net leaves. -/
def SwPost (L1 L2 L3 : List Value) (w : World) (m j yb : Nat) : Exit → Act → World → Prop
  | .normal, f, W => Fits L1 L2 L3 f ∧ ∃ (a b : Sv) (A B : Sd) (wa wb : List (List Nat)), St w w.heap.size w.heap.size yb a b A B wa wb W ∧ Far2 m (j + 1) A B wa wb
  | .exit n, f, W => n = 3 ∧ Fits L1 L2 L3 f ∧ ∃ (a b : Sv) (A B : Sd) (wa wb : List (List Nat)), St w w.heap.size w.heap.size yb a b A B wa wb W ∧ Far2 m (j + 1) A B wa wb ∧ wa.length ≤ 400 ∧ wb.length ≤ 400
  | _, _, _ => False
end Go.Proofs.Ytnbkbakbjllmcaa.Session
