/-
  SessionOrder's memory: what each step leaves.
-/
import Derived.Test.YtnbkbakbjllmcaaSsH
namespace Go.Proofs.Ytnbkbakbjllmcaa.Session
open Go.RowKit
open Outbox (Ob nums OutAt Bv Byt NoByt RowAt NRow)
open Wire (Ps Pv bytesL parseM parseE)

/-- Two sides in memory. -/
structure St (w0 : World) (base xb yb : Nat) (a b : Sv) (A B : Sd) (wa wb : List (List Nat)) (W : World) : Prop where
  x : Blk W xb 29 #[.pointer (some ⟨a.F.o, 0, none⟩), .int .u32 (A.s.my : Int), a.sent, a.got, .pointer (some ⟨b.F.o, 0, none⟩), .int .u32 (B.s.my : Int), b.sent, b.got]
  y : Blk W yb 33 #[a.way, b.way]
  ha : Half W base (flat (feet xb yb a b)) a A wa
  hb : Half W base (flat (feet xb yb a b)) b B wb
  pool : Pool W base (feet xb yb a b)
  kept : Kept [] w0 W
  low : w0.heap.size ≤ base
  bw : base ≤ W.heap.size
theorem St.eight {w0 : World} {base xb yb : Nat} {a b : Sv} {A B : Sd} {wa wb : List (List Nat)} {W : World} (h : St w0 base xb yb a b A B wa wb W) : W.cell? ⟨xb, 0, none⟩ = some (.pointer (some ⟨a.F.o, 0, none⟩)) ∧ W.cell? ⟨xb, 1, none⟩ = some (.int .u32 (A.s.my : Int)) ∧ W.cell? ⟨xb, 2, none⟩ = some (.slice a.s1 a.S.length a.s3) ∧ W.cell? ⟨xb, 3, none⟩ = some (.slice a.g1 a.G.length a.g3) ∧ W.cell? ⟨xb, 4, none⟩ = some (.pointer (some ⟨b.F.o, 0, none⟩)) ∧ W.cell? ⟨xb, 5, none⟩ = some (.int .u32 (B.s.my : Int)) ∧ W.cell? ⟨xb, 6, none⟩ = some (.slice b.s1 b.S.length b.s3) ∧ W.cell? ⟨xb, 7, none⟩ = some (.slice b.g1 b.G.length b.g3) :=
  ⟨(h.x.cell 0).trans rfl, (h.x.cell 1).trans rfl, (h.x.cell 2).trans rfl, (h.x.cell 3).trans rfl, (h.x.cell 4).trans rfl, (h.x.cell 5).trans rfl, (h.x.cell 6).trans rfl, (h.x.cell 7).trans rfl⟩
theorem St.two {w0 : World} {base xb yb : Nat} {a b : Sv} {A B : Sd} {wa wb : List (List Nat)} {W : World} (h : St w0 base xb yb a b A B wa wb W) : W.cell? ⟨yb, 0, none⟩ = some (.slice a.w1 a.Y.length a.w3) ∧ W.cell? ⟨yb, 1, none⟩ = some (.slice b.w1 b.Y.length b.w3) :=
  ⟨(h.y.cell 0).trans rfl, (h.y.cell 1).trans rfl⟩
theorem feet_a (xb yb : Nat) (a b : Sv) : ∀ i, i < 4 → feet xb yb a b i = a.foot i
  | 0, _ => rfl
  | 1, _ => rfl
  | 2, _ => rfl
  | 3, _ => rfl
  | i + 4, h => by omega
theorem feet_b (xb yb : Nat) (a b : Sv) : ∀ i, i < 4 → feet xb yb a b (i + 4) = b.foot i
  | 0, _ => rfl
  | 1, _ => rfl
  | 2, _ => rfl
  | 3, _ => rfl
  | i + 4, h => by omega
theorem foot_out (v : Sv) : ∀ i, 4 ≤ i → v.foot i = []
  | 0, h => by omega
  | 1, h => by omega
  | 2, h => by omega
  | 3, h => by omega
  | _ + 4, _ => rfl
theorem St.noByt {w0 : World} {base xb yb : Nat} {a b : Sv} {A B : Sd} {wa wb : List (List Nat)} {W : World} (h : St w0 base xb yb a b A B wa wb W) : ∀ i, NoByt (feet xb yb a b i) W
  | 0 => h.ha.noByt 0
  | 1 => h.ha.noByt 1
  | 2 => h.ha.noByt 2
  | 3 => h.ha.noByt 3
  | 4 => h.hb.noByt 0
  | 5 => h.hb.noByt 1
  | 6 => h.hb.noByt 2
  | 7 => h.hb.noByt 3
  | 8 => NoByt.cons (Outbox.noByt_nil W) h.x (by decide)
  | 9 => NoByt.cons (Outbox.noByt_nil W) h.y (by decide)
  | _ + 10 => Outbox.noByt_nil W
theorem St.noFlat {w0 : World} {base xb yb : Nat} {a b : Sv} {A B : Sd} {wa wb : List (List Nat)} {W : World} (h : St w0 base xb yb a b A B wa wb W) : NoByt (flat (feet xb yb a b)) W := fun k hk => by
  obtain ⟨i, _, hi⟩ := flat_mem hk
  exact h.noByt i k hi
/-- What a step leaves of the rest. -/
theorem St.frame {w0 : World} {base xb yb : Nat} {a b : Sv} {A B : Sd} {wa wb : List (List Nat)} {W W' : World} (h : St w0 base xb yb a b A B wa wb W) (f' : Nat → List Nat) (i1 i2 : Nat) (K1 : List Nat) (hk : Kept K1 W W') (hi1 : i1 < 10) (hi2 : i2 < 10) (hK : ∀ k ∈ K1, k ∈ feet xb yb a b i1 ∨ k ∈ feet xb yb a b i2)
    (hne : ∀ j, j ≠ i1 → f' j = feet xb yb a b j) (hi : ∀ k ∈ f' i1, (k ∈ feet xb yb a b i1 ∨ W.heap.size ≤ k) ∧ k < W'.heap.size) :
    Pool W' base f' ∧ NoByt K1 W ∧ (∀ x, Far (flat (feet xb yb a b)) W x → Far (flat f') W' x) ∧ (∀ j, j ≠ i1 → j ≠ i2 → ∀ k ∈ feet xb yb a b j, k ∉ K1) ∧ Kept [] w0 W' ∧ base ≤ W'.heap.size ∧ (∀ k ∈ K1, k ∈ flat (feet xb yb a b)) ∧ (∀ k ∈ flat f', k ∈ flat (feet xb yb a b) ∨ W.heap.size ≤ k) := by
  have h1 : ∀ k ∈ K1, k ∈ flat (feet xb yb a b) := fun k hm => (hK k hm).elim (mem_flat hi1) (mem_flat hi2)
  have h2 : ∀ k ∈ flat f', k ∈ flat (feet xb yb a b) ∨ W.heap.size ≤ k := fun k hm => by
    obtain ⟨i, h10, hmi⟩ := flat_mem hm
    by_cases e : i = i1
    · subst e
      exact (hi k hmi).1.imp (mem_flat hi1) id
    · rw [hne i e] at hmi
      exact .inl (mem_flat h10 hmi)
  refine ⟨h.pool.step i1 h.bw hk.size hne hi, fun k hm => (hK k hm).elim (h.noByt i1 k) (h.noByt i2 k), fun x hx => hx.step hk h1 h2, fun j n1 n2 k hj hm => ?_, Kept.more h.kept hk (fun k hm => .inr ?_), Nat.le_trans h.bw hk.size, h1, h2⟩
  · rcases hK k hm with e | e
    · exact n1 (h.pool.one j i1 k hj e)
    · exact n2 (h.pool.one j i2 k hj e)
  · have := h.low
    rcases hK k hm with e | e
    · have := (h.pool.lt i1 k e).1
      omega
    · have := (h.pool.lt i2 k e).1
      omega
theorem St.kept0 {w0 : World} {base xb yb : Nat} {a b : Sv} {A B : Sd} {wa wb : List (List Nat)} {W W' : World} (h : St w0 base xb yb a b A B wa wb W) (hk : Kept [] W W') : St w0 base xb yb a b A B wa wb W' := by
  obtain ⟨p1, p2, p3, p4, p5, p6, p7, p8⟩ := h.frame (feet xb yb a b) 8 9 [] hk (by omega) (by omega) (by simp) (fun _ _ => rfl) (fun k hm => ⟨.inl hm, Nat.lt_of_lt_of_le (h.pool.lt 8 k hm).2 hk.size⟩)
  exact ⟨h.x.kept hk (by simp), h.y.kept hk (by simp), h.ha.step hk p7 p8 (by simp) p2, h.hb.step hk p7 p8 (by simp) p2, p1, p5, h.low, p6⟩
/-- A call of the session of side a. -/
theorem St.call_a {w0 : World} {base xb yb : Nat} {a b : Sv} {A B : Sd} {wa wb : List (List Nat)} {W : World} (h : St w0 base xb yb a b A B wa wb W) {F' : Foot} {s' : Ss} {W' : World} (hA : After W base a.F F' s' W') (hm : s'.my = A.s.my) : St w0 base xb yb ({ a with F := F' }) b ({ A with s := s' }) B (wa) wb W' := by
  obtain ⟨K1, hK1⟩ : ∃ K1, K1 = a.F.l := ⟨_, rfl⟩
  have hk := hA.kept
  rw [← hK1] at hk
  obtain ⟨p1, p2, p3, p4, p5, p6, p7, p8⟩ := h.frame (feet xb yb { a with F := F' } b) 0 0 K1 hk (by decide) (by decide) (fun k hm => .inl (by rw [hK1] at hm; exact hm)) (fun j hj => by
    unfold feet
    split <;> first | rfl | exact absurd rfl hj) (fun k hm => ⟨by
    have := hA.new k hm
    exact this, (hA.at'.lt k hm).2⟩)
  have ho : ∀ i, ∀ k ∈ b.foot i, k ∉ K1 := fun i k hm => by
    by_cases h4 : i < 4
    · rw [← feet_b xb yb a b i h4] at hm
      exact p4 (i + 4) (by omega) (by omega) k hm
    · rw [foot_out b i (by omega)] at hm
      cases hm
  have hx := h.x.kept hk (p4 8 (by decide) (by decide) xb (by simp [feet]))
  rw [← hA.same, ← hm] at hx
  exact ⟨hx, h.y.kept hk (p4 9 (by decide) (by decide) yb (by simp [feet])), ⟨hA.at', h.ha.sent.kept hk (fun k e => p4 1 (by decide) (by decide) k (by rw [feet_a xb yb a b 1 (by decide)]; simp [Sv.foot, e])), h.ha.got.kept hk (fun k e => p4 2 (by decide) (by decide) k (by rw [feet_a xb yb a b 2 (by decide)]; simp [Sv.foot, e])), h.ha.way.kept hk (fun k e => p4 3 (by decide) (by decide) k (by rw [feet_a xb yb a b 3 (by decide)]; simp [Sv.foot, e])), h.ha.sentL, h.ha.gotL, h.ha.wayL, fun x hx => p3 x (h.ha.sentF x hx), fun x hx => p3 x (h.ha.gotF x hx), fun x hx => p3 x (h.ha.wayF x hx)⟩, h.hb.step hk p7 p8 ho p2, p1, p5, h.low, p6⟩
/-- More in the row way of side a. -/
theorem St.way_a {w0 : World} {base xb yb : Nat} {a b : Sv} {A B : Sd} {wa wb : List (List Nat)} {W : World} (h : St w0 base xb yb a b A B wa wb W) {M : List Bv} {W1 W2 : World} {u1 : Option Addr} {n u3 : Nat} (hr : BRow base W1 (.slice u1 n u3) (a.Y ++ M)) (hk1 : Kept a.way.ownBlock.toList W W1) (hn : ∀ k, (Value.slice u1 n u3).ownBlock = some k → a.way.ownBlock = some k ∨ W.heap.size ≤ k) (hM : ∀ x ∈ M, Far (flat (feet xb yb a b)) W x) (hb2 : Blk W2 yb 33 #[.slice u1 n u3, b.way]) (hk2 : Kept [yb] W1 W2) : St w0 base xb yb ({ a with w1 := u1, w3 := u3, Y := a.Y ++ M }) b (A) B (wa ++ M.map Bv.bs) wb W2 := by
  obtain ⟨ua, uc, e⟩ := hr.form
  injection e with _ e2 _
  subst e2
  obtain ⟨K1, hK1⟩ : ∃ K1, K1 = a.way.ownBlock.toList ++ [yb] := ⟨_, rfl⟩
  have hk : Kept K1 W W2 := by
    rw [hK1]
    exact (hk1.mono (fun k hm => List.mem_append_left _ hm)).trans (hk2.mono (fun k hm => List.mem_append_right _ hm))
  have hown : ∀ k ∈ a.way.ownBlock.toList, k ∈ feet xb yb a b 3 := fun k hm => by
    rw [show feet xb yb a b 3 = a.foot 3 from rfl]
    exact hm
  have hbb : ∀ k, (Value.slice u1 (a.Y ++ M).length u3).ownBlock = some k → k ∉ [yb] := fun k e hm => by
    rw [List.mem_singleton] at hm
    rw [hm] at e
    rcases hn _ e with h1 | h1
    · have := h.pool.one 9 3 yb (by simp [feet]) (hown yb (by simp [h1]))
      omega
    · have := (h.pool.lt 9 yb (by simp [feet])).2
      omega
  obtain ⟨p1, p2, p3, p4, p5, p6, p7, p8⟩ := h.frame (feet xb yb { a with w1 := u1, w3 := u3, Y := a.Y ++ M } b) 3 9 K1 hk (by decide) (by decide) (fun k hm => by
    rw [hK1] at hm
    rcases List.mem_append.1 hm with e | e
    · exact .inl (hown k e)
    · rw [List.mem_singleton] at e
      rw [e]
      exact .inr (by simp [feet])) (fun j hj => by
    unfold feet
    split <;> first | rfl | exact absurd rfl hj) (fun k hm => by
    have hm' : (Value.slice u1 (a.Y ++ M).length u3).ownBlock = some k := by simpa [feet, Sv.foot, Sv.way] using hm
    refine ⟨(hn k hm').imp (fun e => hown k (by simp [e])) id, ?_⟩
    exact Nat.lt_of_lt_of_le (hr.lt k hm').2 hk2.size)
  have ho : ∀ i, ∀ k ∈ b.foot i, k ∉ K1 := fun i k hm => by
    by_cases h4 : i < 4
    · rw [← feet_b xb yb a b i h4] at hm
      exact p4 (i + 4) (by omega) (by omega) k hm
    · rw [foot_out b i (by omega)] at hm
      cases hm
  refine ⟨h.x.kept hk (p4 8 (by decide) (by decide) xb (by simp [feet])), hb2, ⟨h.ha.ss.kept hk (fun k hm => p4 0 (by decide) (by decide) k (by rw [feet_a xb yb a b 0 (by decide)]; exact hm)) p2, h.ha.sent.kept hk (fun k e => p4 1 (by decide) (by decide) k (by rw [feet_a xb yb a b 1 (by decide)]; simp [Sv.foot, e])), h.ha.got.kept hk (fun k e => p4 2 (by decide) (by decide) k (by rw [feet_a xb yb a b 2 (by decide)]; simp [Sv.foot, e])), (hr.kept hk2 (fun k e => ?_)), h.ha.sentL, h.ha.gotL, (by rw [List.map_append, h.ha.wayL]), fun x hx => p3 x (h.ha.sentF x hx), fun x hx => p3 x (h.ha.gotF x hx), fun x hx => (List.mem_append.1 hx).elim (fun hx => p3 x (h.ha.wayF x hx)) (fun hx => p3 x (hM x hx))⟩, h.hb.step hk p7 p8 ho p2, p1, p5, h.low, p6⟩
  exact hbb k e
/-- More in the row sent of side a. -/
theorem St.sent_a {w0 : World} {base xb yb : Nat} {a b : Sv} {A B : Sd} {wa wb : List (List Nat)} {W : World} (h : St w0 base xb yb a b A B wa wb W) {M : List Bv} {W1 W2 : World} {u1 : Option Addr} {n u3 : Nat} (hr : BRow base W1 (.slice u1 n u3) (a.S ++ M)) (hk1 : Kept a.sent.ownBlock.toList W W1) (hn : ∀ k, (Value.slice u1 n u3).ownBlock = some k → a.sent.ownBlock = some k ∨ W.heap.size ≤ k) (hM : ∀ x ∈ M, Far (flat (feet xb yb a b)) W x) (hb2 : Blk W2 xb 29 #[.pointer (some ⟨a.F.o, 0, none⟩), .int .u32 (A.s.my : Int), .slice u1 n u3, a.got, .pointer (some ⟨b.F.o, 0, none⟩), .int .u32 (B.s.my : Int), b.sent, b.got]) (hk2 : Kept [xb] W1 W2) : St w0 base xb yb ({ a with s1 := u1, s3 := u3, S := a.S ++ M }) b ({ A with sent := A.sent ++ M.map Bv.bs }) B (wa) wb W2 := by
  obtain ⟨ua, uc, e⟩ := hr.form
  injection e with _ e2 _
  subst e2
  obtain ⟨K1, hK1⟩ : ∃ K1, K1 = a.sent.ownBlock.toList ++ [xb] := ⟨_, rfl⟩
  have hk : Kept K1 W W2 := by
    rw [hK1]
    exact (hk1.mono (fun k hm => List.mem_append_left _ hm)).trans (hk2.mono (fun k hm => List.mem_append_right _ hm))
  have hown : ∀ k ∈ a.sent.ownBlock.toList, k ∈ feet xb yb a b 1 := fun k hm => by
    rw [show feet xb yb a b 1 = a.foot 1 from rfl]
    exact hm
  have hbb : ∀ k, (Value.slice u1 (a.S ++ M).length u3).ownBlock = some k → k ∉ [xb] := fun k e hm => by
    rw [List.mem_singleton] at hm
    rw [hm] at e
    rcases hn _ e with h1 | h1
    · have := h.pool.one 8 1 xb (by simp [feet]) (hown xb (by simp [h1]))
      omega
    · have := (h.pool.lt 8 xb (by simp [feet])).2
      omega
  obtain ⟨p1, p2, p3, p4, p5, p6, p7, p8⟩ := h.frame (feet xb yb { a with s1 := u1, s3 := u3, S := a.S ++ M } b) 1 8 K1 hk (by decide) (by decide) (fun k hm => by
    rw [hK1] at hm
    rcases List.mem_append.1 hm with e | e
    · exact .inl (hown k e)
    · rw [List.mem_singleton] at e
      rw [e]
      exact .inr (by simp [feet])) (fun j hj => by
    unfold feet
    split <;> first | rfl | exact absurd rfl hj) (fun k hm => by
    have hm' : (Value.slice u1 (a.S ++ M).length u3).ownBlock = some k := by simpa [feet, Sv.foot, Sv.sent] using hm
    refine ⟨(hn k hm').imp (fun e => hown k (by simp [e])) id, ?_⟩
    exact Nat.lt_of_lt_of_le (hr.lt k hm').2 hk2.size)
  have ho : ∀ i, ∀ k ∈ b.foot i, k ∉ K1 := fun i k hm => by
    by_cases h4 : i < 4
    · rw [← feet_b xb yb a b i h4] at hm
      exact p4 (i + 4) (by omega) (by omega) k hm
    · rw [foot_out b i (by omega)] at hm
      cases hm
  refine ⟨hb2, h.y.kept hk (p4 9 (by decide) (by decide) yb (by simp [feet])), ⟨h.ha.ss.kept hk (fun k hm => p4 0 (by decide) (by decide) k (by rw [feet_a xb yb a b 0 (by decide)]; exact hm)) p2, (hr.kept hk2 (fun k e => ?_)), h.ha.got.kept hk (fun k e => p4 2 (by decide) (by decide) k (by rw [feet_a xb yb a b 2 (by decide)]; simp [Sv.foot, e])), h.ha.way.kept hk (fun k e => p4 3 (by decide) (by decide) k (by rw [feet_a xb yb a b 3 (by decide)]; simp [Sv.foot, e])), (by rw [List.map_append, h.ha.sentL]), h.ha.gotL, h.ha.wayL, fun x hx => (List.mem_append.1 hx).elim (fun hx => p3 x (h.ha.sentF x hx)) (fun hx => p3 x (hM x hx)), fun x hx => p3 x (h.ha.gotF x hx), fun x hx => p3 x (h.ha.wayF x hx)⟩, h.hb.step hk p7 p8 ho p2, p1, p5, h.low, p6⟩
  exact hbb k e
/-- More in the row got of side a. -/
theorem St.got_a {w0 : World} {base xb yb : Nat} {a b : Sv} {A B : Sd} {wa wb : List (List Nat)} {W : World} (h : St w0 base xb yb a b A B wa wb W) {M : List Bv} {W1 W2 : World} {u1 : Option Addr} {n u3 : Nat} (hr : BRow base W1 (.slice u1 n u3) (a.G ++ M)) (hk1 : Kept a.got.ownBlock.toList W W1) (hn : ∀ k, (Value.slice u1 n u3).ownBlock = some k → a.got.ownBlock = some k ∨ W.heap.size ≤ k) (hM : ∀ x ∈ M, Far (flat (feet xb yb a b)) W x) (hb2 : Blk W2 xb 29 #[.pointer (some ⟨a.F.o, 0, none⟩), .int .u32 (A.s.my : Int), a.sent, .slice u1 n u3, .pointer (some ⟨b.F.o, 0, none⟩), .int .u32 (B.s.my : Int), b.sent, b.got]) (hk2 : Kept [xb] W1 W2) : St w0 base xb yb ({ a with g1 := u1, g3 := u3, G := a.G ++ M }) b ({ A with got := A.got ++ M.map Bv.bs }) B (wa) wb W2 := by
  obtain ⟨ua, uc, e⟩ := hr.form
  injection e with _ e2 _
  subst e2
  obtain ⟨K1, hK1⟩ : ∃ K1, K1 = a.got.ownBlock.toList ++ [xb] := ⟨_, rfl⟩
  have hk : Kept K1 W W2 := by
    rw [hK1]
    exact (hk1.mono (fun k hm => List.mem_append_left _ hm)).trans (hk2.mono (fun k hm => List.mem_append_right _ hm))
  have hown : ∀ k ∈ a.got.ownBlock.toList, k ∈ feet xb yb a b 2 := fun k hm => by
    rw [show feet xb yb a b 2 = a.foot 2 from rfl]
    exact hm
  have hbb : ∀ k, (Value.slice u1 (a.G ++ M).length u3).ownBlock = some k → k ∉ [xb] := fun k e hm => by
    rw [List.mem_singleton] at hm
    rw [hm] at e
    rcases hn _ e with h1 | h1
    · have := h.pool.one 8 2 xb (by simp [feet]) (hown xb (by simp [h1]))
      omega
    · have := (h.pool.lt 8 xb (by simp [feet])).2
      omega
  obtain ⟨p1, p2, p3, p4, p5, p6, p7, p8⟩ := h.frame (feet xb yb { a with g1 := u1, g3 := u3, G := a.G ++ M } b) 2 8 K1 hk (by decide) (by decide) (fun k hm => by
    rw [hK1] at hm
    rcases List.mem_append.1 hm with e | e
    · exact .inl (hown k e)
    · rw [List.mem_singleton] at e
      rw [e]
      exact .inr (by simp [feet])) (fun j hj => by
    unfold feet
    split <;> first | rfl | exact absurd rfl hj) (fun k hm => by
    have hm' : (Value.slice u1 (a.G ++ M).length u3).ownBlock = some k := by simpa [feet, Sv.foot, Sv.got] using hm
    refine ⟨(hn k hm').imp (fun e => hown k (by simp [e])) id, ?_⟩
    exact Nat.lt_of_lt_of_le (hr.lt k hm').2 hk2.size)
  have ho : ∀ i, ∀ k ∈ b.foot i, k ∉ K1 := fun i k hm => by
    by_cases h4 : i < 4
    · rw [← feet_b xb yb a b i h4] at hm
      exact p4 (i + 4) (by omega) (by omega) k hm
    · rw [foot_out b i (by omega)] at hm
      cases hm
  refine ⟨hb2, h.y.kept hk (p4 9 (by decide) (by decide) yb (by simp [feet])), ⟨h.ha.ss.kept hk (fun k hm => p4 0 (by decide) (by decide) k (by rw [feet_a xb yb a b 0 (by decide)]; exact hm)) p2, h.ha.sent.kept hk (fun k e => p4 1 (by decide) (by decide) k (by rw [feet_a xb yb a b 1 (by decide)]; simp [Sv.foot, e])), (hr.kept hk2 (fun k e => ?_)), h.ha.way.kept hk (fun k e => p4 3 (by decide) (by decide) k (by rw [feet_a xb yb a b 3 (by decide)]; simp [Sv.foot, e])), h.ha.sentL, (by rw [List.map_append, h.ha.gotL]), h.ha.wayL, fun x hx => p3 x (h.ha.sentF x hx), fun x hx => (List.mem_append.1 hx).elim (fun hx => p3 x (h.ha.gotF x hx)) (fun hx => p3 x (hM x hx)), fun x hx => p3 x (h.ha.wayF x hx)⟩, h.hb.step hk p7 p8 ho p2, p1, p5, h.low, p6⟩
  exact hbb k e
/-- What side a sent, and got, is forgotten. -/
theorem St.fresh_a {w0 : World} {base xb yb : Nat} {a b : Sv} {A B : Sd} {wa wb : List (List Nat)} {W : World} (h : St w0 base xb yb a b A B wa wb W) {W2 : World} (hb2 : Blk W2 xb 29 #[.pointer (some ⟨a.F.o, 0, none⟩), .int .u32 (A.s.my : Int), .slice none 0 0, .slice none 0 0, .pointer (some ⟨b.F.o, 0, none⟩), .int .u32 (B.s.my : Int), b.sent, b.got]) (hk : Kept [xb] W W2) : St w0 base xb yb ({ a with s1 := none, s3 := 0, S := [], g1 := none, g3 := 0, G := [] }) b ({ A with sent := [], got := [] }) B (wa) wb W2 := by
  obtain ⟨p1, p2, p3, p4, p5, p6, p7, p8⟩ := h.frame (feet xb yb a b) 8 8 [xb] hk (by decide) (by decide) (fun k hm => .inl hm) (fun _ _ => rfl) (fun k hm => ⟨.inl hm, Nat.lt_of_lt_of_le (h.pool.lt 8 k hm).2 hk.size⟩)
  have q1 : ∀ j k, k ∈ feet xb yb { a with s1 := none, s3 := 0, S := [], g1 := none, g3 := 0, G := [] } b j → k ∈ feet xb yb a b j := fun j k hm => by
    unfold feet at hm ⊢
    split at hm <;> first | exact hm | exact absurd hm (by simp [Sv.foot, Sv.sent, Sv.got, Value.ownBlock])
  have q2 : ∀ k ∈ flat (feet xb yb { a with s1 := none, s3 := 0, S := [], g1 := none, g3 := 0, G := [] } b), k ∈ flat (feet xb yb a b) := fun k hm => by
    obtain ⟨i, h10, hmi⟩ := flat_mem hm
    exact mem_flat h10 (q1 i k hmi)
  have q3 : ∀ x, Far (flat (feet xb yb a b)) W x → Far (flat (feet xb yb { a with s1 := none, s3 := 0, S := [], g1 := none, g3 := 0, G := [] } b)) W2 x := fun x hx => hx.step hk p7 (fun k hm => .inl (q2 k hm))
  have ho : ∀ i, ∀ k ∈ b.foot i, k ∉ [xb] := fun i k hm => by
    by_cases h4 : i < 4
    · rw [← feet_b xb yb a b i h4] at hm
      exact p4 (i + 4) (by omega) (by omega) k hm
    · rw [foot_out b i (by omega)] at hm
      cases hm
  have hs := h.ha.ss.kept hk (fun k hm => p4 0 (by decide) (by decide) k (by rw [feet_a xb yb a b 0 (by decide)]; exact hm)) p2
  have hw := h.ha.way.kept hk (fun k e => p4 3 (by decide) (by decide) k (by rw [feet_a xb yb a b 3 (by decide)]; simp [Sv.foot, e]))
  exact ⟨hb2, h.y.kept hk (p4 9 (by decide) (by decide) yb (by simp [feet])), ⟨hs, BRow.nil _ _, BRow.nil _ _, hw, rfl, rfl, h.ha.wayL, fun x hx => (by cases hx), fun x hx => (by cases hx), fun x hx => q3 x (h.ha.wayF x hx)⟩, h.hb.step hk p7 (fun k hm => .inl (q2 k hm)) ho p2, ⟨fun i k hm => p1.lt i k (q1 i k hm), fun i j k h1 h2 => p1.one i j k (q1 i k h1) (q1 j k h2)⟩, p5, h.low, p6⟩
/-- Another row on its way from side a. -/
theorem St.less_a {w0 : World} {base xb yb : Nat} {a b : Sv} {A B : Sd} {wa wb : List (List Nat)} {W : World} (h : St w0 base xb yb a b A B wa wb W) {Z : List Bv} {W1 W2 : World} {u1 : Option Addr} {n u3 : Nat} (hr : BRow base W1 (.slice u1 n u3) Z) (hk1 : Kept [] W W1) (hn : ∀ k, (Value.slice u1 n u3).ownBlock = some k → W.heap.size ≤ k) (hZ : ∀ x ∈ Z, x ∈ a.Y) (hb2 : Blk W2 yb 33 #[.slice u1 n u3, b.way]) (hk2 : Kept [yb] W1 W2) : St w0 base xb yb ({ a with w1 := u1, w3 := u3, Y := Z }) b (A) B (Z.map Bv.bs) wb W2 := by
  obtain ⟨ua, uc, e⟩ := hr.form
  injection e with _ e2 _
  subst e2
  obtain ⟨K1, hK1⟩ : ∃ K1, K1 = [yb] := ⟨_, rfl⟩
  have hk : Kept K1 W W2 := by
    rw [hK1]
    exact (hk1.mono (by simp)).trans hk2
  obtain ⟨p1, p2, p3, p4, p5, p6, p7, p8⟩ := h.frame (feet xb yb { a with w1 := u1, w3 := u3, Y := Z } b) 3 9 K1 hk (by decide) (by decide) (fun k hm => by
    rw [hK1, List.mem_singleton] at hm
    rw [hm]
    exact .inr (by simp [feet])) (fun j hj => by
    unfold feet
    split <;> first | rfl | exact absurd rfl hj) (fun k hm => by
    have hm' : (Value.slice u1 Z.length u3).ownBlock = some k := by simpa [feet, Sv.foot, Sv.way] using hm
    exact ⟨.inr (hn k hm'), Nat.lt_of_lt_of_le (hr.lt k hm').2 hk2.size⟩)
  have ho : ∀ i, ∀ k ∈ b.foot i, k ∉ K1 := fun i k hm => by
    by_cases h4 : i < 4
    · rw [← feet_b xb yb a b i h4] at hm
      exact p4 (i + 4) (by omega) (by omega) k hm
    · rw [foot_out b i (by omega)] at hm
      cases hm
  refine ⟨h.x.kept hk (p4 8 (by decide) (by decide) xb (by simp [feet])), hb2, ⟨h.ha.ss.kept hk (fun k hm => p4 0 (by decide) (by decide) k (by rw [feet_a xb yb a b 0 (by decide)]; exact hm)) p2, h.ha.sent.kept hk (fun k e => p4 1 (by decide) (by decide) k (by rw [feet_a xb yb a b 1 (by decide)]; simp [Sv.foot, e])), h.ha.got.kept hk (fun k e => p4 2 (by decide) (by decide) k (by rw [feet_a xb yb a b 2 (by decide)]; simp [Sv.foot, e])), hr.kept hk2 (fun k e hm => ?_), h.ha.sentL, h.ha.gotL, rfl, fun x hx => p3 x (h.ha.sentF x hx), fun x hx => p3 x (h.ha.gotF x hx), fun x hx => p3 x (h.ha.wayF x (hZ x hx))⟩, h.hb.step hk p7 p8 ho p2, p1, p5, h.low, p6⟩
  rw [List.mem_singleton] at hm
  rw [hm] at e
  have := hn _ e
  have := (h.pool.lt 9 yb (by simp [feet])).2
  omega
/-- Side a is started anew. -/
theorem St.again_a {w0 : World} {base xb yb : Nat} {a b : Sv} {A B : Sd} {wa wb : List (List Nat)} {W : World} (h : St w0 base xb yb a b A B wa wb W) {F' : Foot} {my m : Nat} {W1 W2 : World} (hS : SsAt W1 base F' (made my m 5)) (hk1 : Kept [] W W1) (hF : ∀ k ∈ F'.l, W.heap.size ≤ k) (hb2 : Blk W2 xb 29 #[.pointer (some ⟨F'.o, 0, none⟩), .int .u32 (my : Int), .slice none 0 0, .slice none 0 0, .pointer (some ⟨b.F.o, 0, none⟩), .int .u32 (B.s.my : Int), b.sent, b.got]) (hk2 : Kept [xb] W1 W2) : St w0 base xb yb (Sv.mk F' none 0 none 0 a.w1 a.w3 [] [] a.Y) b (start my m 5) B (wa) wb W2 := by
  obtain ⟨K1, hK1⟩ : ∃ K1, K1 = [xb] := ⟨_, rfl⟩
  have hk : Kept K1 W W2 := by
    rw [hK1]
    exact (hk1.mono (by simp)).trans hk2
  have hnx : ∀ k ∈ F'.l, k ∉ [xb] := fun k hm e => by
    rw [List.mem_singleton] at e
    rw [e] at hm
    have := hF _ hm
    have := (h.pool.lt 8 xb (by simp [feet])).2
    omega
  have hxx : NoByt [xb] W1 := NoByt.cons (Outbox.noByt_nil _) (h.x.kept hk1 (by simp)) (by decide)
  have hS2 := hS.kept hk2 hnx hxx
  have q1 : ∀ j k, j ≠ 0 → k ∈ feet xb yb (Sv.mk F' none 0 none 0 a.w1 a.w3 [] [] a.Y) b j → k ∈ feet xb yb a b j := fun j k hj hm => by
    unfold feet at hm ⊢
    split at hm <;> first | exact hm | exact absurd rfl hj | exact absurd hm (by simp [Sv.foot, Sv.sent, Sv.got, Value.ownBlock])
  obtain ⟨p1, p2, p3, p4, p5, p6, p7, p8⟩ := h.frame (fun j => if j = 0 then F'.l else feet xb yb a b j) 0 8 K1 hk (by decide) (by decide) (fun k hm => by
    rw [hK1] at hm
    exact .inr hm) (fun j hj => if_neg hj) (fun k hm => by
    have hm' : k ∈ F'.l := by simpa using hm
    exact ⟨.inr (hF k hm'), (hS2.lt k hm').2⟩)
  have q2 : ∀ j k, k ∈ feet xb yb (Sv.mk F' none 0 none 0 a.w1 a.w3 [] [] a.Y) b j → k ∈ (if j = 0 then F'.l else feet xb yb a b j) := fun j k hm => by
    by_cases e : j = 0
    · subst e
      rw [if_pos rfl]
      exact hm
    · rw [if_neg e]
      exact q1 j k e hm
  have q3 : ∀ k ∈ flat (feet xb yb (Sv.mk F' none 0 none 0 a.w1 a.w3 [] [] a.Y) b), k ∈ flat (feet xb yb a b) ∨ W.heap.size ≤ k := fun k hm => by
    obtain ⟨i, h10, hmi⟩ := flat_mem hm
    by_cases e : i = 0
    · subst e
      exact .inr (hF k hmi)
    · exact .inl (mem_flat h10 (q1 i k e hmi))
  have ho : ∀ i, ∀ k ∈ b.foot i, k ∉ K1 := fun i k hm => by
    by_cases h4 : i < 4
    · rw [← feet_b xb yb a b i h4] at hm
      exact p4 (i + 4) (by omega) (by omega) k hm
    · rw [foot_out b i (by omega)] at hm
      cases hm
  have hw := h.ha.way.kept hk (fun k e => p4 3 (by decide) (by decide) k (by rw [feet_a xb yb a b 3 (by decide)]; simp [Sv.foot, e]))
  exact ⟨hb2, h.y.kept hk (p4 9 (by decide) (by decide) yb (by simp [feet])), ⟨hS2, BRow.nil _ _, BRow.nil _ _, hw, rfl, rfl, h.ha.wayL, fun x hx => (by cases hx), fun x hx => (by cases hx), fun x hx => (h.ha.wayF x hx).step hk p7 q3⟩, h.hb.step hk p7 q3 ho p2, ⟨fun i k hm => p1.lt i k (q2 i k hm), fun i j k h1 h2 => p1.one i j k (q2 i k h1) (q2 j k h2)⟩, p5, h.low, p6⟩
/-- A call of the session of side b. -/
theorem St.call_b {w0 : World} {base xb yb : Nat} {a b : Sv} {A B : Sd} {wa wb : List (List Nat)} {W : World} (h : St w0 base xb yb a b A B wa wb W) {F' : Foot} {s' : Ss} {W' : World} (hA : After W base b.F F' s' W') (hm : s'.my = B.s.my) : St w0 base xb yb a ({ b with F := F' }) A ({ B with s := s' }) wa (wb) W' := by
  obtain ⟨K1, hK1⟩ : ∃ K1, K1 = b.F.l := ⟨_, rfl⟩
  have hk := hA.kept
  rw [← hK1] at hk
  obtain ⟨p1, p2, p3, p4, p5, p6, p7, p8⟩ := h.frame (feet xb yb a { b with F := F' }) 4 4 K1 hk (by decide) (by decide) (fun k hm => .inl (by rw [hK1] at hm; exact hm)) (fun j hj => by
    unfold feet
    split <;> first | rfl | exact absurd rfl hj) (fun k hm => ⟨by
    have := hA.new k hm
    exact this, (hA.at'.lt k hm).2⟩)
  have ho : ∀ i, ∀ k ∈ a.foot i, k ∉ K1 := fun i k hm => by
    by_cases h4 : i < 4
    · rw [← feet_a xb yb a b i h4] at hm
      exact p4 i (by omega) (by omega) k hm
    · rw [foot_out a i (by omega)] at hm
      cases hm
  have hx := h.x.kept hk (p4 8 (by decide) (by decide) xb (by simp [feet]))
  rw [← hA.same, ← hm] at hx
  exact ⟨hx, h.y.kept hk (p4 9 (by decide) (by decide) yb (by simp [feet])), h.ha.step hk p7 p8 ho p2, ⟨hA.at', h.hb.sent.kept hk (fun k e => p4 (1 + 4) (by decide) (by decide) k (by rw [feet_b xb yb a b 1 (by decide)]; simp [Sv.foot, e])), h.hb.got.kept hk (fun k e => p4 (2 + 4) (by decide) (by decide) k (by rw [feet_b xb yb a b 2 (by decide)]; simp [Sv.foot, e])), h.hb.way.kept hk (fun k e => p4 (3 + 4) (by decide) (by decide) k (by rw [feet_b xb yb a b 3 (by decide)]; simp [Sv.foot, e])), h.hb.sentL, h.hb.gotL, h.hb.wayL, fun x hx => p3 x (h.hb.sentF x hx), fun x hx => p3 x (h.hb.gotF x hx), fun x hx => p3 x (h.hb.wayF x hx)⟩, p1, p5, h.low, p6⟩
/-- More in the row way of side b. -/
theorem St.way_b {w0 : World} {base xb yb : Nat} {a b : Sv} {A B : Sd} {wa wb : List (List Nat)} {W : World} (h : St w0 base xb yb a b A B wa wb W) {M : List Bv} {W1 W2 : World} {u1 : Option Addr} {n u3 : Nat} (hr : BRow base W1 (.slice u1 n u3) (b.Y ++ M)) (hk1 : Kept b.way.ownBlock.toList W W1) (hn : ∀ k, (Value.slice u1 n u3).ownBlock = some k → b.way.ownBlock = some k ∨ W.heap.size ≤ k) (hM : ∀ x ∈ M, Far (flat (feet xb yb a b)) W x) (hb2 : Blk W2 yb 33 #[a.way, .slice u1 n u3]) (hk2 : Kept [yb] W1 W2) : St w0 base xb yb a ({ b with w1 := u1, w3 := u3, Y := b.Y ++ M }) A (B) wa (wb ++ M.map Bv.bs) W2 := by
  obtain ⟨ua, uc, e⟩ := hr.form
  injection e with _ e2 _
  subst e2
  obtain ⟨K1, hK1⟩ : ∃ K1, K1 = b.way.ownBlock.toList ++ [yb] := ⟨_, rfl⟩
  have hk : Kept K1 W W2 := by
    rw [hK1]
    exact (hk1.mono (fun k hm => List.mem_append_left _ hm)).trans (hk2.mono (fun k hm => List.mem_append_right _ hm))
  have hown : ∀ k ∈ b.way.ownBlock.toList, k ∈ feet xb yb a b 7 := fun k hm => by
    rw [show feet xb yb a b 7 = b.foot 3 from rfl]
    exact hm
  have hbb : ∀ k, (Value.slice u1 (b.Y ++ M).length u3).ownBlock = some k → k ∉ [yb] := fun k e hm => by
    rw [List.mem_singleton] at hm
    rw [hm] at e
    rcases hn _ e with h1 | h1
    · have := h.pool.one 9 7 yb (by simp [feet]) (hown yb (by simp [h1]))
      omega
    · have := (h.pool.lt 9 yb (by simp [feet])).2
      omega
  obtain ⟨p1, p2, p3, p4, p5, p6, p7, p8⟩ := h.frame (feet xb yb a { b with w1 := u1, w3 := u3, Y := b.Y ++ M }) 7 9 K1 hk (by decide) (by decide) (fun k hm => by
    rw [hK1] at hm
    rcases List.mem_append.1 hm with e | e
    · exact .inl (hown k e)
    · rw [List.mem_singleton] at e
      rw [e]
      exact .inr (by simp [feet])) (fun j hj => by
    unfold feet
    split <;> first | rfl | exact absurd rfl hj) (fun k hm => by
    have hm' : (Value.slice u1 (b.Y ++ M).length u3).ownBlock = some k := by simpa [feet, Sv.foot, Sv.way] using hm
    refine ⟨(hn k hm').imp (fun e => hown k (by simp [e])) id, ?_⟩
    exact Nat.lt_of_lt_of_le (hr.lt k hm').2 hk2.size)
  have ho : ∀ i, ∀ k ∈ a.foot i, k ∉ K1 := fun i k hm => by
    by_cases h4 : i < 4
    · rw [← feet_a xb yb a b i h4] at hm
      exact p4 i (by omega) (by omega) k hm
    · rw [foot_out a i (by omega)] at hm
      cases hm
  refine ⟨h.x.kept hk (p4 8 (by decide) (by decide) xb (by simp [feet])), hb2, h.ha.step hk p7 p8 ho p2, ⟨h.hb.ss.kept hk (fun k hm => p4 (0 + 4) (by decide) (by decide) k (by rw [feet_b xb yb a b 0 (by decide)]; exact hm)) p2, h.hb.sent.kept hk (fun k e => p4 (1 + 4) (by decide) (by decide) k (by rw [feet_b xb yb a b 1 (by decide)]; simp [Sv.foot, e])), h.hb.got.kept hk (fun k e => p4 (2 + 4) (by decide) (by decide) k (by rw [feet_b xb yb a b 2 (by decide)]; simp [Sv.foot, e])), (hr.kept hk2 (fun k e => ?_)), h.hb.sentL, h.hb.gotL, (by rw [List.map_append, h.hb.wayL]), fun x hx => p3 x (h.hb.sentF x hx), fun x hx => p3 x (h.hb.gotF x hx), fun x hx => (List.mem_append.1 hx).elim (fun hx => p3 x (h.hb.wayF x hx)) (fun hx => p3 x (hM x hx))⟩, p1, p5, h.low, p6⟩
  exact hbb k e
/-- More in the row sent of side b. -/
theorem St.sent_b {w0 : World} {base xb yb : Nat} {a b : Sv} {A B : Sd} {wa wb : List (List Nat)} {W : World} (h : St w0 base xb yb a b A B wa wb W) {M : List Bv} {W1 W2 : World} {u1 : Option Addr} {n u3 : Nat} (hr : BRow base W1 (.slice u1 n u3) (b.S ++ M)) (hk1 : Kept b.sent.ownBlock.toList W W1) (hn : ∀ k, (Value.slice u1 n u3).ownBlock = some k → b.sent.ownBlock = some k ∨ W.heap.size ≤ k) (hM : ∀ x ∈ M, Far (flat (feet xb yb a b)) W x) (hb2 : Blk W2 xb 29 #[.pointer (some ⟨a.F.o, 0, none⟩), .int .u32 (A.s.my : Int), a.sent, a.got, .pointer (some ⟨b.F.o, 0, none⟩), .int .u32 (B.s.my : Int), .slice u1 n u3, b.got]) (hk2 : Kept [xb] W1 W2) : St w0 base xb yb a ({ b with s1 := u1, s3 := u3, S := b.S ++ M }) A ({ B with sent := B.sent ++ M.map Bv.bs }) wa (wb) W2 := by
  obtain ⟨ua, uc, e⟩ := hr.form
  injection e with _ e2 _
  subst e2
  obtain ⟨K1, hK1⟩ : ∃ K1, K1 = b.sent.ownBlock.toList ++ [xb] := ⟨_, rfl⟩
  have hk : Kept K1 W W2 := by
    rw [hK1]
    exact (hk1.mono (fun k hm => List.mem_append_left _ hm)).trans (hk2.mono (fun k hm => List.mem_append_right _ hm))
  have hown : ∀ k ∈ b.sent.ownBlock.toList, k ∈ feet xb yb a b 5 := fun k hm => by
    rw [show feet xb yb a b 5 = b.foot 1 from rfl]
    exact hm
  have hbb : ∀ k, (Value.slice u1 (b.S ++ M).length u3).ownBlock = some k → k ∉ [xb] := fun k e hm => by
    rw [List.mem_singleton] at hm
    rw [hm] at e
    rcases hn _ e with h1 | h1
    · have := h.pool.one 8 5 xb (by simp [feet]) (hown xb (by simp [h1]))
      omega
    · have := (h.pool.lt 8 xb (by simp [feet])).2
      omega
  obtain ⟨p1, p2, p3, p4, p5, p6, p7, p8⟩ := h.frame (feet xb yb a { b with s1 := u1, s3 := u3, S := b.S ++ M }) 5 8 K1 hk (by decide) (by decide) (fun k hm => by
    rw [hK1] at hm
    rcases List.mem_append.1 hm with e | e
    · exact .inl (hown k e)
    · rw [List.mem_singleton] at e
      rw [e]
      exact .inr (by simp [feet])) (fun j hj => by
    unfold feet
    split <;> first | rfl | exact absurd rfl hj) (fun k hm => by
    have hm' : (Value.slice u1 (b.S ++ M).length u3).ownBlock = some k := by simpa [feet, Sv.foot, Sv.sent] using hm
    refine ⟨(hn k hm').imp (fun e => hown k (by simp [e])) id, ?_⟩
    exact Nat.lt_of_lt_of_le (hr.lt k hm').2 hk2.size)
  have ho : ∀ i, ∀ k ∈ a.foot i, k ∉ K1 := fun i k hm => by
    by_cases h4 : i < 4
    · rw [← feet_a xb yb a b i h4] at hm
      exact p4 i (by omega) (by omega) k hm
    · rw [foot_out a i (by omega)] at hm
      cases hm
  refine ⟨hb2, h.y.kept hk (p4 9 (by decide) (by decide) yb (by simp [feet])), h.ha.step hk p7 p8 ho p2, ⟨h.hb.ss.kept hk (fun k hm => p4 (0 + 4) (by decide) (by decide) k (by rw [feet_b xb yb a b 0 (by decide)]; exact hm)) p2, (hr.kept hk2 (fun k e => ?_)), h.hb.got.kept hk (fun k e => p4 (2 + 4) (by decide) (by decide) k (by rw [feet_b xb yb a b 2 (by decide)]; simp [Sv.foot, e])), h.hb.way.kept hk (fun k e => p4 (3 + 4) (by decide) (by decide) k (by rw [feet_b xb yb a b 3 (by decide)]; simp [Sv.foot, e])), (by rw [List.map_append, h.hb.sentL]), h.hb.gotL, h.hb.wayL, fun x hx => (List.mem_append.1 hx).elim (fun hx => p3 x (h.hb.sentF x hx)) (fun hx => p3 x (hM x hx)), fun x hx => p3 x (h.hb.gotF x hx), fun x hx => p3 x (h.hb.wayF x hx)⟩, p1, p5, h.low, p6⟩
  exact hbb k e
/-- More in the row got of side b. -/
theorem St.got_b {w0 : World} {base xb yb : Nat} {a b : Sv} {A B : Sd} {wa wb : List (List Nat)} {W : World} (h : St w0 base xb yb a b A B wa wb W) {M : List Bv} {W1 W2 : World} {u1 : Option Addr} {n u3 : Nat} (hr : BRow base W1 (.slice u1 n u3) (b.G ++ M)) (hk1 : Kept b.got.ownBlock.toList W W1) (hn : ∀ k, (Value.slice u1 n u3).ownBlock = some k → b.got.ownBlock = some k ∨ W.heap.size ≤ k) (hM : ∀ x ∈ M, Far (flat (feet xb yb a b)) W x) (hb2 : Blk W2 xb 29 #[.pointer (some ⟨a.F.o, 0, none⟩), .int .u32 (A.s.my : Int), a.sent, a.got, .pointer (some ⟨b.F.o, 0, none⟩), .int .u32 (B.s.my : Int), b.sent, .slice u1 n u3]) (hk2 : Kept [xb] W1 W2) : St w0 base xb yb a ({ b with g1 := u1, g3 := u3, G := b.G ++ M }) A ({ B with got := B.got ++ M.map Bv.bs }) wa (wb) W2 := by
  obtain ⟨ua, uc, e⟩ := hr.form
  injection e with _ e2 _
  subst e2
  obtain ⟨K1, hK1⟩ : ∃ K1, K1 = b.got.ownBlock.toList ++ [xb] := ⟨_, rfl⟩
  have hk : Kept K1 W W2 := by
    rw [hK1]
    exact (hk1.mono (fun k hm => List.mem_append_left _ hm)).trans (hk2.mono (fun k hm => List.mem_append_right _ hm))
  have hown : ∀ k ∈ b.got.ownBlock.toList, k ∈ feet xb yb a b 6 := fun k hm => by
    rw [show feet xb yb a b 6 = b.foot 2 from rfl]
    exact hm
  have hbb : ∀ k, (Value.slice u1 (b.G ++ M).length u3).ownBlock = some k → k ∉ [xb] := fun k e hm => by
    rw [List.mem_singleton] at hm
    rw [hm] at e
    rcases hn _ e with h1 | h1
    · have := h.pool.one 8 6 xb (by simp [feet]) (hown xb (by simp [h1]))
      omega
    · have := (h.pool.lt 8 xb (by simp [feet])).2
      omega
  obtain ⟨p1, p2, p3, p4, p5, p6, p7, p8⟩ := h.frame (feet xb yb a { b with g1 := u1, g3 := u3, G := b.G ++ M }) 6 8 K1 hk (by decide) (by decide) (fun k hm => by
    rw [hK1] at hm
    rcases List.mem_append.1 hm with e | e
    · exact .inl (hown k e)
    · rw [List.mem_singleton] at e
      rw [e]
      exact .inr (by simp [feet])) (fun j hj => by
    unfold feet
    split <;> first | rfl | exact absurd rfl hj) (fun k hm => by
    have hm' : (Value.slice u1 (b.G ++ M).length u3).ownBlock = some k := by simpa [feet, Sv.foot, Sv.got] using hm
    refine ⟨(hn k hm').imp (fun e => hown k (by simp [e])) id, ?_⟩
    exact Nat.lt_of_lt_of_le (hr.lt k hm').2 hk2.size)
  have ho : ∀ i, ∀ k ∈ a.foot i, k ∉ K1 := fun i k hm => by
    by_cases h4 : i < 4
    · rw [← feet_a xb yb a b i h4] at hm
      exact p4 i (by omega) (by omega) k hm
    · rw [foot_out a i (by omega)] at hm
      cases hm
  refine ⟨hb2, h.y.kept hk (p4 9 (by decide) (by decide) yb (by simp [feet])), h.ha.step hk p7 p8 ho p2, ⟨h.hb.ss.kept hk (fun k hm => p4 (0 + 4) (by decide) (by decide) k (by rw [feet_b xb yb a b 0 (by decide)]; exact hm)) p2, h.hb.sent.kept hk (fun k e => p4 (1 + 4) (by decide) (by decide) k (by rw [feet_b xb yb a b 1 (by decide)]; simp [Sv.foot, e])), (hr.kept hk2 (fun k e => ?_)), h.hb.way.kept hk (fun k e => p4 (3 + 4) (by decide) (by decide) k (by rw [feet_b xb yb a b 3 (by decide)]; simp [Sv.foot, e])), h.hb.sentL, (by rw [List.map_append, h.hb.gotL]), h.hb.wayL, fun x hx => p3 x (h.hb.sentF x hx), fun x hx => (List.mem_append.1 hx).elim (fun hx => p3 x (h.hb.gotF x hx)) (fun hx => p3 x (hM x hx)), fun x hx => p3 x (h.hb.wayF x hx)⟩, p1, p5, h.low, p6⟩
  exact hbb k e
/-- What side b sent, and got, is forgotten. -/
theorem St.fresh_b {w0 : World} {base xb yb : Nat} {a b : Sv} {A B : Sd} {wa wb : List (List Nat)} {W : World} (h : St w0 base xb yb a b A B wa wb W) {W2 : World} (hb2 : Blk W2 xb 29 #[.pointer (some ⟨a.F.o, 0, none⟩), .int .u32 (A.s.my : Int), a.sent, a.got, .pointer (some ⟨b.F.o, 0, none⟩), .int .u32 (B.s.my : Int), .slice none 0 0, .slice none 0 0]) (hk : Kept [xb] W W2) : St w0 base xb yb a ({ b with s1 := none, s3 := 0, S := [], g1 := none, g3 := 0, G := [] }) A ({ B with sent := [], got := [] }) wa (wb) W2 := by
  obtain ⟨p1, p2, p3, p4, p5, p6, p7, p8⟩ := h.frame (feet xb yb a b) 8 8 [xb] hk (by decide) (by decide) (fun k hm => .inl hm) (fun _ _ => rfl) (fun k hm => ⟨.inl hm, Nat.lt_of_lt_of_le (h.pool.lt 8 k hm).2 hk.size⟩)
  have q1 : ∀ j k, k ∈ feet xb yb a { b with s1 := none, s3 := 0, S := [], g1 := none, g3 := 0, G := [] } j → k ∈ feet xb yb a b j := fun j k hm => by
    unfold feet at hm ⊢
    split at hm <;> first | exact hm | exact absurd hm (by simp [Sv.foot, Sv.sent, Sv.got, Value.ownBlock])
  have q2 : ∀ k ∈ flat (feet xb yb a { b with s1 := none, s3 := 0, S := [], g1 := none, g3 := 0, G := [] }), k ∈ flat (feet xb yb a b) := fun k hm => by
    obtain ⟨i, h10, hmi⟩ := flat_mem hm
    exact mem_flat h10 (q1 i k hmi)
  have q3 : ∀ x, Far (flat (feet xb yb a b)) W x → Far (flat (feet xb yb a { b with s1 := none, s3 := 0, S := [], g1 := none, g3 := 0, G := [] })) W2 x := fun x hx => hx.step hk p7 (fun k hm => .inl (q2 k hm))
  have ho : ∀ i, ∀ k ∈ a.foot i, k ∉ [xb] := fun i k hm => by
    by_cases h4 : i < 4
    · rw [← feet_a xb yb a b i h4] at hm
      exact p4 i (by omega) (by omega) k hm
    · rw [foot_out a i (by omega)] at hm
      cases hm
  have hs := h.hb.ss.kept hk (fun k hm => p4 (0 + 4) (by decide) (by decide) k (by rw [feet_b xb yb a b 0 (by decide)]; exact hm)) p2
  have hw := h.hb.way.kept hk (fun k e => p4 (3 + 4) (by decide) (by decide) k (by rw [feet_b xb yb a b 3 (by decide)]; simp [Sv.foot, e]))
  exact ⟨hb2, h.y.kept hk (p4 9 (by decide) (by decide) yb (by simp [feet])), h.ha.step hk p7 (fun k hm => .inl (q2 k hm)) ho p2, ⟨hs, BRow.nil _ _, BRow.nil _ _, hw, rfl, rfl, h.hb.wayL, fun x hx => (by cases hx), fun x hx => (by cases hx), fun x hx => q3 x (h.hb.wayF x hx)⟩, ⟨fun i k hm => p1.lt i k (q1 i k hm), fun i j k h1 h2 => p1.one i j k (q1 i k h1) (q1 j k h2)⟩, p5, h.low, p6⟩
/-- Another row on its way from side b. -/
theorem St.less_b {w0 : World} {base xb yb : Nat} {a b : Sv} {A B : Sd} {wa wb : List (List Nat)} {W : World} (h : St w0 base xb yb a b A B wa wb W) {Z : List Bv} {W1 W2 : World} {u1 : Option Addr} {n u3 : Nat} (hr : BRow base W1 (.slice u1 n u3) Z) (hk1 : Kept [] W W1) (hn : ∀ k, (Value.slice u1 n u3).ownBlock = some k → W.heap.size ≤ k) (hZ : ∀ x ∈ Z, x ∈ b.Y) (hb2 : Blk W2 yb 33 #[a.way, .slice u1 n u3]) (hk2 : Kept [yb] W1 W2) : St w0 base xb yb a ({ b with w1 := u1, w3 := u3, Y := Z }) A (B) wa (Z.map Bv.bs) W2 := by
  obtain ⟨ua, uc, e⟩ := hr.form
  injection e with _ e2 _
  subst e2
  obtain ⟨K1, hK1⟩ : ∃ K1, K1 = [yb] := ⟨_, rfl⟩
  have hk : Kept K1 W W2 := by
    rw [hK1]
    exact (hk1.mono (by simp)).trans hk2
  obtain ⟨p1, p2, p3, p4, p5, p6, p7, p8⟩ := h.frame (feet xb yb a { b with w1 := u1, w3 := u3, Y := Z }) 7 9 K1 hk (by decide) (by decide) (fun k hm => by
    rw [hK1, List.mem_singleton] at hm
    rw [hm]
    exact .inr (by simp [feet])) (fun j hj => by
    unfold feet
    split <;> first | rfl | exact absurd rfl hj) (fun k hm => by
    have hm' : (Value.slice u1 Z.length u3).ownBlock = some k := by simpa [feet, Sv.foot, Sv.way] using hm
    exact ⟨.inr (hn k hm'), Nat.lt_of_lt_of_le (hr.lt k hm').2 hk2.size⟩)
  have ho : ∀ i, ∀ k ∈ a.foot i, k ∉ K1 := fun i k hm => by
    by_cases h4 : i < 4
    · rw [← feet_a xb yb a b i h4] at hm
      exact p4 i (by omega) (by omega) k hm
    · rw [foot_out a i (by omega)] at hm
      cases hm
  refine ⟨h.x.kept hk (p4 8 (by decide) (by decide) xb (by simp [feet])), hb2, h.ha.step hk p7 p8 ho p2, ⟨h.hb.ss.kept hk (fun k hm => p4 (0 + 4) (by decide) (by decide) k (by rw [feet_b xb yb a b 0 (by decide)]; exact hm)) p2, h.hb.sent.kept hk (fun k e => p4 (1 + 4) (by decide) (by decide) k (by rw [feet_b xb yb a b 1 (by decide)]; simp [Sv.foot, e])), h.hb.got.kept hk (fun k e => p4 (2 + 4) (by decide) (by decide) k (by rw [feet_b xb yb a b 2 (by decide)]; simp [Sv.foot, e])), hr.kept hk2 (fun k e hm => ?_), h.hb.sentL, h.hb.gotL, rfl, fun x hx => p3 x (h.hb.sentF x hx), fun x hx => p3 x (h.hb.gotF x hx), fun x hx => p3 x (h.hb.wayF x (hZ x hx))⟩, p1, p5, h.low, p6⟩
  rw [List.mem_singleton] at hm
  rw [hm] at e
  have := hn _ e
  have := (h.pool.lt 9 yb (by simp [feet])).2
  omega
/-- Side b is started anew. -/
theorem St.again_b {w0 : World} {base xb yb : Nat} {a b : Sv} {A B : Sd} {wa wb : List (List Nat)} {W : World} (h : St w0 base xb yb a b A B wa wb W) {F' : Foot} {my m : Nat} {W1 W2 : World} (hS : SsAt W1 base F' (made my m 5)) (hk1 : Kept [] W W1) (hF : ∀ k ∈ F'.l, W.heap.size ≤ k) (hb2 : Blk W2 xb 29 #[.pointer (some ⟨a.F.o, 0, none⟩), .int .u32 (A.s.my : Int), a.sent, a.got, .pointer (some ⟨F'.o, 0, none⟩), .int .u32 (my : Int), .slice none 0 0, .slice none 0 0]) (hk2 : Kept [xb] W1 W2) : St w0 base xb yb a (Sv.mk F' none 0 none 0 b.w1 b.w3 [] [] b.Y) A (start my m 5) wa (wb) W2 := by
  obtain ⟨K1, hK1⟩ : ∃ K1, K1 = [xb] := ⟨_, rfl⟩
  have hk : Kept K1 W W2 := by
    rw [hK1]
    exact (hk1.mono (by simp)).trans hk2
  have hnx : ∀ k ∈ F'.l, k ∉ [xb] := fun k hm e => by
    rw [List.mem_singleton] at e
    rw [e] at hm
    have := hF _ hm
    have := (h.pool.lt 8 xb (by simp [feet])).2
    omega
  have hxx : NoByt [xb] W1 := NoByt.cons (Outbox.noByt_nil _) (h.x.kept hk1 (by simp)) (by decide)
  have hS2 := hS.kept hk2 hnx hxx
  have q1 : ∀ j k, j ≠ 4 → k ∈ feet xb yb a (Sv.mk F' none 0 none 0 b.w1 b.w3 [] [] b.Y) j → k ∈ feet xb yb a b j := fun j k hj hm => by
    unfold feet at hm ⊢
    split at hm <;> first | exact hm | exact absurd rfl hj | exact absurd hm (by simp [Sv.foot, Sv.sent, Sv.got, Value.ownBlock])
  obtain ⟨p1, p2, p3, p4, p5, p6, p7, p8⟩ := h.frame (fun j => if j = 4 then F'.l else feet xb yb a b j) 4 8 K1 hk (by decide) (by decide) (fun k hm => by
    rw [hK1] at hm
    exact .inr hm) (fun j hj => if_neg hj) (fun k hm => by
    have hm' : k ∈ F'.l := by simpa using hm
    exact ⟨.inr (hF k hm'), (hS2.lt k hm').2⟩)
  have q2 : ∀ j k, k ∈ feet xb yb a (Sv.mk F' none 0 none 0 b.w1 b.w3 [] [] b.Y) j → k ∈ (if j = 4 then F'.l else feet xb yb a b j) := fun j k hm => by
    by_cases e : j = 4
    · subst e
      rw [if_pos rfl]
      exact hm
    · rw [if_neg e]
      exact q1 j k e hm
  have q3 : ∀ k ∈ flat (feet xb yb a (Sv.mk F' none 0 none 0 b.w1 b.w3 [] [] b.Y)), k ∈ flat (feet xb yb a b) ∨ W.heap.size ≤ k := fun k hm => by
    obtain ⟨i, h10, hmi⟩ := flat_mem hm
    by_cases e : i = 4
    · subst e
      exact .inr (hF k hmi)
    · exact .inl (mem_flat h10 (q1 i k e hmi))
  have ho : ∀ i, ∀ k ∈ a.foot i, k ∉ K1 := fun i k hm => by
    by_cases h4 : i < 4
    · rw [← feet_a xb yb a b i h4] at hm
      exact p4 i (by omega) (by omega) k hm
    · rw [foot_out a i (by omega)] at hm
      cases hm
  have hw := h.hb.way.kept hk (fun k e => p4 (3 + 4) (by decide) (by decide) k (by rw [feet_b xb yb a b 3 (by decide)]; simp [Sv.foot, e]))
  exact ⟨hb2, h.y.kept hk (p4 9 (by decide) (by decide) yb (by simp [feet])), h.ha.step hk p7 q3 ho p2, ⟨hS2, BRow.nil _ _, BRow.nil _ _, hw, rfl, rfl, h.hb.wayL, fun x hx => (by cases hx), fun x hx => (by cases hx), fun x hx => (h.hb.wayF x hx).step hk p7 q3⟩, ⟨fun i k hm => p1.lt i k (q2 i k hm), fun i j k h1 h2 => p1.one i j k (q2 i k h1) (q2 j k h2)⟩, p5, h.low, p6⟩
/-- What a net does, in memory. -/
structure Nt where
  k : Int
  who : Int
  at' : Int
  x : Bv
def Nt.cells (t : Nt) : List Value := [.int .i64 t.k, .int .i64 t.who, .int .i64 t.at', .slice t.x.sa t.x.len t.x.cap]
def NetsAt (n : Nat) (W : World) (a : Option Addr) (len cap : Nat) (l : List Nt) : Prop :=
  l.length = len ∧ (∀ t ∈ l, Wire.ByteRow 0 n W (.slice t.x.sa t.x.len t.x.cap) t.x.bs ∧ t.x.len ≤ 9223372036854775807) ∧ (l = [] ∨ ∃ b off, a = some ⟨b, off, none⟩ ∧ len ≤ cap ∧ b < n ∧ ∀ j t, l[j]? = some t → ∀ i v, t.cells[i]? = some v → W.cell? ⟨b, off + j * 4 + i, none⟩ = some v)
theorem NetsAt.kept {n : Nat} {A B : World} {a : Option Addr} {len cap : Nat} {l : List Nt} (h : NetsAt n A a len cap l) (hn : n ≤ A.heap.size) (hK : Kept [] A B) : NetsAt n B a len cap l :=
  ⟨h.1, fun t ht => ⟨(h.2.1 t ht).1.kept hn hK (by simp), (h.2.1 t ht).2⟩, h.2.2.imp id fun ⟨b, off, e, hl, hb, hc⟩ => ⟨b, off, e, hl, hb, fun j t hj i v hv => (World.cell?_of_block (hK.block b (by omega) (by simp))).trans (hc j t hj i v hv)⟩⟩
theorem NetsAt.at {n : Nat} {W : World} {a : Option Addr} {len cap : Nat} {l : List Nt} (h : NetsAt n W a len cap l) (j : Nat) (hj : j < len) :
    ∃ t, l[j]? = some t ∧ (Wire.ByteRow 0 n W (.slice t.x.sa t.x.len t.x.cap) t.x.bs ∧ t.x.len ≤ 9223372036854775807) ∧ ∃ b off, a = some ⟨b, off, none⟩ ∧ len ≤ cap ∧ W.cell? ⟨b, off + j * 4, none⟩ = some (.int .i64 t.k) ∧ W.cell? ⟨b, off + j * 4 + 1, none⟩ = some (.int .i64 t.who) ∧ W.cell? ⟨b, off + j * 4 + 2, none⟩ = some (.int .i64 t.at') ∧ W.cell? ⟨b, off + j * 4 + 3, none⟩ = some (.slice t.x.sa t.x.len t.x.cap) := by
  obtain ⟨h1, h2, h3⟩ := h
  obtain ⟨x, hx⟩ : ∃ x, l[j]? = some x := ⟨_, List.getElem?_eq_getElem (by omega)⟩
  refine ⟨x, hx, h2 x (List.mem_of_getElem? hx), ?_⟩
  rcases h3 with h3 | ⟨b, off, e, hl, hb, hc⟩
  · rw [h3] at h1
    simp at h1
    omega
  · exact ⟨b, off, e, hl, hc j x hx 0 _ rfl, hc j x hx 1 _ rfl, hc j x hx 2 _ rfl, hc j x hx 3 _ rfl⟩
end Go.Proofs.Ytnbkbakbjllmcaa.Session
