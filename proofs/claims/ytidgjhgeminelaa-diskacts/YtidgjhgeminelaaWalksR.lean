/-
  The walk of an act at both disks.
-/
import Derived.Test.YtidgjhgeminelaaWalksQ
namespace Go.Proofs.Ytidgjhgeminelaa
open Go.RowKit Go.Maps Go.Shelf
open Math

/-- The blocks of two disks are others. -/
structure Apart (d b1 b2 r g : Nat) : Prop where
  dr : d ≠ r
  dg : d ≠ g
  ar : b1 ≠ r
  ag : b1 ≠ g
  br : b2 ≠ r
  bg : b2 ≠ g
/-- Both disks, alike. -/
structure Both (W : World) (d b1 b2 r g cap : Nat) (s : Dk) : Prop where
  disk : DiskAt W d b1 b2 s
  ref : RefAt W r g cap s
  apart : Apart d b1 b2 r g
theorem Both.kept {A B : World} {d b1 b2 r g cap : Nat} {s : Dk} (h : Both A d b1 b2 r g cap s) (hk : Kept [] A B) : Both B d b1 b2 r g cap s := ⟨h.disk.kept hk (by simp) (by simp) (by simp), h.ref.kept hk (by simp) (by simp), h.apart⟩
theorem Both.turned {A B C : World} {d b1 b2 r g cap : Nat} {s s' : Dk} (h : Both A d b1 b2 r g cap s) (h1 : DiskAt B d b1 b2 s') (k1 : Kept [d, b1, b2] A B) (h2 : RefAt C r g cap s') (k2 : Kept [r, g] B C) : Both C d b1 b2 r g cap s' ∧ Kept [d, b1, b2, r, g] A C := by
  have p := h.apart
  refine ⟨⟨h1.kept k2 (by simp [p.dr, p.dg]) (by simp [p.ar, p.ag]) (by simp [p.br, p.bg]), h2, p⟩, (k1.mono ?_).trans (k2.mono ?_)⟩
  · intro k hk; simp at hk ⊢; omega
  · intro k hk; simp at hk ⊢; omega
theorem Both.ref_kept {A B : World} {d b1 b2 r g cap : Nat} {s : Dk} (h : Both A d b1 b2 r g cap s) (k1 : Kept [d, b1, b2] A B) : RefAt B r g cap s := by
  have p := h.apart
  exact h.ref.kept k1 (by simp [p.dr.symm, p.ar.symm, p.br.symm]) (by simp [p.dg.symm, p.ag.symm, p.bg.symm])
theorem Both.lt {W : World} {d b1 b2 r g cap : Nat} {s : Dk} (h : Both W d b1 b2 r g cap s) : d < W.heap.size ∧ b1 < W.heap.size ∧ b2 < W.heap.size ∧ r < W.heap.size ∧ g < W.heap.size := ⟨h.disk.lt.1, h.disk.lt.2.1, h.disk.lt.2.2, h.ref.1.lt.1, h.ref.1.lt.2⟩

/-- What an act does. -/
def doS (s : Dk) (a : Ac) : Dk :=
  if a.kind = 0 then wroteS s a.at_ a.s else if a.kind = 1 then flushS s else if a.kind = 3 then fused s a.at_ else if a.kind = 4 then crashed s a.mask else s
theorem doS_ops (s : Dk) (a : Ac) : (doS s a).ops ≤ s.ops + 1 := by
  unfold doS
  split
  · unfold wroteS
    split
    · split
      · exact Nat.le_succ _
      · exact Nat.le_refl _
    · exact Nat.le_succ _
  · split
    · unfold flushS
      split
      · exact Nat.le_succ _
      · exact Nat.le_refl _
    · split
      · exact Nat.le_succ _
      · split
        · exact Nat.le_succ _
        · exact Nat.le_succ _

/-- An act at both, as it is told. -/
def DoSaid (d b1 b2 r g cap : Nat) (s : Dk) (a : Ac) (w : World) : Prop :=
  Calls Try.prog 11 #[.pointer (some ⟨d, 0, none⟩), .pointer (some ⟨r, 0, none⟩), .agg a.cells.toArray] w fun e w' => e = .returned (.bool true) ∧ Both w' d b1 b2 r g cap (doS s a) ∧ Kept [d, b1, b2, r, g] w w'

set_option maxRecDepth 100000 in
set_option maxHeartbeats 4000000 in
theorem do_write (d b1 b2 r g cap : Nat) (s : Dk) (a : Ac) (ha : a.Ok) (hops : s.ops ≤ 1000000) (w : World) (h : Both w d b1 b2 r g cap s) (hkd : a.kind = 0) : DoSaid d b1 b2 r g cap s a w := by
  have e0 : doS s a = wroteS s a.at_ a.s := by rw [doS, if_pos hkd]
  unfold DoSaid
  rw [e0]
  have hB : Blk (w.alloc (.cells a.cells.toArray 35)) w.heap.size 35 a.cells.toArray := blk_new w 35 _
  have hA := h.kept (kept_alloc [] w (.cells a.cells.toArray 35))
  obtain ⟨c0, c1, c2, c3⟩ := act_range hB ha
  rw [hkd] at c0
  have hlt := h.lt
  have hu := Try.underlying32
  have hsz : (Try.prog.info? 32).map (·.size) = some (a.s.map enc).length := by rw [List.length_map, ha.sec.1]; exact Try.size32
  have hk0 := kept_alloc [d, b1, b2, r, g] w (.cells a.cells.toArray 35)
  have q1 := fun W (h : DiskAt W d b1 b2 s) => write_any d b1 b2 s a.at_ a.s ha.sec hops W h
  have q2 := fun W (h : RefAt W r g cap s) => refWrite_any r g cap s a.at_ a.s ha.sec hops W h
  simp only [arr] at q1 q2
  have HR : Hid ((w.alloc (.cells a.cells.toArray 35)).drew.cell? ⟨w.heap.size, 1, none⟩ = some (.int .i64 a.at_) ∧ (w.alloc (.cells a.cells.toArray 35)).drew.rangeAt w.heap.size 2 (a.s.map enc)) := ⟨c1, c2⟩
  have hBr := hB.kept (kept_drew [] _) (by simp)
  replace hA := hA.kept (kept_drew [] _)
  have HF : Hid (∀ W1 W2, DiskAt W1 d b1 b2 (wroteS s a.at_ a.s) → Kept [d, b1, b2] (w.alloc (.cells a.cells.toArray 35)).drew W1 → RefAt W2 r g cap (wroteS s a.at_ a.s) → Kept [r, g] W1 W2 → Both W2 d b1 b2 r g cap (wroteS s a.at_ a.s) ∧ Kept [d, b1, b2, r, g] w W2) := fun W1 W2 x1 x2 x3 x4 =>
    ⟨(hA.turned x1 x2 x3 x4).1, (hk0.trans (kept_drew _ _)).trans (hA.turned x1 x2 x3 x4).2⟩
  have HD := hA.disk
  have HRK : Hid (∀ W1, Kept [d, b1, b2] (w.alloc (.cells a.cells.toArray 35)).drew W1 → RefAt W1 r g cap s) := fun W1 x => hA.ref_kept x
  have HBK : Hid (∀ W1, Kept [d, b1, b2] (w.alloc (.cells a.cells.toArray 35)).drew W1 → (W1.cell? ⟨w.heap.size, 1, none⟩ = some (.int .i64 a.at_) ∧ W1.rangeAt w.heap.size 2 (a.s.map enc))) := fun W1 x => ⟨(act_range (hBr.kept x (by simp; omega)) ha).2.1, (act_range (hBr.kept x (by simp; omega)) ha).2.2.1⟩
  have HBK2 : Hid (∀ W1 W2, Kept [d, b1, b2] (w.alloc (.cells a.cells.toArray 35)).drew W1 → Kept [r, g] W1 W2 → (W2.cell? ⟨w.heap.size, 1, none⟩ = some (.int .i64 a.at_) ∧ W2.rangeAt w.heap.size 2 (a.s.map enc))) := fun W1 W2 x y => ⟨(act_range ((hBr.kept x (by simp; omega)).kept y (by simp; omega)) ha).2.1, (act_range ((hBr.kept x (by simp; omega)).kept y (by simp; omega)) ha).2.2.1⟩
  clear h hA hB hBr c2 c3 hk0 e0
  go_enter Try.func11, Try.ntmps11
  go_wp2_with fail
  generalize a.s.map enc = cs at *
  refine wp_region_held_drew (S := fun W => W.cell? ⟨w.heap.size, 1, none⟩ = some (.int .i64 a.at_) ∧ W.rangeAt w.heap.size 2 cs) (by kernel_rfl) HR.out (fun hP => ?_)
  refine wpAnyH_take (i := 0) (oi := { dst := some 15, op := Op.move (Operand.tmp 0), type := 24, pos := "law.go:31", after := #[], guard := none }) (v := .pointer (some ⟨d, 0, none⟩)) rfl (by kernel_rfl) (by kernel_rfl) (by kernel_rfl) (fun _ _ _ h => h) (Or.inl ⟨by rfl, fun W hW => by obtain ⟨hW1, hW2⟩ := hW; clear hW2; go_simp⟩) hP ?_
  try simp only [Act.put, List.setIfInBounds_toArray, List.set_cons_zero, List.set_cons_succ]
  refine wpAnyH_take (i := 1) (oi := { dst := some 16, op := Op.fieldAddr 35 (Operand.tmp 5) 1, type := 0, pos := "law.go:31", after := #[], guard := none }) (v := .pointer (some ⟨w.heap.size, 1, none⟩)) rfl (by kernel_rfl) (by kernel_rfl) (by kernel_rfl) (fun _ _ _ h => h) (Or.inl ⟨by rfl, fun W hW => by obtain ⟨hW1, hW2⟩ := hW; clear hW2; go_simp⟩) hP ?_
  try simp only [Act.put, List.setIfInBounds_toArray, List.set_cons_zero, List.set_cons_succ]
  refine wpAnyH_take (i := 2) (oi := { dst := some 17, op := Op.load 3 (Operand.tmp 16), type := 3, pos := "law.go:31", after := #[{ on := 1, ground := Ground.data }], guard := none }) (v := .int .i64 a.at_) rfl (by kernel_rfl) (by kernel_rfl) (by kernel_rfl) (fun _ _ _ h => h) (Or.inl ⟨by rfl, fun W hW => by obtain ⟨hW1, hW2⟩ := hW; clear hW2; go_simp⟩) hP ?_
  try simp only [Act.put, List.setIfInBounds_toArray, List.set_cons_zero, List.set_cons_succ]
  refine wpAnyH_take (i := 3) (oi := { dst := some 18, op := Op.fieldAddr 35 (Operand.tmp 5) 2, type := 0, pos := "law.go:31", after := #[], guard := none }) (v := .pointer (some ⟨w.heap.size, 2, none⟩)) rfl (by kernel_rfl) (by kernel_rfl) (by kernel_rfl) (fun _ _ _ h => h) (Or.inl ⟨by rfl, fun W hW => by obtain ⟨hW1, hW2⟩ := hW; clear hW2; go_simp⟩) hP ?_
  try simp only [Act.put, List.setIfInBounds_toArray, List.set_cons_zero, List.set_cons_succ]
  refine wpAnyH_take (i := 4) (oi := { dst := some 19, op := Op.load 32 (Operand.tmp 18), type := 32, pos := "law.go:31", after := #[{ on := 3, ground := Ground.data }], guard := none }) (v := .agg cs.toArray) rfl (by kernel_rfl) (by kernel_rfl) (by kernel_rfl) (fun _ _ _ h => h) (yieldsIf_load_mid (by rfl) _ _ rfl _ _ rfl _ _ (fun W hW => hW.2) hu rfl hsz) hP ?_
  try simp only [Act.put, List.setIfInBounds_toArray, List.set_cons_zero, List.set_cons_succ]
  refine wpAnyH_take (i := 6) (oi := { dst := some 21, op := Op.move (Operand.tmp 1), type := 28, pos := "law.go:31", after := #[], guard := none }) (v := .pointer (some ⟨r, 0, none⟩)) rfl (by kernel_rfl) (by kernel_rfl) (by kernel_rfl) (fun _ _ _ h => h) (Or.inl ⟨by rfl, fun W hW => by obtain ⟨hW1, hW2⟩ := hW; clear hW2; go_simp⟩) hP ?_
  try simp only [Act.put, List.setIfInBounds_toArray, List.set_cons_zero, List.set_cons_succ]
  refine wpAnyH_take (i := 7) (oi := { dst := some 22, op := Op.fieldAddr 35 (Operand.tmp 5) 1, type := 0, pos := "law.go:31", after := #[], guard := none }) (v := .pointer (some ⟨w.heap.size, 1, none⟩)) rfl (by kernel_rfl) (by kernel_rfl) (by kernel_rfl) (fun _ _ _ h => h) (Or.inl ⟨by rfl, fun W hW => by obtain ⟨hW1, hW2⟩ := hW; clear hW2; go_simp⟩) hP ?_
  try simp only [Act.put, List.setIfInBounds_toArray, List.set_cons_zero, List.set_cons_succ]
  refine wpAnyH_take (i := 8) (oi := { dst := some 23, op := Op.load 3 (Operand.tmp 22), type := 3, pos := "law.go:31", after := #[{ on := 7, ground := Ground.data }], guard := none }) (v := .int .i64 a.at_) rfl (by kernel_rfl) (by kernel_rfl) (by kernel_rfl) (fun _ _ _ h => h) (Or.inl ⟨by rfl, fun W hW => by obtain ⟨hW1, hW2⟩ := hW; clear hW2; go_simp⟩) hP ?_
  try simp only [Act.put, List.setIfInBounds_toArray, List.set_cons_zero, List.set_cons_succ]
  refine wpAnyH_take (i := 9) (oi := { dst := some 24, op := Op.fieldAddr 35 (Operand.tmp 5) 2, type := 0, pos := "law.go:31", after := #[], guard := none }) (v := .pointer (some ⟨w.heap.size, 2, none⟩)) rfl (by kernel_rfl) (by kernel_rfl) (by kernel_rfl) (fun _ _ _ h => h) (Or.inl ⟨by rfl, fun W hW => by obtain ⟨hW1, hW2⟩ := hW; clear hW2; go_simp⟩) hP ?_
  try simp only [Act.put, List.setIfInBounds_toArray, List.set_cons_zero, List.set_cons_succ]
  refine wpAnyH_take (i := 10) (oi := { dst := some 25, op := Op.load 32 (Operand.tmp 24), type := 32, pos := "law.go:31", after := #[{ on := 9, ground := Ground.data }], guard := none }) (v := .agg cs.toArray) rfl (by kernel_rfl) (by kernel_rfl) (by kernel_rfl) (fun _ _ _ h => h) (yieldsIf_load_mid (by rfl) _ _ rfl _ _ rfl _ _ (fun W hW => hW.2) hu rfl hsz) hP ?_
  try simp only [Act.put, List.setIfInBounds_toArray, List.set_cons_zero, List.set_cons_succ]
  refine wpAnyH_ready (rs := [5]) (by kernel_rfl) (by simp) ?_
  refine AllReadyH.cons (o := { dst := some 20, op := Op.call { callee := Callee.value (Operand.func 13), args := #[Operand.tmp 15, Operand.tmp 17, Operand.tmp 19], argTypes := #[24, 3, 32] }, type := 25, pos := "law.go:31", after := #[{ on := 0, ground := Ground.data }, { on := 2, ground := Ground.data }, { on := 4, ground := Ground.data }], guard := none }) rfl (fun K hK => ?_) AllReadyH.nil
  go_simp
  refine (q1 _ HD).mono ?_
  rintro e w1 ⟨rfl, hD1, hk1⟩
  go_wp2_with fail
  replace hP := HBK.out _ hk1
  refine hK.out _ _ hP (fun _ => ?_)
  clear hK K
  try simp only [Act.put, List.setIfInBounds_toArray, List.set_cons_zero, List.set_cons_succ]
  refine wpAnyH_ready (rs := [11]) (by kernel_rfl) (by simp) ?_
  refine AllReadyH.cons (o := { dst := some 26, op := Op.call { callee := Callee.value (Operand.func 24), args := #[Operand.tmp 21, Operand.tmp 23, Operand.tmp 25], argTypes := #[28, 3, 32] }, type := 3, pos := "law.go:31", after := #[{ on := 6, ground := Ground.data }, { on := 8, ground := Ground.data }, { on := 10, ground := Ground.data }, { on := 5, ground := Ground.chain }], guard := none }) rfl (fun K hK => ?_) AllReadyH.nil
  go_simp
  refine (q2 _ (HRK.out _ hk1)).mono ?_
  rintro e w2 ⟨rfl, hD2, hk2⟩
  go_wp2_with fail
  replace hP := HBK2.out _ _ hk1 hk2
  refine hK.out _ _ hP (fun _ => ?_)
  clear hK K
  try simp only [Act.put, List.setIfInBounds_toArray, List.set_cons_zero, List.set_cons_succ]
  refine wpAnyH_take (i := 12) (oi := { dst := some 27, op := Op.binOp BinOp.eql 3 (Operand.tmp 20) (Operand.tmp 26) 3, type := 4, pos := "law.go:31", after := #[{ on := 5, ground := Ground.data }, { on := 11, ground := Ground.data }], guard := none }) (v := .bool true) rfl (by kernel_rfl) (by kernel_rfl) (by kernel_rfl) (fun _ _ _ h => h) (Or.inl ⟨by rfl, fun W hW => by obtain ⟨hW1, hW2⟩ := hW; clear hW2; go_simp⟩) hP ?_
  try simp only [Act.put, List.setIfInBounds_toArray, List.set_cons_zero, List.set_cons_succ]
  refine wpAnyH_take (i := 13) (oi := { dst := some 6, op := Op.assign (Operand.tmp 27), type := 4, pos := "law.go:31", after := #[{ on := 12, ground := Ground.data }, { on := 11, ground := Ground.chain }, { on := 0, ground := Ground.phase }, { on := 1, ground := Ground.phase }, { on := 2, ground := Ground.phase }, { on := 3, ground := Ground.phase }, { on := 4, ground := Ground.phase }, { on := 5, ground := Ground.phase }, { on := 6, ground := Ground.phase }, { on := 7, ground := Ground.phase }, { on := 8, ground := Ground.phase }, { on := 9, ground := Ground.phase }, { on := 10, ground := Ground.phase }, { on := 11, ground := Ground.phase }, { on := 12, ground := Ground.phase }], guard := none }) (v := .bool true) rfl (by kernel_rfl) (by kernel_rfl) (by kernel_rfl) (fun _ _ _ h => h) (Or.inl ⟨by rfl, fun W hW => by obtain ⟨hW1, hW2⟩ := hW; clear hW2; go_simp⟩) hP ?_
  try simp only [Act.put, List.setIfInBounds_toArray, List.set_cons_zero, List.set_cons_succ]
  refine wpAnyH_done (by kernel_rfl) ?_ _
  go_wp2
  go_ret
  exact ⟨rfl, HF.out _ _ hD1 hk1 hD2 hk2⟩

set_option maxRecDepth 100000 in
set_option maxHeartbeats 1000000 in
theorem do_flush (d b1 b2 r g cap : Nat) (s : Dk) (a : Ac) (ha : a.Ok) (hops : s.ops ≤ 1000000) (w : World) (h : Both w d b1 b2 r g cap s) (hkd : a.kind = 1) : DoSaid d b1 b2 r g cap s a w := by
  have e0 : doS s a = flushS s := by rw [doS, if_neg (by omega), if_pos hkd]
  unfold DoSaid
  rw [e0]
  have hB : Blk (w.alloc (.cells a.cells.toArray 35)) w.heap.size 35 a.cells.toArray := blk_new w 35 _
  have hA := h.kept (kept_alloc [] w (.cells a.cells.toArray 35))
  obtain ⟨c0, c1, c2, c3⟩ := act_range hB ha
  have hlt := h.lt
  have hk0 := kept_alloc [d, b1, b2, r, g] w (.cells a.cells.toArray 35)
  rw [hkd] at c0
  have q1 := flush_any d b1 b2 s hops _ hA.disk
  have q2 := fun W (h : RefAt W r g cap s) => refFlush_any r g cap s hops W h
  clear e0
  go_enter Try.func11, Try.ntmps11
  go_wp2_with (first
    | (go_at_call 15; refine q1.mono ?_; rintro e w1 ⟨rfl, hD1, hk1⟩)
    | (go_at_call 25; refine (q2 _ (hA.ref_kept hk1)).mono ?_; rintro e w2 ⟨rfl, hD2, hk2⟩))
  go_ret
  exact ⟨by simp, (hA.turned hD1 hk1 hD2 hk2).1, hk0.trans (hA.turned hD1 hk1 hD2 hk2).2⟩

set_option maxRecDepth 100000 in
set_option maxHeartbeats 1000000 in
theorem do_fuse (d b1 b2 r g cap : Nat) (s : Dk) (a : Ac) (ha : a.Ok) (w : World) (h : Both w d b1 b2 r g cap s) (hkd : a.kind = 3) : DoSaid d b1 b2 r g cap s a w := by
  have e0 : doS s a = fused s a.at_ := by rw [doS, if_neg (by omega), if_neg (by omega), if_pos hkd]
  unfold DoSaid
  rw [e0]
  have hB : Blk (w.alloc (.cells a.cells.toArray 35)) w.heap.size 35 a.cells.toArray := blk_new w 35 _
  have hA := h.kept (kept_alloc [] w (.cells a.cells.toArray 35))
  obtain ⟨c0, c1, c2, c3⟩ := act_range hB ha
  have hlt := h.lt
  have hk0 := kept_alloc [d, b1, b2, r, g] w (.cells a.cells.toArray 35)
  rw [hkd] at c0
  have q1 := fuse_any d b1 b2 s a.at_ ha.a0 ha.a1 _ hA.disk
  have q2 := fun W (h : RefAt W r g cap s) => setFuse_any r g cap s a.at_ ha.a0 ha.a1 W h
  clear e0
  go_enter Try.func11, Try.ntmps11
  go_wp2_with (first
    | (go_at_call 16; refine q1.mono ?_; rintro e w1 ⟨rfl, hD1, hk1', hz1⟩; replace hz1 : Hid _ := hz1; have hk1 : Kept [d, b1, b2] _ w1 := hk1'.mono (by simp); have c1' := (act_range (hB.kept hk1 (by simp; omega)) ha).2.1)
    | (go_at_call 27; refine (q2 _ (hA.ref_kept hk1)).mono ?_; rintro e w2 ⟨rfl, hD2, hk2'⟩; have hk2 : Kept [r, g] w1 w2 := hk2'.mono (by simp)))
  go_ret
  exact ⟨rfl, (hA.turned hD1 hk1 hD2 hk2).1, hk0.trans (hA.turned hD1 hk1 hD2 hk2).2⟩

set_option maxRecDepth 100000 in
set_option maxHeartbeats 1000000 in
theorem do_crash (d b1 b2 r g cap : Nat) (s : Dk) (a : Ac) (ha : a.Ok) (w : World) (h : Both w d b1 b2 r g cap s) (hkd : a.kind = 4) : DoSaid d b1 b2 r g cap s a w := by
  have e0 : doS s a = crashed s a.mask := by rw [doS, if_neg (by omega), if_neg (by omega), if_neg (by omega), if_pos hkd]
  unfold DoSaid
  rw [e0]
  have hB : Blk (w.alloc (.cells a.cells.toArray 35)) w.heap.size 35 a.cells.toArray := blk_new w 35 _
  have hA := h.kept (kept_alloc [] w (.cells a.cells.toArray 35))
  obtain ⟨c0, c1, c2, c3⟩ := act_range hB ha
  have hlt := h.lt
  have hk0 := kept_alloc [d, b1, b2, r, g] w (.cells a.cells.toArray 35)
  rw [hkd] at c0
  have q1 := crash_any d b1 b2 s a.mask ha.m _ hA.disk
  have q2 := fun W (h : RefAt W r g cap s) => refCrash_any r g cap s a.mask ha.m W h
  clear e0
  go_enter Try.func11, Try.ntmps11
  go_wp2_with (first
    | (go_at_call 17; refine q1.mono ?_; rintro e w1 ⟨rfl, hD1, hk1⟩; have c3' := (act_range (hB.kept hk1 (by simp; omega)) ha).2.2.2)
    | (go_at_call 28; refine (q2 _ (hA.ref_kept hk1)).mono ?_; rintro e w2 ⟨rfl, hD2, hk2⟩))
  go_ret
  exact ⟨rfl, (hA.turned hD1 hk1 hD2 hk2).1, hk0.trans (hA.turned hD1 hk1 hD2 hk2).2⟩

set_option maxRecDepth 100000 in
set_option maxHeartbeats 1000000 in
theorem do_read (d b1 b2 r g cap : Nat) (s : Dk) (a : Ac) (ha : a.Ok) (w : World) (h : Both w d b1 b2 r g cap s) (hkd : a.kind = 2) : DoSaid d b1 b2 r g cap s a w := by
  have e0 : doS s a = s := by rw [doS, if_neg (by omega), if_neg (by omega), if_neg (by omega), if_neg (by omega)]
  unfold DoSaid
  rw [e0]
  have hB : Blk (w.alloc (.cells a.cells.toArray 35)) w.heap.size 35 a.cells.toArray := blk_new w 35 _
  have hA := h.kept (kept_alloc [] w (.cells a.cells.toArray 35))
  obtain ⟨c0, c1, c2, c3⟩ := act_range hB ha
  have hlt := h.lt
  have hk0 := kept_alloc [d, b1, b2, r, g] w (.cells a.cells.toArray 35)
  rw [hkd] at c0
  have q1 := read_any d b1 b2 s a.at_ ha.a0 ha.a1 _ hA.disk
  have q2 := fun W (h : RefAt W r g cap s) => refRead_any r g cap s a.at_ W h
  have hx := sec_read h.disk.valid a.at_
  have heq := fun W => eqls_same (readL s a.at_) hx W
  have hgd := fun op x y W => guard32 op x y (readL s a.at_) (readL s a.at_) W
  simp only [arr] at q1 q2 heq hgd
  generalize readL s a.at_ = x at *
  generalize readE s a.at_ = ee at *
  have hN : ∀ W : World, Arr (W.alloc (.cells #[.int .u8 0, .int .u8 0, .int .u8 0, .int .u8 0, .int .u8 0, .int .u8 0, .int .u8 0, .int .u8 0, .int .u8 0, .int .u8 0, .int .u8 0, .int .u8 0, .int .u8 0, .int .u8 0, .int .u8 0, .int .u8 0] 32)) W.heap.size 32 nought := fun W => arr_new W 32 nought
  clear e0
  go_enter Try.func11, Try.ntmps11
  go_wp2_with (first
    | (go_at_call 22; refine q1.mono ?_; rintro e w1 ⟨rfl, hk1⟩)
    | (refine wpList_store_arr rfl 32 _ _ rfl w1.heap.size 32 _ x rfl rfl (hN w1) hx.1 (by rw [hx.1]; exact Try.size32) ?_; intro w2 hA2 hk2 hz2; replace hz2 : Hid _ := hz2; have hk02 : Kept [] _ w2 := (hk1.trans (kept_alloc [] w1 (.cells #[.int .u8 0, .int .u8 0, .int .u8 0, .int .u8 0, .int .u8 0, .int .u8 0, .int .u8 0, .int .u8 0, .int .u8 0, .int .u8 0, .int .u8 0, .int .u8 0, .int .u8 0, .int .u8 0, .int .u8 0, .int .u8 0] 32))).young hk2 hk1.size; have hA02 := hA.kept hk02; have c1' := (act_range (hB.kept hk02 (by simp)) ha).2.1)
    | (go_at_call 26; refine (q2 _ hA02.ref).mono ?_; rintro e w3 ⟨rfl, hk3⟩; have hA3 := hA2.kept hk3 (by simp))
    | (refine wpList_store_arr rfl 32 _ _ rfl w3.heap.size 32 _ x rfl rfl (hN w3) hx.1 (by rw [hx.1]; exact Try.size32) ?_; intro w4 hA4 hk4 hz4; replace hz4 : Hid _ := hz4; have hk24 : Kept [] w2 w4 := (hk3.trans (kept_alloc [] w3 (.cells #[.int .u8 0, .int .u8 0, .int .u8 0, .int .u8 0, .int .u8 0, .int .u8 0, .int .u8 0, .int .u8 0, .int .u8 0, .int .u8 0, .int .u8 0, .int .u8 0, .int .u8 0, .int .u8 0, .int .u8 0, .int .u8 0] 32))).young hk4 hk3.size; have hA24 := hA2.kept hk24 (by simp))
    | refine wpList_load_arr rfl 32 _ rfl w1.heap.size 32 x rfl hA24 16 5 Try.underlying32 (by rw [hx.1]; exact Try.size32) ?_
    | refine wpList_load_arr rfl 32 _ rfl w3.heap.size 32 x rfl hA4 16 5 Try.underlying32 (by rw [hx.1]; exact Try.size32) ?_)
  go_ret
  exact ⟨by simp, hA02.kept hk24, (hk0.trans (hk02.mono (by simp))).trans (hk24.mono (by simp))⟩

set_option maxRecDepth 100000 in
set_option maxHeartbeats 1000000 in
theorem do_other (d b1 b2 r g cap : Nat) (s : Dk) (a : Ac) (ha : a.Ok) (w : World) (h : Both w d b1 b2 r g cap s) (n0 : a.kind ≠ 0) (n1 : a.kind ≠ 1) (n2 : a.kind ≠ 2) (n3 : a.kind ≠ 3) (n4 : a.kind ≠ 4) : DoSaid d b1 b2 r g cap s a w := by
  have e0 : doS s a = s := by rw [doS, if_neg n0, if_neg n1, if_neg n3, if_neg n4]
  unfold DoSaid
  rw [e0]
  have hB : Blk (w.alloc (.cells a.cells.toArray 35)) w.heap.size 35 a.cells.toArray := blk_new w 35 _
  have hA := h.kept (kept_alloc [] w (.cells a.cells.toArray 35))
  obtain ⟨c0, c1, c2, c3⟩ := act_range hB ha
  have hlt := h.lt
  have hk0 := kept_alloc [d, b1, b2, r, g] w (.cells a.cells.toArray 35)
  have z0 : (a.kind == 0) = false := by simpa using n0
  have z1 : (a.kind == 1) = false := by simpa using n1
  have z2 : (a.kind == 2) = false := by simpa using n2
  have z3 : (a.kind == 3) = false := by simpa using n3
  have z4 : (a.kind == 4) = false := by simpa using n4
  clear e0
  go_enter Try.func11, Try.ntmps11
  go_wp2
  go_ret
  exact ⟨rfl, hA, hk0⟩
/-- do -/
theorem do_any (d b1 b2 r g cap : Nat) (s : Dk) (a : Ac) (ha : a.Ok) (hops : s.ops ≤ 1000000) (w : World) (h : Both w d b1 b2 r g cap s) : DoSaid d b1 b2 r g cap s a w := by
  by_cases n0 : a.kind = 0
  · exact do_write d b1 b2 r g cap s a ha hops w h n0
  by_cases n1 : a.kind = 1
  · exact do_flush d b1 b2 r g cap s a ha hops w h n1
  by_cases n2 : a.kind = 2
  · exact do_read d b1 b2 r g cap s a ha w h n2
  by_cases n3 : a.kind = 3
  · exact do_fuse d b1 b2 r g cap s a ha w h n3
  by_cases n4 : a.kind = 4
  · exact do_crash d b1 b2 r g cap s a ha w h n4
  exact do_other d b1 b2 r g cap s a ha w h n0 n1 n2 n3 n4
end Go.Proofs.Ytidgjhgeminelaa
