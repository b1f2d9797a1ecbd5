/-
  The walks of package pack: word, read.
-/
import Derived.Test.YtlbgpnodpbjkoaaPkE
namespace Go.Proofs.Ytlbgpnodpbjkoaa.Pack
open Go.RowKit
open Seal (enc ret_bool ret_int)
open Seal.Math

section
variable {ops : Array Oper} {rest : List Oper} {o : Oper} {a : Act} {w : World} {Q : Exit → Act → World → Prop}
set_option maxRecDepth 100000 in
/-- One cell of a block stored. -/
theorem wpList_store_cell (hgd : o.guard = none) (ty : TypeId) (x y : Operand) (ho : o.op = .store ty x y) (g j : Nat) (t : TypeId) (cs : Array Value) (v : Value)
    (hx : a.eval x = .pointer (some ⟨g, j, none⟩)) (hy : a.eval y = v) (h0 : Blk w g t cs) (hj : j < cs.size) (hi : (Try.prog.info? ty).map (·.size) = some 1) (h1 : v.oneCell' = true)
    (h : ∀ w', Blk w' g t (cs.setIfInBounds j v) → Kept [g] w w' → wpList Try.prog ops Q rest (a.put o.dst undef) w') : wpList Try.prog ops Q (o :: rest) a w := by
  refine wpList_plain hgd fun K' hK' => ?_
  have hrun := run_storeCells_cells (P := Try.prog) g j [v] 0 w (fun i hi => by
    have : i = 0 := by simpa using hi
    subst this
    show (w.cell? ⟨g, j, none⟩).isSome = true
    rw [h0.cell]
    simp [hj]) (fun i hi => h0.frozen _) (fun u hu => by simp at hu; subst hu; exact h1)
  have hc : v.cells = #[v] := by cases v <;> first | rfl | cases h1
  have hs : (storeVar ty ⟨g, j, none⟩ v).run Try.prog w = .ok () (w.setCell ⟨g, j, none⟩ v) := by
    cases hq : Try.prog.info? ty with
    | none => simp [hq] at hi
    | some i =>
      have hs : i.size = 1 := by simpa [hq] using hi
      simp only [Nat.add_zero] at hrun
      simp [storeVar, sizeOf, typeInfo, hq, hc, hs, hrun, World.setCells]
  unfold Oper.wp execOp
  simp only [ho, hx, hy, Instr.storeAt, Instr.sureAddr, Sem.run_bind, Sem.run_pure, Result.andThen_ok, hs]
  exact hK' _ _ (h _ (h0.set j v) (kept_set (by simp) w j v))
set_option maxRecDepth 100000 in
/-- b[n:] -/
theorem wpList_drop (hgd : o.guard = none) (x y : Operand) (ho : o.op = .slice 23 x (some y) none none) (lo hi : Nat) (W : World) (v : Value) (bs : List Nat) (n : Nat) (hx : a.eval x = v) (hy : a.eval y = .int .i64 (n : Int)) (h : ByteRow lo hi W v bs) (hn : n ≤ bs.length)
    (hk : ∀ sa z cap, ByteRow lo hi W (.slice sa z cap) (bs.drop n) → wpList Try.prog ops Q rest (a.put o.dst (.slice sa z cap)) w) : wpList Try.prog ops Q (o :: rest) a w := by
  refine wpList_plain hgd fun K' hK' => ?_
  obtain ⟨sa, cap, hrun, hr⟩ := row_drop h n hn
  unfold Oper.wp
  simp [execOp, ho, hx, hy, hrun, Result.andThen]
  exact hK' _ _ (hk sa _ cap hr)
set_option maxRecDepth 100000 in
/-- b[:n] -/
theorem wpList_take (hgd : o.guard = none) (x y : Operand) (ho : o.op = .slice 23 x none (some y) none) (lo hi : Nat) (W : World) (v : Value) (bs : List Nat) (n : Nat) (hx : a.eval x = v) (hy : a.eval y = .int .i64 (n : Int)) (h : ByteRow lo hi W v bs) (hn : n < bs.length)
    (hk : ∀ sa cap, ByteRow lo hi W (.slice sa n cap) (bs.take n) → wpList Try.prog ops Q rest (a.put o.dst (.slice sa n cap)) w) : wpList Try.prog ops Q (o :: rest) a w := by
  refine wpList_plain hgd fun K' hK' => ?_
  obtain ⟨sa, cap, hrun, hr⟩ := row_take h n hn
  unfold Oper.wp
  simp [execOp, ho, hx, hy, hrun, Result.andThen]
  exact hK' _ _ (hk sa cap hr)
end
set_option maxRecDepth 100000 in
/-- word -/
theorem word_any (v : Value) (bs : List Nat) (lo hi : Nat) (w : World) (h : ByteRow lo hi w v bs) (hh : hi ≤ w.heap.size) (h8 : 8 ≤ bs.length) (hlen : bs.length ≤ 9223372036854775807) :
    Calls Try.prog 37 #[v] w fun e w' => ∃ sa z cap, e = .returned (.tuple #[.int .u64 (val (bs.take 8) : Nat), .slice sa z cap]) ∧ ByteRow lo hi w (.slice sa z cap) (bs.drop 8) ∧ Kept [] w w' := by
  have q := Seal.get64_any _ v bs w hlen (h.at hh)
  rw [Seal.getv_in (by omega)] at q
  obtain ⟨sa, cap, hs, hr⟩ := row_drop h 8 h8
  replace hr : Hid (ByteRow lo hi w (.slice sa (bs.length - 8) cap) (bs.drop 8)) := hr
  have hs' : ∀ w, (Instr.sliceAt 23 v (some (.int .i64 8)) none none).run Try.prog w = .ok (.slice sa (bs.length - 8) cap) w := hs
  clear hs
  obtain ⟨_, a, c, rfl, _⟩ := h
  generalize bs.length - 8 = n8 at *
  generalize val (bs.take 8) = n at *
  generalize Seal.getB 8 bs = t at *
  go_enter Try.func37, Try.ntmps37
  go_wp2_with (go_at_call 42; refine q.mono ?_; rintro e w ⟨rfl, rfl⟩)
  go_quiet (fail)
  go_wp2_with fail
  go_ret2
  exact ⟨sa, _, cap, rfl, hr.out, kept_drewN [] w nq⟩
theorem wrap_sg (n : Nat) (h : n < 18446744073709551616) : IntKind.i64.wrap (n : Int) = sg n := by
  rw [IntKind.wrap_i64]
  unfold sg
  split <;> omega
theorem sg_lo (n : Nat) (h : n < 18446744073709551616) : -9223372036854775808 ≤ sg n ∧ sg n ≤ 9223372036854775807 := by
  unfold sg
  split <;> omega
/-- A message in a block, its cells said one by one. -/
def MIn (W : World) (g : Nat) (k i o m : Int) (s : Bool) (d : Value) : Prop := Blk W g 25 #[.int .i64 k, .int .i64 i, .int .i64 o, .int .u64 m, .bool s, d]
theorem MIn.six {W : World} {g : Nat} {k i o m : Int} {s : Bool} {d : Value} (h : MIn W g k i o m s d) : W.cell? ⟨g, 0, none⟩ = some (.int .i64 k) ∧ W.cell? ⟨g, 1, none⟩ = some (.int .i64 i) ∧ W.cell? ⟨g, 2, none⟩ = some (.int .i64 o) ∧ W.cell? ⟨g, 3, none⟩ = some (.int .u64 m) ∧ W.cell? ⟨g, 4, none⟩ = some (.bool s) ∧ W.cell? ⟨g, 5, none⟩ = some d :=
  ⟨(Blk.cell h 0).trans rfl, (Blk.cell h 1).trans rfl, (Blk.cell h 2).trans rfl, (Blk.cell h 3).trans rfl, (Blk.cell h 4).trans rfl, (Blk.cell h 5).trans rfl⟩
/-- What lies within a read: the message so far, the place of the answer, the shape, the bytes that are left. -/
structure Rd (w : World) (lo hi : Nat) (v : Value) (bl : List Nat) (k i o m : Int) (s : Bool) (d : Value) (h : Nat) (nm : ByteArray) (p of l u : Nat) (W : World) : Prop where
  msg : MIn W w.heap.size k i o m s d
  res : MIn W (w.heap.size + 1) 0 0 0 0 false (.slice none 0 0)
  shp : ShIn W h nm p of l u
  kept : Kept [] w W
  ne : w.heap.size + 1 < h
  row : ByteRow lo hi W v bl
  hh : hi ≤ w.heap.size
theorem Rd.top {w : World} {lo hi : Nat} {v : Value} {bl : List Nat} {k i o m : Int} {s : Bool} {d : Value} {h : Nat} {nm : ByteArray} {p of l u : Nat} {A : World} (t : Rd w lo hi v bl k i o m s d h nm p of l u A) : hi ≤ A.heap.size := Nat.le_trans t.hh t.kept.size
theorem Rd.after {w : World} {lo hi : Nat} {v : Value} {bl : List Nat} {k i o m : Int} {s : Bool} {d : Value} {h : Nat} {nm : ByteArray} {p of l u : Nat} {A B : World} (t : Rd w lo hi v bl k i o m s d h nm p of l u A) (hk : Kept [] A B) : Rd w lo hi v bl k i o m s d h nm p of l u B :=
  ⟨Blk.kept t.msg hk (by simp), Blk.kept t.res hk (by simp), t.shp.kept hk (by simp), t.kept.trans hk, t.ne, t.row.kept t.top hk (by simp), t.hh⟩
/-- A field written. -/
theorem Rd.put {w : World} {lo hi : Nat} {v : Value} {bl : List Nat} {k i o m k' i' o' m' : Int} {s s' : Bool} {d d' : Value} {h : Nat} {nm : ByteArray} {p of l u : Nat} {A B : World} (t : Rd w lo hi v bl k i o m s d h nm p of l u A) (hb : MIn B w.heap.size k' i' o' m' s' d') (hk : Kept [w.heap.size] A B) : Rd w lo hi v bl k' i' o' m' s' d' h nm p of l u B := by
  have h1 := t.ne
  have h2 := t.hh
  exact ⟨hb, Blk.kept t.res hk (by simp), t.shp.kept hk (by simp; omega), t.kept.young hk (Nat.le_refl _), t.ne, t.row.kept t.top hk (by simp; omega), t.hh⟩
/-- Other bytes that are left. -/
theorem Rd.drop {w : World} {lo hi : Nat} {v v' : Value} {bl bl' : List Nat} {k i o m : Int} {s : Bool} {d : Value} {h : Nat} {nm : ByteArray} {p of l u : Nat} {A : World} (t : Rd w lo hi v bl k i o m s d h nm p of l u A) (hr : ByteRow lo hi A v' bl') : Rd w lo hi v' bl' k i o m s d h nm p of l u A := ⟨t.msg, t.res, t.shp, t.kept, t.ne, hr, t.hh⟩
section
variable {ops : Array Oper} {rest : List Oper} {o : Oper} {a : Act} {w : World} {Q : Exit → Act → World → Prop}
set_option maxRecDepth 100000 in
/-- append([]byte(nil), b..) -/
theorem wpList_append_nil (hgd : o.guard = none) (s x : Operand) (ho : o.op = .call { callee := .builtin .append, args := #[s, x], argTypes := #[23, 23] }) (hs : a.eval s = .slice none 0 0)
    (u : Value) (lo hi : Nat) (bs : List Nat) (hx : a.eval x = u) (hu : ByteRow lo hi w u bs) (hlen : bs.length ≤ 1000000)
    (h : ∀ sa z cap w', ByteRow w.heap.size w'.heap.size w' (.slice sa z cap) bs → Kept [] w w' → wpList Try.prog ops Q rest (a.put o.dst (.slice sa z cap)) w') : wpList Try.prog ops Q (o :: rest) a w := by
  have hown : w.ownsRow w.heap.size 5 1 (.slice none 0 0) ([] : List Nat).length (([] : List Nat).map enc) := ⟨by simp, .inl ⟨rfl, rfl⟩⟩
  refine wpList_append_bytes hgd s x ho w.heap.size (.slice none 0 0) u lo hi [] bs hs hown (by simp) hx hu (by simpa using hlen) (Nat.le_refl _) ?_
  intro sa cap w' h1 _ h3
  exact h sa _ cap w' h1 (kept_grown hown h3 w (Kept.refl _ _) (Nat.le_refl _))
end
set_option maxRecDepth 100000 in
theorem Try.sizeI : (Try.prog.info? 3).map (·.size) = some 1 := by kernel_rfl
set_option maxRecDepth 100000 in
theorem Try.sizeU : (Try.prog.info? 22).map (·.size) = some 1 := by kernel_rfl
set_option maxRecDepth 100000 in
theorem Try.sizeF : (Try.prog.info? 4).map (·.size) = some 1 := by kernel_rfl
set_option maxRecDepth 100000 in
set_option maxHeartbeats 4000000 in
/-- read -/
theorem read_any (K : Nat) (hK : K < 256) (v : Value) (bs : List Nat) (lo hi : Nat) (w : World) (h : ByteRow lo hi w v bs) (hh : hi ≤ w.heap.size) (hn : needN K ≤ bs.length + 1) (hlen : bs.length ≤ 1000) :
    Calls Try.prog 28 #[.agg #[.int .i64 (K : Int), .int .i64 0, .int .i64 0, .int .u64 0, .bool false, .slice none 0 0], v] w fun e w' => ∃ y : Mv, e = .returned y.val ∧ y.ms = readL K bs ∧ y.At w.heap.size w'.heap.size w' ∧ Kept [] w w' := by
  have hbyt := h.1
  have hk0 : Kept [] w ((w.alloc (.cells #[.int .i64 (K : Int), .int .i64 0, .int .i64 0, .int .u64 0, .bool false, .slice none 0 0] 25)).alloc (.cells #[.int .i64 0, .int .i64 0, .int .i64 0, .int .u64 0, .bool false, .slice none 0 0] 25)) := (kept_alloc [] w _).trans (kept_alloc [] _ _)
  have e0 : (w.alloc (.cells #[.int .i64 (K : Int), .int .i64 0, .int .i64 0, .int .u64 0, .bool false, .slice none 0 0] 25)).heap.size = w.heap.size + 1 := by simp
  have e1 : ((w.alloc (.cells #[.int .i64 (K : Int), .int .i64 0, .int .i64 0, .int .u64 0, .bool false, .slice none 0 0] 25)).alloc (.cells #[.int .i64 0, .int .i64 0, .int .i64 0, .int .u64 0, .bool false, .slice none 0 0] 25)).heap.size = w.heap.size + 2 := by simp
  have hm0 : MIn ((w.alloc (.cells #[.int .i64 (K : Int), .int .i64 0, .int .i64 0, .int .u64 0, .bool false, .slice none 0 0] 25)).alloc (.cells #[.int .i64 0, .int .i64 0, .int .i64 0, .int .u64 0, .bool false, .slice none 0 0] 25)) w.heap.size K 0 0 0 false (.slice none 0 0) := Blk.kept (blk_new w 25 #[.int .i64 (K : Int), .int .i64 0, .int .i64 0, .int .u64 0, .bool false, .slice none 0 0]) (kept_alloc [] _ _) (by simp)
  have hr0 : MIn ((w.alloc (.cells #[.int .i64 (K : Int), .int .i64 0, .int .i64 0, .int .u64 0, .bool false, .slice none 0 0] 25)).alloc (.cells #[.int .i64 0, .int .i64 0, .int .i64 0, .int .u64 0, .bool false, .slice none 0 0] 25)) (w.heap.size + 1) 0 0 0 0 false (.slice none 0 0) := by
    have := blk_new (w.alloc (.cells #[.int .i64 (K : Int), .int .i64 0, .int .i64 0, .int .u64 0, .bool false, .slice none 0 0] 25)) 25 #[.int .i64 0, .int .i64 0, .int .i64 0, .int .u64 0, .bool false, .slice none 0 0]
    rw [e0] at this
    exact this
  have q := shape_any K ((w.alloc (.cells #[.int .i64 (K : Int), .int .i64 0, .int .i64 0, .int .u64 0, .bool false, .slice none 0 0] 25)).alloc (.cells #[.int .i64 0, .int .i64 0, .int .i64 0, .int .u64 0, .bool false, .slice none 0 0] 25))
  have pl := parts_lt K
  have qh1 : ∀ W, Calls Try.prog 19 #[shV (nameOf K) (partsOf K) (offsOf K) (leastOf K) (mostOf K), .int .i64 1] W _ := fun W => has_any (nameOf K) (partsOf K) (offsOf K) (leastOf K) (mostOf K) 1 pl (by omega) W
  rw [has1] at qh1
  have qh2 : ∀ W, Calls Try.prog 19 #[shV (nameOf K) (partsOf K) (offsOf K) (leastOf K) (mostOf K), .int .i64 2] W _ := fun W => has_any (nameOf K) (partsOf K) (offsOf K) (leastOf K) (mostOf K) 2 pl (by omega) W
  rw [has2] at qh2
  have qh4 : ∀ W, Calls Try.prog 19 #[shV (nameOf K) (partsOf K) (offsOf K) (leastOf K) (mostOf K), .int .i64 4] W _ := fun W => has_any (nameOf K) (partsOf K) (offsOf K) (leastOf K) (mostOf K) 4 pl (by omega) W
  rw [has4] at qh4
  have qh8 : ∀ W, Calls Try.prog 19 #[shV (nameOf K) (partsOf K) (offsOf K) (leastOf K) (mostOf K), .int .i64 8] W _ := fun W => has_any (nameOf K) (partsOf K) (offsOf K) (leastOf K) (mostOf K) 8 pl (by omega) W
  rw [has8] at qh8
  have t0 : Hid (∀ w1 : World, Kept [] ((w.alloc (.cells #[.int .i64 (K : Int), .int .i64 0, .int .i64 0, .int .u64 0, .bool false, .slice none 0 0] 25)).alloc (.cells #[.int .i64 0, .int .i64 0, .int .i64 0, .int .u64 0, .bool false, .slice none 0 0] 25)) w1 → Rd w lo hi v bs K 0 0 0 false (.slice none 0 0) w1.heap.size (nameOf K) (partsOf K) (offsOf K) (leastOf K) (mostOf K) (w1.alloc (.cells #[.string (nameOf K), .int .i64 (partsOf K : Int), .int .i64 (offsOf K : Int), .int .i64 (leastOf K : Int), .int .i64 (mostOf K : Int)] 39))) := fun w1 hk1 => by
    have ka := kept_alloc [] w1 (.cells #[.string (nameOf K), .int .i64 (partsOf K : Int), .int .i64 (offsOf K : Int), .int .i64 (leastOf K : Int), .int .i64 (mostOf K : Int)] 39)
    have hs := hk1.size
    rw [e1] at hs
    have hkw : Kept [] w (w1.alloc (.cells #[.string (nameOf K), .int .i64 (partsOf K : Int), .int .i64 (offsOf K : Int), .int .i64 (leastOf K : Int), .int .i64 (mostOf K : Int)] 39)) := (hk0.trans hk1).trans ka
    exact ⟨Blk.kept (Blk.kept hm0 hk1 (by simp)) ka (by simp), Blk.kept (Blk.kept hr0 hk1 (by simp)) ka (by simp), blk_new w1 39 _, hkw, by omega, h.kept hh hkw (by simp), hh⟩
  clear hk0 hm0 hr0 pl e0 e1
  have hE : Hid (readL K bs = ⟨K, readI K bs, readO K bs, readM K bs, readS K bs, r3 K bs⟩) := rfl
  have hN : needN K = 1 + (if (K : Int) = 1 then 9 else 0) + (if 2 ≤ (K : Int) ∧ (K : Int) ≤ 5 then 8 else 0) + (if (K : Int) = 2 ∨ (K : Int) = 6 ∨ (K : Int) = 7 then 2 else 0) := rfl
  by_cases h1 : K = 1
  · have p1 : (K : Int) = 1 := by omega
    have p4 : ¬ (2 ≤ (K : Int) ∧ (K : Int) ≤ 5) := by omega
    have p8 : ¬ ((K : Int) = 2 ∨ (K : Int) = 6 ∨ (K : Int) = 7) := by omega
    rw [decide_eq_true p1] at qh1 qh2
    rw [decide_eq_false p4] at qh4
    rw [decide_eq_false p8] at qh8
    rw [if_pos p1, if_neg p4, if_neg p8] at hN
    have x1 : r1 K bs = (bs.drop 1).drop 8 := (if_pos p1).trans (by rw [List.drop_drop])
    have x2 : r2 K bs = (bs.drop 1).drop 8 := (if_neg p4).trans (by rw [x1])
    have x3 : r3 K bs = (bs.drop 1).drop 8 := (if_neg p8).trans (by rw [x2])
    have xS : readS K bs = decide (bs[0]?.getD 0 = 1) := if_pos p1
    have xM : readM K bs = val ((bs.drop 1).take 8) := if_pos p1
    have xI : readI K bs = 0 := (if_neg p4)
    have xO : readO K bs = 0 := (if_neg p8)
    rw [xS, xM, xI, xO, x3] at hE
    clear x1 x2 x3 xS xM xI xO p1 p4 p8 h1
    have h8 : Hid (8 ≤ (bs.drop 1).length) := by show _ ≤ _; rw [List.length_drop]; omega
    have hl8 : Hid ((bs.drop 1).length ≤ 9223372036854775807) := by show _ ≤ _; rw [List.length_drop]; omega
    have v8 : val ((bs.drop 1).take 8) < 18446744073709551616 := by have := take_lt (bs.drop 1) 8 (fun b hm => hbyt b (List.mem_of_mem_drop hm)) h8.out; simpa using this
    have hl3 : Hid (((bs.drop 1).drop 8).length ≤ 1000000) := by show _ ≤ _; simp only [List.length_drop]; omega
    replace hlen : Hid (bs.length ≤ 1000) := hlen
    replace hN : Hid _ := hN
    replace hn : Hid (needN K ≤ bs.length + 1) := hn
    obtain ⟨_, va, vc, rfl, _⟩ := id h
    unfold shV at *
    obtain ⟨g, off, rfl, hg, hcb⟩ := h.cell 0 (by have := hN.out; have := hn.out; omega)
    obtain ⟨sa1, cap1, hs1, hr1⟩ := row_drop h 1 (by have := hN.out; have := hn.out; omega)
    obtain ⟨z1, hz1⟩ : ∃ z1, bs.length - 1 = z1 := ⟨_, rfl⟩
    rw [hz1] at hs1 hr1
    have hs1' : ∀ w, (Instr.sliceAt 23 (.slice (some ⟨g, off, none⟩) bs.length vc) (some (.int .i64 1)) none none).run Try.prog w = .ok (.slice sa1 z1 cap1) w := hs1
    have qf : ∀ W : World, Calls Try.prog 33 #[.bool true] W fun e w' => e = .returned (.int .u8 1) ∧ w' = W := fun W => flag_any true W
    have hpos : 0 < bs.length := by have := hN.out; have := hn.out; omega
    have hb1 : (((bs[0]?.getD 0 : Nat) : Int) == 1) = decide (bs[0]?.getD 0 = 1) := by
      by_cases e : bs[0]?.getD 0 = 1
      · rw [e]
        rfl
      · rw [decide_eq_false e]
        simp
        omega
    generalize decide (bs[0]?.getD 0 = 1) = sb at *
    generalize bs[0]?.getD 0 = c at *
    replace hr1 : Hid (ByteRow lo hi w (.slice sa1 z1 cap1) (bs.drop 1)) := hr1
    clear hs1 hz1
    generalize bs.drop 1 = bt at *
    go_enter Try.func28, Try.ntmps28
    go_wp2_with (first
      | (go_at_call 18; refine q.mono ?_; rintro e w1 ⟨rfl, hk1⟩; have hT := t0.out w1 hk1; obtain ⟨c0, c1, c2, c3, c4, c5⟩ := hT.msg.six; obtain ⟨s0, s1, s2, s3, s4⟩ := hT.shp.five; clear q)
      | (go_at_call 19; refine (qh1 _).mono ?_; rintro e w2 ⟨rfl, hk2⟩; replace hT := hT.after hk2; obtain ⟨c0, c1, c2, c3, c4, c5⟩ := hT.msg.six; obtain ⟨s0, s1, s2, s3, s4⟩ := hT.shp.five; clear hk2 qh1))
    have hT2 := hT
    replace hT := hT.after (kept_drew [] _)
    obtain ⟨c0, c1, c2, c3, c4, c5⟩ := hT.msg.six
    have f4 := Blk.frozen hT.msg 4
    have S0 : ∀ A : World, Kept [w.heap.size] w A → A.cell? ⟨g, off, none⟩ = some (.int .u8 (c : Int)) := fun A hA => by
      rw [← hcb]
      exact World.cell?_of_block (w := w) (w' := A) (hA.block g (by omega) (by simp; omega))
    have hk3 := hT.kept.mono (L' := [w.heap.size]) (by simp)
    go_region_held3 (fun A => A.cell? ⟨g, off, none⟩ = some (.int .u8 (c : Int))) (first
      | exact S0 _ hk3
      | exact S0 _ (hk3.trans (kept_set (by simp) _ _ _))) (first
      | (go_at_call 33; refine (qf _).mono ?_; rintro e wf ⟨rfl, rfl⟩))
    have hT4 := (hT2.put (show MIn _ w.heap.size K 0 0 0 sb (.slice none 0 0) from Blk.set hT2.msg 4 (.bool sb)) (kept_set (by simp) w2 4 (.bool sb))).after (kept_drew [] _)
    clear hT hT2 c0 c1 c2 c3 c4 c5 f4 s0 s1 s2 s3 s4 hk3
    try rw [hb1]
    obtain ⟨w3, hw3⟩ : ∃ w3, (w2.setCell ⟨w.heap.size, 4, none⟩ (.bool sb)).drew = w3 := ⟨_, rfl⟩
    rw [hw3] at hT4 ⊢
    clear hw3
    have hT := hT4.drop (hr1.out.kept hh hT4.kept (by simp))
    clear hT4
    obtain ⟨c0, c1, c2, c3, c4, c5⟩ := hT.msg.six
    obtain ⟨s0, s1, s2, s3, s4⟩ := hT.shp.five
    go_wp2_with (first
      | (go_at_call 19; refine (qh2 _).mono ?_; rintro e w2 ⟨rfl, hk2⟩; replace hT := hT.after hk2; obtain ⟨c0, c1, c2, c3, c4, c5⟩ := hT.msg.six; obtain ⟨s0, s1, s2, s3, s4⟩ := hT.shp.five; clear hk2 qh2)
      | (go_at_call 19; refine (qh4 _).mono ?_; rintro e w2 ⟨rfl, hk2⟩; replace hT := hT.after hk2; obtain ⟨c0, c1, c2, c3, c4, c5⟩ := hT.msg.six; obtain ⟨s0, s1, s2, s3, s4⟩ := hT.shp.five; clear hk2 qh4)
      | (go_at_call 19; refine (qh8 _).mono ?_; rintro e w2 ⟨rfl, hk2⟩; replace hT := hT.after hk2; obtain ⟨c0, c1, c2, c3, c4, c5⟩ := hT.msg.six; obtain ⟨s0, s1, s2, s3, s4⟩ := hT.shp.five; clear hk2 qh8)
      | (go_at_call 37; refine (word_any _ _ lo hi _ hT.row hT.top h8.out hl8.out).mono ?_; rintro e w4 ⟨sa4, z4, cap4, rfl, hr4, hk4⟩; replace hT := (hT.drop hr4).after hk4; obtain ⟨c0, c1, c2, c3, c4, c5⟩ := hT.msg.six; obtain ⟨s0, s1, s2, s3, s4⟩ := hT.shp.five; clear hr4 hk4)
      | (refine wpList_store_cell rfl 22 _ _ rfl w.heap.size 3 25 _ (.int .u64 (val (bt.take 8) : Nat)) rfl rfl hT.msg (by simp) Try.sizeU rfl ?_; intro w5 hb5 hk5; replace hT := hT.put (show MIn w5 w.heap.size K 0 0 (val (bt.take 8) : Nat) sb (.slice none 0 0) from hb5) hk5; obtain ⟨c0, c1, c2, c3, c4, c5⟩ := hT.msg.six; obtain ⟨s0, s1, s2, s3, s4⟩ := hT.shp.five; clear hb5 hk5)
      | (at_builtin; refine wpList_append_nil rfl _ _ rfl rfl _ lo hi _ rfl hT.row hl3.out ?_; intro sa7 z7 cap7 w7 hB7 hk7; have hD := hB7.mono (Nat.succ_le_of_lt (Nat.lt_trans hT.ne hT.shp.lt)) (Nat.le_refl _); replace hT := hT.after hk7; obtain ⟨c0, c1, c2, c3, c4, c5⟩ := hT.msg.six; obtain ⟨s0, s1, s2, s3, s4⟩ := hT.shp.five; clear hk7 hB7)
      | (refine wpList_store_cell rfl 23 _ _ rfl w.heap.size 5 25 _ (.slice sa7 z7 cap7) rfl rfl hT.msg (by simp) Try.sizeB rfl ?_; intro w5 hb5 hk5; replace hT := hT.put (show MIn w5 w.heap.size K (0) 0 (val (bt.take 8) : Nat) (sb) (.slice sa7 z7 cap7) from hb5) hk5; obtain ⟨c0, c1, c2, c3, c4, c5⟩ := hT.msg.six; obtain ⟨s0, s1, s2, s3, s4⟩ := hT.shp.five; replace hD := hD.kept (Nat.le_refl _) hk5 (by simp; omega); have hs5 := hk5.size; clear hb5 hk5)
      | (refine wpList_store_blk rfl 25 _ _ rfl (w.heap.size + 1) 25 _ [.int .i64 (K : Int), .int .i64 (0), .int .i64 0, .int .u64 ((val (bt.take 8) : Nat) : Int), .bool (sb), .slice sa7 z7 cap7] rfl rfl hT.res rfl Try.sizeM (by simp [Value.oneCell']) ?_; intro w9 hb9 hk9 hz9))
    have hb9' : w9.heap[w.heap.size + 1]? = some (.cells #[.int .i64 (K : Int), .int .i64 (0), .int .i64 0, .int .u64 ((val (bt.take 8) : Nat) : Int), .bool (sb), .slice sa7 z7 cap7] 25 (0, 0)) := hb9
    refine bodyPost_ret (results_cell_row rfl _ _ (w.heap.size + 1) 25 _ (0, 0) _ rfl hb9' Try.underlying25 rfl Try.sizeM) rfl ?_
    refine ⟨⟨K, 0, 0, val (bt.take 8), sb, sa7, z7, cap7, _⟩, rfl, hE.out.symm, ⟨(hD.kept hs5 hk9 (by simp)).mono (by omega) (Nat.le_trans hs5 hk9.size), v8, (show (-9223372036854775808 : Int) ≤ 0 by decide), (show (0 : Int) ≤ 9223372036854775807 by decide)⟩, hT.kept.young hk9 (by omega)⟩
  · by_cases h2 : K = 2
    · have p1 : ¬ (K : Int) = 1 := by omega
      have p4 : (2 ≤ (K : Int) ∧ (K : Int) ≤ 5) := by omega
      have p8 : ((K : Int) = 2 ∨ (K : Int) = 6 ∨ (K : Int) = 7) := by omega
      rw [decide_eq_false p1] at qh1 qh2
      rw [decide_eq_true p4] at qh4
      rw [decide_eq_true p8] at qh8
      rw [if_neg p1, if_pos p4, if_pos p8] at hN
      have x1 : r1 K bs = bs := (if_neg p1)
      have x2 : r2 K bs = (bs).drop 8 := (if_pos p4).trans (by rw [x1])
      have x3 : r3 K bs = ((bs).drop 8).drop 2 := (if_pos p8).trans (by rw [x2])
      have xS : readS K bs = false := if_neg p1
      have xM : readM K bs = 0 := if_neg p1
      have xI : readI K bs = sg (val ((bs).take 8)) := (if_pos p4).trans (by rw [x1])
      have xO : readO K bs = (val (((bs).drop 8).take 2) : Int) := (if_pos p8).trans (by rw [x2])
      rw [xS, xM, xI, xO, x3] at hE
      clear x1 x2 x3 xS xM xI xO p1 p4 p8 h1 h2
      have h8 : Hid (8 ≤ bs.length) := by show _ ≤ _; omega
      have hl8 : Hid (bs.length ≤ 9223372036854775807) := by show _ ≤ _; omega
      have v8 : val (bs.take 8) < 18446744073709551616 := by have := take_lt bs 8 hbyt h8.out; simpa using this
      have vw := wrap_sg _ v8
      have vb := sg_lo _ v8
      replace vb : Hid _ := vb
      have h2 : Hid (2 ≤ ((bs).drop 8).length) := by show _ ≤ _; rw [List.length_drop]; omega
      have hl2 : Hid (((bs).drop 8).length ≤ 9223372036854775807) := by show _ ≤ _; rw [List.length_drop]; omega
      have g2 : Hid (Seal.getv 2 ((bs).drop 8) = val (((bs).drop 8).take 2)) := Seal.getv_in (Nat.not_lt.2 h2.out)
      have hl3 : Hid ((((bs).drop 8).drop 2).length ≤ 1000000) := by show _ ≤ _; simp only [List.length_drop]; omega
      replace hlen : Hid (bs.length ≤ 1000) := hlen
      replace hN : Hid _ := hN
      replace hn : Hid (needN K ≤ bs.length + 1) := hn
      obtain ⟨_, va, vc, rfl, _⟩ := id h
      unfold shV at *
      go_enter Try.func28, Try.ntmps28
      go_wp2_with (first
        | (go_at_call 18; refine q.mono ?_; rintro e w1 ⟨rfl, hk1⟩; have hT := t0.out w1 hk1; obtain ⟨c0, c1, c2, c3, c4, c5⟩ := hT.msg.six; obtain ⟨s0, s1, s2, s3, s4⟩ := hT.shp.five; clear q)
        | (go_at_call 19; refine (qh1 _).mono ?_; rintro e w2 ⟨rfl, hk2⟩; replace hT := hT.after hk2; obtain ⟨c0, c1, c2, c3, c4, c5⟩ := hT.msg.six; obtain ⟨s0, s1, s2, s3, s4⟩ := hT.shp.five; clear hk2 qh1)
        | (go_at_call 19; refine (qh2 _).mono ?_; rintro e w2 ⟨rfl, hk2⟩; replace hT := hT.after hk2; obtain ⟨c0, c1, c2, c3, c4, c5⟩ := hT.msg.six; obtain ⟨s0, s1, s2, s3, s4⟩ := hT.shp.five; clear hk2 qh2)
        | (go_at_call 19; refine (qh4 _).mono ?_; rintro e w2 ⟨rfl, hk2⟩; replace hT := hT.after hk2; obtain ⟨c0, c1, c2, c3, c4, c5⟩ := hT.msg.six; obtain ⟨s0, s1, s2, s3, s4⟩ := hT.shp.five; clear hk2 qh4)
        | (go_at_call 19; refine (qh8 _).mono ?_; rintro e w2 ⟨rfl, hk2⟩; replace hT := hT.after hk2; obtain ⟨c0, c1, c2, c3, c4, c5⟩ := hT.msg.six; obtain ⟨s0, s1, s2, s3, s4⟩ := hT.shp.five; clear hk2 qh8)
        | (go_at_call 37; refine (word_any _ _ lo hi _ hT.row hT.top h8.out hl8.out).mono ?_; rintro e w4 ⟨sa4, z4, cap4, rfl, hr4, hk4⟩; replace hT := (hT.drop hr4).after hk4; obtain ⟨c0, c1, c2, c3, c4, c5⟩ := hT.msg.six; obtain ⟨s0, s1, s2, s3, s4⟩ := hT.shp.five; clear hr4 hk4)
        | (refine wpList_store_cell rfl 3 _ _ rfl w.heap.size 1 25 _ (.int .i64 (sg (val ((bs).take 8)))) rfl rfl hT.msg (by simp) Try.sizeI rfl ?_; intro w5 hb5 hk5; replace hT := hT.put (show MIn w5 w.heap.size K (sg (val ((bs).take 8))) 0 0 false (.slice none 0 0) from hb5) hk5; obtain ⟨c0, c1, c2, c3, c4, c5⟩ := hT.msg.six; obtain ⟨s0, s1, s2, s3, s4⟩ := hT.shp.five; clear hb5 hk5)
        | (go_at_call 38; refine (Seal.get16_any _ _ _ _ hl2.out (hT.row.at hT.top)).mono ?_; rw [g2.out]; rintro e w6 ⟨rfl, rfl⟩)
        | (refine wpList_store_cell rfl 3 _ _ rfl w.heap.size 2 25 _ (.int .i64 (val (((bs).drop 8).take 2) : Int)) rfl rfl hT.msg (by simp) Try.sizeI rfl ?_; intro w5 hb5 hk5; replace hT := hT.put (show MIn w5 w.heap.size K (sg (val ((bs).take 8))) (val (((bs).drop 8).take 2) : Int) 0 false (.slice none 0 0) from hb5) hk5; obtain ⟨c0, c1, c2, c3, c4, c5⟩ := hT.msg.six; obtain ⟨s0, s1, s2, s3, s4⟩ := hT.shp.five; clear hb5 hk5)
        | (refine wpList_drop rfl _ _ rfl lo hi _ _ _ 2 rfl rfl hT.row h2.out ?_; intro sa6 z6 cap6 hr6; replace hT := hT.drop hr6; clear hr6)
        | (at_builtin; refine wpList_append_nil rfl _ _ rfl rfl _ lo hi _ rfl hT.row hl3.out ?_; intro sa7 z7 cap7 w7 hB7 hk7; have hD := hB7.mono (Nat.succ_le_of_lt (Nat.lt_trans hT.ne hT.shp.lt)) (Nat.le_refl _); replace hT := hT.after hk7; obtain ⟨c0, c1, c2, c3, c4, c5⟩ := hT.msg.six; obtain ⟨s0, s1, s2, s3, s4⟩ := hT.shp.five; clear hk7 hB7)
        | (refine wpList_store_cell rfl 23 _ _ rfl w.heap.size 5 25 _ (.slice sa7 z7 cap7) rfl rfl hT.msg (by simp) Try.sizeB rfl ?_; intro w5 hb5 hk5; replace hT := hT.put (show MIn w5 w.heap.size K (sg (val ((bs).take 8))) (val (((bs).drop 8).take 2) : Int) (0 : Nat) (false) (.slice sa7 z7 cap7) from hb5) hk5; obtain ⟨c0, c1, c2, c3, c4, c5⟩ := hT.msg.six; obtain ⟨s0, s1, s2, s3, s4⟩ := hT.shp.five; replace hD := hD.kept (Nat.le_refl _) hk5 (by simp; omega); have hs5 := hk5.size; clear hb5 hk5)
        | (refine wpList_store_blk rfl 25 _ _ rfl (w.heap.size + 1) 25 _ [.int .i64 (K : Int), .int .i64 (sg (val ((bs).take 8))), .int .i64 (val (((bs).drop 8).take 2) : Int), .int .u64 ((0 : Nat) : Int), .bool (false), .slice sa7 z7 cap7] rfl rfl hT.res rfl Try.sizeM (by simp [Value.oneCell']) ?_; intro w9 hb9 hk9 hz9))
      have hb9' : w9.heap[w.heap.size + 1]? = some (.cells #[.int .i64 (K : Int), .int .i64 (sg (val ((bs).take 8))), .int .i64 (val (((bs).drop 8).take 2) : Int), .int .u64 ((0 : Nat) : Int), .bool (false), .slice sa7 z7 cap7] 25 (0, 0)) := hb9
      refine bodyPost_ret (results_cell_row rfl _ _ (w.heap.size + 1) 25 _ (0, 0) _ rfl hb9' Try.underlying25 rfl Try.sizeM) rfl ?_
      refine ⟨⟨K, sg (val ((bs).take 8)), (val (((bs).drop 8).take 2) : Int), 0, false, sa7, z7, cap7, _⟩, rfl, hE.out.symm, ⟨(hD.kept hs5 hk9 (by simp)).mono (by omega) (Nat.le_trans hs5 hk9.size), (show (0 : Nat) < 18446744073709551616 by decide), vb.out.1, vb.out.2⟩, hT.kept.young hk9 (by omega)⟩
    · by_cases h3 : 3 ≤ K ∧ K ≤ 5
      · have p1 : ¬ (K : Int) = 1 := by omega
        have p4 : (2 ≤ (K : Int) ∧ (K : Int) ≤ 5) := by omega
        have p8 : ¬ ((K : Int) = 2 ∨ (K : Int) = 6 ∨ (K : Int) = 7) := by omega
        rw [decide_eq_false p1] at qh1 qh2
        rw [decide_eq_true p4] at qh4
        rw [decide_eq_false p8] at qh8
        rw [if_neg p1, if_pos p4, if_neg p8] at hN
        have x1 : r1 K bs = bs := (if_neg p1)
        have x2 : r2 K bs = (bs).drop 8 := (if_pos p4).trans (by rw [x1])
        have x3 : r3 K bs = (bs).drop 8 := (if_neg p8).trans (by rw [x2])
        have xS : readS K bs = false := if_neg p1
        have xM : readM K bs = 0 := if_neg p1
        have xI : readI K bs = sg (val ((bs).take 8)) := (if_pos p4).trans (by rw [x1])
        have xO : readO K bs = 0 := (if_neg p8)
        rw [xS, xM, xI, xO, x3] at hE
        clear x1 x2 x3 xS xM xI xO p1 p4 p8 h1 h2 h3
        have h8 : Hid (8 ≤ bs.length) := by show _ ≤ _; omega
        have hl8 : Hid (bs.length ≤ 9223372036854775807) := by show _ ≤ _; omega
        have v8 : val (bs.take 8) < 18446744073709551616 := by have := take_lt bs 8 hbyt h8.out; simpa using this
        have vw := wrap_sg _ v8
        have vb := sg_lo _ v8
        replace vb : Hid _ := vb
        have hl3 : Hid (((bs).drop 8).length ≤ 1000000) := by show _ ≤ _; simp only [List.length_drop]; omega
        replace hlen : Hid (bs.length ≤ 1000) := hlen
        replace hN : Hid _ := hN
        replace hn : Hid (needN K ≤ bs.length + 1) := hn
        obtain ⟨_, va, vc, rfl, _⟩ := id h
        unfold shV at *
        go_enter Try.func28, Try.ntmps28
        go_wp2_with (first
          | (go_at_call 18; refine q.mono ?_; rintro e w1 ⟨rfl, hk1⟩; have hT := t0.out w1 hk1; obtain ⟨c0, c1, c2, c3, c4, c5⟩ := hT.msg.six; obtain ⟨s0, s1, s2, s3, s4⟩ := hT.shp.five; clear q)
          | (go_at_call 19; refine (qh1 _).mono ?_; rintro e w2 ⟨rfl, hk2⟩; replace hT := hT.after hk2; obtain ⟨c0, c1, c2, c3, c4, c5⟩ := hT.msg.six; obtain ⟨s0, s1, s2, s3, s4⟩ := hT.shp.five; clear hk2 qh1)
          | (go_at_call 19; refine (qh2 _).mono ?_; rintro e w2 ⟨rfl, hk2⟩; replace hT := hT.after hk2; obtain ⟨c0, c1, c2, c3, c4, c5⟩ := hT.msg.six; obtain ⟨s0, s1, s2, s3, s4⟩ := hT.shp.five; clear hk2 qh2)
          | (go_at_call 19; refine (qh4 _).mono ?_; rintro e w2 ⟨rfl, hk2⟩; replace hT := hT.after hk2; obtain ⟨c0, c1, c2, c3, c4, c5⟩ := hT.msg.six; obtain ⟨s0, s1, s2, s3, s4⟩ := hT.shp.five; clear hk2 qh4)
          | (go_at_call 19; refine (qh8 _).mono ?_; rintro e w2 ⟨rfl, hk2⟩; replace hT := hT.after hk2; obtain ⟨c0, c1, c2, c3, c4, c5⟩ := hT.msg.six; obtain ⟨s0, s1, s2, s3, s4⟩ := hT.shp.five; clear hk2 qh8)
          | (go_at_call 37; refine (word_any _ _ lo hi _ hT.row hT.top h8.out hl8.out).mono ?_; rintro e w4 ⟨sa4, z4, cap4, rfl, hr4, hk4⟩; replace hT := (hT.drop hr4).after hk4; obtain ⟨c0, c1, c2, c3, c4, c5⟩ := hT.msg.six; obtain ⟨s0, s1, s2, s3, s4⟩ := hT.shp.five; clear hr4 hk4)
          | (refine wpList_store_cell rfl 3 _ _ rfl w.heap.size 1 25 _ (.int .i64 (sg (val ((bs).take 8)))) rfl rfl hT.msg (by simp) Try.sizeI rfl ?_; intro w5 hb5 hk5; replace hT := hT.put (show MIn w5 w.heap.size K (sg (val ((bs).take 8))) 0 0 false (.slice none 0 0) from hb5) hk5; obtain ⟨c0, c1, c2, c3, c4, c5⟩ := hT.msg.six; obtain ⟨s0, s1, s2, s3, s4⟩ := hT.shp.five; clear hb5 hk5)
          | (at_builtin; refine wpList_append_nil rfl _ _ rfl rfl _ lo hi _ rfl hT.row hl3.out ?_; intro sa7 z7 cap7 w7 hB7 hk7; have hD := hB7.mono (Nat.succ_le_of_lt (Nat.lt_trans hT.ne hT.shp.lt)) (Nat.le_refl _); replace hT := hT.after hk7; obtain ⟨c0, c1, c2, c3, c4, c5⟩ := hT.msg.six; obtain ⟨s0, s1, s2, s3, s4⟩ := hT.shp.five; clear hk7 hB7)
          | (refine wpList_store_cell rfl 23 _ _ rfl w.heap.size 5 25 _ (.slice sa7 z7 cap7) rfl rfl hT.msg (by simp) Try.sizeB rfl ?_; intro w5 hb5 hk5; replace hT := hT.put (show MIn w5 w.heap.size K (sg (val ((bs).take 8))) 0 (0 : Nat) (false) (.slice sa7 z7 cap7) from hb5) hk5; obtain ⟨c0, c1, c2, c3, c4, c5⟩ := hT.msg.six; obtain ⟨s0, s1, s2, s3, s4⟩ := hT.shp.five; replace hD := hD.kept (Nat.le_refl _) hk5 (by simp; omega); have hs5 := hk5.size; clear hb5 hk5)
          | (refine wpList_store_blk rfl 25 _ _ rfl (w.heap.size + 1) 25 _ [.int .i64 (K : Int), .int .i64 (sg (val ((bs).take 8))), .int .i64 0, .int .u64 ((0 : Nat) : Int), .bool (false), .slice sa7 z7 cap7] rfl rfl hT.res rfl Try.sizeM (by simp [Value.oneCell']) ?_; intro w9 hb9 hk9 hz9))
        have hb9' : w9.heap[w.heap.size + 1]? = some (.cells #[.int .i64 (K : Int), .int .i64 (sg (val ((bs).take 8))), .int .i64 0, .int .u64 ((0 : Nat) : Int), .bool (false), .slice sa7 z7 cap7] 25 (0, 0)) := hb9
        refine bodyPost_ret (results_cell_row rfl _ _ (w.heap.size + 1) 25 _ (0, 0) _ rfl hb9' Try.underlying25 rfl Try.sizeM) rfl ?_
        refine ⟨⟨K, sg (val ((bs).take 8)), 0, 0, false, sa7, z7, cap7, _⟩, rfl, hE.out.symm, ⟨(hD.kept hs5 hk9 (by simp)).mono (by omega) (Nat.le_trans hs5 hk9.size), (show (0 : Nat) < 18446744073709551616 by decide), vb.out.1, vb.out.2⟩, hT.kept.young hk9 (by omega)⟩
      · by_cases h6 : K = 6 ∨ K = 7
        · have p1 : ¬ (K : Int) = 1 := by omega
          have p4 : ¬ (2 ≤ (K : Int) ∧ (K : Int) ≤ 5) := by omega
          have p8 : ((K : Int) = 2 ∨ (K : Int) = 6 ∨ (K : Int) = 7) := by omega
          rw [decide_eq_false p1] at qh1 qh2
          rw [decide_eq_false p4] at qh4
          rw [decide_eq_true p8] at qh8
          rw [if_neg p1, if_neg p4, if_pos p8] at hN
          have x1 : r1 K bs = bs := (if_neg p1)
          have x2 : r2 K bs = bs := (if_neg p4).trans (by rw [x1])
          have x3 : r3 K bs = (bs).drop 2 := (if_pos p8).trans (by rw [x2])
          have xS : readS K bs = false := if_neg p1
          have xM : readM K bs = 0 := if_neg p1
          have xI : readI K bs = 0 := (if_neg p4)
          have xO : readO K bs = (val ((bs).take 2) : Int) := (if_pos p8).trans (by rw [x2])
          rw [xS, xM, xI, xO, x3] at hE
          clear x1 x2 x3 xS xM xI xO p1 p4 p8 h1 h2 h3 h6
          have h2 : Hid (2 ≤ bs.length) := by show _ ≤ _; omega
          have hl2 : Hid (bs.length ≤ 9223372036854775807) := by show _ ≤ _; omega
          have g2 : Hid (Seal.getv 2 bs = val (bs.take 2)) := Seal.getv_in (Nat.not_lt.2 h2.out)
          have hl3 : Hid (((bs).drop 2).length ≤ 1000000) := by show _ ≤ _; simp only [List.length_drop]; omega
          replace hlen : Hid (bs.length ≤ 1000) := hlen
          replace hN : Hid _ := hN
          replace hn : Hid (needN K ≤ bs.length + 1) := hn
          obtain ⟨_, va, vc, rfl, _⟩ := id h
          unfold shV at *
          go_enter Try.func28, Try.ntmps28
          go_wp2_with (first
            | (go_at_call 18; refine q.mono ?_; rintro e w1 ⟨rfl, hk1⟩; have hT := t0.out w1 hk1; obtain ⟨c0, c1, c2, c3, c4, c5⟩ := hT.msg.six; obtain ⟨s0, s1, s2, s3, s4⟩ := hT.shp.five; clear q)
            | (go_at_call 19; refine (qh1 _).mono ?_; rintro e w2 ⟨rfl, hk2⟩; replace hT := hT.after hk2; obtain ⟨c0, c1, c2, c3, c4, c5⟩ := hT.msg.six; obtain ⟨s0, s1, s2, s3, s4⟩ := hT.shp.five; clear hk2 qh1)
            | (go_at_call 19; refine (qh2 _).mono ?_; rintro e w2 ⟨rfl, hk2⟩; replace hT := hT.after hk2; obtain ⟨c0, c1, c2, c3, c4, c5⟩ := hT.msg.six; obtain ⟨s0, s1, s2, s3, s4⟩ := hT.shp.five; clear hk2 qh2)
            | (go_at_call 19; refine (qh4 _).mono ?_; rintro e w2 ⟨rfl, hk2⟩; replace hT := hT.after hk2; obtain ⟨c0, c1, c2, c3, c4, c5⟩ := hT.msg.six; obtain ⟨s0, s1, s2, s3, s4⟩ := hT.shp.five; clear hk2 qh4)
            | (go_at_call 19; refine (qh8 _).mono ?_; rintro e w2 ⟨rfl, hk2⟩; replace hT := hT.after hk2; obtain ⟨c0, c1, c2, c3, c4, c5⟩ := hT.msg.six; obtain ⟨s0, s1, s2, s3, s4⟩ := hT.shp.five; clear hk2 qh8)
            | (go_at_call 38; refine (Seal.get16_any _ _ _ _ hl2.out (hT.row.at hT.top)).mono ?_; rw [g2.out]; rintro e w6 ⟨rfl, rfl⟩)
            | (refine wpList_store_cell rfl 3 _ _ rfl w.heap.size 2 25 _ (.int .i64 (val ((bs).take 2) : Int)) rfl rfl hT.msg (by simp) Try.sizeI rfl ?_; intro w5 hb5 hk5; replace hT := hT.put (show MIn w5 w.heap.size K (0) (val ((bs).take 2) : Int) 0 false (.slice none 0 0) from hb5) hk5; obtain ⟨c0, c1, c2, c3, c4, c5⟩ := hT.msg.six; obtain ⟨s0, s1, s2, s3, s4⟩ := hT.shp.five; clear hb5 hk5)
            | (refine wpList_drop rfl _ _ rfl lo hi _ _ _ 2 rfl rfl hT.row h2.out ?_; intro sa6 z6 cap6 hr6; replace hT := hT.drop hr6; clear hr6)
            | (at_builtin; refine wpList_append_nil rfl _ _ rfl rfl _ lo hi _ rfl hT.row hl3.out ?_; intro sa7 z7 cap7 w7 hB7 hk7; have hD := hB7.mono (Nat.succ_le_of_lt (Nat.lt_trans hT.ne hT.shp.lt)) (Nat.le_refl _); replace hT := hT.after hk7; obtain ⟨c0, c1, c2, c3, c4, c5⟩ := hT.msg.six; obtain ⟨s0, s1, s2, s3, s4⟩ := hT.shp.five; clear hk7 hB7)
            | (refine wpList_store_cell rfl 23 _ _ rfl w.heap.size 5 25 _ (.slice sa7 z7 cap7) rfl rfl hT.msg (by simp) Try.sizeB rfl ?_; intro w5 hb5 hk5; replace hT := hT.put (show MIn w5 w.heap.size K (0) (val ((bs).take 2) : Int) (0 : Nat) (false) (.slice sa7 z7 cap7) from hb5) hk5; obtain ⟨c0, c1, c2, c3, c4, c5⟩ := hT.msg.six; obtain ⟨s0, s1, s2, s3, s4⟩ := hT.shp.five; replace hD := hD.kept (Nat.le_refl _) hk5 (by simp; omega); have hs5 := hk5.size; clear hb5 hk5)
            | (refine wpList_store_blk rfl 25 _ _ rfl (w.heap.size + 1) 25 _ [.int .i64 (K : Int), .int .i64 (0), .int .i64 (val ((bs).take 2) : Int), .int .u64 ((0 : Nat) : Int), .bool (false), .slice sa7 z7 cap7] rfl rfl hT.res rfl Try.sizeM (by simp [Value.oneCell']) ?_; intro w9 hb9 hk9 hz9))
          have hb9' : w9.heap[w.heap.size + 1]? = some (.cells #[.int .i64 (K : Int), .int .i64 (0), .int .i64 (val ((bs).take 2) : Int), .int .u64 ((0 : Nat) : Int), .bool (false), .slice sa7 z7 cap7] 25 (0, 0)) := hb9
          refine bodyPost_ret (results_cell_row rfl _ _ (w.heap.size + 1) 25 _ (0, 0) _ rfl hb9' Try.underlying25 rfl Try.sizeM) rfl ?_
          refine ⟨⟨K, 0, (val ((bs).take 2) : Int), 0, false, sa7, z7, cap7, _⟩, rfl, hE.out.symm, ⟨(hD.kept hs5 hk9 (by simp)).mono (by omega) (Nat.le_trans hs5 hk9.size), (show (0 : Nat) < 18446744073709551616 by decide), (show (-9223372036854775808 : Int) ≤ 0 by decide), (show (0 : Int) ≤ 9223372036854775807 by decide)⟩, hT.kept.young hk9 (by omega)⟩
        · have p1 : ¬ (K : Int) = 1 := by omega
          have p4 : ¬ (2 ≤ (K : Int) ∧ (K : Int) ≤ 5) := by omega
          have p8 : ¬ ((K : Int) = 2 ∨ (K : Int) = 6 ∨ (K : Int) = 7) := by omega
          rw [decide_eq_false p1] at qh1 qh2
          rw [decide_eq_false p4] at qh4
          rw [decide_eq_false p8] at qh8
          rw [if_neg p1, if_neg p4, if_neg p8] at hN
          have x1 : r1 K bs = bs := (if_neg p1)
          have x2 : r2 K bs = bs := (if_neg p4).trans (by rw [x1])
          have x3 : r3 K bs = bs := (if_neg p8).trans (by rw [x2])
          have xS : readS K bs = false := if_neg p1
          have xM : readM K bs = 0 := if_neg p1
          have xI : readI K bs = 0 := (if_neg p4)
          have xO : readO K bs = 0 := (if_neg p8)
          rw [xS, xM, xI, xO, x3] at hE
          clear x1 x2 x3 xS xM xI xO p1 p4 p8 h1 h2 h3 h6
          have hl3 : Hid ((bs).length ≤ 1000000) := by show _ ≤ _; omega
          replace hlen : Hid (bs.length ≤ 1000) := hlen
          replace hN : Hid _ := hN
          replace hn : Hid (needN K ≤ bs.length + 1) := hn
          obtain ⟨_, va, vc, rfl, _⟩ := id h
          unfold shV at *
          go_enter Try.func28, Try.ntmps28
          go_wp2_with (first
            | (go_at_call 18; refine q.mono ?_; rintro e w1 ⟨rfl, hk1⟩; have hT := t0.out w1 hk1; obtain ⟨c0, c1, c2, c3, c4, c5⟩ := hT.msg.six; obtain ⟨s0, s1, s2, s3, s4⟩ := hT.shp.five; clear q)
            | (go_at_call 19; refine (qh1 _).mono ?_; rintro e w2 ⟨rfl, hk2⟩; replace hT := hT.after hk2; obtain ⟨c0, c1, c2, c3, c4, c5⟩ := hT.msg.six; obtain ⟨s0, s1, s2, s3, s4⟩ := hT.shp.five; clear hk2 qh1)
            | (go_at_call 19; refine (qh2 _).mono ?_; rintro e w2 ⟨rfl, hk2⟩; replace hT := hT.after hk2; obtain ⟨c0, c1, c2, c3, c4, c5⟩ := hT.msg.six; obtain ⟨s0, s1, s2, s3, s4⟩ := hT.shp.five; clear hk2 qh2)
            | (go_at_call 19; refine (qh4 _).mono ?_; rintro e w2 ⟨rfl, hk2⟩; replace hT := hT.after hk2; obtain ⟨c0, c1, c2, c3, c4, c5⟩ := hT.msg.six; obtain ⟨s0, s1, s2, s3, s4⟩ := hT.shp.five; clear hk2 qh4)
            | (go_at_call 19; refine (qh8 _).mono ?_; rintro e w2 ⟨rfl, hk2⟩; replace hT := hT.after hk2; obtain ⟨c0, c1, c2, c3, c4, c5⟩ := hT.msg.six; obtain ⟨s0, s1, s2, s3, s4⟩ := hT.shp.five; clear hk2 qh8)
            | (at_builtin; refine wpList_append_nil rfl _ _ rfl rfl _ lo hi _ rfl hT.row hl3.out ?_; intro sa7 z7 cap7 w7 hB7 hk7; have hD := hB7.mono (Nat.succ_le_of_lt (Nat.lt_trans hT.ne hT.shp.lt)) (Nat.le_refl _); replace hT := hT.after hk7; obtain ⟨c0, c1, c2, c3, c4, c5⟩ := hT.msg.six; obtain ⟨s0, s1, s2, s3, s4⟩ := hT.shp.five; clear hk7 hB7)
            | (refine wpList_store_cell rfl 23 _ _ rfl w.heap.size 5 25 _ (.slice sa7 z7 cap7) rfl rfl hT.msg (by simp) Try.sizeB rfl ?_; intro w5 hb5 hk5; replace hT := hT.put (show MIn w5 w.heap.size K (0) 0 (0 : Nat) (false) (.slice sa7 z7 cap7) from hb5) hk5; obtain ⟨c0, c1, c2, c3, c4, c5⟩ := hT.msg.six; obtain ⟨s0, s1, s2, s3, s4⟩ := hT.shp.five; replace hD := hD.kept (Nat.le_refl _) hk5 (by simp; omega); have hs5 := hk5.size; clear hb5 hk5)
            | (refine wpList_store_blk rfl 25 _ _ rfl (w.heap.size + 1) 25 _ [.int .i64 (K : Int), .int .i64 (0), .int .i64 0, .int .u64 ((0 : Nat) : Int), .bool (false), .slice sa7 z7 cap7] rfl rfl hT.res rfl Try.sizeM (by simp [Value.oneCell']) ?_; intro w9 hb9 hk9 hz9))
          have hb9' : w9.heap[w.heap.size + 1]? = some (.cells #[.int .i64 (K : Int), .int .i64 (0), .int .i64 0, .int .u64 ((0 : Nat) : Int), .bool (false), .slice sa7 z7 cap7] 25 (0, 0)) := hb9
          refine bodyPost_ret (results_cell_row rfl _ _ (w.heap.size + 1) 25 _ (0, 0) _ rfl hb9' Try.underlying25 rfl Try.sizeM) rfl ?_
          refine ⟨⟨K, 0, 0, 0, false, sa7, z7, cap7, _⟩, rfl, hE.out.symm, ⟨(hD.kept hs5 hk9 (by simp)).mono (by omega) (Nat.le_trans hs5 hk9.size), (show (0 : Nat) < 18446744073709551616 by decide), (show (-9223372036854775808 : Int) ≤ 0 by decide), (show (0 : Int) ≤ 9223372036854775807 by decide)⟩, hT.kept.young hk9 (by omega)⟩
end Go.Proofs.Ytlbgpnodpbjkoaa.Pack
