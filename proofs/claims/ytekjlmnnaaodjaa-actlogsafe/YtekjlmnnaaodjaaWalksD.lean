/-
  The walks of the disk's functions that make, write and read it.
-/
import Derived.Test.YtekjlmnnaaodjaaWalksC
namespace Go.Proofs.Ytekjlmnnaaodjaa
open Go.RowKit Go.Maps Go.Shelf
open Math

theorem diskAt_made (n : Nat) (h1 : 1 ≤ n) (h2 : n ≤ 1024) (w : World) :
    DiskAt (((w.alloc (.map #[] 0)).alloc (.map #[] 0)).alloc (.cells #[.int .i64 (n : Int), .map (some w.heap.size), .map (some (w.heap.size + 1)), .int .i64 (-1), .bool false, .int .i64 0] 41)) (w.heap.size + 2) w.heap.size (w.heap.size + 1) (made n) := by
  have a1 := ((holds_made w).kept (kept_alloc [] _ (.map #[] 0)) (by simp)).kept (kept_alloc [] _ (.cells #[.int .i64 (n : Int), .map (some w.heap.size), .map (some (w.heap.size + 1)), .int .i64 (-1), .bool false, .int .i64 0] 41)) (by simp)
  have a2 := (holds_made (w.alloc (.map #[] 0))).kept (kept_alloc [] _ (.cells #[.int .i64 (n : Int), .map (some w.heap.size), .map (some (w.heap.size + 1)), .int .i64 (-1), .bool false, .int .i64 0] 41)) (by simp)
  rw [World.size_alloc] at a2
  refine ⟨?_, ⟨_, a1, fun _ => rfl⟩, a2, by omega, valid_made n h1 h2⟩
  have := heap_alloc_last ((w.alloc (.map #[] 0)).alloc (.map #[] 0)) (.cells #[.int .i64 (n : Int), .map (some w.heap.size), .map (some (w.heap.size + 1)), .int .i64 (-1), .bool false, .int .i64 0] 41)
  rw [World.size_alloc, World.size_alloc] at this
  exact this
set_option maxRecDepth 100000 in
/-- New, of a length that a disk has -/
theorem new_any (n : Nat) (h1 : 1 ≤ n) (h2 : n ≤ 1024) (w : World) :
    Calls Try.prog 5 #[.int .i64 (n : Int)] w fun e w' => e = .returned (.tuple #[.pointer (some ⟨w.heap.size + 2, 0, none⟩), .int .i64 0]) ∧ DiskAt w' (w.heap.size + 2) w.heap.size (w.heap.size + 1) (made n) ∧ Kept [] w w' := by
  have hmm := @run_makeMap Try.prog
  have k1 : ¬ ((n : Int) < 1) := by omega
  have k2 : ¬ ((1024 : Int) < (n : Int)) := by omega
  have hD := diskAt_made n h1 h2 w
  go_enter Try.func5, Try.ntmps5
  go_wp2
  all_goals first | omega | skip
  go_ret2
  exact ⟨rfl, hD, ((kept_alloc [] _ _).trans (kept_alloc [] _ _)).trans (kept_alloc [] _ _)⟩
set_option maxRecDepth 100000 in
/-- New, of any other one -/
theorem new_none (k : Int) (h : k < 1 ∨ 1024 < k) (w : World) :
    Calls Try.prog 5 #[.int .i64 k] w fun e w' => e = .returned (.tuple #[.pointer none, .int .i64 2]) ∧ w' = w := by
  go_enter Try.func5, Try.ntmps5
  go_wp2
  all_goals first | omega | (go_ret2; exact ⟨rfl, rfl⟩)

/-- A sector, byte by byte. -/
theorem sixteen (l : List Nat) (h : l.length = 16) : ∃ a b c d e f g i j k m n o p q r, l = [a, b, c, d, e, f, g, i, j, k, m, n, o, p, q, r] := by
  match l, h with
  | [a, b, c, d, e, f, g, i, j, k, m, n, o, p, q, r], _ => exact ⟨a, b, c, d, e, f, g, i, j, k, m, n, o, p, q, r, rfl⟩

/-- A sector of noughts, as the program writes it. -/
theorem z16 : arr nought = .agg #[.int .u8 0, .int .u8 0, .int .u8 0, .int .u8 0, .int .u8 0, .int .u8 0, .int .u8 0, .int .u8 0, .int .u8 0, .int .u8 0, .int .u8 0, .int .u8 0, .int .u8 0, .int .u8 0, .int .u8 0, .int .u8 0] := rfl
set_option maxRecDepth 100000 in
theorem eql_nought (x : List Nat) (hx : Sec x) (w : World) : (binOp .eql 56 (.agg (x.map enc).toArray) (.agg #[.int .u8 0, .int .u8 0, .int .u8 0, .int .u8 0, .int .u8 0, .int .u8 0, .int .u8 0, .int .u8 0, .int .u8 0, .int .u8 0, .int .u8 0, .int .u8 0, .int .u8 0, .int .u8 0, .int .u8 0, .int .u8 0])).run Try.prog w = .ok (.bool (decide (x = nought))) w := eqls_arr 56 16 Try.underlying56 x nought hx.1 rfl hx.2 (by decide) w
set_option maxRecDepth 100000 in
theorem guard_nought (op : BinOp) (a b : Operand) (x : List Nat) (w : World) : (eqGuard op 56 a b (.agg (x.map enc).toArray) (.agg #[.int .u8 0, .int .u8 0, .int .u8 0, .int .u8 0, .int .u8 0, .int .u8 0, .int .u8 0, .int .u8 0, .int .u8 0, .int .u8 0, .int .u8 0, .int .u8 0, .int .u8 0, .int .u8 0, .int .u8 0, .int .u8 0])).run Try.prog w = .ok () w := guard56 op a b x nought w

section
variable {ops : Array Oper} {rest : List Oper} {o : Oper} {a : Act} {w : World} {Q : Exit → Act → World → Prop}
set_option maxRecDepth 100000 in
/-- delete(m, k), at the operation -/
theorem wpList_delete_holds (hg : o.guard = none) (m x : Operand) (hop : o.op = Op.call { callee := Callee.builtin Builtin.delete, args := #[m, x], argTypes := #[39, 3] })
    (b : Nat) (mm : Int → Option (List Nat)) (k : Int) (hm : a.eval m = .map (some b)) (hx : a.eval x = .int .i64 k) (h : Holds w b mm) (h0 : -9223372036854775808 ≤ k) (h1 : k ≤ 9223372036854775807)
    (hK : ∀ w', Holds w' b (upd mm k none) → Kept [b] w w' → Hid (w'.heap.size = w.heap.size) → wpList Try.prog ops Q rest (a.put o.dst (.tuple #[])) w') :
    wpList Try.prog ops Q (o :: rest) a w := by
  refine wpList_plain hg fun K' hK' => ?_
  obtain ⟨w', hrun, r1, r2, r3⟩ := h.del h0 h1 o.type
  unfold Oper.wp
  simp [execOp, hop, resolve, invoke, builtin, hm, hx, hrun, Result.andThen]
  exact hK' _ _ (hK w' r1 r2 r3)
end
set_option maxRecDepth 100000 in
/-- An array's load, wherever. -/
theorem load_arr {W : World} {g : Nat} {t : TypeId} {l : List Nat} (h : Arr W g t l) (hl : l.length = 16) : (Instr.loadAt 56 (.pointer (some ⟨g, 0, none⟩))).run Try.prog W = .ok (.agg (l.map enc).toArray) W :=
  run_loadAt_mid W g 0 56 (l.map enc) _ h.range Try.underlying56 rfl (by rw [List.length_map, hl]; exact Try.size56)

theorem valid_settled {s : Dk} (h : Valid s) {k : Int} {x : List Nat} (h0 : 0 ≤ k) (h1 : k < s.size) (hx : Sec x) : Valid { s with safe := upd s.safe k x } := by
  refine ⟨h.pos, h.top, h.fresh, fun j => ?_, fun j hj => ?_, h.low, h.high⟩
  · by_cases e : j = k
    · subst e; simpa [upd_same] using hx
    · simpa [upd_other _ _ e] using h.safe j
  · have e : j ≠ k := by
      intro e
      subst e
      simp only [] at hj
      omega
    simpa [upd_other _ _ e] using h.out j hj
/-- What is durable there, put by or struck. -/
theorem DiskAt.settled {A B : World} {d b1 b2 : Nat} {s : Dk} (h : DiskAt A d b1 b2 s) {m m' : Int → Option (List Nat)} (hvw : ∀ k, (m k).getD nought = s.safe k) (hh : Holds B b1 m') (hk : Kept [b1] A B) {k : Int} {x : List Nat} (h0 : 0 ≤ k) (h1 : k < s.size) (hx : Sec x)
    (he : ∀ j, (m' j).getD nought = if j = k then x else (m j).getD nought) : DiskAt B d b1 b2 { s with safe := upd s.safe k x } := by
  have n1 := h.ne1
  have hap := h.apart
  refine ⟨(hk.block d h.lt.1 (by simpa using n1.symm)).trans h.cells, ⟨m', hh, fun j => ?_⟩, h.fresh.kept hk (by simpa using hap.symm), hap, valid_settled h.valid h0 h1 hx⟩
  rw [he j]
  by_cases e : j = k
  · subst e; simp [upd_same]
  · simpa [upd_other _ _ e, e] using hvw j

set_option maxRecDepth 100000 in
set_option maxHeartbeats 1000000 in
/-- settle, of noughts -/
theorem settle_nought (d b1 b2 : Nat) (s : Dk) (k : Int) (x : List Nat) (h0 : 0 ≤ k) (h1 : k < s.size) (hx : Sec x) (hz : x = nought) (w : World) (h : DiskAt w d b1 b2 s) :
    Calls Try.prog 29 #[.pointer (some ⟨d, 0, none⟩), .int .i64 k, arr x] w fun e w' => e = .returned (.tuple #[]) ∧ DiskAt w' d b1 b2 { s with safe := upd s.safe k x } ∧ Kept [b1] w w' := by
  have htop := h.valid.top
  have hA : Hid (DiskAt (w.alloc (.cells (x.map enc).toArray 56)) d b1 b2 s) := h.alloc (.cells (x.map enc).toArray 56)
  obtain ⟨m, hm, hvw⟩ := hA.out.safe
  have E : Hid (∀ W, Holds W b1 (upd m k none) → Kept [b1] (w.alloc (.cells (x.map enc).toArray 56)) W → DiskAt W d b1 b2 { s with safe := upd s.safe k x } ∧ Kept [b1] w W) := fun W hh hk =>
    ⟨hA.out.settled hvw hh hk h0 h1 hx (fun j => by
      by_cases e : j = k
      · subst e; simp [upd_same, hz]
      · simp [upd_other _ _ e, e]), (kept_alloc _ _ _).trans hk⟩
  have c1 := h.six.2.1
  have hlt := h.lt.1
  have hX : Hid (x.length = 16) := hx.1
  have heq := fun w => eql_nought x hx w
  rw [decide_eq_true hz] at heq
  have hgd := fun op a b w => guard_nought op a b x w
  have hB : Hid (∀ w : World, Arr (w.alloc (.cells (x.map enc).toArray 56)) w.heap.size 56 x) := fun w => arr_new w 56 x
  simp only [arr] at ⊢
  clear h hvw hz hx hA
  go_enter Try.func29, Try.ntmps29
  go_wp2_with (first
    | refine wpList_load_arr rfl 56 _ rfl _ 56 x rfl (hB.out w) 16 5 Try.underlying56 (by rw [hX.out]; exact Try.size56) ?_
    | (at_delete; refine wpList_delete_holds rfl _ _ rfl b1 m k rfl rfl hm (by omega) (by omega) ?_; intro w1 hh hk hsz))
  refine bodyPost_ret (results_none rfl _ _ _) rfl ?_
  exact ⟨rfl, E.out _ hh hk⟩

set_option maxRecDepth 100000 in
set_option maxHeartbeats 1000000 in
/-- settle, of others -/
theorem settle_some (d b1 b2 : Nat) (s : Dk) (k : Int) (x : List Nat) (h0 : 0 ≤ k) (h1 : k < s.size) (hx : Sec x) (hz : x ≠ nought) (w : World) (h : DiskAt w d b1 b2 s) :
    Calls Try.prog 29 #[.pointer (some ⟨d, 0, none⟩), .int .i64 k, arr x] w fun e w' => e = .returned (.tuple #[]) ∧ DiskAt w' d b1 b2 { s with safe := upd s.safe k x } ∧ Kept [b1] w w' := by
  have htop := h.valid.top
  have hA : Hid (DiskAt (w.alloc (.cells (x.map enc).toArray 56)).drew d b1 b2 s) := (h.alloc (.cells (x.map enc).toArray 56)).drew
  obtain ⟨m, hm, hvw⟩ := hA.out.safe
  obtain ⟨wp, hr2, hh2, hk2, hs2⟩ := hm.put h0 (by omega) x
  have E : Hid (DiskAt wp d b1 b2 { s with safe := upd s.safe k x } ∧ Kept [b1] w wp) :=
    ⟨hA.out.settled hvw hh2 hk2 h0 h1 hx (fun j => by
      by_cases e : j = k
      · subst e; simp [upd_same]
      · simp [upd_other _ _ e, e]), ((kept_alloc _ _ _).trans (kept_drew _ _)).trans hk2⟩
  have c1 := h.six.2.1
  have c1' := hA.out.six.2.1
  have hlt := h.lt.1
  have hX : Hid (x.length = 16) := hx.1
  have heq := fun w => eql_nought x hx w
  rw [decide_eq_false hz] at heq
  have hgd := fun op a b w => guard_nought op a b x w
  have hB : Hid (∀ w : World, Arr (w.alloc (.cells (x.map enc).toArray 56)) w.heap.size 56 x) := fun w => arr_new w 56 x
  have HR : Hid ((w.alloc (.cells (x.map enc).toArray 56)).drew.rangeAt w.heap.size 0 (x.map enc)) := (hB.out w).drew.range
  have HR2 : Hid (wp.rangeAt w.heap.size 0 (x.map enc) ∧ wp.cell? ⟨d, 1, none⟩ = some (.map (some b1))) := by
    have hb1 := hm.lt
    have hne : w.heap.size ≠ b1 := fun e => by
      obtain ⟨es, clock, hes⟩ := hm.isMap
      have := (hB.out w).drew
      unfold Arr at this
      rw [e, hes] at this
      cases this
    exact ⟨((hB.out w).drew.kept hk2 (by simpa using hne)).range, E.out.1.six.2.1⟩
  have hu := Try.underlying56
  have hi : (Try.prog.info? 56).map (·.size) = some (x.map enc).length := by rw [List.length_map, hX.out]; exact Try.size56
  simp only [arr] at hr2 ⊢
  clear h hvw hz hx hA hh2 hk2 hs2 hm
  generalize x.map enc = cs at *
  go_enter Try.func29, Try.ntmps29
  go_wp2_with (first
    | refine wpList_load_mid rfl 56 _ rfl w.heap.size 0 rfl cs _ (fun j v hv => by have := HR.out j v hv; exact this) hu rfl hi ?_)
  go_region_held3 (fun W => W.rangeAt w.heap.size 0 cs ∧ W.cell? ⟨d, 1, none⟩ = some (.map (some b1))) (first | exact ⟨HR.out, c1'⟩ | exact HR2.out) (fail)
  all_goals
    go_wp2
    go_end0
    exact ⟨rfl, E.out⟩
set_option maxRecDepth 100000 in
/-- settle -/
theorem settle_any (d b1 b2 : Nat) (s : Dk) (k : Int) (x : List Nat) (h0 : 0 ≤ k) (h1 : k < s.size) (hx : Sec x) (w : World) (h : DiskAt w d b1 b2 s) :
    Calls Try.prog 29 #[.pointer (some ⟨d, 0, none⟩), .int .i64 k, arr x] w fun e w' => e = .returned (.tuple #[]) ∧ DiskAt w' d b1 b2 { s with safe := upd s.safe k x } ∧ Kept [b1] w w' := by
  by_cases hz : x = nought
  · exact settle_nought d b1 b2 s k x h0 h1 hx hz w h
  · exact settle_some d b1 b2 s k x h0 h1 hx hz w h

/-- What is cached, put by. -/
theorem DiskAt.laid {A B : World} {d b1 b2 : Nat} {s : Dk} (h : DiskAt A d b1 b2 s) {k : Int} {x : List Nat} (hh : Holds B b2 (upd s.fresh k (some x))) (hk : Kept [b2] A B) (h0 : 0 ≤ k) (h1 : k < s.size) (hx : Sec x) : DiskAt B d b1 b2 (laid s k x) := by
  have n2 := h.ne2
  have hap := h.apart
  obtain ⟨m, hm, hv⟩ := h.safe
  exact ⟨(hk.block d h.lt.1 (by simpa using n2.symm)).trans h.cells, ⟨m, hm.kept hk (by simpa using hap), hv⟩, hh, hap, valid_laid h.valid h0 h1 hx⟩

set_option maxRecDepth 100000 in
set_option maxHeartbeats 1000000 in
/-- Write, that is done -/
theorem write_done (d b1 b2 : Nat) (s : Dk) (k : Int) (x : List Nat) (hx : Sec x) (hops : s.ops ≤ 1000000) (w : World) (h : DiskAt w d b1 b2 s) (hi : inside s k = true) (hn : worn s = false) :
    Calls Try.prog 24 #[.pointer (some ⟨d, 0, none⟩), .int .i64 k, arr x] w fun e w' => e = .returned (.int .i64 0) ∧ DiskAt w' d b1 b2 (laid (done s) k x) ∧ Kept [d, b1, b2] w w' := by
  have htop := h.valid.top
  have hk0 : 0 ≤ k ∧ k < (s.size : Int) := by simpa [inside] using hi
  have hA := h.alloc (.cells (x.map enc).toArray 56)
  have q1 := find_any d b1 b2 s k (w.alloc (.cells (x.map enc).toArray 56)) hA
  have q2 := operate_any d b1 b2 s (w.alloc (.cells (x.map enc).toArray 56)) hops hA
  rw [hi, if_pos rfl] at q1
  rw [hn] at q2
  have hB : Arr (w.alloc (.cells (x.map enc).toArray 56)) w.heap.size 56 x := arr_new w 56 x
  have hlt := h.lt
  have hX : Hid (x.length = 16) := hx.1
  have hu := Try.underlying56
  have hsz : (Try.prog.info? 56).map (·.size) = some (x.map enc).length := by rw [List.length_map, hX.out]; exact Try.size56
  simp only [arr] at ⊢
  go_enter Try.func24, Try.ntmps24
  go_wp2_with (first
    | (go_at_call 34; refine q1.mono ?_; rintro e w' ⟨rfl, rfl⟩)
    | (go_at_call 35; refine q2.mono ?_; rintro e w1 ⟨rfl, hD, hk, hs1⟩; replace hs1 : Hid _ := hs1))
  simp only [Bool.false_eq_true, if_false] at hD
  have hB1 := hB.kept hk (by simp; omega)
  obtain ⟨wp, hr2, hh2, hk2, hs2⟩ := hD.drew.fresh.put (k := k) hk0.1 (by omega) x
  have c1 := hD.drew.six.2.2.1
  have hfin : Hid (DiskAt wp d b1 b2 (laid (done s) k x) ∧ Kept [d, b1, b2] w wp) :=
    ⟨hD.drew.laid hh2 hk2 hk0.1 hk0.2 hx, (((kept_alloc _ _ _).trans (hk.mono (by simp))).trans (kept_drew _ _)).trans (hk2.mono (by simp))⟩
  have HR : Hid (w1.drew.rangeAt w.heap.size 0 (x.map enc)) := hB1.drew.range
  have HR2 : Hid (wp.rangeAt w.heap.size 0 (x.map enc) ∧ wp.cell? ⟨d, 2, none⟩ = some (.map (some b2))) :=
    ⟨(hB1.drew.kept hk2 (by simp; omega)).range, hfin.out.1.six.2.2.1⟩
  simp only [arr] at hr2
  clear h hA q1 q2 hB hB1 hD hk hh2 hk2 hs2
  generalize x.map enc = cs at *
  go_region_held3 (fun W => W.rangeAt w.heap.size 0 cs ∧ W.cell? ⟨d, 2, none⟩ = some (.map (some b2))) (first | exact ⟨HR.out, c1⟩ | exact HR2.out) (fail)
  all_goals
    go_wp2
    go_ret
    exact ⟨rfl, hfin.out⟩
set_option maxRecDepth 100000 in
/-- Write -/
theorem write_any (d b1 b2 : Nat) (s : Dk) (k : Int) (x : List Nat) (hx : Sec x) (hops : s.ops ≤ 1000000) (w : World) (h : DiskAt w d b1 b2 s) :
    Calls Try.prog 24 #[.pointer (some ⟨d, 0, none⟩), .int .i64 k, arr x] w fun e w' => e = .returned (.int .i64 (wroteE s k : Nat)) ∧ DiskAt w' d b1 b2 (wroteS s k x) ∧ Kept [d, b1, b2] w w' := by
  unfold wroteE wroteS
  by_cases hi : inside s k = true
  · rw [if_pos hi, if_pos hi]
    by_cases hn : worn s = true
    · rw [if_pos hn, if_pos hn]
      have hA := h.alloc (.cells (x.map enc).toArray 56)
      have q1 := find_any d b1 b2 s k (w.alloc (.cells (x.map enc).toArray 56)) hA
      have q2 := operate_any d b1 b2 s (w.alloc (.cells (x.map enc).toArray 56)) hops hA
      rw [hi, if_pos rfl] at q1
      rw [hn, if_pos rfl] at q2
      simp only [arr] at ⊢
      clear hA
      go_enter Try.func24, Try.ntmps24
      go_wp2_with (first
        | (go_at_call 34; refine q1.mono ?_; rintro e w' ⟨rfl, rfl⟩)
        | (go_at_call 35; refine q2.mono ?_; rintro e w1 ⟨rfl, hD, hk, hs1⟩; replace hs1 : Hid _ := hs1))
      go_ret
      exact ⟨rfl, hD, (kept_alloc _ _ _).trans (hk.mono (by simp))⟩
    · rw [if_neg hn, if_neg hn]
      exact write_done d b1 b2 s k x hx hops w h hi (by simpa using hn)
  · rw [if_neg hi, if_neg hi]
    have hA := h.alloc (.cells (x.map enc).toArray 56)
    have q1 := find_any d b1 b2 s k (w.alloc (.cells (x.map enc).toArray 56)) hA
    rw [if_neg hi] at q1
    simp only [arr] at ⊢
    go_enter Try.func24, Try.ntmps24
    go_wp2_with (first
      | (go_at_call 34; refine q1.mono ?_; rintro e w' ⟨rfl, rfl⟩))
    go_ret
    exact ⟨rfl, hA, kept_alloc _ _ _⟩
end Go.Proofs.Ytekjlmnnaaodjaa
