/-
 Texts of ours, joined: WalksC, WalksD, WalksE, WalksF, WalksG, WalksH, WalksL.
-/
import Derived.Test.YtoaeficfmcncjaaGreatM9
import Derived.Test.YtoaeficfmcncjaaGreatM10
/-
 maps.Keys, slices.Sorted and maps.Clone at a map of sectors; the walks of the disk's small functions.
-/
namespace Go.Proofs.YtoaeficfmcncjaaGreat
open Go.RowKit Go.Maps Go.Sort Go.Shelf
open Math
section
set_option maxRecDepth 100000
theorem Tryz.sortsL (m : Nat) : AnyZI.SortsIn Tryz.prog Tryz.sortedL_ren Fence.wide m :=
 ⟨fun blk off cap ss W hH hblk hsz => callsIn_wide.2 (AnyM.slices_Sort_int Tryz.sortL blk off cap ss W hH hblk hsz),
   fun p cap W => callsIn_wide.2 (AnyM.slices_Sort_int_none Tryz.sortL p cap W)⟩
theorem keys_any (mb : Option Nat) (W : World) : Calls Tryz.prog 76 #[.map mb] W fun e w' => e = .returned (.func (.func 139) #[] #[.pointer (some ⟨W.heap.size, 0, none⟩)]) ∧ w' = W.alloc (.cells #[.map mb] 109) :=
 (callsIn_wide (n := 5)).1 (AnyZI.keys_in Tryz.keysL Fence.wide 5 trivial rfl mb W)
set_option maxHeartbeats 1000000 in
theorem sorted_any (b : Nat) (m : Int → Option (List Nat)) (N : Nat) (w : World) (hm : Holds w b m) (hN : ∀ k, m k ≠ none → 0 ≤ k ∧ k < N) :
  Calls Tryz.prog 75 #[.func (.func 139) #[] #[.pointer (some ⟨w.heap.size, 0, none⟩)]] (w.alloc (.cells #[.map (some b)] 109)) fun e w' => ∃ v : Value, e = .returned v ∧
   w'.ownsRow w.heap.size 3 1 v (below m N).length ((below m N).map fun i : Nat => Value.int .i64 (i : Int)) ∧ Below (w.heap.size + 1) (w.alloc (.cells #[.map (some b)] 109)) w' := by
 obtain ⟨h0, nn, D0, hown, hD⟩ := hm
 obtain ⟨hs, hown⟩ := Holds.few h0 hown (fun k => (hD k).1)
 have hbl := hown.lt
 have hseq : SeqGives Fence.wide 2 Tryz.prog 139 #[.pointer (some ⟨w.heap.size, 0, none⟩)] encZ (fun ss => ss.Perm (intKeys D0)) (Maps.size D0) (w.alloc (.cells #[.map (some b)] 109)) :=
  AnyZI.keys_gives (ρ := Tryz.keysL_ren) { Tryz.keysL with } Fence.wide _ trivial rfl (by omega) w.heap.size b _ D0 _ (by simp) (by simp) (by
   obtain ⟨es, clock, hb, Ft, hs, hD⟩ := hown
   exact ⟨es, clock, (Below.heap_alloc _ _ b hbl).trans hb, Ft, hs, hD⟩)
 have cS := AnyZI.sorted_in Tryz.sortedL Fence.wide 5 trivial trivial trivial trivial rfl (by omega) (Tryz.sortsL _) (enters_of Tryz.func138 (by kernel_rfl) rfl) 139 #[.pointer (some ⟨w.heap.size, 0, none⟩)] trivial (enters_of Tryz.func139 (by kernel_rfl) rfl) _ _ (by unfold maxLen; omega) (by omega) _ hseq
 change CallsIn _ _ Tryz.prog 75 _ _ _ at cS
 refine ((callsIn_wide (n := 5)).1 cS).mono ?_
 rintro e w' ⟨v, ss, rfl, hS, hrow, hnil, hB⟩
 have es := Holds.sorted N hN hown (fun k => (hD k).1) ss hS
 have el : ss.length = (below m N).length := by
  have := congrArg List.length es
  simpa using this
 rw [es, el, List.map_map] at hrow
 refine ⟨v, rfl, ?_, by simpa using hB⟩
 exact ownsRow_base_a hrow (by simp)
end
theorem DiskAt.six {W : World} {d b1 b2 : Nat} {s : Dk} (h : DiskAt W d b1 b2 s) : W.cell? ⟨d, 0, none⟩ = some (.int .i64 (s.size : Int)) ∧ W.cell? ⟨d, 1, none⟩ = some (.map (some b1)) ∧ W.cell? ⟨d, 2, none⟩ = some (.map (some b2)) ∧
  W.cell? ⟨d, 3, none⟩ = some (.int .i64 s.fuse) ∧ W.cell? ⟨d, 4, none⟩ = some (.bool s.broken) ∧ W.cell? ⟨d, 5, none⟩ = some (.int .i64 (s.ops : Int)) := ⟨h.cell 0, h.cell 1, h.cell 2, h.cell 3, h.cell 4, h.cell 5⟩
section
set_option maxRecDepth 100000
theorem made_any (d b1 b2 : Nat) (s : Dk) (w : World) (h : DiskAt w d b1 b2 s) :
  Calls Tryz.prog 42 #[.pointer (some ⟨d, 0, none⟩)] w fun e w' => e = .returned (.bool true) ∧ w' = w := by
 have c0 := h.six.1
 have hp := h.valid.pos
 go_enter Tryz.func42, Tryz.ntmps42
 go_wp2
 go_ret
 exact ⟨by simp; omega, rfl⟩
theorem size_any (d b1 b2 : Nat) (s : Dk) (w : World) (h : DiskAt w d b1 b2 s) :
  Calls Tryz.prog 122 #[.pointer (some ⟨d, 0, none⟩)] w fun e w' => e = .returned (.int .i64 (s.size : Int)) ∧ w' = w := by
 have c0 := h.six.1
 have q := made_any d b1 b2 s w h
 go_enter Tryz.func122, Tryz.ntmps122
 go_wp2_with (go_at_call 42; refine q.mono ?_; rintro e w ⟨rfl, rfl⟩)
 go_ret
 exact ⟨rfl, rfl⟩
theorem broken_any (d b1 b2 : Nat) (s : Dk) (w : World) (h : DiskAt w d b1 b2 s) :
  Calls Tryz.prog 15 #[.pointer (some ⟨d, 0, none⟩)] w fun e w' => e = .returned (.bool s.broken) ∧ w' = w := by
 have c0 := h.six.2.2.2.2.1
 have q := made_any d b1 b2 s w h
 go_enter Tryz.func15, Tryz.ntmps15
 go_wp2_with (go_at_call 42; refine q.mono ?_; rintro e w ⟨rfl, rfl⟩)
 go_ret
 exact ⟨rfl, rfl⟩
theorem find_any (d b1 b2 : Nat) (s : Dk) (k : Int) (w : World) (h : DiskAt w d b1 b2 s) :
  Calls Tryz.prog 151 #[.pointer (some ⟨d, 0, none⟩), .int .i64 k] w fun e w' => e = .returned (.int .i64 (if inside s k then 0 else 13)) ∧ w' = w := by
 have c0 := h.six.1
 have q := made_any d b1 b2 s w h
 by_cases h0 : k < 0
 ·have hi : inside s k = false := by simp [inside]; omega
  rw [hi]
  go_enter Tryz.func151, Tryz.ntmps151
  go_wp2_with (go_at_call 42; refine q.mono ?_; rintro e w ⟨rfl, rfl⟩)
  all_goals first | omega | (go_ret; exact ⟨rfl, rfl⟩)
 ·by_cases h1 : k < s.size
  ·have hi : inside s k = true := by simp [inside]; omega
   rw [hi]
   have h2 : ¬ ((s.size : Int) ≤ k) := by omega
   go_enter Tryz.func151, Tryz.ntmps151
   go_wp2_with (go_at_call 42; refine q.mono ?_; rintro e w ⟨rfl, rfl⟩)
   all_goals first | omega | (go_ret; exact ⟨rfl, rfl⟩)
  ·have hi : inside s k = false := by simp [inside]; omega
   rw [hi]
   have h2 : (s.size : Int) ≤ k := by omega
   go_enter Tryz.func151, Tryz.ntmps151
   go_wp2_with (go_at_call 42; refine q.mono ?_; rintro e w ⟨rfl, rfl⟩)
   all_goals first | omega | (go_ret; exact ⟨rfl, rfl⟩)
set_option maxHeartbeats 400000 in
theorem operate_any (d b1 b2 : Nat) (s : Dk) (w : World) (hops : s.ops ≤ 1000000000000000) (h : DiskAt w d b1 b2 s) :
  Calls Tryz.prog 195 #[.pointer (some ⟨d, 0, none⟩)] w fun e w' => e = .returned (.bool (!worn s)) ∧ DiskAt w' d b1 b2 (if worn s then burnt s else done s) ∧ Kept [d] w w' ∧ w'.heap.size = w.heap.size := by
 obtain ⟨-, -, -, c3, c4, c5⟩ := h.six
 have f3 := h.frozen 3
 have f4 := h.frozen 4
 have f5 := h.frozen 5
 have hlo := h.valid.low
 have hhi := h.valid.high
 by_cases hb : s.broken = true
 ·have hw : worn s = true := by simp [worn, hb]
  rw [hw]
  rw [hb] at c4
  have hD : DiskAt (w.setCell ⟨d, 4, none⟩ (.bool true)) d b1 b2 (burnt s) := h.setBroken true
  go_enter Tryz.func195, Tryz.ntmps195
  go_wp2
  go_ret
  exact ⟨rfl, hD, kept_set (by simp) _ _ _, by simp [World.setCell]⟩
 ·replace hb : s.broken = false := by simpa using hb
  rw [hb] at c4
  by_cases hz : s.fuse = 0
  ·have hw : worn s = true := by simp [worn, hz]
   rw [hw]
   rw [hz] at c3
   have hD : DiskAt (w.setCell ⟨d, 4, none⟩ (.bool true)) d b1 b2 (burnt s) := h.setBroken true
   go_enter Tryz.func195, Tryz.ntmps195
   go_wp2
   go_ret
   exact ⟨rfl, hD, kept_set (by simp) _ _ _, by simp [World.setCell]⟩
  ·have hw : worn s = false := by simp [worn, hz, hb]
   rw [hw]
   have hD : DiskAt (w.setCell ⟨d, 4, none⟩ (.bool false)) d b1 b2 { s with broken := false } := h.setBroken false
   have hz2 : (s.fuse == 0) = false := by simpa using hz
   by_cases hp : 0 < s.fuse
   ·have hdn : done s = { s with broken := false, fuse := s.fuse - 1, ops := s.ops + 1 } := by simp [done, hp, hb]
    have hD2 := (hD.setFuse (k := s.fuse - 1) (by omega) (by omega)).setOps (s.ops + 1)
    rw [hdn]
    go_enter Tryz.func195, Tryz.ntmps195
    go_wp2
    all_goals first | omega | skip
    go_ret
    refine ⟨rfl, ?_, ?_, ?_⟩
    ·simpa using hD2
    ·exact ((kept_set (by simp) _ _ _).trans (kept_set (by simp) _ _ _)).trans (kept_set (by simp) _ _ _)
    ·simp [World.setCell]
   ·have hdn : done s = { s with broken := false, ops := s.ops + 1 } := by simp [done, hp, hb]
    have hD2 := hD.setOps (s.ops + 1)
    rw [hdn]
    go_enter Tryz.func195, Tryz.ntmps195
    go_wp2
    all_goals first | omega | skip
    go_ret
    refine ⟨rfl, ?_, ?_, ?_⟩
    ·simpa using hD2
    ·exact (kept_set (by simp) _ _ _).trans (kept_set (by simp) _ _ _)
    ·simp [World.setCell]
end
end Go.Proofs.YtoaeficfmcncjaaGreat
namespace Go.Proofs.YtoaeficfmcncjaaGreat
open Go.RowKit Go.Maps Go.Shelf
open Math
theorem diskAt_made (n : Nat) (h1 : 1 ≤ n) (h2 : n ≤ 1024) (w : World) :
  DiskAt (((w.alloc (.map #[] 0)).alloc (.map #[] 0)).alloc (.cells #[.int .i64 (n : Int), .map (some w.heap.size), .map (some (w.heap.size + 1)), .int .i64 (-1), .bool false, .int .i64 0] 111)) (w.heap.size + 2) w.heap.size (w.heap.size + 1) (made n) := by
 have a1 := ((holds_made w).kept (kept_alloc [] _ (.map #[] 0)) (by simp)).kept (kept_alloc [] _ (.cells #[.int .i64 (n : Int), .map (some w.heap.size), .map (some (w.heap.size + 1)), .int .i64 (-1), .bool false, .int .i64 0] 111)) (by simp)
 have a2 := (holds_made (w.alloc (.map #[] 0))).kept (kept_alloc [] _ (.cells #[.int .i64 (n : Int), .map (some w.heap.size), .map (some (w.heap.size + 1)), .int .i64 (-1), .bool false, .int .i64 0] 111)) (by simp)
 rw [World.size_alloc] at a2
 refine ⟨?_, ⟨_, a1, fun _ => rfl⟩, a2, by omega, valid_made n h1 h2⟩
 have := heap_alloc_last ((w.alloc (.map #[] 0)).alloc (.map #[] 0)) (.cells #[.int .i64 (n : Int), .map (some w.heap.size), .map (some (w.heap.size + 1)), .int .i64 (-1), .bool false, .int .i64 0] 111)
 rw [World.size_alloc, World.size_alloc] at this
 exact this
section
set_option maxRecDepth 100000
theorem new_any (n : Nat) (h1 : 1 ≤ n) (h2 : n ≤ 1024) (w : World) :
  Calls Tryz.prog 8 #[.int .i64 (n : Int)] w fun e w' => e = .returned (.tuple #[.pointer (some ⟨w.heap.size + 2, 0, none⟩), .int .i64 0]) ∧ DiskAt w' (w.heap.size + 2) w.heap.size (w.heap.size + 1) (made n) ∧ Kept [] w w' := by
 have hmm := @run_makeMap Tryz.prog
 have k1 : ¬ ((n : Int) < 1) := by omega
 have k2 : ¬ ((1024 : Int) < (n : Int)) := by omega
 have hD := diskAt_made n h1 h2 w
 go_enter Tryz.func8, Tryz.ntmps8
 go_wp2
 all_goals first | omega | skip
 go_ret2
 exact ⟨rfl, hD, ((kept_alloc [] _ _).trans (kept_alloc [] _ _)).trans (kept_alloc [] _ _)⟩
theorem eql_nought (x : List Nat) (hx : Sec x) (w : World) : (binOp .eql 113 (.agg (x.map enc).toArray) (.agg #[.int .u8 0, .int .u8 0, .int .u8 0, .int .u8 0, .int .u8 0, .int .u8 0, .int .u8 0, .int .u8 0, .int .u8 0, .int .u8 0, .int .u8 0, .int .u8 0, .int .u8 0, .int .u8 0, .int .u8 0, .int .u8 0])).run Tryz.prog w = .ok (.bool (decide (x = nought))) w := eqls_arr 113 16 Tryz.underlying113 x nought hx.1 rfl hx.2 (by decide) w
theorem guard_nought (op : BinOp) (a b : Operand) (x : List Nat) (w : World) : (eqGuard op 113 a b (.agg (x.map enc).toArray) (.agg #[.int .u8 0, .int .u8 0, .int .u8 0, .int .u8 0, .int .u8 0, .int .u8 0, .int .u8 0, .int .u8 0, .int .u8 0, .int .u8 0, .int .u8 0, .int .u8 0, .int .u8 0, .int .u8 0, .int .u8 0, .int .u8 0])).run Tryz.prog w = .ok () w := guard113 op a b x nought w
end
section
variable {ops : Array Oper} {rest : List Oper} {o : Oper} {a : Act} {w : World} {Q : Exit → Act → World → Prop}
set_option maxRecDepth 100000 in
theorem wpList_delete_holds (hg : o.guard = none) (m x : Operand) (hop : o.op = Op.call { callee := Callee.builtin Builtin.delete, args := #[m, x], argTypes := #[109, 3] })
  (b : Nat) (mm : Int → Option (List Nat)) (k : Int) (hm : a.eval m = .map (some b)) (hx : a.eval x = .int .i64 k) (h : Holds w b mm) (h0 : -9223372036854775808 ≤ k) (h1 : k ≤ 9223372036854775807)
  (hK : ∀ w', Holds w' b (upd mm k none) → Kept [b] w w' → Hid (w'.heap.size = w.heap.size) → wpList Tryz.prog ops Q rest (a.put o.dst (.tuple #[])) w') :
  wpList Tryz.prog ops Q (o :: rest) a w := by
 refine wpList_plain hg fun K' hK' => ?_
 obtain ⟨w', hrun, r1, r2, r3⟩ := h.del h0 h1 o.type
 unfold Oper.wp
 simp [execOp, hop, resolve, invoke, builtin, hm, hx, hrun, Result.andThen]
 exact hK' _ _ (hK w' r1 r2 r3)
end
set_option maxRecDepth 100000 in
theorem load_arr {W : World} {g : Nat} {t : TypeId} {l : List Nat} (h : Arr W g t l) (hl : l.length = 16) : (Instr.loadAt 113 (.pointer (some ⟨g, 0, none⟩))).run Tryz.prog W = .ok (.agg (l.map enc).toArray) W :=
 run_loadAt_mid W g 0 113 (l.map enc) _ h.range Tryz.underlying113 rfl (by rw [List.length_map, hl]; exact Tryz.size113)
theorem valid_settled {s : Dk} (h : Valid s) {k : Int} {x : List Nat} (h0 : 0 ≤ k) (h1 : k < s.size) (hx : Sec x) : Valid { s with safe := upd s.safe k x } := by
 refine ⟨h.pos, h.top, h.fresh, fun j => ?_, fun j hj => ?_, h.low, h.high⟩
 ·by_cases e : j = k
  ·subst e; simpa [upd_same] using hx
  ·simpa [upd_other _ _ e] using h.safe j
 ·have e : j ≠ k := by
   intro e
   subst e
   simp only [] at hj
   omega
  simpa [upd_other _ _ e] using h.out j hj
theorem DiskAt.settled {A B : World} {d b1 b2 : Nat} {s : Dk} (h : DiskAt A d b1 b2 s) {m m' : Int → Option (List Nat)} (hvw : ∀ k, (m k).getD nought = s.safe k) (hh : Holds B b1 m') (hk : Kept [b1] A B) {k : Int} {x : List Nat} (h0 : 0 ≤ k) (h1 : k < s.size) (hx : Sec x)
  (he : ∀ j, (m' j).getD nought = if j = k then x else (m j).getD nought) : DiskAt B d b1 b2 { s with safe := upd s.safe k x } := by
 have n1 := h.ne1
 have hap := h.apart
 refine ⟨(hk.block d h.lt.1 (by simpa using n1.symm)).trans h.cells, ⟨m', hh, fun j => ?_⟩, h.fresh.kept hk (by simpa using hap.symm), hap, valid_settled h.valid h0 h1 hx⟩
 rw [he j]
 by_cases e : j = k
 ·subst e; simp [upd_same]
 ·simpa [upd_other _ _ e, e] using hvw j
section
set_option maxRecDepth 100000
set_option maxHeartbeats 1000000 in
theorem settle_nought (d b1 b2 : Nat) (s : Dk) (k : Int) (x : List Nat) (h0 : 0 ≤ k) (h1 : k < s.size) (hx : Sec x) (hz : x = nought) (w : World) (h : DiskAt w d b1 b2 s) :
  Calls Tryz.prog 233 #[.pointer (some ⟨d, 0, none⟩), .int .i64 k, arr x] w fun e w' => e = .returned (.tuple #[]) ∧ DiskAt w' d b1 b2 { s with safe := upd s.safe k x } ∧ Kept [b1] w w' := by
 have htop := h.valid.top
 have hA : Hid (DiskAt (w.alloc (.cells (x.map enc).toArray 113)) d b1 b2 s) := h.alloc (.cells (x.map enc).toArray 113)
 obtain ⟨m, hm, hvw⟩ := hA.out.safe
 have E : Hid (∀ W, Holds W b1 (upd m k none) → Kept [b1] (w.alloc (.cells (x.map enc).toArray 113)) W → DiskAt W d b1 b2 { s with safe := upd s.safe k x } ∧ Kept [b1] w W) := fun W hh hk =>
  ⟨hA.out.settled hvw hh hk h0 h1 hx (fun j => by
   by_cases e : j = k
   ·subst e; simp [upd_same, hz]
   ·simp [upd_other _ _ e, e]), (kept_alloc _ _ _).trans hk⟩
 have c1 := h.six.2.1
 have hlt := h.lt.1
 have hX : Hid (x.length = 16) := hx.1
 have heq := fun w => eql_nought x hx w
 rw [decide_eq_true hz] at heq
 have hgd := fun op a b w => guard_nought op a b x w
 have hB : Hid (∀ w : World, Arr (w.alloc (.cells (x.map enc).toArray 113)) w.heap.size 113 x) := fun w => arr_new w 113 x
 simp only [arr] at ⊢
 clear h hvw hz hx hA
 go_enter Tryz.func233, Tryz.ntmps233
 go_wp2_with (first
  | refine wpList_load_arr rfl 113 _ rfl _ 113 x rfl (hB.out w) 16 5 Tryz.underlying113 (by rw [hX.out]; exact Tryz.size113) ?_
  | (at_delete; refine wpList_delete_holds rfl _ _ rfl b1 m k rfl rfl hm (by omega) (by omega) ?_; intro w1 hh hk hsz))
 refine bodyPost_ret (results_none rfl _ _ _) rfl ?_
 exact ⟨rfl, E.out _ hh hk⟩
set_option maxHeartbeats 1000000 in
theorem settle_some (d b1 b2 : Nat) (s : Dk) (k : Int) (x : List Nat) (h0 : 0 ≤ k) (h1 : k < s.size) (hx : Sec x) (hz : x ≠ nought) (w : World) (h : DiskAt w d b1 b2 s) :
  Calls Tryz.prog 233 #[.pointer (some ⟨d, 0, none⟩), .int .i64 k, arr x] w fun e w' => e = .returned (.tuple #[]) ∧ DiskAt w' d b1 b2 { s with safe := upd s.safe k x } ∧ Kept [b1] w w' := by
 have htop := h.valid.top
 have hA : Hid (DiskAt (w.alloc (.cells (x.map enc).toArray 113)).drew d b1 b2 s) := (h.alloc (.cells (x.map enc).toArray 113)).drew
 obtain ⟨m, hm, hvw⟩ := hA.out.safe
 obtain ⟨wp, hr2, hh2, hk2, hs2⟩ := hm.put h0 (by omega) x
 have E : Hid (DiskAt wp d b1 b2 { s with safe := upd s.safe k x } ∧ Kept [b1] w wp) :=
  ⟨hA.out.settled hvw hh2 hk2 h0 h1 hx (fun j => by
   by_cases e : j = k
   ·subst e; simp [upd_same]
   ·simp [upd_other _ _ e, e]), ((kept_alloc _ _ _).trans (kept_drew _ _)).trans hk2⟩
 have c1 := h.six.2.1
 have c1' := hA.out.six.2.1
 have hlt := h.lt.1
 have hX : Hid (x.length = 16) := hx.1
 have heq := fun w => eql_nought x hx w
 rw [decide_eq_false hz] at heq
 have hgd := fun op a b w => guard_nought op a b x w
 have hB : Hid (∀ w : World, Arr (w.alloc (.cells (x.map enc).toArray 113)) w.heap.size 113 x) := fun w => arr_new w 113 x
 have HR : Hid ((w.alloc (.cells (x.map enc).toArray 113)).drew.rangeAt w.heap.size 0 (x.map enc)) := (hB.out w).drew.range
 have HR2 : Hid (wp.rangeAt w.heap.size 0 (x.map enc) ∧ wp.cell? ⟨d, 1, none⟩ = some (.map (some b1))) := by
  have hb1 := hm.lt
  have hne : w.heap.size ≠ b1 := fun e => by
   obtain ⟨es, clock, hes⟩ := hm.isMap
   have := (hB.out w).drew
   unfold Arr at this
   rw [e, hes] at this
   cases this
  exact ⟨((hB.out w).drew.kept hk2 (by simpa using hne)).range, E.out.1.six.2.1⟩
 have hu := Tryz.underlying113
 have hi : (Tryz.prog.info? 113).map (·.size) = some (x.map enc).length := by rw [List.length_map, hX.out]; exact Tryz.size113
 simp only [arr] at hr2 ⊢
 clear h hvw hz hx hA hh2 hk2 hs2 hm
 generalize x.map enc = cs at *
 go_enter Tryz.func233, Tryz.ntmps233
 go_wp2_with (first
  | refine wpList_load_mid rfl 113 _ rfl w.heap.size 0 rfl cs _ (fun j v hv => by have := HR.out j v hv; exact this) hu rfl hi ?_)
 go_region_held3 (fun W => W.rangeAt w.heap.size 0 cs ∧ W.cell? ⟨d, 1, none⟩ = some (.map (some b1))) (first | exact ⟨HR.out, c1'⟩ | exact HR2.out) (fail)
 all_goals
  go_wp2
  go_end0
  exact ⟨rfl, E.out⟩
theorem settle_any (d b1 b2 : Nat) (s : Dk) (k : Int) (x : List Nat) (h0 : 0 ≤ k) (h1 : k < s.size) (hx : Sec x) (w : World) (h : DiskAt w d b1 b2 s) :
  Calls Tryz.prog 233 #[.pointer (some ⟨d, 0, none⟩), .int .i64 k, arr x] w fun e w' => e = .returned (.tuple #[]) ∧ DiskAt w' d b1 b2 { s with safe := upd s.safe k x } ∧ Kept [b1] w w' := by
 by_cases hz : x = nought
 ·exact settle_nought d b1 b2 s k x h0 h1 hx hz w h
 ·exact settle_some d b1 b2 s k x h0 h1 hx hz w h
end
theorem DiskAt.laid {A B : World} {d b1 b2 : Nat} {s : Dk} (h : DiskAt A d b1 b2 s) {k : Int} {x : List Nat} (hh : Holds B b2 (upd s.fresh k (some x))) (hk : Kept [b2] A B) (h0 : 0 ≤ k) (h1 : k < s.size) (hx : Sec x) : DiskAt B d b1 b2 (laid s k x) := by
 have n2 := h.ne2
 have hap := h.apart
 obtain ⟨m, hm, hv⟩ := h.safe
 exact ⟨(hk.block d h.lt.1 (by simpa using n2.symm)).trans h.cells, ⟨m, hm.kept hk (by simpa using hap), hv⟩, hh, hap, valid_laid h.valid h0 h1 hx⟩
set_option maxRecDepth 100000 in
set_option maxHeartbeats 1000000 in
theorem write_done (d b1 b2 : Nat) (s : Dk) (k : Int) (x : List Nat) (hx : Sec x) (hops : s.ops ≤ 1000000000000000) (w : World) (h : DiskAt w d b1 b2 s) (hi : inside s k = true) (hn : worn s = false) :
  Calls Tryz.prog 194 #[.pointer (some ⟨d, 0, none⟩), .int .i64 k, arr x] w fun e w' => e = .returned (.int .i64 0) ∧ DiskAt w' d b1 b2 (laid (done s) k x) ∧ Kept [d, b1, b2] w w' := by
 have htop := h.valid.top
 have hk0 : 0 ≤ k ∧ k < (s.size : Int) := by simpa [inside] using hi
 have hA := h.alloc (.cells (x.map enc).toArray 113)
 have q1 := find_any d b1 b2 s k (w.alloc (.cells (x.map enc).toArray 113)) hA
 have q2 := operate_any d b1 b2 s (w.alloc (.cells (x.map enc).toArray 113)) hops hA
 rw [hi, if_pos rfl] at q1
 rw [hn] at q2
 have hB : Arr (w.alloc (.cells (x.map enc).toArray 113)) w.heap.size 113 x := arr_new w 113 x
 have hlt := h.lt
 have hX : Hid (x.length = 16) := hx.1
 have hu := Tryz.underlying113
 have hsz : (Tryz.prog.info? 113).map (·.size) = some (x.map enc).length := by rw [List.length_map, hX.out]; exact Tryz.size113
 simp only [arr] at ⊢
 go_enter Tryz.func194, Tryz.ntmps194
 go_wp2_with (first
  | (go_at_call 151; refine q1.mono ?_; rintro e w' ⟨rfl, rfl⟩)
  | (go_at_call 195; refine q2.mono ?_; rintro e w1 ⟨rfl, hD, hk, hs1⟩; replace hs1 : Hid _ := hs1))
 simp only [Bool.false_eq_true, if_false] at hD
 have hB1 := hB.kept hk (by simp; omega)
 obtain ⟨wp, hr2, hh2, hk2, hs2⟩ := hD.drew.fresh.put (k := k) hk0.1 (by omega) x
 have c1 := hD.drew.six.2.2.1
 have hfin : Hid (DiskAt wp d b1 b2 (laid (done s) k x) ∧ Kept [d, b1, b2] w wp) :=
  ⟨hD.drew.laid hh2 hk2 hk0.1 hk0.2 hx, (((kept_alloc _ _ _).trans (hk.mono (by simp))).trans (kept_drew _ _)).trans (hk2.mono (by simp))⟩
 have HR : Hid (w1.drew.rangeAt w.heap.size 0 (x.map enc)) := hB1.drew.range
 have HR2 : Hid (wp.rangeAt w.heap.size 0 (x.map enc) ∧ wp.cell? ⟨d, 2, none⟩ = some (.map (some b2))) :=
  ⟨(hB1.drew.kept hk2 (by simp; omega)).range, hfin.out.1.six.2.2.1⟩
 simp only [arr] at hr2
 clear h hA q1 q2 hB hB1 hD hk hh2 hk2 hs2
 generalize x.map enc = cs at *
 go_region_held3 (fun W => W.rangeAt w.heap.size 0 cs ∧ W.cell? ⟨d, 2, none⟩ = some (.map (some b2))) (first | exact ⟨HR.out, c1⟩ | exact HR2.out) (fail)
 all_goals
  go_wp2
  go_ret
  exact ⟨rfl, hfin.out⟩
set_option maxRecDepth 100000 in
theorem write_any (d b1 b2 : Nat) (s : Dk) (k : Int) (x : List Nat) (hx : Sec x) (hops : s.ops ≤ 1000000000000000) (w : World) (h : DiskAt w d b1 b2 s) :
  Calls Tryz.prog 194 #[.pointer (some ⟨d, 0, none⟩), .int .i64 k, arr x] w fun e w' => e = .returned (.int .i64 (wroteE s k : Nat)) ∧ DiskAt w' d b1 b2 (wroteS s k x) ∧ Kept [d, b1, b2] w w' := by
 unfold wroteE wroteS
 by_cases hi : inside s k = true
 ·rw [if_pos hi, if_pos hi]
  by_cases hn : worn s = true
  ·rw [if_pos hn, if_pos hn]
   have hA := h.alloc (.cells (x.map enc).toArray 113)
   have q1 := find_any d b1 b2 s k (w.alloc (.cells (x.map enc).toArray 113)) hA
   have q2 := operate_any d b1 b2 s (w.alloc (.cells (x.map enc).toArray 113)) hops hA
   rw [hi, if_pos rfl] at q1
   rw [hn, if_pos rfl] at q2
   simp only [arr] at ⊢
   clear hA
   go_enter Tryz.func194, Tryz.ntmps194
   go_wp2_with (first
    | (go_at_call 151; refine q1.mono ?_; rintro e w' ⟨rfl, rfl⟩)
    | (go_at_call 195; refine q2.mono ?_; rintro e w1 ⟨rfl, hD, hk, hs1⟩; replace hs1 : Hid _ := hs1))
   go_ret
   exact ⟨rfl, hD, (kept_alloc _ _ _).trans (hk.mono (by simp))⟩
  ·rw [if_neg hn, if_neg hn]
   exact write_done d b1 b2 s k x hx hops w h hi (by simpa using hn)
 ·rw [if_neg hi, if_neg hi]
  have hA := h.alloc (.cells (x.map enc).toArray 113)
  have q1 := find_any d b1 b2 s k (w.alloc (.cells (x.map enc).toArray 113)) hA
  rw [if_neg hi] at q1
  simp only [arr] at ⊢
  go_enter Tryz.func194, Tryz.ntmps194
  go_wp2_with (first
   | (go_at_call 151; refine q1.mono ?_; rintro e w' ⟨rfl, rfl⟩))
  go_ret
  exact ⟨rfl, hA, kept_alloc _ _ _⟩
end Go.Proofs.YtoaeficfmcncjaaGreat
namespace Go.Proofs.YtoaeficfmcncjaaGreat
open Go.RowKit Go.Maps Go.Shelf
open Math
section
set_option maxRecDepth 100000
theorem results_arr {fn : Func} {p u : Tmp} (h : fn.results = #[.cell p 113, .tmp u]) (tmps : Array Value) (w : World) (g : Nat) (l : List Nat) (v : Value)
  (hp : tmps.getD p undef = .pointer (some ⟨g, 0, none⟩)) (hv : tmps.getD u undef = v) (hA : Arr w g 113 l) (hl : l.length = 16) : (results fn tmps).run Tryz.prog w = .ok (.tuple #[arr l, v]) w := by
 have hp' : tmps[p]?.getD undef = .pointer (some ⟨g, 0, none⟩) := by simpa using hp
 have hv' : tmps[u]?.getD undef = v := by simpa using hv
 have := run_loadVar_row (P := Tryz.prog) w g 113 113 (l.map enc).toArray (0, 0) _ hA Tryz.underlying113 rfl (by rw [List.size_toArray, List.length_map, hl]; exact Tryz.size113)
 simp [results, h, hp', hv', asAddr, this, arr]
set_option maxHeartbeats 400000 in
theorem read_some (d b1 b2 : Nat) (s : Dk) (k : Int) (h0 : -9223372036854775808 ≤ k) (h1 : k ≤ 9223372036854775807) (w : World) (h : DiskAt w d b1 b2 s) (hi : inside s k = true) (hb : s.broken = false) :
  Calls Tryz.prog 88 #[.pointer (some ⟨d, 0, none⟩), .int .i64 k] w fun e w' => e = .returned (.tuple #[arr ((s.fresh k).getD (s.safe k)), .int .i64 0]) ∧ Kept [] w w' := by
 have hA := h.alloc (.cells #[.int .u8 0, .int .u8 0, .int .u8 0, .int .u8 0, .int .u8 0, .int .u8 0, .int .u8 0, .int .u8 0, .int .u8 0, .int .u8 0, .int .u8 0, .int .u8 0, .int .u8 0, .int .u8 0, .int .u8 0, .int .u8 0] 113)
 have hA2 := hA.alloc (.cells #[.int .u8 0, .int .u8 0, .int .u8 0, .int .u8 0, .int .u8 0, .int .u8 0, .int .u8 0, .int .u8 0, .int .u8 0, .int .u8 0, .int .u8 0, .int .u8 0, .int .u8 0, .int .u8 0, .int .u8 0, .int .u8 0] 113)
 have q := find_any d b1 b2 s k _ hA
 rw [if_pos hi] at q
 obtain ⟨-, e1, e2, -, e4, -⟩ := h.six
 obtain ⟨-, c1, c2, -, c4, -⟩ := hA.six
 rw [hb] at c4 e4
 have hlt := h.lt.1
 obtain ⟨-, c1', -, -, -, -⟩ := hA2.six
 have hx := h.valid.safe k
 have hy : ∀ x, s.fresh k = some x → Sec x := fun x e => (h.valid.fresh k x e).2.2
 obtain ⟨m, hm, hv⟩ := hA.safe
 have hl2 := (hA.fresh.look h0 h1).2
 have hN : Arr (w.alloc (.cells #[.int .u8 0, .int .u8 0, .int .u8 0, .int .u8 0, .int .u8 0, .int .u8 0, .int .u8 0, .int .u8 0, .int .u8 0, .int .u8 0, .int .u8 0, .int .u8 0, .int .u8 0, .int .u8 0, .int .u8 0, .int .u8 0] 113)) w.heap.size 113 nought := arr_new w 113 nought
 have hN2 : Arr ((w.alloc (.cells #[.int .u8 0, .int .u8 0, .int .u8 0, .int .u8 0, .int .u8 0, .int .u8 0, .int .u8 0, .int .u8 0, .int .u8 0, .int .u8 0, .int .u8 0, .int .u8 0, .int .u8 0, .int .u8 0, .int .u8 0, .int .u8 0] 113)).alloc (.cells #[.int .u8 0, .int .u8 0, .int .u8 0, .int .u8 0, .int .u8 0, .int .u8 0, .int .u8 0, .int .u8 0, .int .u8 0, .int .u8 0, .int .u8 0, .int .u8 0, .int .u8 0, .int .u8 0, .int .u8 0, .int .u8 0] 113)) (w.heap.size + 1) 113 nought := by
  have := arr_new (w.alloc (.cells #[.int .u8 0, .int .u8 0, .int .u8 0, .int .u8 0, .int .u8 0, .int .u8 0, .int .u8 0, .int .u8 0, .int .u8 0, .int .u8 0, .int .u8 0, .int .u8 0, .int .u8 0, .int .u8 0, .int .u8 0, .int .u8 0] 113)) 113 nought
  rwa [World.size_alloc] at this
 have hvk := hv k
 have hNN : Arr ((w.alloc (.cells #[.int .u8 0, .int .u8 0, .int .u8 0, .int .u8 0, .int .u8 0, .int .u8 0, .int .u8 0, .int .u8 0, .int .u8 0, .int .u8 0, .int .u8 0, .int .u8 0, .int .u8 0, .int .u8 0, .int .u8 0, .int .u8 0] 113)).alloc (.cells #[.int .u8 0, .int .u8 0, .int .u8 0, .int .u8 0, .int .u8 0, .int .u8 0, .int .u8 0, .int .u8 0, .int .u8 0, .int .u8 0, .int .u8 0, .int .u8 0, .int .u8 0, .int .u8 0, .int .u8 0, .int .u8 0] 113)) w.heap.size 113 nought := hN.alloc _
 cases hf : s.fresh k with
 | some x =>
  replace hy := hy x hf
  rw [hf] at hl2
  simp only [Option.getD_some, Option.isSome_some, arr] at hl2 ⊢
  go_enter Tryz.func88, Tryz.ntmps88
  go_wp2_with (first
   | (go_at_call 151; refine q.mono ?_; rintro e w' ⟨rfl, rfl⟩)
   | (refine wpList_store_arr rfl 113 _ _ rfl (w.heap.size + 1) 113 _ x rfl rfl hN2 hy.1 (by rw [hy.1]; exact Tryz.size113) ?_; intro w2 hB2 hk2 hz2; replace hz2 : Hid _ := hz2; replace hNN := hNN.kept hk2 (by simp))
   | (refine wpList_load_arr rfl 113 _ rfl _ 113 x rfl hB2 16 5 Tryz.underlying113 (by rw [hy.1]; exact Tryz.size113) ?_)
   | (refine wpList_store_arr rfl 113 _ _ rfl w.heap.size 113 _ x rfl rfl hNN hy.1 (by rw [hy.1]; exact Tryz.size113) ?_; intro w3 hB3 hk3 hz3; replace hz3 : Hid _ := hz3))
  refine bodyPost_ret (results_arr rfl _ _ w.heap.size x (.int .i64 0) rfl rfl hB3 hy.1) rfl ⟨rfl, ?_⟩
  exact (((kept_alloc _ _ _).trans (kept_alloc _ _ _)).young hk2 (Nat.le_succ _)).young hk3 (Nat.le_refl _)
 | none =>
  rw [hf] at hl2
  simp only [Option.getD_none, Option.isSome_none, arr] at hl2 ⊢
  generalize s.safe k = x at *
  go_enter Tryz.func88, Tryz.ntmps88
  go_wp2_with (first
   | (go_at_call 151; refine q.mono ?_; rintro e w' ⟨rfl, rfl⟩)
   | (refine wpList_store_arr rfl 113 _ _ rfl (w.heap.size + 1) 113 _ nought rfl rfl hN2 rfl Tryz.size113 ?_; intro w2 hB2 hk2 hz2; replace hz2 : Hid _ := hz2; replace hNN := hNN.kept hk2 (by simp); have c1w := (hA2.kept hk2 (by simp; omega) (by simp; have := h.lt; omega) (by simp; have := h.lt; omega)).six.2.1; have hlw := (((hm.kept (kept_alloc [] _ _) (by simp)).kept hk2 (by simp; have := h.lt; omega)).look h0 h1).1; rw [hvk] at hlw; simp only [arr] at hlw)
   | (refine wpList_store_arr rfl 113 _ _ rfl w.heap.size 113 _ x rfl rfl hNN hx.1 (by rw [hx.1]; exact Tryz.size113) ?_; intro w3 hB3 hk3 hz3; replace hz3 : Hid _ := hz3))
  refine bodyPost_ret (results_arr rfl _ _ w.heap.size x (.int .i64 0) rfl rfl hB3 hx.1) rfl ⟨rfl, ?_⟩
  exact (((kept_alloc _ _ _).trans (kept_alloc _ _ _)).young hk2 (Nat.le_succ _)).young hk3 (Nat.le_refl _)
theorem read_any (d b1 b2 : Nat) (s : Dk) (k : Int) (h0 : -9223372036854775808 ≤ k) (h1 : k ≤ 9223372036854775807) (w : World) (h : DiskAt w d b1 b2 s) :
  Calls Tryz.prog 88 #[.pointer (some ⟨d, 0, none⟩), .int .i64 k] w fun e w' => e = .returned (.tuple #[arr (readL s k), .int .i64 (readE s k : Nat)]) ∧ Kept [] w w' := by
 have hA := h.alloc (.cells #[.int .u8 0, .int .u8 0, .int .u8 0, .int .u8 0, .int .u8 0, .int .u8 0, .int .u8 0, .int .u8 0, .int .u8 0, .int .u8 0, .int .u8 0, .int .u8 0, .int .u8 0, .int .u8 0, .int .u8 0, .int .u8 0] 113)
 have q := find_any d b1 b2 s k _ hA
 have c4 := hA.six.2.2.2.2.1
 have e4 := h.six.2.2.2.2.1
 have hlt := h.lt.1
 have hN : Arr (w.alloc (.cells #[.int .u8 0, .int .u8 0, .int .u8 0, .int .u8 0, .int .u8 0, .int .u8 0, .int .u8 0, .int .u8 0, .int .u8 0, .int .u8 0, .int .u8 0, .int .u8 0, .int .u8 0, .int .u8 0, .int .u8 0, .int .u8 0] 113)) w.heap.size 113 nought := arr_new w 113 nought
 unfold readL readE
 by_cases hi : inside s k = true
 ·rw [if_pos hi, if_pos hi]
  rw [if_pos hi] at q
  by_cases hb : s.broken = true
  ·rw [if_pos hb, if_pos hb]
   rw [hb] at c4 e4
   go_enter Tryz.func88, Tryz.ntmps88
   go_wp2_with (first
    | (go_at_call 151; refine q.mono ?_; rintro e w' ⟨rfl, rfl⟩)
    | (refine wpList_store_arr rfl 113 _ _ rfl w.heap.size 113 _ nought rfl rfl hN rfl Tryz.size113 ?_; intro w3 hB3 hk3 hz3; replace hz3 : Hid _ := hz3))
   refine bodyPost_ret (results_arr rfl _ _ w.heap.size nought (.int .i64 3) rfl rfl hB3 rfl) rfl ⟨rfl, ?_⟩
   exact (kept_alloc _ _ _).young hk3 (Nat.le_refl _)
  ·rw [if_neg hb, if_neg hb]
   exact read_some d b1 b2 s k h0 h1 w h hi (by simpa using hb)
 ·rw [if_neg hi, if_neg hi]
  rw [if_neg hi] at q
  go_enter Tryz.func88, Tryz.ntmps88
  go_wp2_with (first
   | (go_at_call 151; refine q.mono ?_; rintro e w' ⟨rfl, rfl⟩)
   | (refine wpList_store_arr rfl 113 _ _ rfl w.heap.size 113 _ nought rfl rfl hN rfl Tryz.size113 ?_; intro w3 hB3 hk3 hz3; replace hz3 : Hid _ := hz3))
  refine bodyPost_ret (results_arr rfl _ _ w.heap.size nought (.int .i64 13) rfl rfl hB3 rfl) rfl ⟨rfl, ?_⟩
  exact (kept_alloc _ _ _).young hk3 (Nat.le_refl _)
end
end Go.Proofs.YtoaeficfmcncjaaGreat
namespace Go.Proofs.YtoaeficfmcncjaaGreat
open Go.RowKit Go.Maps Go.Shelf
open Math
def Nums (W : World) (base : Nat) (v : Value) (l : List Nat) : Prop := W.ownsRow base 3 1 v l.length (l.map fun i : Nat => Value.int .i64 (i : Int))
theorem valid_keys {s : Dk} (h : Valid s) : ∀ k, s.fresh k ≠ none → 0 ≤ k ∧ k < s.size := fun k hk => by
 obtain ⟨x, hx⟩ := Option.ne_none_iff_exists'.1 hk
 have := h.fresh k x hx
 exact ⟨this.1, this.2.1⟩
set_option maxRecDepth 100000 in
set_option maxHeartbeats 400000 in
theorem cached_any (d b1 b2 : Nat) (s : Dk) (w : World) (h : DiskAt w d b1 b2 s) :
  Calls Tryz.prog 33 #[.pointer (some ⟨d, 0, none⟩)] w fun e w' => ∃ v, e = .returned v ∧ Nums w' w.heap.size v (keys s) ∧ Kept [] w w' := by
 have q := made_any d b1 b2 s w h
 have c2 := h.six.2.2.1
 have qk := keys_any (some b2) w
 have qs := sorted_any b2 s.fresh s.size w h.fresh (valid_keys h.valid)
 go_enter Tryz.func33, Tryz.ntmps33
 go_wp2_with (first
  | (go_at_call 42; refine q.mono ?_; rintro e w' ⟨rfl, rfl⟩)
  | (go_at_call 76; refine qk.mono ?_; rintro e w' ⟨rfl, rfl⟩)
  | (go_at_call 75; refine qs.mono ?_; rintro e w' ⟨v, rfl, hrow, hB⟩))
 go_ret
 exact ⟨v, rfl, hrow, (kept_alloc _ _ _).trans (Kept.of_below (by simpa using hB) [])⟩
theorem Nums.open {W : World} {base : Nat} {v : Value} {l : List Nat} (h : Nums W base v l) : (v = .slice none 0 0 ∧ l = []) ∨ ∃ g cap, v = .slice (some ⟨g, 0, none⟩) l.length cap ∧ base ≤ g ∧ g < W.heap.size ∧ l.length ≤ cap ∧ ∀ j k : Nat, l[j]? = some k → W.cell? ⟨g, j, none⟩ = some (.int .i64 (k : Int)) := by
 obtain ⟨hl, ⟨e, h0⟩ | ⟨g, cap, cur, e, hg, hc, hcap, _, hcs, ht⟩⟩ := h
 ·exact .inl ⟨e, List.eq_nil_of_length_eq_zero h0⟩
 ·refine .inr ⟨g, cap, e, hg, (Array.getElem?_eq_some_iff.1 hc).1, hcap, fun j k hj => ?_⟩
  rw [cell_of_row W g j _ 3 (0, 0) hc]
  have hjl : j < l.length := (List.getElem?_eq_some_iff.1 hj).1
  have : (cur.toList.take (l.length * 1))[j]? = some (.int .i64 (k : Int)) := by
   rw [ht, List.getElem?_map, hj]
   rfl
  rw [List.getElem?_take_of_lt (by omega)] at this
  simpa using this
theorem mask_bit (mask j : Nat) (hm : mask < 18446744073709551616) : bits BinOp.and IntKind.u64 ((mask : Int) / 2 ^ (j % 64)) 1 = if bit mask j then 1 else 0 := by
 have hd : mask / 2 ^ (j % 64) < 18446744073709551616 := Nat.lt_of_le_of_lt (Nat.div_le_self _ _) hm
 have e : ((mask : Int) / 2 ^ (j % 64)) = ((mask / 2 ^ (j % 64) : Nat) : Int) := by
  rw [Int.natCast_ediv, Int.natCast_pow]
  rfl
 rw [e]
 have := u64_and_nat (mask / 2 ^ (j % 64)) 1 hd (by omega)
 rw [Nat.and_one_is_mod] at this
 refine Eq.trans this ?_
 unfold bit
 by_cases hb : mask / 2 ^ (j % 64) % 2 = 1
 ·rw [if_pos (decide_eq_true hb), hb]
  rfl
 ·rw [if_neg (by simpa using hb), show mask / 2 ^ (j % 64) % 2 = 0 by omega]
  rfl
theorem DiskAt.struck {A B : World} {d b1 b2 : Nat} {s : Dk} (h : DiskAt A d b1 b2 s) {k : Int} (hh : Holds B b2 (upd s.fresh k none)) (hk : Kept [b2] A B) : DiskAt B d b1 b2 { s with fresh := upd s.fresh k none } := by
 have n2 := h.ne2
 have hap := h.apart
 obtain ⟨m, hm, hv⟩ := h.safe
 refine ⟨(hk.block d h.lt.1 (by simpa using n2.symm)).trans h.cells, ⟨m, hm.kept hk (by simpa using hap), hv⟩, hh, hap, h.valid.pos, h.valid.top, fun j x hx => ?_, h.valid.safe, h.valid.out, h.valid.low, h.valid.high⟩
 by_cases e : j = k
 ·subst e
  simp [upd_same] at hx
 ·simp only [upd_other _ _ e] at hx
  exact h.valid.fresh j x hx
set_option maxRecDepth 100000 in
set_option maxHeartbeats 1000000 in
theorem empty_any (d b1 b2 : Nat) (s : Dk) (mask : Nat) (hmask : mask < 18446744073709551616) (w : World) (h : DiskAt w d b1 b2 s) :
  Calls Tryz.prog 196 #[.pointer (some ⟨d, 0, none⟩), .int .u64 (mask : Int)] w fun e w' => e = .returned (.tuple #[]) ∧ DiskAt w' d b1 b2 (spent s mask) ∧ Kept [d, b1, b2] w w' := by
 have q := cached_any d b1 b2 s w h
 have hlt := h.lt
 have hv := h.valid
 have hlen : (keys s).length ≤ 1024 := Nat.le_trans (below_length _ _) hv.top
 go_enter Tryz.func196, Tryz.ntmps196
 go_wp2_with (go_at_call 33; refine q.mono ?_; rintro e w1 ⟨v, rfl, hn, hk⟩; rcases hn.open with ⟨rfl, hnil⟩ | ⟨g, cap, rfl, hg, hg2, hcap, hcells⟩)
 ·rw [hnil] at hlen
  go_loopw [9] (fun i wr => i = .int .i64 0 ∧ wr = w1) (fun _ _ => 0)
  case atStart => exact ⟨rfl, rfl⟩
  case round =>
   obtain ⟨rfl, rfl⟩ := hrel
   go_wp2
   go_end0
   have e := part_end hv mask
   rw [hnil] at e
   rw [← e, List.length_nil, part_start]
   exact ⟨rfl, h.kept hk (by simp) (by simp) (by simp), hk.mono (by simp)⟩
 ·have hD := h.kept hk (by simp) (by simp) (by simp)
  obtain ⟨n, hn0⟩ : ∃ n, (keys s).length = n := ⟨_, rfl⟩
  rw [hn0] at hlen hcap ⊢
  have HN : Hid ((keys s).length = n) := hn0
  clear hn0
  go_loopw [9] (fun i wr => ∃ j : Nat, j ≤ n ∧ i = .int .i64 j ∧ DiskAt wr d b1 b2 (Math.part s mask j) ∧ Kept [d, b1, b2] w1 wr) (fun i _ => n - (RowKit.intOf i).toNat)
  case atStart => exact ⟨0, by omega, rfl, by rw [part_start]; exact hD, Kept.refl _ _⟩
  case round =>
   obtain ⟨j, hj, rfl, hP, hK⟩ := hrel
   by_cases hlt' : j < n
   ·obtain ⟨k, hkj⟩ : ∃ k, (keys s)[j]? = some k := ⟨_, List.getElem?_eq_getElem (by rw [HN.out]; exact hlt')⟩
    obtain ⟨x, hx, hsx, hfx, hks, hst⟩ := part_step hv mask j k hkj
    have hc := hcells j k hkj
    have hc' : wr.cell? ⟨g, j, none⟩ = some (.int .i64 (k : Int)) := by
     have := hK.block g hg2 (by simp; omega)
     rw [World.cell?_of_block (w := w1) (w' := wr) this]
     exact hc
    have k1 : (j : Int) < (n : Int) := by omega
    have c2 := hP.six.2.2.1
    have hlk := (hP.fresh.look (k := (k : Int)) (by omega) (by have := hv.top; omega)).1
    rw [hfx] at hlk
    simp only [Option.getD_some] at hlk
    have hb1 := mask_bit mask j hmask
    have htop := hv.top
    have hm1 : Hid (n - (j + 1) < n - j) := by show _ < _; omega
    by_cases hb : bit mask j = true
    ·rw [if_pos hb] at hb1
     rw [if_pos hb] at hst
     replace hst : Hid _ := hst
     have qs := settle_any d b1 b2 (Math.part s mask j) k x (by omega) (by exact_mod_cast hks) hsx wr hP
     clear h hD hn hcells hc q
     go_wp2_with (first
      | (go_at_call 233; refine qs.mono ?_; rintro e w2 ⟨rfl, hD2, hk2⟩; have c2' := hD2.six.2.2.1)
      | (at_delete; refine wpList_delete_holds rfl _ _ rfl b2 _ (k : Int) rfl rfl hD2.fresh (by omega) (by omega) ?_; intro w3 hh3 hk3 hs3))
     go_roundw
     case rel =>
      refine ⟨j + 1, by omega, rfl, ?_, (hK.trans (hk2.mono (by simp))).trans (hk3.mono (by simp))⟩
      rw [hst.out]
      exact hD2.struck hh3 hk3
     case measure => simpa [RowKit.intOf] using hm1.out
    ·replace hb : bit mask j = false := by simpa using hb
     rw [if_neg (by simp [hb])] at hb1 hst
     replace hst : Hid _ := hst
     clear h hD hn hcells hc q
     go_wp2_with (first
      | (at_delete; refine wpList_delete_holds rfl _ _ rfl b2 _ (k : Int) rfl rfl hP.fresh (by omega) (by omega) ?_; intro w3 hh3 hk3 hs3))
     go_roundw
     case rel =>
      refine ⟨j + 1, by omega, rfl, ?_, hK.trans (hk3.mono (by simp))⟩
      rw [hst.out]
      exact hP.struck hh3 hk3
     case measure => simpa [RowKit.intOf] using hm1.out
   ·obtain rfl : j = n := by omega
    have e := part_end hv mask
    rw [HN.out] at e
    rw [e] at hP
    clear h hD hn hcells q
    go_wp2
    go_end0
    exact ⟨rfl, hP, (hk.mono (by simp)).trans hK⟩
set_option maxRecDepth 100000 in
theorem flush_any (d b1 b2 : Nat) (s : Dk) (hops : s.ops ≤ 1000000000000000) (w : World) (h : DiskAt w d b1 b2 s) :
  Calls Tryz.prog 134 #[.pointer (some ⟨d, 0, none⟩)] w fun e w' => e = .returned (.int .i64 (flushE s : Nat)) ∧ DiskAt w' d b1 b2 (flushS s) ∧ Kept [d, b1, b2] w w' := by
 have q1 := made_any d b1 b2 s w h
 have q2 := operate_any d b1 b2 s w hops h
 unfold flushE flushS
 by_cases hn : worn s = true
 ·rw [if_pos hn, if_pos hn]
  rw [hn, if_pos rfl] at q2
  go_enter Tryz.func134, Tryz.ntmps134
  go_wp2_with (first
   | (go_at_call 42; refine q1.mono ?_; rintro e w' ⟨rfl, rfl⟩)
   | (go_at_call 195; refine q2.mono ?_; rintro e w1 ⟨rfl, hD, hk, hs1⟩; replace hs1 : Hid _ := hs1))
  go_ret
  exact ⟨rfl, hD, hk.mono (by simp)⟩
 ·rw [if_neg hn, if_neg hn]
  replace hn : worn s = false := by simpa using hn
  rw [hn] at q2
  simp only [Bool.false_eq_true, if_false] at q2
  go_enter Tryz.func134, Tryz.ntmps134
  go_wp2_with (first
   | (go_at_call 42; refine q1.mono ?_; rintro e w' ⟨rfl, rfl⟩)
   | (go_at_call 195; refine q2.mono ?_; rintro e w1 ⟨rfl, hD, hk, hs1⟩; replace hs1 : Hid _ := hs1)
   | (go_at_call 196; refine (empty_any d b1 b2 (done s) full (by decide) w1 hD).mono ?_; rintro e w2 ⟨rfl, hD2, hk2⟩))
  go_ret
  exact ⟨rfl, hD2, (hk.mono (by simp)).trans hk2⟩
def Blk (W : World) (g : Nat) (t : TypeId) (cs : Array Value) : Prop := W.heap[g]? = some (.cells cs t (0, 0))
theorem Blk.lt {W : World} {g : Nat} {t : TypeId} {cs : Array Value} (h : Blk W g t cs) : g < W.heap.size := (Array.getElem?_eq_some_iff.1 h).1
theorem Blk.cell {W : World} {g : Nat} {t : TypeId} {cs : Array Value} (h : Blk W g t cs) (j : Nat) : W.cell? ⟨g, j, none⟩ = cs[j]? := cell_of_row W g j _ t (0, 0) h
theorem Blk.frozen {W : World} {g : Nat} {t : TypeId} {cs : Array Value} (h : Blk W g t cs) (j : Nat) : W.frozen? ⟨g, j, none⟩ = false := by
 unfold Blk at h
 simp [World.frozen?, h]
theorem Blk.kept {L : List Nat} {A B : World} {g : Nat} {t : TypeId} {cs : Array Value} (h : Blk A g t cs) (hK : Kept L A B) (hg : g ∉ L) : Blk B g t cs := (hK.block g h.lt hg).trans h
theorem Blk.set {W : World} {g : Nat} {t : TypeId} {cs : Array Value} (h : Blk W g t cs) (j : Nat) (u : Value) : Blk (W.setCell ⟨g, j, none⟩ u) g t (cs.setIfInBounds j u) := by
 unfold Blk at *
 rw [setCell_eq_setRow W g j _ t (0, 0) _ h, setRow_heap W g _ _ t _ h]
theorem blk_new (w : World) (t : TypeId) (cs : Array Value) : Blk (w.alloc (.cells cs t)) w.heap.size t cs := heap_alloc_last w _
section
variable {ops : Array Oper} {rest : List Oper} {o : Oper} {a : Act} {w : World} {Q : Exit → Act → World → Prop}
set_option maxRecDepth 100000 in
theorem wpList_store_blk (hgd : o.guard = none) (ty : TypeId) (x y : Operand) (ho : o.op = .store ty x y) (g : Nat) (t : TypeId) (c0 : Array Value) (cs : List Value)
  (hx : a.eval x = .pointer (some ⟨g, 0, none⟩)) (hy : a.eval y = .agg cs.toArray) (h0 : Blk w g t c0) (hl : cs.length = c0.size) (hi : (Tryz.prog.info? ty).map (·.size) = some cs.length) (h1 : ∀ v ∈ cs, v.oneCell' = true)
  (h : ∀ w', Blk w' g t cs.toArray → Kept [g] w w' → Hid (w'.heap.size = w.heap.size) → wpList Tryz.prog ops Q rest (a.put o.dst undef) w') : wpList Tryz.prog ops Q (o :: rest) a w := by
 refine wpList_store_mid hgd ty x y ho g 0 cs.toArray hx hy ?_ (by simpa using hi) (all_oneCell_toArray h1) ?_
 ·intro j hj
  rw [Nat.zero_add]
  refine ⟨?_, h0.frozen j⟩
  rw [h0.cell]
  simp at hj
  simp [show j < c0.size by omega]
 ·have e : w.setCells g 0 cs = w.setRow g cs.toArray := setCells_row h0 hl h1
  refine h _ ?_ ?_ ?_
  ·simp only [] at *
   rw [e]
   exact setRow_heap w g _ _ t _ h0
  ·simp only [] at *
   rw [e]
   exact ⟨rfl, rfl, rfl, by simp [World.setRow], fun k _ hk => setRow_other w g k _ (by simpa using hk)⟩
  ·simp only [] at *
   rw [e]
   show _ = _
   simp [World.setRow]
end
end Go.Proofs.YtoaeficfmcncjaaGreat
namespace Go.Proofs.YtoaeficfmcncjaaGreat
open Go.RowKit Go.Maps Go.Shelf
open Math
end Go.Proofs.YtoaeficfmcncjaaGreat
