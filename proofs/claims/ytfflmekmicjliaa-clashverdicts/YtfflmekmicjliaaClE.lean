/-
  ClashVerdicts' walk.
-/
import Derived.Test.YtfflmekmicjliaaClD
namespace Go.Proofs.Ytfflmekmicjliaa.Clash
open Go.RowKit

set_option maxRecDepth 100000 in
set_option maxHeartbeats 1000000 in
theorem verdicts_early (a : Option Addr) (len cap : Nat) (p m n : Int) (h : 100 < len) (w : World) :
    Calls Try.prog 3 #[.slice a len cap, .agg #[.int .i64 p, .int .i64 m], .int .i64 n] w fun e w' => e = .returned (.bool true) ∧ Kept [] w w' := by
  have kA := kept_alloc [] w (.cells #[.int .i64 p, .int .i64 m] 24)
  have g1 : (100 : Int) < (len : Int) := by omega
  have q := fun W => lives_any W
  go_enter Try.func3, Try.ntmps3
  go_wp2_with (go_at_call 5; refine (q _).mono ?_; rintro e w1 ⟨rfl, hk1⟩)
  go_ret
  exact ⟨rfl, kA.trans hk1⟩
set_option maxRecDepth 100000 in
set_option maxHeartbeats 4000000 in
theorem verdicts_play (a : Option Addr) (len cap : Nat) (p m n : Int) (L : List Ow) (h : len ≤ 100) (w : World) (hL : OwsAt w a len cap L) :
    Calls Try.prog 3 #[.slice a len cap, .agg #[.int .i64 p, .int .i64 m], .int .i64 n] w fun e w' => e = .returned (.bool true) ∧ Kept [] w w' := by
  have kA := kept_alloc [] w (.cells #[.int .i64 p, .int .i64 m] 24)
  have hA := blk_new w 24 #[.int .i64 p, .int .i64 m]
  obtain ⟨W1, hW1⟩ : ∃ W1, w.alloc (.cells #[.int .i64 p, .int .i64 m] 24) = W1 := ⟨_, rfl⟩
  rw [hW1] at kA hA
  have g1 : ¬ ((100 : Int) < (len : Int)) := by omega
  have hL1 := hL.kept kA
  have q0 := owns_any a len cap L h W1 hL1
  have cs : ∀ V, Kept [] W1 V → V.cell? ⟨w.heap.size, 0, none⟩ = some (.int .i64 p) ∧ V.cell? ⟨w.heap.size, 1, none⟩ = some (.int .i64 m) := fun V h => ⟨((hA.kept h (by simp)).cell 0).trans rfl, ((hA.kept h (by simp)).cell 1).trans rfl⟩
  have q1 := fun (arb : Bool) V (u : Option Addr) (c : Nat) (hu : OwsAt V u len c L) => verdict_any arb p m u len c L (by omega) V hu
  have hlen : Hid (L.length = len) := hL.1
  have q2 := fun (arb : Bool) V (k : Kept [] W1 V) => refVerdict_any arb p m a len cap L (by omega) V (hL1.kept k)
  have qa := q1 true
  have qb := q2 true
  have qc := q1 false
  have qd := q2 false
  have qn := fun V => name_any n V
  have qr := fun V => refName_any n V
  have ql := fun V => lives_any V
  clear q1 q2 hL hL1 hA
  generalize verd true L p m = v1 at *
  generalize verd false L p m = v2 at *
  generalize wordOf n = nm at *
  go_enter Try.func3, Try.ntmps3
  go_wp2_with (go_at_call 6; refine q0.mono ?_; rintro e w2 ⟨v, rfl, hO, hk2⟩; obtain ⟨u, c, rfl, hu⟩ := hO.ows)
  clear hO q0 hW1
  rw [hlen.out] at hu ⊢
  replace qa := fun V (k : Kept [] w2 V) => qa V u c (hu.kept k)
  replace qc := fun V (k : Kept [] w2 V) => qc V u c (hu.kept k)
  clear hu hlen
  refine wp_region_held_drew (S := fun W => Kept [] w2 W) (by kernel_rfl) (kept_drew [] w2) (fun hP => ?_)
  have hH := hP
  clear hP
  refine wpAnyH_take (i := 0) (oi := { dst := some 14, op := Op.move (Operand.tmp 7), type := 26, pos := "law.go:31", after := #[], guard := none }) (v := (.slice u len c)) rfl (by kernel_rfl) (by kernel_rfl) (by kernel_rfl) (fun _ _ _ h => h) (Or.inl ⟨by rfl, fun W hSw => by go_simp⟩) hH ?_
  try simp only [Act.put, List.setIfInBounds_toArray, List.set_cons_zero, List.set_cons_succ]
  refine wpAnyH_take (i := 1) (oi := { dst := some 15, op := Op.load 24 (Operand.tmp 4), type := 24, pos := "law.go:31", after := #[], guard := none }) (v := (.agg #[.int .i64 p, .int .i64 m])) rfl (by kernel_rfl) (by kernel_rfl) (by kernel_rfl) (fun _ _ _ h => h) (Or.inl ⟨by rfl, fun W hSw => by obtain ⟨c0, c1⟩ := cs W (hk2.trans hSw); go_simp⟩) hH ?_
  try simp only [Act.put, List.setIfInBounds_toArray, List.set_cons_zero, List.set_cons_succ]
  refine wpAnyH_take (i := 3) (oi := { dst := some 17, op := Op.move (Operand.tmp 0), type := 22, pos := "law.go:31", after := #[], guard := none }) (v := (.slice a len cap)) rfl (by kernel_rfl) (by kernel_rfl) (by kernel_rfl) (fun _ _ _ h => h) (Or.inl ⟨by rfl, fun W hSw => by go_simp⟩) hH ?_
  try simp only [Act.put, List.setIfInBounds_toArray, List.set_cons_zero, List.set_cons_succ]
  refine wpAnyH_take (i := 4) (oi := { dst := some 18, op := Op.load 24 (Operand.tmp 4), type := 24, pos := "law.go:31", after := #[], guard := none }) (v := (.agg #[.int .i64 p, .int .i64 m])) rfl (by kernel_rfl) (by kernel_rfl) (by kernel_rfl) (fun _ _ _ h => h) (Or.inl ⟨by rfl, fun W hSw => by obtain ⟨c0, c1⟩ := cs W (hk2.trans hSw); go_simp⟩) hH ?_
  try simp only [Act.put, List.setIfInBounds_toArray, List.set_cons_zero, List.set_cons_succ]
  refine wpAnyH_ready (rs := [2]) (by kernel_rfl) (by simp) ?_
  refine AllReadyH.cons (o := { dst := some 16, op := Op.call { callee := Callee.value (Operand.func 7), args := #[Operand.const (Value.bool true), Operand.tmp 14, Operand.tmp 15], argTypes := #[4, 26, 24] }, type := 3, pos := "law.go:31", after := #[{ on := 0, ground := Ground.data }, { on := 1, ground := Ground.data }], guard := none }) rfl (fun K hK => ?_) AllReadyH.nil
  go_simp
  refine (qa _ hH).mono ?_
  rintro e wk3 ⟨rfl, k3⟩
  go_wp2_with fail
  have hH1 := hH.trans k3
  refine hK.out _ _ hH1 (fun _ => ?_)
  replace hH := hH1
  clear hK K hH1
  try simp only [Act.put, List.setIfInBounds_toArray, List.set_cons_zero, List.set_cons_succ]
  refine wpAnyH_ready (rs := [5]) (by kernel_rfl) (by simp) ?_
  refine AllReadyH.cons (o := { dst := some 19, op := Op.call { callee := Callee.value (Operand.func 8), args := #[Operand.const (Value.bool true), Operand.tmp 17, Operand.tmp 18], argTypes := #[4, 22, 24] }, type := 3, pos := "law.go:31", after := #[{ on := 3, ground := Ground.data }, { on := 4, ground := Ground.data }, { on := 2, ground := Ground.chain }], guard := none }) rfl (fun K hK => ?_) AllReadyH.nil
  go_simp
  refine (qb _ (hk2.trans hH)).mono ?_
  rintro e wk4 ⟨rfl, k4⟩
  go_wp2_with fail
  have hH1 := hH.trans k4
  refine hK.out _ _ hH1 (fun _ => ?_)
  replace hH := hH1
  clear hK K hH1
  try simp only [Act.put, List.setIfInBounds_toArray, List.set_cons_zero, List.set_cons_succ]
  refine wpAnyH_take (i := 6) (oi := { dst := some 20, op := Op.binOp BinOp.eql 3 (Operand.tmp 16) (Operand.tmp 19) 3, type := 4, pos := "law.go:31", after := #[{ on := 2, ground := Ground.data }, { on := 5, ground := Ground.data }], guard := none }) (v := (.bool true)) rfl (by kernel_rfl) (by kernel_rfl) (by kernel_rfl) (fun _ _ _ h => h) (Or.inl ⟨by rfl, fun W hSw => by go_simp⟩) hH ?_
  try simp only [Act.put, List.setIfInBounds_toArray, List.set_cons_zero, List.set_cons_succ]
  refine wpAnyH_take (i := 7) (oi := { dst := some 21, op := Op.move (Operand.tmp 20), type := 4, pos := "law.go:31", after := #[{ on := 6, ground := Ground.data }, { on := 5, ground := Ground.chain }], guard := none }) (v := (.bool true)) rfl (by kernel_rfl) (by kernel_rfl) (by kernel_rfl) (fun _ _ _ h => h) (Or.inl ⟨by rfl, fun W hSw => by go_simp⟩) hH ?_
  try simp only [Act.put, List.setIfInBounds_toArray, List.set_cons_zero, List.set_cons_succ]
  refine wpAnyH_take (i := 8) (oi := { dst := some 22, op := Op.move (Operand.tmp 7), type := 26, pos := "law.go:31", after := #[{ on := 7, ground := Ground.guard }], guard := some (7, true) }) (v := (.slice u len c)) rfl (by kernel_rfl) (by kernel_rfl) (by kernel_rfl) (fun _ _ _ h => h) (Or.inl ⟨by rfl, fun W hSw => by go_simp⟩) hH ?_
  try simp only [Act.put, List.setIfInBounds_toArray, List.set_cons_zero, List.set_cons_succ]
  refine wpAnyH_take (i := 9) (oi := { dst := some 23, op := Op.load 24 (Operand.tmp 4), type := 24, pos := "law.go:31", after := #[{ on := 7, ground := Ground.guard }], guard := some (7, true) }) (v := (.agg #[.int .i64 p, .int .i64 m])) rfl (by kernel_rfl) (by kernel_rfl) (by kernel_rfl) (fun _ _ _ h => h) (Or.inl ⟨by rfl, fun W hSw => by obtain ⟨c0, c1⟩ := cs W (hk2.trans hSw); go_simp⟩) hH ?_
  try simp only [Act.put, List.setIfInBounds_toArray, List.set_cons_zero, List.set_cons_succ]
  refine wpAnyH_take (i := 11) (oi := { dst := some 25, op := Op.move (Operand.tmp 0), type := 22, pos := "law.go:31", after := #[{ on := 7, ground := Ground.guard }], guard := some (7, true) }) (v := (.slice a len cap)) rfl (by kernel_rfl) (by kernel_rfl) (by kernel_rfl) (fun _ _ _ h => h) (Or.inl ⟨by rfl, fun W hSw => by go_simp⟩) hH ?_
  try simp only [Act.put, List.setIfInBounds_toArray, List.set_cons_zero, List.set_cons_succ]
  refine wpAnyH_take (i := 12) (oi := { dst := some 26, op := Op.load 24 (Operand.tmp 4), type := 24, pos := "law.go:31", after := #[{ on := 7, ground := Ground.guard }], guard := some (7, true) }) (v := (.agg #[.int .i64 p, .int .i64 m])) rfl (by kernel_rfl) (by kernel_rfl) (by kernel_rfl) (fun _ _ _ h => h) (Or.inl ⟨by rfl, fun W hSw => by obtain ⟨c0, c1⟩ := cs W (hk2.trans hSw); go_simp⟩) hH ?_
  try simp only [Act.put, List.setIfInBounds_toArray, List.set_cons_zero, List.set_cons_succ]
  refine wpAnyH_ready (rs := [10]) (by kernel_rfl) (by simp) ?_
  refine AllReadyH.cons (o := { dst := some 24, op := Op.call { callee := Callee.value (Operand.func 7), args := #[Operand.const (Value.bool false), Operand.tmp 22, Operand.tmp 23], argTypes := #[4, 26, 24] }, type := 3, pos := "law.go:31", after := #[{ on := 8, ground := Ground.data }, { on := 9, ground := Ground.data }, { on := 7, ground := Ground.chain }, { on := 7, ground := Ground.guard }], guard := some (7, true) }) rfl (fun K hK => ?_) AllReadyH.nil
  go_simp
  refine (qc _ hH).mono ?_
  rintro e wk5 ⟨rfl, k5⟩
  go_wp2_with fail
  have hH1 := hH.trans k5
  refine hK.out _ _ hH1 (fun _ => ?_)
  replace hH := hH1
  clear hK K hH1
  try simp only [Act.put, List.setIfInBounds_toArray, List.set_cons_zero, List.set_cons_succ]
  refine wpAnyH_ready (rs := [13]) (by kernel_rfl) (by simp) ?_
  refine AllReadyH.cons (o := { dst := some 27, op := Op.call { callee := Callee.value (Operand.func 8), args := #[Operand.const (Value.bool false), Operand.tmp 25, Operand.tmp 26], argTypes := #[4, 22, 24] }, type := 3, pos := "law.go:31", after := #[{ on := 11, ground := Ground.data }, { on := 12, ground := Ground.data }, { on := 10, ground := Ground.chain }, { on := 7, ground := Ground.guard }], guard := some (7, true) }) rfl (fun K hK => ?_) AllReadyH.nil
  go_simp
  refine (qd _ (hk2.trans hH)).mono ?_
  rintro e wk6 ⟨rfl, k6⟩
  go_wp2_with fail
  have hH1 := hH.trans k6
  refine hK.out _ _ hH1 (fun _ => ?_)
  replace hH := hH1
  clear hK K hH1
  try simp only [Act.put, List.setIfInBounds_toArray, List.set_cons_zero, List.set_cons_succ]
  refine wpAnyH_take (i := 14) (oi := { dst := some 28, op := Op.binOp BinOp.eql 3 (Operand.tmp 24) (Operand.tmp 27) 3, type := 4, pos := "law.go:31", after := #[{ on := 10, ground := Ground.data }, { on := 13, ground := Ground.data }, { on := 7, ground := Ground.guard }], guard := some (7, true) }) (v := (.bool true)) rfl (by kernel_rfl) (by kernel_rfl) (by kernel_rfl) (fun _ _ _ h => h) (Or.inl ⟨by rfl, fun W hSw => by go_simp⟩) hH ?_
  try simp only [Act.put, List.setIfInBounds_toArray, List.set_cons_zero, List.set_cons_succ]
  refine wpAnyH_take (i := 15) (oi := { dst := some 29, op := Op.pick (Operand.tmp 21) (Operand.tmp 28) (Operand.const (Value.bool false)), type := 4, pos := "law.go:31", after := #[{ on := 7, ground := Ground.data }, { on := 14, ground := Ground.data }], guard := none }) (v := (.bool true)) rfl (by kernel_rfl) (by kernel_rfl) (by kernel_rfl) (fun _ _ _ h => h) (Or.inl ⟨by rfl, fun W hSw => by go_simp⟩) hH ?_
  try simp only [Act.put, List.setIfInBounds_toArray, List.set_cons_zero, List.set_cons_succ]
  refine wpAnyH_take (i := 16) (oi := { dst := some 30, op := Op.move (Operand.tmp 29), type := 4, pos := "law.go:31", after := #[{ on := 15, ground := Ground.data }, { on := 13, ground := Ground.chain }], guard := none }) (v := (.bool true)) rfl (by kernel_rfl) (by kernel_rfl) (by kernel_rfl) (fun _ _ _ h => h) (Or.inl ⟨by rfl, fun W hSw => by go_simp⟩) hH ?_
  try simp only [Act.put, List.setIfInBounds_toArray, List.set_cons_zero, List.set_cons_succ]
  refine wpAnyH_take (i := 17) (oi := { dst := some 31, op := Op.move (Operand.tmp 2), type := 3, pos := "law.go:31", after := #[{ on := 16, ground := Ground.guard }], guard := some (16, true) }) (v := (.int .i64 n)) rfl (by kernel_rfl) (by kernel_rfl) (by kernel_rfl) (fun _ _ _ h => h) (Or.inl ⟨by rfl, fun W hSw => by go_simp⟩) hH ?_
  try simp only [Act.put, List.setIfInBounds_toArray, List.set_cons_zero, List.set_cons_succ]
  refine wpAnyH_take (i := 19) (oi := { dst := some 33, op := Op.move (Operand.tmp 2), type := 3, pos := "law.go:31", after := #[{ on := 16, ground := Ground.guard }], guard := some (16, true) }) (v := (.int .i64 n)) rfl (by kernel_rfl) (by kernel_rfl) (by kernel_rfl) (fun _ _ _ h => h) (Or.inl ⟨by rfl, fun W hSw => by go_simp⟩) hH ?_
  try simp only [Act.put, List.setIfInBounds_toArray, List.set_cons_zero, List.set_cons_succ]
  refine wpAnyH_ready (rs := [18]) (by kernel_rfl) (by simp) ?_
  refine AllReadyH.cons (o := { dst := some 32, op := Op.call { callee := Callee.value (Operand.func 9), args := #[Operand.tmp 31], argTypes := #[3] }, type := 9, pos := "law.go:31", after := #[{ on := 17, ground := Ground.data }, { on := 16, ground := Ground.chain }, { on := 16, ground := Ground.guard }], guard := some (16, true) }) rfl (fun K hK => ?_) AllReadyH.nil
  go_simp
  refine (qn _).mono ?_
  rintro e wk7 ⟨rfl, k7⟩
  go_wp2_with fail
  have hH1 := hH.trans k7
  refine hK.out _ _ hH1 (fun _ => ?_)
  replace hH := hH1
  clear hK K hH1
  try simp only [Act.put, List.setIfInBounds_toArray, List.set_cons_zero, List.set_cons_succ]
  refine wpAnyH_ready (rs := [20]) (by kernel_rfl) (by simp) ?_
  refine AllReadyH.cons (o := { dst := some 34, op := Op.call { callee := Callee.value (Operand.func 10), args := #[Operand.tmp 33], argTypes := #[3] }, type := 9, pos := "law.go:31", after := #[{ on := 19, ground := Ground.data }, { on := 18, ground := Ground.chain }, { on := 16, ground := Ground.guard }], guard := some (16, true) }) rfl (fun K hK => ?_) AllReadyH.nil
  go_simp
  refine (qr _).mono ?_
  rintro e wk8 ⟨rfl, k8⟩
  go_wp2_with fail
  have hH1 := hH.trans k8
  refine hK.out _ _ hH1 (fun _ => ?_)
  replace hH := hH1
  clear hK K hH1
  try simp only [Act.put, List.setIfInBounds_toArray, List.set_cons_zero, List.set_cons_succ]
  refine wpAnyH_take (i := 21) (oi := { dst := some 35, op := Op.binOp BinOp.eql 9 (Operand.tmp 32) (Operand.tmp 34) 9, type := 4, pos := "law.go:31", after := #[{ on := 18, ground := Ground.data }, { on := 20, ground := Ground.data }, { on := 16, ground := Ground.guard }], guard := some (16, true) }) (v := (.bool true)) rfl (by kernel_rfl) (by kernel_rfl) (by kernel_rfl) (fun _ _ _ h => h) (Or.inl ⟨by rfl, fun W hSw => by go_simp⟩) hH ?_
  try simp only [Act.put, List.setIfInBounds_toArray, List.set_cons_zero, List.set_cons_succ]
  refine wpAnyH_take (i := 22) (oi := { dst := some 36, op := Op.pick (Operand.tmp 30) (Operand.tmp 35) (Operand.const (Value.bool false)), type := 4, pos := "law.go:31", after := #[{ on := 16, ground := Ground.data }, { on := 21, ground := Ground.data }], guard := none }) (v := (.bool true)) rfl (by kernel_rfl) (by kernel_rfl) (by kernel_rfl) (fun _ _ _ h => h) (Or.inl ⟨by rfl, fun W hSw => by go_simp⟩) hH ?_
  try simp only [Act.put, List.setIfInBounds_toArray, List.set_cons_zero, List.set_cons_succ]
  refine wpAnyH_take (i := 23) (oi := { dst := some 37, op := Op.move (Operand.tmp 36), type := 4, pos := "law.go:31", after := #[{ on := 22, ground := Ground.data }, { on := 20, ground := Ground.chain }], guard := none }) (v := (.bool true)) rfl (by kernel_rfl) (by kernel_rfl) (by kernel_rfl) (fun _ _ _ h => h) (Or.inl ⟨by rfl, fun W hSw => by go_simp⟩) hH ?_
  try simp only [Act.put, List.setIfInBounds_toArray, List.set_cons_zero, List.set_cons_succ]
  refine wpAnyH_ready (rs := [24]) (by kernel_rfl) (by simp) ?_
  refine AllReadyH.cons (o := { dst := some 38, op := Op.call { callee := Callee.value (Operand.func 5), args := #[], argTypes := #[] }, type := 4, pos := "law.go:31", after := #[{ on := 23, ground := Ground.chain }, { on := 23, ground := Ground.guard }], guard := some (23, true) }) rfl (fun K hK => ?_) AllReadyH.nil
  go_simp
  refine (ql _).mono ?_
  rintro e wk9 ⟨rfl, k9⟩
  go_wp2_with fail
  have hH1 := hH.trans k9
  refine hK.out _ _ hH1 (fun _ => ?_)
  replace hH := hH1
  clear hK K hH1
  try simp only [Act.put, List.setIfInBounds_toArray, List.set_cons_zero, List.set_cons_succ]
  refine wpAnyH_take (i := 25) (oi := { dst := some 39, op := Op.pick (Operand.tmp 37) (Operand.tmp 38) (Operand.const (Value.bool false)), type := 4, pos := "law.go:31", after := #[{ on := 23, ground := Ground.data }, { on := 24, ground := Ground.data }], guard := none }) (v := (.bool true)) rfl (by kernel_rfl) (by kernel_rfl) (by kernel_rfl) (fun _ _ _ h => h) (Or.inl ⟨by rfl, fun W hSw => by go_simp⟩) hH ?_
  try simp only [Act.put, List.setIfInBounds_toArray, List.set_cons_zero, List.set_cons_succ]
  refine wpAnyH_take (i := 26) (oi := { dst := some 6, op := Op.assign (Operand.tmp 39), type := 4, pos := "law.go:31", after := #[{ on := 25, ground := Ground.data }, { on := 24, ground := Ground.chain }, { on := 0, ground := Ground.phase }, { on := 1, ground := Ground.phase }, { on := 2, ground := Ground.phase }, { on := 3, ground := Ground.phase }, { on := 4, ground := Ground.phase }, { on := 5, ground := Ground.phase }, { on := 6, ground := Ground.phase }, { on := 7, ground := Ground.phase }, { on := 8, ground := Ground.phase }, { on := 9, ground := Ground.phase }, { on := 10, ground := Ground.phase }, { on := 11, ground := Ground.phase }, { on := 12, ground := Ground.phase }, { on := 13, ground := Ground.phase }, { on := 14, ground := Ground.phase }, { on := 15, ground := Ground.phase }, { on := 16, ground := Ground.phase }, { on := 17, ground := Ground.phase }, { on := 18, ground := Ground.phase }, { on := 19, ground := Ground.phase }, { on := 20, ground := Ground.phase }, { on := 21, ground := Ground.phase }, { on := 22, ground := Ground.phase }, { on := 23, ground := Ground.phase }, { on := 24, ground := Ground.phase }, { on := 25, ground := Ground.phase }], guard := none }) (v := (.bool true)) rfl (by kernel_rfl) (by kernel_rfl) (by kernel_rfl) (fun _ _ _ h => h) (Or.inl ⟨by rfl, fun W hSw => by go_simp⟩) hH ?_
  try simp only [Act.put, List.setIfInBounds_toArray, List.set_cons_zero, List.set_cons_succ]
  refine wpAnyH_done (by kernel_rfl) ?_ _
  go_wp2_with fail
  go_ret
  exact ⟨rfl, (kA.trans hk2).trans hH⟩
end Go.Proofs.Ytfflmekmicjliaa.Clash
