/-
  ClashSides' walk.
-/
import Derived.Test.YtfflmekmicjliaaClD
import Derived.Deep.RegionHeld3
namespace Go.Proofs.Ytfflmekmicjliaa.Clash
open Go.RowKit

set_option maxRecDepth 100000 in
/-- An own write appended, at a step of a region that draws its order. -/
theorem step_append_ow {ops : Array Oper} {o : Oper} {a : Act} {w : World} {K : Act → World → Prop} {Q : Exit → Act → World → Prop} {E : Prop} (hgd : o.guard = none) (s x : Operand)
    (ho : o.op = .call { callee := .builtin .append, args := #[s, x], argTypes := #[26, 26] })
    (base : Nat) (v : Value) (L : List Ow) (y : Ow) (q : Nat) (hs : a.eval s = v) (hown : OwnOws w base v L) (hx : a.eval x = .slice (some ⟨q, 0, none⟩) 1 1) (hq : Blk w q 33 #[.int .i64 y.o, .int .i64 y.l, .bool y.s]) (hlen : L.length ≤ 2000) (hb : base ≤ w.heap.size)
    (h : ∀ sa cap w', OwsAt w' sa (L.length + 1) cap (L ++ [y]) → w.grownBy w' v.ownBlock → K (a.put o.dst (.slice sa (L.length + 1) cap)) w') :
    if Region.wanted o (yielded ops a.tmps) = true then Oper.wp Try.prog o a w K Q else E := by
  have hw : Region.wanted o (yielded ops a.tmps) = true := by simp [Region.wanted, hgd]
  rw [if_pos hw]
  obtain ⟨i0, hi, hz0, hz1, hz2⟩ := info_parts Try.infoOw
  obtain ⟨v', w', hr, h2, h3, _, h4⟩ := run_append_own_at (P := Try.prog) w base 26 o.type 33 i0 (.agg #[.int .i64 0, .int .i64 0, .bool false]) 3 24 Try.underlying26 hi hz0 hz1 hz2 rfl (by decide) v L.length (owC L) hown ⟨q, 0, none⟩ 1 1 (owC [y]) (owC_length [y]) (by
    intro j u hu
    have e : (⟨q, 0, none⟩ : Addr).add j = ⟨q, j, none⟩ := by unfold Addr.add; split <;> simp_all
    rw [e, hq.cell]
    have : owC [y] = [.int .i64 y.o, .int .i64 y.l, .bool y.s] := rfl
    rw [this] at hu
    simpa using hu) (by
    intro u hu
    have : owC [y] = [.int .i64 y.o, .int .i64 y.l, .bool y.s] := rfl
    rw [this] at hu
    simp at hu
    rcases hu with rfl | rfl | rfl <;> rfl) (by unfold maxLen; omega) (by omega) hb
  have hO : OwnOws w' base v' (L ++ [y]) := by
    unfold OwnOws
    rw [List.length_append, owC_append]
    exact h2
  obtain ⟨sa, cap, rfl, hA⟩ := hO.ows
  rw [show (L ++ [y]).length = L.length + 1 by simp] at hA hr
  unfold Oper.wp execOp
  simp only [ho, resolve, invoke, builtin, Sem.run_bind, Sem.run_pure, Result.andThen_ok, List.map_toArray, List.map_cons, List.map_nil, hs, hx, hr]
  exact h sa cap w' hA h3
/-- What the arbiter says, and the other node, of two that overlap. -/
theorem verd_not (L : List Ow) (o l p m : Int) : verd false (L ++ [⟨p, m, true⟩]) o l = 0 ∧ Span.Math.over o l p m = false ∨ verd false (L ++ [⟨p, m, true⟩]) o l = 3 := by
  unfold verd
  simp only [List.any_append, List.any_cons, List.any_nil, ps, Bool.true_and, Bool.or_false]
  rw [Span.Math.over_comm p m o l]
  cases List.any L (ps o l) <;> cases Span.Math.over o l p m <;> simp
theorem verd_arb (L : List Ow) (o l p m : Int) : (verd true (L ++ [⟨o, l, true⟩]) p m == 3) = false ∧ (Span.Math.over o l p m = true → (verd true (L ++ [⟨o, l, true⟩]) p m != 0) = true) := by
  unfold verd
  simp only [List.any_append, List.any_cons, List.any_nil, ph, po, Bool.or_false]
  cases List.any L (ph p m) <;> cases List.any L (po p m) <;> cases Span.Math.over o l p m <;> cases Span.Math.holds o l p m <;> simp
theorem verd_alone (o l p m : Int) : (Span.Math.over o l p m = false → verd true [⟨o, l, false⟩] p m = 0) ∧ (Span.Math.over o l p m = true → (verd true [⟨o, l, false⟩] p m == 0) = false) := by
  unfold verd
  simp only [List.any_cons, List.any_nil, ph, po, Bool.or_false]
  refine ⟨fun h => ?_, fun h => ?_⟩
  · have : Span.Math.holds o l p m = false := by unfold Span.Math.holds; rw [h]; rfl
    rw [h, this]
    rfl
  · rw [h]
    cases Span.Math.holds o l p m <;> simp
set_option maxRecDepth 100000 in
set_option maxHeartbeats 1000000 in
theorem sides_early (a : Option Addr) (len cap : Nat) (o l p m : Int) (h : 50 < len) (w : World) :
    Calls Try.prog 4 #[.agg #[.int .i64 o, .int .i64 l], .agg #[.int .i64 p, .int .i64 m], .slice a len cap] w fun e w' => e = .returned (.bool true) ∧ Kept [] w w' := by
  have kA := kept_alloc [] w (.cells #[.int .i64 o, .int .i64 l] 24)
  have kB := kept_alloc [] (w.alloc (.cells #[.int .i64 o, .int .i64 l] 24)) (.cells #[.int .i64 p, .int .i64 m] 24)
  have g1 : (50 : Int) < (len : Int) := by omega
  have q := fun W => lives_any W
  go_enter Try.func4, Try.ntmps4
  go_wp2_with (go_at_call 5; refine (q _).mono ?_; rintro e w1 ⟨rfl, hk1⟩)
  go_ret
  exact ⟨rfl, (kA.trans kB).trans hk1⟩
set_option maxRecDepth 100000 in
set_option maxHeartbeats 4000000 in
theorem sides_over (a : Option Addr) (len cap : Nat) (o l p m tv av : Int) (L : List Ow) (h : len ≤ 50) (w : World) (hL : OwsAt w a len cap L) (hm : verd false (L ++ [⟨p, m, true⟩]) o l = 3) (ht : verd true (L ++ [⟨o, l, true⟩]) p m = tv) (ha : verd true [⟨o, l, false⟩] p m = av) (b1 : (tv == 3) = false) (b2 : (tv != 0) = true) (b3 : (av == 0) = false) :
    Calls Try.prog 4 #[.agg #[.int .i64 o, .int .i64 l], .agg #[.int .i64 p, .int .i64 m], .slice a len cap] w fun e w' => e = .returned (.bool true) ∧ Kept [] w w' := by
  have kA := kept_alloc [] w (.cells #[.int .i64 o, .int .i64 l] 24)
  have hA := blk_new w 24 #[.int .i64 o, .int .i64 l]
  obtain ⟨W1, hW1⟩ : ∃ W1, w.alloc (.cells #[.int .i64 o, .int .i64 l] 24) = W1 := ⟨_, rfl⟩
  rw [hW1] at kA hA
  have kB := kept_alloc [] W1 (.cells #[.int .i64 p, .int .i64 m] 24)
  have hB := blk_new W1 24 #[.int .i64 p, .int .i64 m]
  obtain ⟨W2, hW2⟩ : ∃ W2, W1.alloc (.cells #[.int .i64 p, .int .i64 m] 24) = W2 := ⟨_, rfl⟩
  rw [hW2] at kB hB
  have cs : ∀ V, Kept [] W2 V → V.cell? ⟨w.heap.size, 0, none⟩ = some (.int .i64 o) ∧ V.cell? ⟨w.heap.size, 1, none⟩ = some (.int .i64 l) ∧ V.cell? ⟨W1.heap.size, 0, none⟩ = some (.int .i64 p) ∧ V.cell? ⟨W1.heap.size, 1, none⟩ = some (.int .i64 m) := fun V h =>
    ⟨((hA.kept (kB.trans h) (by simp)).cell 0).trans rfl, ((hA.kept (kB.trans h) (by simp)).cell 1).trans rfl, ((hB.kept h (by simp)).cell 0).trans rfl, ((hB.kept h (by simp)).cell 1).trans rfl⟩
  have g1 : ¬ ((50 : Int) < (len : Int)) := by omega
  have hk := kA.trans kB
  have qo := fun V (k : Kept [] w V) => owns_any a len cap L (by omega) V (hL.kept k)
  have hlen : Hid (L.length = len) := hL.1
  have hll : Hid (L.length ≤ 2000) := by show _ ≤ _; rw [hL.1]; omega
  have qm := fun V (u : Option Addr) (c : Nat) (hu : OwsAt V u (L.length + 1) c (L ++ [⟨p, m, true⟩])) => verdict_any false o l u (L.length + 1) c _ (by rw [hL.1]; omega) V hu
  have qt := fun V (u : Option Addr) (c : Nat) (hu : OwsAt V u (L.length + 1) c (L ++ [⟨o, l, true⟩])) => verdict_any true p m u (L.length + 1) c _ (by rw [hL.1]; omega) V hu
  have qa := fun V (u : Option Addr) (c : Nat) (hu : OwsAt V u 1 c [⟨o, l, false⟩]) => verdict_any true p m u 1 c _ (by omega) V hu
  have ql := fun V => lives_any V
  rw [hm] at qm
  rw [ht] at qt
  rw [ha] at qa
  clear hA hB hL hm ht ha
  have q3 := qo W2 hk
  go_enter Try.func4, Try.ntmps4
  go_wp2_with (go_at_call 6; refine q3.mono ?_; rintro e w3 ⟨vl, rfl, hO3, hk3⟩)
  clear hW1 hW2 q3
  have hbl := Nat.le_trans hk3.size (Nat.le_refl w3.heap.size)
  have qo4 := fun V (k : Kept [] w3 V) => qo V ((hk.trans hk3).trans k)
  obtain ⟨ul, cl, evl, -⟩ := hO3.ows
  subst evl
  refine wp_region_held_drew (S := fun W => Kept [] w3 W) (by kernel_rfl) (kept_drew [] w3) (fun hP => ?_)
  have hH := hP
  clear hP
  refine wpAnyH_take (i := 0) (oi := { dst := some 17, op := Op.move (Operand.tmp 2), type := 22, pos := "law.go:40", after := #[], guard := none }) (v := (.slice a len cap)) rfl (by kernel_rfl) (by kernel_rfl) (by kernel_rfl) (fun _ _ _ h => h) (Or.inl ⟨by rfl, fun W hSw => by go_simp⟩) hH ?_
  try simp only [Act.put, List.setIfInBounds_toArray, List.set_cons_zero, List.set_cons_succ]
  refine wpAnyH_take (i := 2) (oi := { dst := some 19, op := Op.load 24 (Operand.tmp 4), type := 24, pos := "law.go:40", after := #[], guard := none }) (v := (.agg #[.int .i64 p, .int .i64 m])) rfl (by kernel_rfl) (by kernel_rfl) (by kernel_rfl) (fun _ _ _ h => h) (Or.inl ⟨by rfl, fun W hSw => by obtain ⟨c0, c1, c2, c3⟩ := cs W (hk3.trans hSw); go_simp⟩) hH ?_
  try simp only [Act.put, List.setIfInBounds_toArray, List.set_cons_zero, List.set_cons_succ]
  refine wpAnyH_take (i := 3) (oi := { dst := some 20, op := Op.build 33 #[(0, Operand.tmp 19), (1, Operand.const (Value.bool true))], type := 33, pos := "law.go:40", after := #[{ on := 2, ground := Ground.data }], guard := none }) (v := (.agg #[.int .i64 p, .int .i64 m, .bool true])) rfl (by kernel_rfl) (by kernel_rfl) (by kernel_rfl) (fun _ _ _ h => h) (Or.inl ⟨by rfl, fun W hSw => by go_simp⟩) hH ?_
  try simp only [Act.put, List.setIfInBounds_toArray, List.set_cons_zero, List.set_cons_succ]
  refine wpAnyH_take (i := 6) (oi := { dst := some 23, op := Op.load 24 (Operand.tmp 3), type := 24, pos := "law.go:40", after := #[], guard := none }) (v := (.agg #[.int .i64 o, .int .i64 l])) rfl (by kernel_rfl) (by kernel_rfl) (by kernel_rfl) (fun _ _ _ h => h) (Or.inl ⟨by rfl, fun W hSw => by obtain ⟨c0, c1, c2, c3⟩ := cs W (hk3.trans hSw); go_simp⟩) hH ?_
  try simp only [Act.put, List.setIfInBounds_toArray, List.set_cons_zero, List.set_cons_succ]
  refine wpAnyH_ready (rs := [1, 4]) (by kernel_rfl) (by simp) ?_
  refine AllReadyH.cons (o := { dst := some 18, op := Op.call { callee := Callee.value (Operand.func 6), args := #[Operand.tmp 17], argTypes := #[22] }, type := 26, pos := "law.go:40", after := #[{ on := 0, ground := Ground.data }], guard := none }) rfl (fun KK hKK => ?_) (AllReadyH.cons (o := { dst := some 21, op := Op.buildSlice 26 1 #[(0, Operand.tmp 20)], type := 26, pos := "law.go:40", after := #[{ on := 3, ground := Ground.data }], guard := none }) rfl (fun KK hKK => ?_) AllReadyH.nil)
  · go_simp
    refine (qo4 _ hH).mono ?_
    rintro e w4 ⟨v, rfl, hO4, hk4⟩
    go_wp2_with fail
    have hH1 := hH.trans hk4
    refine hKK.out _ _ hH1 (fun _ => ?_)
    clear hKK KK
    try simp only [Act.put, List.setIfInBounds_toArray, List.set_cons_zero, List.set_cons_succ]
    obtain ⟨sv, cv, rfl, -⟩ := hO4.ows
    refine wpAnyH_ready (rs := [4]) (by kernel_rfl) (by simp) ?_
    refine AllReadyH.cons (o := { dst := some 21, op := Op.buildSlice 26 1 #[(0, Operand.tmp 20)], type := 26, pos := "law.go:40", after := #[{ on := 3, ground := Ground.data }], guard := none }) rfl (fun KK hKK => ?_) AllReadyH.nil
    go_simp
    have hH1 := hH1.trans (kept_alloc [] w4 (.cells #[.int .i64 p, .int .i64 m, .bool true] 33))
    refine hKK.out _ _ hH1 (fun _ => ?_)
    replace hH := hH1
    clear hKK KK hH1
    try simp only [Act.put, List.setIfInBounds_toArray, List.set_cons_zero, List.set_cons_succ]
    obtain ⟨base, hbase⟩ : ∃ base, w3.drew.heap.size = base := ⟨_, rfl⟩
    obtain ⟨v, hv⟩ : ∃ v, Value.slice sv L.length cv = v := ⟨_, rfl⟩
    obtain ⟨q, hqq⟩ : ∃ q, w4.heap.size = q := ⟨_, rfl⟩
    have hO : Hid (OwnOws (w4.alloc (.cells #[.int .i64 p, .int .i64 m, .bool true] 33)) base v L) := by rw [← hbase, ← hv]; exact hO4.kept (kept_alloc [] w4 (.cells #[.int .i64 p, .int .i64 m, .bool true] 33))
    have hq : Hid (Blk (w4.alloc (.cells #[.int .i64 p, .int .i64 m, .bool true] 33)) q 33 #[.int .i64 p, .int .i64 m, .bool true]) := by rw [← hqq]; exact blk_new w4 33 _
    have hb0 : Hid (w3.heap.size ≤ base) := by show _ ≤ _; rw [← hbase]; exact (kept_drew [] w3).size
    have hbb : Hid (base ≤ (w4.alloc (.cells #[.int .i64 p, .int .i64 m, .bool true] 33)).heap.size) := by show _ ≤ _; rw [← hbase]; exact Nat.le_trans hk4.size (kept_alloc [] w4 (.cells #[.int .i64 p, .int .i64 m, .bool true] 33)).size
    rw [hv, hqq]
    clear hO4 hk4 hv hqq hbase hH1
    generalize w4.alloc (.cells #[.int .i64 p, .int .i64 m, .bool true] 33) = w5 at *
    refine wpAnyH_ready (rs := [5]) (by kernel_rfl) (by simp) ?_
    refine AllReadyH.cons (o := { dst := some 22, op := Op.call { callee := Callee.builtin Builtin.append, args := #[Operand.tmp 18, Operand.tmp 21], argTypes := #[26, 26] }, type := 26, pos := "law.go:40", after := #[{ on := 1, ground := Ground.data }, { on := 4, ground := Ground.data }, { on := 1, ground := Ground.chain }], guard := none }) rfl (fun KK hKK => ?_) AllReadyH.nil
    refine step_append_ow rfl (Operand.tmp 18) (Operand.tmp 21) rfl base v L ⟨p, m, true⟩ q (by simp [Act.eval]) hO.out (by simp [Act.eval]) hq.out hll.out hbb.out ?_
    intro sa ca wa hA hg
    have hH1 := kept_grown hO.out hg w3 hH hb0.out
    refine hKK.out _ _ hH1 (fun _ => ?_)
    replace hH := hH1
    clear hKK KK hH1
    clear hg hO hq hbb
    try simp only [Act.put, List.setIfInBounds_toArray, List.set_cons_zero, List.set_cons_succ]
    refine wpAnyH_ready (rs := [7]) (by kernel_rfl) (by simp) ?_
    refine AllReadyH.cons (o := { dst := some 24, op := Op.call { callee := Callee.value (Operand.func 7), args := #[Operand.const (Value.bool false), Operand.tmp 22, Operand.tmp 23], argTypes := #[4, 26, 24] }, type := 3, pos := "law.go:40", after := #[{ on := 5, ground := Ground.data }, { on := 6, ground := Ground.data }, { on := 5, ground := Ground.chain }], guard := none }) rfl (fun KK hKK => ?_) AllReadyH.nil
    go_simp
    refine (qm _ sa ca hA).mono ?_
    rintro e wb ⟨rfl, hkb⟩
    go_wp2_with fail
    have hH1 := hH.trans hkb
    refine hKK.out _ _ hH1 (fun _ => ?_)
    replace hH := hH1
    clear hKK KK hH1
    clear hA hkb
    try simp only [Act.put, List.setIfInBounds_toArray, List.set_cons_zero, List.set_cons_succ]
    refine wpAnyH_take (i := 8) (oi := { dst := some 8, op := Op.assign (Operand.tmp 24), type := 3, pos := "law.go:40", after := #[{ on := 7, ground := Ground.data }, { on := 7, ground := Ground.chain }, { on := 0, ground := Ground.phase }, { on := 1, ground := Ground.phase }, { on := 2, ground := Ground.phase }, { on := 3, ground := Ground.phase }, { on := 4, ground := Ground.phase }, { on := 5, ground := Ground.phase }, { on := 6, ground := Ground.phase }, { on := 7, ground := Ground.phase }], guard := none }) (v := (.int .i64 3)) rfl (by kernel_rfl) (by kernel_rfl) (by kernel_rfl) (fun _ _ _ h => h) (Or.inl ⟨by rfl, fun W hSw => by go_simp⟩) hH ?_
    try simp only [Act.put, List.setIfInBounds_toArray, List.set_cons_zero, List.set_cons_succ]
    refine wpAnyH_done (by kernel_rfl) ?_ _
    have hO6 := hO3.kept hH
    have hk6 := hk3.trans hH
    clear hO3 hb0 hH hk3
    go_wp2_with fail
    refine wp_region_held_drew (S := fun W => Kept [] W2 W) (by kernel_rfl) (hk6.trans (kept_drew [] wb)) (fun hP => ?_)
    have hH := hP
    clear hP
    refine wpAnyH_take (i := 0) (oi := { dst := some 25, op := Op.move (Operand.tmp 7), type := 26, pos := "law.go:41", after := #[], guard := none }) (v := (.slice ul L.length cl)) rfl (by kernel_rfl) (by kernel_rfl) (by kernel_rfl) (fun _ _ _ h => h) (Or.inl ⟨by rfl, fun W hSw => by go_simp⟩) hH ?_
    try simp only [Act.put, List.setIfInBounds_toArray, List.set_cons_zero, List.set_cons_succ]
    refine wpAnyH_take (i := 1) (oi := { dst := some 26, op := Op.load 24 (Operand.tmp 3), type := 24, pos := "law.go:41", after := #[], guard := none }) (v := (.agg #[.int .i64 o, .int .i64 l])) rfl (by kernel_rfl) (by kernel_rfl) (by kernel_rfl) (fun _ _ _ h => h) (Or.inl ⟨by rfl, fun W hSw => by obtain ⟨c0, c1, c2, c3⟩ := cs W hSw; go_simp⟩) hH ?_
    try simp only [Act.put, List.setIfInBounds_toArray, List.set_cons_zero, List.set_cons_succ]
    refine wpAnyH_take (i := 2) (oi := { dst := some 27, op := Op.build 33 #[(0, Operand.tmp 26), (1, Operand.const (Value.bool true))], type := 33, pos := "law.go:41", after := #[{ on := 1, ground := Ground.data }], guard := none }) (v := (.agg #[.int .i64 o, .int .i64 l, .bool true])) rfl (by kernel_rfl) (by kernel_rfl) (by kernel_rfl) (fun _ _ _ h => h) (Or.inl ⟨by rfl, fun W hSw => by go_simp⟩) hH ?_
    try simp only [Act.put, List.setIfInBounds_toArray, List.set_cons_zero, List.set_cons_succ]
    refine wpAnyH_take (i := 5) (oi := { dst := some 30, op := Op.load 24 (Operand.tmp 4), type := 24, pos := "law.go:41", after := #[], guard := none }) (v := (.agg #[.int .i64 p, .int .i64 m])) rfl (by kernel_rfl) (by kernel_rfl) (by kernel_rfl) (fun _ _ _ h => h) (Or.inl ⟨by rfl, fun W hSw => by obtain ⟨c0, c1, c2, c3⟩ := cs W hSw; go_simp⟩) hH ?_
    try simp only [Act.put, List.setIfInBounds_toArray, List.set_cons_zero, List.set_cons_succ]
    refine wpAnyH_ready (rs := [3]) (by kernel_rfl) (by simp) ?_
    refine AllReadyH.cons (o := { dst := some 28, op := Op.buildSlice 26 1 #[(0, Operand.tmp 27)], type := 26, pos := "law.go:41", after := #[{ on := 2, ground := Ground.data }], guard := none }) rfl (fun KK hKK => ?_) AllReadyH.nil
    go_simp
    have hH1 := hH.trans (kept_alloc [] wb.drew (.cells #[.int .i64 o, .int .i64 l, .bool true] 33))
    refine hKK.out _ _ hH1 (fun _ => ?_)
    replace hH := hH1
    clear hKK KK hH1
    try simp only [Act.put, List.setIfInBounds_toArray, List.set_cons_zero, List.set_cons_succ]
    obtain ⟨v, hv⟩ : ∃ v, Value.slice ul L.length cl = v := ⟨_, rfl⟩
    obtain ⟨q, hqq⟩ : ∃ q, wb.heap.size = q := ⟨_, rfl⟩
    rw [hv] at hO6
    have hO : Hid (OwnOws (wb.alloc (.cells #[.int .i64 o, .int .i64 l, .bool true] 33)).drew W2.heap.size v L) := hO6.kept ((kept_alloc [] wb (.cells #[.int .i64 o, .int .i64 l, .bool true] 33)).trans (kept_drew [] _))
    have hq : Hid (Blk (wb.alloc (.cells #[.int .i64 o, .int .i64 l, .bool true] 33)).drew q 33 #[.int .i64 o, .int .i64 l, .bool true]) := by rw [← hqq]; exact (blk_new wb 33 _).kept (kept_drew [] _) (by simp)
    have hbb : Hid (W2.heap.size ≤ (wb.alloc (.cells #[.int .i64 o, .int .i64 l, .bool true] 33)).drew.heap.size) := hH.size
    rw [hv, hqq]
    replace hH : Kept [] W2 (wb.alloc (.cells #[.int .i64 o, .int .i64 l, .bool true] 33)).drew := hH
    clear hO6 hv hqq hk6
    generalize (wb.alloc (.cells #[.int .i64 o, .int .i64 l, .bool true] 33)).drew = w7 at *
    refine wpAnyH_ready (rs := [4]) (by kernel_rfl) (by simp) ?_
    refine AllReadyH.cons (o := { dst := some 29, op := Op.call { callee := Callee.builtin Builtin.append, args := #[Operand.tmp 25, Operand.tmp 28], argTypes := #[26, 26] }, type := 26, pos := "law.go:41", after := #[{ on := 0, ground := Ground.data }, { on := 3, ground := Ground.data }], guard := none }) rfl (fun KK hKK => ?_) AllReadyH.nil
    refine step_append_ow rfl (Operand.tmp 25) (Operand.tmp 28) rfl W2.heap.size v L ⟨o, l, true⟩ q (by simp [Act.eval]) hO.out (by simp [Act.eval]) hq.out hll.out hbb.out ?_
    intro sa8 ca8 w8 hA hg
    have hH1 := kept_grown hO.out hg W2 hH (Nat.le_refl _)
    refine hKK.out _ _ hH1 (fun _ => ?_)
    replace hH := hH1
    clear hKK KK hH1
    clear hg hO hq hbb
    try simp only [Act.put, List.setIfInBounds_toArray, List.set_cons_zero, List.set_cons_succ]
    refine wpAnyH_ready (rs := [6]) (by kernel_rfl) (by simp) ?_
    refine AllReadyH.cons (o := { dst := some 31, op := Op.call { callee := Callee.value (Operand.func 7), args := #[Operand.const (Value.bool true), Operand.tmp 29, Operand.tmp 30], argTypes := #[4, 26, 24] }, type := 3, pos := "law.go:41", after := #[{ on := 4, ground := Ground.data }, { on := 5, ground := Ground.data }, { on := 4, ground := Ground.chain }], guard := none }) rfl (fun KK hKK => ?_) AllReadyH.nil
    go_simp
    refine (qt _ sa8 ca8 hA).mono ?_
    rintro e w9 ⟨rfl, hk9⟩
    go_wp2_with fail
    have hH1 := hH.trans hk9
    refine hKK.out _ _ hH1 (fun _ => ?_)
    replace hH := hH1
    clear hKK KK hH1
    clear hA hk9
    try simp only [Act.put, List.setIfInBounds_toArray, List.set_cons_zero, List.set_cons_succ]
    refine wpAnyH_take (i := 7) (oi := { dst := some 9, op := Op.assign (Operand.tmp 31), type := 3, pos := "law.go:41", after := #[{ on := 6, ground := Ground.data }, { on := 6, ground := Ground.chain }, { on := 0, ground := Ground.phase }, { on := 1, ground := Ground.phase }, { on := 2, ground := Ground.phase }, { on := 3, ground := Ground.phase }, { on := 4, ground := Ground.phase }, { on := 5, ground := Ground.phase }, { on := 6, ground := Ground.phase }], guard := none }) (v := (.int .i64 tv)) rfl (by kernel_rfl) (by kernel_rfl) (by kernel_rfl) (fun _ _ _ h => h) (Or.inl ⟨by rfl, fun W hSw => by go_simp⟩) hH ?_
    try simp only [Act.put, List.setIfInBounds_toArray, List.set_cons_zero, List.set_cons_succ]
    refine wpAnyH_done (by kernel_rfl) ?_ _
    obtain ⟨c0, c1, c2, c3⟩ := cs w9 hH
    have kS := kept_alloc [] w9 (.cells #[.int .i64 o, .int .i64 l, .bool false] 33)
    have hS : OwsAt (w9.alloc (.cells #[.int .i64 o, .int .i64 l, .bool false] 33)) (some ⟨w9.heap.size, 0, none⟩) 1 1 [⟨o, l, false⟩] := (lies_one w9 ⟨o, l, false⟩).ows (cap := 1) (Nat.le_refl _)
    obtain ⟨d0, d1, d2, d3⟩ := cs _ (hH.trans kS)
    have q8 := qa _ _ _ hS
    clear qm qt qo qo4 hS
    go_wp2_with (first
      | (go_at_call 7; refine q8.mono ?_; rintro e w10 ⟨rfl, hk10⟩; clear q8)
      | (go_at_call 5; refine (ql _).mono ?_; rintro e w11 ⟨rfl, hk11⟩))
    go_ret
    exact ⟨rfl, (((hk.trans hH).trans kS).trans hk10).trans hk11⟩
  · go_simp
    have hH1 := hH.trans (kept_alloc [] w3.drew (.cells #[.int .i64 p, .int .i64 m, .bool true] 33))
    refine hKK.out _ _ hH1 (fun _ => ?_)
    clear hKK KK
    try simp only [Act.put, List.setIfInBounds_toArray, List.set_cons_zero, List.set_cons_succ]
    refine wpAnyH_ready (rs := [1]) (by kernel_rfl) (by simp) ?_
    refine AllReadyH.cons (o := { dst := some 18, op := Op.call { callee := Callee.value (Operand.func 6), args := #[Operand.tmp 17], argTypes := #[22] }, type := 26, pos := "law.go:40", after := #[{ on := 0, ground := Ground.data }], guard := none }) rfl (fun KK hKK => ?_) AllReadyH.nil
    go_simp
    refine (qo4 _ hH1).mono ?_
    rintro e w5 ⟨v, rfl, hO4, hk4⟩
    go_wp2_with fail
    have hH1 := hH1.trans hk4
    refine hKK.out _ _ hH1 (fun _ => ?_)
    replace hH := hH1
    clear hKK KK hH1
    try simp only [Act.put, List.setIfInBounds_toArray, List.set_cons_zero, List.set_cons_succ]
    obtain ⟨sv, cv, rfl, -⟩ := hO4.ows
    obtain ⟨base, hbase⟩ : ∃ base, (w3.drew.alloc (.cells #[.int .i64 p, .int .i64 m, .bool true] 33)).heap.size = base := ⟨_, rfl⟩
    obtain ⟨v, hv⟩ : ∃ v, Value.slice sv L.length cv = v := ⟨_, rfl⟩
    obtain ⟨q, hqq⟩ : ∃ q, w3.heap.size = q := ⟨_, rfl⟩
    have hO : Hid (OwnOws w5 base v L) := by rw [← hbase, ← hv]; exact hO4
    have hq : Hid (Blk w5 q 33 #[.int .i64 p, .int .i64 m, .bool true]) := by rw [← hqq]; exact (blk_new w3.drew 33 _).kept hk4 (by simp)
    have hb0 : Hid (w3.heap.size ≤ base) := by show _ ≤ _; rw [← hbase]; exact Nat.le_trans (kept_drew [] w3).size (kept_alloc [] w3.drew (.cells #[.int .i64 p, .int .i64 m, .bool true] 33)).size
    have hbb : Hid (base ≤ w5.heap.size) := by show _ ≤ _; rw [← hbase]; exact hk4.size
    rw [hv, hqq]
    clear hO4 hk4 hv hqq hbase hH1
    refine wpAnyH_ready (rs := [5]) (by kernel_rfl) (by simp) ?_
    refine AllReadyH.cons (o := { dst := some 22, op := Op.call { callee := Callee.builtin Builtin.append, args := #[Operand.tmp 18, Operand.tmp 21], argTypes := #[26, 26] }, type := 26, pos := "law.go:40", after := #[{ on := 1, ground := Ground.data }, { on := 4, ground := Ground.data }, { on := 1, ground := Ground.chain }], guard := none }) rfl (fun KK hKK => ?_) AllReadyH.nil
    refine step_append_ow rfl (Operand.tmp 18) (Operand.tmp 21) rfl base v L ⟨p, m, true⟩ q (by simp [Act.eval]) hO.out (by simp [Act.eval]) hq.out hll.out hbb.out ?_
    intro sa ca wa hA hg
    have hH1 := kept_grown hO.out hg w3 hH hb0.out
    refine hKK.out _ _ hH1 (fun _ => ?_)
    replace hH := hH1
    clear hKK KK hH1
    clear hg hO hq hbb
    try simp only [Act.put, List.setIfInBounds_toArray, List.set_cons_zero, List.set_cons_succ]
    refine wpAnyH_ready (rs := [7]) (by kernel_rfl) (by simp) ?_
    refine AllReadyH.cons (o := { dst := some 24, op := Op.call { callee := Callee.value (Operand.func 7), args := #[Operand.const (Value.bool false), Operand.tmp 22, Operand.tmp 23], argTypes := #[4, 26, 24] }, type := 3, pos := "law.go:40", after := #[{ on := 5, ground := Ground.data }, { on := 6, ground := Ground.data }, { on := 5, ground := Ground.chain }], guard := none }) rfl (fun KK hKK => ?_) AllReadyH.nil
    go_simp
    refine (qm _ sa ca hA).mono ?_
    rintro e wb ⟨rfl, hkb⟩
    go_wp2_with fail
    have hH1 := hH.trans hkb
    refine hKK.out _ _ hH1 (fun _ => ?_)
    replace hH := hH1
    clear hKK KK hH1
    clear hA hkb
    try simp only [Act.put, List.setIfInBounds_toArray, List.set_cons_zero, List.set_cons_succ]
    refine wpAnyH_take (i := 8) (oi := { dst := some 8, op := Op.assign (Operand.tmp 24), type := 3, pos := "law.go:40", after := #[{ on := 7, ground := Ground.data }, { on := 7, ground := Ground.chain }, { on := 0, ground := Ground.phase }, { on := 1, ground := Ground.phase }, { on := 2, ground := Ground.phase }, { on := 3, ground := Ground.phase }, { on := 4, ground := Ground.phase }, { on := 5, ground := Ground.phase }, { on := 6, ground := Ground.phase }, { on := 7, ground := Ground.phase }], guard := none }) (v := (.int .i64 3)) rfl (by kernel_rfl) (by kernel_rfl) (by kernel_rfl) (fun _ _ _ h => h) (Or.inl ⟨by rfl, fun W hSw => by go_simp⟩) hH ?_
    try simp only [Act.put, List.setIfInBounds_toArray, List.set_cons_zero, List.set_cons_succ]
    refine wpAnyH_done (by kernel_rfl) ?_ _
    have hO6 := hO3.kept hH
    have hk6 := hk3.trans hH
    clear hO3 hb0 hH hk3
    go_wp2_with fail
    refine wp_region_held_drew (S := fun W => Kept [] W2 W) (by kernel_rfl) (hk6.trans (kept_drew [] wb)) (fun hP => ?_)
    have hH := hP
    clear hP
    refine wpAnyH_take (i := 0) (oi := { dst := some 25, op := Op.move (Operand.tmp 7), type := 26, pos := "law.go:41", after := #[], guard := none }) (v := (.slice ul L.length cl)) rfl (by kernel_rfl) (by kernel_rfl) (by kernel_rfl) (fun _ _ _ h => h) (Or.inl ⟨by rfl, fun W hSw => by go_simp⟩) hH ?_
    try simp only [Act.put, List.setIfInBounds_toArray, List.set_cons_zero, List.set_cons_succ]
    refine wpAnyH_take (i := 1) (oi := { dst := some 26, op := Op.load 24 (Operand.tmp 3), type := 24, pos := "law.go:41", after := #[], guard := none }) (v := (.agg #[.int .i64 o, .int .i64 l])) rfl (by kernel_rfl) (by kernel_rfl) (by kernel_rfl) (fun _ _ _ h => h) (Or.inl ⟨by rfl, fun W hSw => by obtain ⟨c0, c1, c2, c3⟩ := cs W hSw; go_simp⟩) hH ?_
    try simp only [Act.put, List.setIfInBounds_toArray, List.set_cons_zero, List.set_cons_succ]
    refine wpAnyH_take (i := 2) (oi := { dst := some 27, op := Op.build 33 #[(0, Operand.tmp 26), (1, Operand.const (Value.bool true))], type := 33, pos := "law.go:41", after := #[{ on := 1, ground := Ground.data }], guard := none }) (v := (.agg #[.int .i64 o, .int .i64 l, .bool true])) rfl (by kernel_rfl) (by kernel_rfl) (by kernel_rfl) (fun _ _ _ h => h) (Or.inl ⟨by rfl, fun W hSw => by go_simp⟩) hH ?_
    try simp only [Act.put, List.setIfInBounds_toArray, List.set_cons_zero, List.set_cons_succ]
    refine wpAnyH_take (i := 5) (oi := { dst := some 30, op := Op.load 24 (Operand.tmp 4), type := 24, pos := "law.go:41", after := #[], guard := none }) (v := (.agg #[.int .i64 p, .int .i64 m])) rfl (by kernel_rfl) (by kernel_rfl) (by kernel_rfl) (fun _ _ _ h => h) (Or.inl ⟨by rfl, fun W hSw => by obtain ⟨c0, c1, c2, c3⟩ := cs W hSw; go_simp⟩) hH ?_
    try simp only [Act.put, List.setIfInBounds_toArray, List.set_cons_zero, List.set_cons_succ]
    refine wpAnyH_ready (rs := [3]) (by kernel_rfl) (by simp) ?_
    refine AllReadyH.cons (o := { dst := some 28, op := Op.buildSlice 26 1 #[(0, Operand.tmp 27)], type := 26, pos := "law.go:41", after := #[{ on := 2, ground := Ground.data }], guard := none }) rfl (fun KK hKK => ?_) AllReadyH.nil
    go_simp
    have hH1 := hH.trans (kept_alloc [] wb.drew (.cells #[.int .i64 o, .int .i64 l, .bool true] 33))
    refine hKK.out _ _ hH1 (fun _ => ?_)
    replace hH := hH1
    clear hKK KK hH1
    try simp only [Act.put, List.setIfInBounds_toArray, List.set_cons_zero, List.set_cons_succ]
    obtain ⟨v, hv⟩ : ∃ v, Value.slice ul L.length cl = v := ⟨_, rfl⟩
    obtain ⟨q, hqq⟩ : ∃ q, wb.heap.size = q := ⟨_, rfl⟩
    rw [hv] at hO6
    have hO : Hid (OwnOws (wb.alloc (.cells #[.int .i64 o, .int .i64 l, .bool true] 33)).drew W2.heap.size v L) := hO6.kept ((kept_alloc [] wb (.cells #[.int .i64 o, .int .i64 l, .bool true] 33)).trans (kept_drew [] _))
    have hq : Hid (Blk (wb.alloc (.cells #[.int .i64 o, .int .i64 l, .bool true] 33)).drew q 33 #[.int .i64 o, .int .i64 l, .bool true]) := by rw [← hqq]; exact (blk_new wb 33 _).kept (kept_drew [] _) (by simp)
    have hbb : Hid (W2.heap.size ≤ (wb.alloc (.cells #[.int .i64 o, .int .i64 l, .bool true] 33)).drew.heap.size) := hH.size
    rw [hv, hqq]
    replace hH : Kept [] W2 (wb.alloc (.cells #[.int .i64 o, .int .i64 l, .bool true] 33)).drew := hH
    clear hO6 hv hqq hk6
    generalize (wb.alloc (.cells #[.int .i64 o, .int .i64 l, .bool true] 33)).drew = w7 at *
    refine wpAnyH_ready (rs := [4]) (by kernel_rfl) (by simp) ?_
    refine AllReadyH.cons (o := { dst := some 29, op := Op.call { callee := Callee.builtin Builtin.append, args := #[Operand.tmp 25, Operand.tmp 28], argTypes := #[26, 26] }, type := 26, pos := "law.go:41", after := #[{ on := 0, ground := Ground.data }, { on := 3, ground := Ground.data }], guard := none }) rfl (fun KK hKK => ?_) AllReadyH.nil
    refine step_append_ow rfl (Operand.tmp 25) (Operand.tmp 28) rfl W2.heap.size v L ⟨o, l, true⟩ q (by simp [Act.eval]) hO.out (by simp [Act.eval]) hq.out hll.out hbb.out ?_
    intro sa8 ca8 w8 hA hg
    have hH1 := kept_grown hO.out hg W2 hH (Nat.le_refl _)
    refine hKK.out _ _ hH1 (fun _ => ?_)
    replace hH := hH1
    clear hKK KK hH1
    clear hg hO hq hbb
    try simp only [Act.put, List.setIfInBounds_toArray, List.set_cons_zero, List.set_cons_succ]
    refine wpAnyH_ready (rs := [6]) (by kernel_rfl) (by simp) ?_
    refine AllReadyH.cons (o := { dst := some 31, op := Op.call { callee := Callee.value (Operand.func 7), args := #[Operand.const (Value.bool true), Operand.tmp 29, Operand.tmp 30], argTypes := #[4, 26, 24] }, type := 3, pos := "law.go:41", after := #[{ on := 4, ground := Ground.data }, { on := 5, ground := Ground.data }, { on := 4, ground := Ground.chain }], guard := none }) rfl (fun KK hKK => ?_) AllReadyH.nil
    go_simp
    refine (qt _ sa8 ca8 hA).mono ?_
    rintro e w9 ⟨rfl, hk9⟩
    go_wp2_with fail
    have hH1 := hH.trans hk9
    refine hKK.out _ _ hH1 (fun _ => ?_)
    replace hH := hH1
    clear hKK KK hH1
    clear hA hk9
    try simp only [Act.put, List.setIfInBounds_toArray, List.set_cons_zero, List.set_cons_succ]
    refine wpAnyH_take (i := 7) (oi := { dst := some 9, op := Op.assign (Operand.tmp 31), type := 3, pos := "law.go:41", after := #[{ on := 6, ground := Ground.data }, { on := 6, ground := Ground.chain }, { on := 0, ground := Ground.phase }, { on := 1, ground := Ground.phase }, { on := 2, ground := Ground.phase }, { on := 3, ground := Ground.phase }, { on := 4, ground := Ground.phase }, { on := 5, ground := Ground.phase }, { on := 6, ground := Ground.phase }], guard := none }) (v := (.int .i64 tv)) rfl (by kernel_rfl) (by kernel_rfl) (by kernel_rfl) (fun _ _ _ h => h) (Or.inl ⟨by rfl, fun W hSw => by go_simp⟩) hH ?_
    try simp only [Act.put, List.setIfInBounds_toArray, List.set_cons_zero, List.set_cons_succ]
    refine wpAnyH_done (by kernel_rfl) ?_ _
    obtain ⟨c0, c1, c2, c3⟩ := cs w9 hH
    have kS := kept_alloc [] w9 (.cells #[.int .i64 o, .int .i64 l, .bool false] 33)
    have hS : OwsAt (w9.alloc (.cells #[.int .i64 o, .int .i64 l, .bool false] 33)) (some ⟨w9.heap.size, 0, none⟩) 1 1 [⟨o, l, false⟩] := (lies_one w9 ⟨o, l, false⟩).ows (cap := 1) (Nat.le_refl _)
    obtain ⟨d0, d1, d2, d3⟩ := cs _ (hH.trans kS)
    have q8 := qa _ _ _ hS
    clear qm qt qo qo4 hS
    go_wp2_with (first
      | (go_at_call 7; refine q8.mono ?_; rintro e w10 ⟨rfl, hk10⟩; clear q8)
      | (go_at_call 5; refine (ql _).mono ?_; rintro e w11 ⟨rfl, hk11⟩))
    go_ret
    exact ⟨rfl, (((hk.trans hH).trans kS).trans hk10).trans hk11⟩
set_option maxRecDepth 100000 in
set_option maxHeartbeats 4000000 in
theorem sides_not0 (a : Option Addr) (len cap : Nat) (o l p m tv av : Int) (L : List Ow) (h : len ≤ 50) (w : World) (hL : OwsAt w a len cap L) (hm : verd false (L ++ [⟨p, m, true⟩]) o l = 0) (ht : verd true (L ++ [⟨o, l, true⟩]) p m = tv) (ha : verd true [⟨o, l, false⟩] p m = av) (b1 : (tv == 3) = false) (b3 : (av == 0) = true) :
    Calls Try.prog 4 #[.agg #[.int .i64 o, .int .i64 l], .agg #[.int .i64 p, .int .i64 m], .slice a len cap] w fun e w' => e = .returned (.bool true) ∧ Kept [] w w' := by
  have kA := kept_alloc [] w (.cells #[.int .i64 o, .int .i64 l] 24)
  have hA := blk_new w 24 #[.int .i64 o, .int .i64 l]
  obtain ⟨W1, hW1⟩ : ∃ W1, w.alloc (.cells #[.int .i64 o, .int .i64 l] 24) = W1 := ⟨_, rfl⟩
  rw [hW1] at kA hA
  have kB := kept_alloc [] W1 (.cells #[.int .i64 p, .int .i64 m] 24)
  have hB := blk_new W1 24 #[.int .i64 p, .int .i64 m]
  obtain ⟨W2, hW2⟩ : ∃ W2, W1.alloc (.cells #[.int .i64 p, .int .i64 m] 24) = W2 := ⟨_, rfl⟩
  rw [hW2] at kB hB
  have cs : ∀ V, Kept [] W2 V → V.cell? ⟨w.heap.size, 0, none⟩ = some (.int .i64 o) ∧ V.cell? ⟨w.heap.size, 1, none⟩ = some (.int .i64 l) ∧ V.cell? ⟨W1.heap.size, 0, none⟩ = some (.int .i64 p) ∧ V.cell? ⟨W1.heap.size, 1, none⟩ = some (.int .i64 m) := fun V h =>
    ⟨((hA.kept (kB.trans h) (by simp)).cell 0).trans rfl, ((hA.kept (kB.trans h) (by simp)).cell 1).trans rfl, ((hB.kept h (by simp)).cell 0).trans rfl, ((hB.kept h (by simp)).cell 1).trans rfl⟩
  have g1 : ¬ ((50 : Int) < (len : Int)) := by omega
  have hk := kA.trans kB
  have qo := fun V (k : Kept [] w V) => owns_any a len cap L (by omega) V (hL.kept k)
  have hlen : Hid (L.length = len) := hL.1
  have hll : Hid (L.length ≤ 2000) := by show _ ≤ _; rw [hL.1]; omega
  have qm := fun V (u : Option Addr) (c : Nat) (hu : OwsAt V u (L.length + 1) c (L ++ [⟨p, m, true⟩])) => verdict_any false o l u (L.length + 1) c _ (by rw [hL.1]; omega) V hu
  have qt := fun V (u : Option Addr) (c : Nat) (hu : OwsAt V u (L.length + 1) c (L ++ [⟨o, l, true⟩])) => verdict_any true p m u (L.length + 1) c _ (by rw [hL.1]; omega) V hu
  have qa := fun V (u : Option Addr) (c : Nat) (hu : OwsAt V u 1 c [⟨o, l, false⟩]) => verdict_any true p m u 1 c _ (by omega) V hu
  have ql := fun V => lives_any V
  rw [hm] at qm
  rw [ht] at qt
  rw [ha] at qa
  clear hA hB hL hm ht ha
  have q3 := qo W2 hk
  go_enter Try.func4, Try.ntmps4
  go_wp2_with (go_at_call 6; refine q3.mono ?_; rintro e w3 ⟨vl, rfl, hO3, hk3⟩)
  clear hW1 hW2 q3
  have hbl := Nat.le_trans hk3.size (Nat.le_refl w3.heap.size)
  have qo4 := fun V (k : Kept [] w3 V) => qo V ((hk.trans hk3).trans k)
  obtain ⟨ul, cl, evl, -⟩ := hO3.ows
  subst evl
  refine wp_region_held_drew (S := fun W => Kept [] w3 W) (by kernel_rfl) (kept_drew [] w3) (fun hP => ?_)
  have hH := hP
  clear hP
  refine wpAnyH_take (i := 0) (oi := { dst := some 17, op := Op.move (Operand.tmp 2), type := 22, pos := "law.go:40", after := #[], guard := none }) (v := (.slice a len cap)) rfl (by kernel_rfl) (by kernel_rfl) (by kernel_rfl) (fun _ _ _ h => h) (Or.inl ⟨by rfl, fun W hSw => by go_simp⟩) hH ?_
  try simp only [Act.put, List.setIfInBounds_toArray, List.set_cons_zero, List.set_cons_succ]
  refine wpAnyH_take (i := 2) (oi := { dst := some 19, op := Op.load 24 (Operand.tmp 4), type := 24, pos := "law.go:40", after := #[], guard := none }) (v := (.agg #[.int .i64 p, .int .i64 m])) rfl (by kernel_rfl) (by kernel_rfl) (by kernel_rfl) (fun _ _ _ h => h) (Or.inl ⟨by rfl, fun W hSw => by obtain ⟨c0, c1, c2, c3⟩ := cs W (hk3.trans hSw); go_simp⟩) hH ?_
  try simp only [Act.put, List.setIfInBounds_toArray, List.set_cons_zero, List.set_cons_succ]
  refine wpAnyH_take (i := 3) (oi := { dst := some 20, op := Op.build 33 #[(0, Operand.tmp 19), (1, Operand.const (Value.bool true))], type := 33, pos := "law.go:40", after := #[{ on := 2, ground := Ground.data }], guard := none }) (v := (.agg #[.int .i64 p, .int .i64 m, .bool true])) rfl (by kernel_rfl) (by kernel_rfl) (by kernel_rfl) (fun _ _ _ h => h) (Or.inl ⟨by rfl, fun W hSw => by go_simp⟩) hH ?_
  try simp only [Act.put, List.setIfInBounds_toArray, List.set_cons_zero, List.set_cons_succ]
  refine wpAnyH_take (i := 6) (oi := { dst := some 23, op := Op.load 24 (Operand.tmp 3), type := 24, pos := "law.go:40", after := #[], guard := none }) (v := (.agg #[.int .i64 o, .int .i64 l])) rfl (by kernel_rfl) (by kernel_rfl) (by kernel_rfl) (fun _ _ _ h => h) (Or.inl ⟨by rfl, fun W hSw => by obtain ⟨c0, c1, c2, c3⟩ := cs W (hk3.trans hSw); go_simp⟩) hH ?_
  try simp only [Act.put, List.setIfInBounds_toArray, List.set_cons_zero, List.set_cons_succ]
  refine wpAnyH_ready (rs := [1, 4]) (by kernel_rfl) (by simp) ?_
  refine AllReadyH.cons (o := { dst := some 18, op := Op.call { callee := Callee.value (Operand.func 6), args := #[Operand.tmp 17], argTypes := #[22] }, type := 26, pos := "law.go:40", after := #[{ on := 0, ground := Ground.data }], guard := none }) rfl (fun KK hKK => ?_) (AllReadyH.cons (o := { dst := some 21, op := Op.buildSlice 26 1 #[(0, Operand.tmp 20)], type := 26, pos := "law.go:40", after := #[{ on := 3, ground := Ground.data }], guard := none }) rfl (fun KK hKK => ?_) AllReadyH.nil)
  · go_simp
    refine (qo4 _ hH).mono ?_
    rintro e w4 ⟨v, rfl, hO4, hk4⟩
    go_wp2_with fail
    have hH1 := hH.trans hk4
    refine hKK.out _ _ hH1 (fun _ => ?_)
    clear hKK KK
    try simp only [Act.put, List.setIfInBounds_toArray, List.set_cons_zero, List.set_cons_succ]
    obtain ⟨sv, cv, rfl, -⟩ := hO4.ows
    refine wpAnyH_ready (rs := [4]) (by kernel_rfl) (by simp) ?_
    refine AllReadyH.cons (o := { dst := some 21, op := Op.buildSlice 26 1 #[(0, Operand.tmp 20)], type := 26, pos := "law.go:40", after := #[{ on := 3, ground := Ground.data }], guard := none }) rfl (fun KK hKK => ?_) AllReadyH.nil
    go_simp
    have hH1 := hH1.trans (kept_alloc [] w4 (.cells #[.int .i64 p, .int .i64 m, .bool true] 33))
    refine hKK.out _ _ hH1 (fun _ => ?_)
    replace hH := hH1
    clear hKK KK hH1
    try simp only [Act.put, List.setIfInBounds_toArray, List.set_cons_zero, List.set_cons_succ]
    obtain ⟨base, hbase⟩ : ∃ base, w3.drew.heap.size = base := ⟨_, rfl⟩
    obtain ⟨v, hv⟩ : ∃ v, Value.slice sv L.length cv = v := ⟨_, rfl⟩
    obtain ⟨q, hqq⟩ : ∃ q, w4.heap.size = q := ⟨_, rfl⟩
    have hO : Hid (OwnOws (w4.alloc (.cells #[.int .i64 p, .int .i64 m, .bool true] 33)) base v L) := by rw [← hbase, ← hv]; exact hO4.kept (kept_alloc [] w4 (.cells #[.int .i64 p, .int .i64 m, .bool true] 33))
    have hq : Hid (Blk (w4.alloc (.cells #[.int .i64 p, .int .i64 m, .bool true] 33)) q 33 #[.int .i64 p, .int .i64 m, .bool true]) := by rw [← hqq]; exact blk_new w4 33 _
    have hb0 : Hid (w3.heap.size ≤ base) := by show _ ≤ _; rw [← hbase]; exact (kept_drew [] w3).size
    have hbb : Hid (base ≤ (w4.alloc (.cells #[.int .i64 p, .int .i64 m, .bool true] 33)).heap.size) := by show _ ≤ _; rw [← hbase]; exact Nat.le_trans hk4.size (kept_alloc [] w4 (.cells #[.int .i64 p, .int .i64 m, .bool true] 33)).size
    rw [hv, hqq]
    clear hO4 hk4 hv hqq hbase hH1
    generalize w4.alloc (.cells #[.int .i64 p, .int .i64 m, .bool true] 33) = w5 at *
    refine wpAnyH_ready (rs := [5]) (by kernel_rfl) (by simp) ?_
    refine AllReadyH.cons (o := { dst := some 22, op := Op.call { callee := Callee.builtin Builtin.append, args := #[Operand.tmp 18, Operand.tmp 21], argTypes := #[26, 26] }, type := 26, pos := "law.go:40", after := #[{ on := 1, ground := Ground.data }, { on := 4, ground := Ground.data }, { on := 1, ground := Ground.chain }], guard := none }) rfl (fun KK hKK => ?_) AllReadyH.nil
    refine step_append_ow rfl (Operand.tmp 18) (Operand.tmp 21) rfl base v L ⟨p, m, true⟩ q (by simp [Act.eval]) hO.out (by simp [Act.eval]) hq.out hll.out hbb.out ?_
    intro sa ca wa hA hg
    have hH1 := kept_grown hO.out hg w3 hH hb0.out
    refine hKK.out _ _ hH1 (fun _ => ?_)
    replace hH := hH1
    clear hKK KK hH1
    clear hg hO hq hbb
    try simp only [Act.put, List.setIfInBounds_toArray, List.set_cons_zero, List.set_cons_succ]
    refine wpAnyH_ready (rs := [7]) (by kernel_rfl) (by simp) ?_
    refine AllReadyH.cons (o := { dst := some 24, op := Op.call { callee := Callee.value (Operand.func 7), args := #[Operand.const (Value.bool false), Operand.tmp 22, Operand.tmp 23], argTypes := #[4, 26, 24] }, type := 3, pos := "law.go:40", after := #[{ on := 5, ground := Ground.data }, { on := 6, ground := Ground.data }, { on := 5, ground := Ground.chain }], guard := none }) rfl (fun KK hKK => ?_) AllReadyH.nil
    go_simp
    refine (qm _ sa ca hA).mono ?_
    rintro e wb ⟨rfl, hkb⟩
    go_wp2_with fail
    have hH1 := hH.trans hkb
    refine hKK.out _ _ hH1 (fun _ => ?_)
    replace hH := hH1
    clear hKK KK hH1
    clear hA hkb
    try simp only [Act.put, List.setIfInBounds_toArray, List.set_cons_zero, List.set_cons_succ]
    refine wpAnyH_take (i := 8) (oi := { dst := some 8, op := Op.assign (Operand.tmp 24), type := 3, pos := "law.go:40", after := #[{ on := 7, ground := Ground.data }, { on := 7, ground := Ground.chain }, { on := 0, ground := Ground.phase }, { on := 1, ground := Ground.phase }, { on := 2, ground := Ground.phase }, { on := 3, ground := Ground.phase }, { on := 4, ground := Ground.phase }, { on := 5, ground := Ground.phase }, { on := 6, ground := Ground.phase }, { on := 7, ground := Ground.phase }], guard := none }) (v := (.int .i64 0)) rfl (by kernel_rfl) (by kernel_rfl) (by kernel_rfl) (fun _ _ _ h => h) (Or.inl ⟨by rfl, fun W hSw => by go_simp⟩) hH ?_
    try simp only [Act.put, List.setIfInBounds_toArray, List.set_cons_zero, List.set_cons_succ]
    refine wpAnyH_done (by kernel_rfl) ?_ _
    have hO6 := hO3.kept hH
    have hk6 := hk3.trans hH
    clear hO3 hb0 hH hk3
    go_wp2_with fail
    refine wp_region_held_drew (S := fun W => Kept [] W2 W) (by kernel_rfl) (hk6.trans (kept_drew [] wb)) (fun hP => ?_)
    have hH := hP
    clear hP
    refine wpAnyH_take (i := 0) (oi := { dst := some 25, op := Op.move (Operand.tmp 7), type := 26, pos := "law.go:41", after := #[], guard := none }) (v := (.slice ul L.length cl)) rfl (by kernel_rfl) (by kernel_rfl) (by kernel_rfl) (fun _ _ _ h => h) (Or.inl ⟨by rfl, fun W hSw => by go_simp⟩) hH ?_
    try simp only [Act.put, List.setIfInBounds_toArray, List.set_cons_zero, List.set_cons_succ]
    refine wpAnyH_take (i := 1) (oi := { dst := some 26, op := Op.load 24 (Operand.tmp 3), type := 24, pos := "law.go:41", after := #[], guard := none }) (v := (.agg #[.int .i64 o, .int .i64 l])) rfl (by kernel_rfl) (by kernel_rfl) (by kernel_rfl) (fun _ _ _ h => h) (Or.inl ⟨by rfl, fun W hSw => by obtain ⟨c0, c1, c2, c3⟩ := cs W hSw; go_simp⟩) hH ?_
    try simp only [Act.put, List.setIfInBounds_toArray, List.set_cons_zero, List.set_cons_succ]
    refine wpAnyH_take (i := 2) (oi := { dst := some 27, op := Op.build 33 #[(0, Operand.tmp 26), (1, Operand.const (Value.bool true))], type := 33, pos := "law.go:41", after := #[{ on := 1, ground := Ground.data }], guard := none }) (v := (.agg #[.int .i64 o, .int .i64 l, .bool true])) rfl (by kernel_rfl) (by kernel_rfl) (by kernel_rfl) (fun _ _ _ h => h) (Or.inl ⟨by rfl, fun W hSw => by go_simp⟩) hH ?_
    try simp only [Act.put, List.setIfInBounds_toArray, List.set_cons_zero, List.set_cons_succ]
    refine wpAnyH_take (i := 5) (oi := { dst := some 30, op := Op.load 24 (Operand.tmp 4), type := 24, pos := "law.go:41", after := #[], guard := none }) (v := (.agg #[.int .i64 p, .int .i64 m])) rfl (by kernel_rfl) (by kernel_rfl) (by kernel_rfl) (fun _ _ _ h => h) (Or.inl ⟨by rfl, fun W hSw => by obtain ⟨c0, c1, c2, c3⟩ := cs W hSw; go_simp⟩) hH ?_
    try simp only [Act.put, List.setIfInBounds_toArray, List.set_cons_zero, List.set_cons_succ]
    refine wpAnyH_ready (rs := [3]) (by kernel_rfl) (by simp) ?_
    refine AllReadyH.cons (o := { dst := some 28, op := Op.buildSlice 26 1 #[(0, Operand.tmp 27)], type := 26, pos := "law.go:41", after := #[{ on := 2, ground := Ground.data }], guard := none }) rfl (fun KK hKK => ?_) AllReadyH.nil
    go_simp
    have hH1 := hH.trans (kept_alloc [] wb.drew (.cells #[.int .i64 o, .int .i64 l, .bool true] 33))
    refine hKK.out _ _ hH1 (fun _ => ?_)
    replace hH := hH1
    clear hKK KK hH1
    try simp only [Act.put, List.setIfInBounds_toArray, List.set_cons_zero, List.set_cons_succ]
    obtain ⟨v, hv⟩ : ∃ v, Value.slice ul L.length cl = v := ⟨_, rfl⟩
    obtain ⟨q, hqq⟩ : ∃ q, wb.heap.size = q := ⟨_, rfl⟩
    rw [hv] at hO6
    have hO : Hid (OwnOws (wb.alloc (.cells #[.int .i64 o, .int .i64 l, .bool true] 33)).drew W2.heap.size v L) := hO6.kept ((kept_alloc [] wb (.cells #[.int .i64 o, .int .i64 l, .bool true] 33)).trans (kept_drew [] _))
    have hq : Hid (Blk (wb.alloc (.cells #[.int .i64 o, .int .i64 l, .bool true] 33)).drew q 33 #[.int .i64 o, .int .i64 l, .bool true]) := by rw [← hqq]; exact (blk_new wb 33 _).kept (kept_drew [] _) (by simp)
    have hbb : Hid (W2.heap.size ≤ (wb.alloc (.cells #[.int .i64 o, .int .i64 l, .bool true] 33)).drew.heap.size) := hH.size
    rw [hv, hqq]
    replace hH : Kept [] W2 (wb.alloc (.cells #[.int .i64 o, .int .i64 l, .bool true] 33)).drew := hH
    clear hO6 hv hqq hk6
    generalize (wb.alloc (.cells #[.int .i64 o, .int .i64 l, .bool true] 33)).drew = w7 at *
    refine wpAnyH_ready (rs := [4]) (by kernel_rfl) (by simp) ?_
    refine AllReadyH.cons (o := { dst := some 29, op := Op.call { callee := Callee.builtin Builtin.append, args := #[Operand.tmp 25, Operand.tmp 28], argTypes := #[26, 26] }, type := 26, pos := "law.go:41", after := #[{ on := 0, ground := Ground.data }, { on := 3, ground := Ground.data }], guard := none }) rfl (fun KK hKK => ?_) AllReadyH.nil
    refine step_append_ow rfl (Operand.tmp 25) (Operand.tmp 28) rfl W2.heap.size v L ⟨o, l, true⟩ q (by simp [Act.eval]) hO.out (by simp [Act.eval]) hq.out hll.out hbb.out ?_
    intro sa8 ca8 w8 hA hg
    have hH1 := kept_grown hO.out hg W2 hH (Nat.le_refl _)
    refine hKK.out _ _ hH1 (fun _ => ?_)
    replace hH := hH1
    clear hKK KK hH1
    clear hg hO hq hbb
    try simp only [Act.put, List.setIfInBounds_toArray, List.set_cons_zero, List.set_cons_succ]
    refine wpAnyH_ready (rs := [6]) (by kernel_rfl) (by simp) ?_
    refine AllReadyH.cons (o := { dst := some 31, op := Op.call { callee := Callee.value (Operand.func 7), args := #[Operand.const (Value.bool true), Operand.tmp 29, Operand.tmp 30], argTypes := #[4, 26, 24] }, type := 3, pos := "law.go:41", after := #[{ on := 4, ground := Ground.data }, { on := 5, ground := Ground.data }, { on := 4, ground := Ground.chain }], guard := none }) rfl (fun KK hKK => ?_) AllReadyH.nil
    go_simp
    refine (qt _ sa8 ca8 hA).mono ?_
    rintro e w9 ⟨rfl, hk9⟩
    go_wp2_with fail
    have hH1 := hH.trans hk9
    refine hKK.out _ _ hH1 (fun _ => ?_)
    replace hH := hH1
    clear hKK KK hH1
    clear hA hk9
    try simp only [Act.put, List.setIfInBounds_toArray, List.set_cons_zero, List.set_cons_succ]
    refine wpAnyH_take (i := 7) (oi := { dst := some 9, op := Op.assign (Operand.tmp 31), type := 3, pos := "law.go:41", after := #[{ on := 6, ground := Ground.data }, { on := 6, ground := Ground.chain }, { on := 0, ground := Ground.phase }, { on := 1, ground := Ground.phase }, { on := 2, ground := Ground.phase }, { on := 3, ground := Ground.phase }, { on := 4, ground := Ground.phase }, { on := 5, ground := Ground.phase }, { on := 6, ground := Ground.phase }], guard := none }) (v := (.int .i64 tv)) rfl (by kernel_rfl) (by kernel_rfl) (by kernel_rfl) (fun _ _ _ h => h) (Or.inl ⟨by rfl, fun W hSw => by go_simp⟩) hH ?_
    try simp only [Act.put, List.setIfInBounds_toArray, List.set_cons_zero, List.set_cons_succ]
    refine wpAnyH_done (by kernel_rfl) ?_ _
    obtain ⟨c0, c1, c2, c3⟩ := cs w9 hH
    have kS := kept_alloc [] w9 (.cells #[.int .i64 o, .int .i64 l, .bool false] 33)
    have hS : OwsAt (w9.alloc (.cells #[.int .i64 o, .int .i64 l, .bool false] 33)) (some ⟨w9.heap.size, 0, none⟩) 1 1 [⟨o, l, false⟩] := (lies_one w9 ⟨o, l, false⟩).ows (cap := 1) (Nat.le_refl _)
    obtain ⟨d0, d1, d2, d3⟩ := cs _ (hH.trans kS)
    have q8 := qa _ _ _ hS
    clear qm qt qo qo4 hS
    go_wp2_with (first
      | (go_at_call 7; refine q8.mono ?_; rintro e w10 ⟨rfl, hk10⟩; clear q8)
      | (go_at_call 5; refine (ql _).mono ?_; rintro e w11 ⟨rfl, hk11⟩))
    go_ret
    exact ⟨rfl, (((hk.trans hH).trans kS).trans hk10).trans hk11⟩
  · go_simp
    have hH1 := hH.trans (kept_alloc [] w3.drew (.cells #[.int .i64 p, .int .i64 m, .bool true] 33))
    refine hKK.out _ _ hH1 (fun _ => ?_)
    clear hKK KK
    try simp only [Act.put, List.setIfInBounds_toArray, List.set_cons_zero, List.set_cons_succ]
    refine wpAnyH_ready (rs := [1]) (by kernel_rfl) (by simp) ?_
    refine AllReadyH.cons (o := { dst := some 18, op := Op.call { callee := Callee.value (Operand.func 6), args := #[Operand.tmp 17], argTypes := #[22] }, type := 26, pos := "law.go:40", after := #[{ on := 0, ground := Ground.data }], guard := none }) rfl (fun KK hKK => ?_) AllReadyH.nil
    go_simp
    refine (qo4 _ hH1).mono ?_
    rintro e w5 ⟨v, rfl, hO4, hk4⟩
    go_wp2_with fail
    have hH1 := hH1.trans hk4
    refine hKK.out _ _ hH1 (fun _ => ?_)
    replace hH := hH1
    clear hKK KK hH1
    try simp only [Act.put, List.setIfInBounds_toArray, List.set_cons_zero, List.set_cons_succ]
    obtain ⟨sv, cv, rfl, -⟩ := hO4.ows
    obtain ⟨base, hbase⟩ : ∃ base, (w3.drew.alloc (.cells #[.int .i64 p, .int .i64 m, .bool true] 33)).heap.size = base := ⟨_, rfl⟩
    obtain ⟨v, hv⟩ : ∃ v, Value.slice sv L.length cv = v := ⟨_, rfl⟩
    obtain ⟨q, hqq⟩ : ∃ q, w3.heap.size = q := ⟨_, rfl⟩
    have hO : Hid (OwnOws w5 base v L) := by rw [← hbase, ← hv]; exact hO4
    have hq : Hid (Blk w5 q 33 #[.int .i64 p, .int .i64 m, .bool true]) := by rw [← hqq]; exact (blk_new w3.drew 33 _).kept hk4 (by simp)
    have hb0 : Hid (w3.heap.size ≤ base) := by show _ ≤ _; rw [← hbase]; exact Nat.le_trans (kept_drew [] w3).size (kept_alloc [] w3.drew (.cells #[.int .i64 p, .int .i64 m, .bool true] 33)).size
    have hbb : Hid (base ≤ w5.heap.size) := by show _ ≤ _; rw [← hbase]; exact hk4.size
    rw [hv, hqq]
    clear hO4 hk4 hv hqq hbase hH1
    refine wpAnyH_ready (rs := [5]) (by kernel_rfl) (by simp) ?_
    refine AllReadyH.cons (o := { dst := some 22, op := Op.call { callee := Callee.builtin Builtin.append, args := #[Operand.tmp 18, Operand.tmp 21], argTypes := #[26, 26] }, type := 26, pos := "law.go:40", after := #[{ on := 1, ground := Ground.data }, { on := 4, ground := Ground.data }, { on := 1, ground := Ground.chain }], guard := none }) rfl (fun KK hKK => ?_) AllReadyH.nil
    refine step_append_ow rfl (Operand.tmp 18) (Operand.tmp 21) rfl base v L ⟨p, m, true⟩ q (by simp [Act.eval]) hO.out (by simp [Act.eval]) hq.out hll.out hbb.out ?_
    intro sa ca wa hA hg
    have hH1 := kept_grown hO.out hg w3 hH hb0.out
    refine hKK.out _ _ hH1 (fun _ => ?_)
    replace hH := hH1
    clear hKK KK hH1
    clear hg hO hq hbb
    try simp only [Act.put, List.setIfInBounds_toArray, List.set_cons_zero, List.set_cons_succ]
    refine wpAnyH_ready (rs := [7]) (by kernel_rfl) (by simp) ?_
    refine AllReadyH.cons (o := { dst := some 24, op := Op.call { callee := Callee.value (Operand.func 7), args := #[Operand.const (Value.bool false), Operand.tmp 22, Operand.tmp 23], argTypes := #[4, 26, 24] }, type := 3, pos := "law.go:40", after := #[{ on := 5, ground := Ground.data }, { on := 6, ground := Ground.data }, { on := 5, ground := Ground.chain }], guard := none }) rfl (fun KK hKK => ?_) AllReadyH.nil
    go_simp
    refine (qm _ sa ca hA).mono ?_
    rintro e wb ⟨rfl, hkb⟩
    go_wp2_with fail
    have hH1 := hH.trans hkb
    refine hKK.out _ _ hH1 (fun _ => ?_)
    replace hH := hH1
    clear hKK KK hH1
    clear hA hkb
    try simp only [Act.put, List.setIfInBounds_toArray, List.set_cons_zero, List.set_cons_succ]
    refine wpAnyH_take (i := 8) (oi := { dst := some 8, op := Op.assign (Operand.tmp 24), type := 3, pos := "law.go:40", after := #[{ on := 7, ground := Ground.data }, { on := 7, ground := Ground.chain }, { on := 0, ground := Ground.phase }, { on := 1, ground := Ground.phase }, { on := 2, ground := Ground.phase }, { on := 3, ground := Ground.phase }, { on := 4, ground := Ground.phase }, { on := 5, ground := Ground.phase }, { on := 6, ground := Ground.phase }, { on := 7, ground := Ground.phase }], guard := none }) (v := (.int .i64 0)) rfl (by kernel_rfl) (by kernel_rfl) (by kernel_rfl) (fun _ _ _ h => h) (Or.inl ⟨by rfl, fun W hSw => by go_simp⟩) hH ?_
    try simp only [Act.put, List.setIfInBounds_toArray, List.set_cons_zero, List.set_cons_succ]
    refine wpAnyH_done (by kernel_rfl) ?_ _
    have hO6 := hO3.kept hH
    have hk6 := hk3.trans hH
    clear hO3 hb0 hH hk3
    go_wp2_with fail
    refine wp_region_held_drew (S := fun W => Kept [] W2 W) (by kernel_rfl) (hk6.trans (kept_drew [] wb)) (fun hP => ?_)
    have hH := hP
    clear hP
    refine wpAnyH_take (i := 0) (oi := { dst := some 25, op := Op.move (Operand.tmp 7), type := 26, pos := "law.go:41", after := #[], guard := none }) (v := (.slice ul L.length cl)) rfl (by kernel_rfl) (by kernel_rfl) (by kernel_rfl) (fun _ _ _ h => h) (Or.inl ⟨by rfl, fun W hSw => by go_simp⟩) hH ?_
    try simp only [Act.put, List.setIfInBounds_toArray, List.set_cons_zero, List.set_cons_succ]
    refine wpAnyH_take (i := 1) (oi := { dst := some 26, op := Op.load 24 (Operand.tmp 3), type := 24, pos := "law.go:41", after := #[], guard := none }) (v := (.agg #[.int .i64 o, .int .i64 l])) rfl (by kernel_rfl) (by kernel_rfl) (by kernel_rfl) (fun _ _ _ h => h) (Or.inl ⟨by rfl, fun W hSw => by obtain ⟨c0, c1, c2, c3⟩ := cs W hSw; go_simp⟩) hH ?_
    try simp only [Act.put, List.setIfInBounds_toArray, List.set_cons_zero, List.set_cons_succ]
    refine wpAnyH_take (i := 2) (oi := { dst := some 27, op := Op.build 33 #[(0, Operand.tmp 26), (1, Operand.const (Value.bool true))], type := 33, pos := "law.go:41", after := #[{ on := 1, ground := Ground.data }], guard := none }) (v := (.agg #[.int .i64 o, .int .i64 l, .bool true])) rfl (by kernel_rfl) (by kernel_rfl) (by kernel_rfl) (fun _ _ _ h => h) (Or.inl ⟨by rfl, fun W hSw => by go_simp⟩) hH ?_
    try simp only [Act.put, List.setIfInBounds_toArray, List.set_cons_zero, List.set_cons_succ]
    refine wpAnyH_take (i := 5) (oi := { dst := some 30, op := Op.load 24 (Operand.tmp 4), type := 24, pos := "law.go:41", after := #[], guard := none }) (v := (.agg #[.int .i64 p, .int .i64 m])) rfl (by kernel_rfl) (by kernel_rfl) (by kernel_rfl) (fun _ _ _ h => h) (Or.inl ⟨by rfl, fun W hSw => by obtain ⟨c0, c1, c2, c3⟩ := cs W hSw; go_simp⟩) hH ?_
    try simp only [Act.put, List.setIfInBounds_toArray, List.set_cons_zero, List.set_cons_succ]
    refine wpAnyH_ready (rs := [3]) (by kernel_rfl) (by simp) ?_
    refine AllReadyH.cons (o := { dst := some 28, op := Op.buildSlice 26 1 #[(0, Operand.tmp 27)], type := 26, pos := "law.go:41", after := #[{ on := 2, ground := Ground.data }], guard := none }) rfl (fun KK hKK => ?_) AllReadyH.nil
    go_simp
    have hH1 := hH.trans (kept_alloc [] wb.drew (.cells #[.int .i64 o, .int .i64 l, .bool true] 33))
    refine hKK.out _ _ hH1 (fun _ => ?_)
    replace hH := hH1
    clear hKK KK hH1
    try simp only [Act.put, List.setIfInBounds_toArray, List.set_cons_zero, List.set_cons_succ]
    obtain ⟨v, hv⟩ : ∃ v, Value.slice ul L.length cl = v := ⟨_, rfl⟩
    obtain ⟨q, hqq⟩ : ∃ q, wb.heap.size = q := ⟨_, rfl⟩
    rw [hv] at hO6
    have hO : Hid (OwnOws (wb.alloc (.cells #[.int .i64 o, .int .i64 l, .bool true] 33)).drew W2.heap.size v L) := hO6.kept ((kept_alloc [] wb (.cells #[.int .i64 o, .int .i64 l, .bool true] 33)).trans (kept_drew [] _))
    have hq : Hid (Blk (wb.alloc (.cells #[.int .i64 o, .int .i64 l, .bool true] 33)).drew q 33 #[.int .i64 o, .int .i64 l, .bool true]) := by rw [← hqq]; exact (blk_new wb 33 _).kept (kept_drew [] _) (by simp)
    have hbb : Hid (W2.heap.size ≤ (wb.alloc (.cells #[.int .i64 o, .int .i64 l, .bool true] 33)).drew.heap.size) := hH.size
    rw [hv, hqq]
    replace hH : Kept [] W2 (wb.alloc (.cells #[.int .i64 o, .int .i64 l, .bool true] 33)).drew := hH
    clear hO6 hv hqq hk6
    generalize (wb.alloc (.cells #[.int .i64 o, .int .i64 l, .bool true] 33)).drew = w7 at *
    refine wpAnyH_ready (rs := [4]) (by kernel_rfl) (by simp) ?_
    refine AllReadyH.cons (o := { dst := some 29, op := Op.call { callee := Callee.builtin Builtin.append, args := #[Operand.tmp 25, Operand.tmp 28], argTypes := #[26, 26] }, type := 26, pos := "law.go:41", after := #[{ on := 0, ground := Ground.data }, { on := 3, ground := Ground.data }], guard := none }) rfl (fun KK hKK => ?_) AllReadyH.nil
    refine step_append_ow rfl (Operand.tmp 25) (Operand.tmp 28) rfl W2.heap.size v L ⟨o, l, true⟩ q (by simp [Act.eval]) hO.out (by simp [Act.eval]) hq.out hll.out hbb.out ?_
    intro sa8 ca8 w8 hA hg
    have hH1 := kept_grown hO.out hg W2 hH (Nat.le_refl _)
    refine hKK.out _ _ hH1 (fun _ => ?_)
    replace hH := hH1
    clear hKK KK hH1
    clear hg hO hq hbb
    try simp only [Act.put, List.setIfInBounds_toArray, List.set_cons_zero, List.set_cons_succ]
    refine wpAnyH_ready (rs := [6]) (by kernel_rfl) (by simp) ?_
    refine AllReadyH.cons (o := { dst := some 31, op := Op.call { callee := Callee.value (Operand.func 7), args := #[Operand.const (Value.bool true), Operand.tmp 29, Operand.tmp 30], argTypes := #[4, 26, 24] }, type := 3, pos := "law.go:41", after := #[{ on := 4, ground := Ground.data }, { on := 5, ground := Ground.data }, { on := 4, ground := Ground.chain }], guard := none }) rfl (fun KK hKK => ?_) AllReadyH.nil
    go_simp
    refine (qt _ sa8 ca8 hA).mono ?_
    rintro e w9 ⟨rfl, hk9⟩
    go_wp2_with fail
    have hH1 := hH.trans hk9
    refine hKK.out _ _ hH1 (fun _ => ?_)
    replace hH := hH1
    clear hKK KK hH1
    clear hA hk9
    try simp only [Act.put, List.setIfInBounds_toArray, List.set_cons_zero, List.set_cons_succ]
    refine wpAnyH_take (i := 7) (oi := { dst := some 9, op := Op.assign (Operand.tmp 31), type := 3, pos := "law.go:41", after := #[{ on := 6, ground := Ground.data }, { on := 6, ground := Ground.chain }, { on := 0, ground := Ground.phase }, { on := 1, ground := Ground.phase }, { on := 2, ground := Ground.phase }, { on := 3, ground := Ground.phase }, { on := 4, ground := Ground.phase }, { on := 5, ground := Ground.phase }, { on := 6, ground := Ground.phase }], guard := none }) (v := (.int .i64 tv)) rfl (by kernel_rfl) (by kernel_rfl) (by kernel_rfl) (fun _ _ _ h => h) (Or.inl ⟨by rfl, fun W hSw => by go_simp⟩) hH ?_
    try simp only [Act.put, List.setIfInBounds_toArray, List.set_cons_zero, List.set_cons_succ]
    refine wpAnyH_done (by kernel_rfl) ?_ _
    obtain ⟨c0, c1, c2, c3⟩ := cs w9 hH
    have kS := kept_alloc [] w9 (.cells #[.int .i64 o, .int .i64 l, .bool false] 33)
    have hS : OwsAt (w9.alloc (.cells #[.int .i64 o, .int .i64 l, .bool false] 33)) (some ⟨w9.heap.size, 0, none⟩) 1 1 [⟨o, l, false⟩] := (lies_one w9 ⟨o, l, false⟩).ows (cap := 1) (Nat.le_refl _)
    obtain ⟨d0, d1, d2, d3⟩ := cs _ (hH.trans kS)
    have q8 := qa _ _ _ hS
    clear qm qt qo qo4 hS
    go_wp2_with (first
      | (go_at_call 7; refine q8.mono ?_; rintro e w10 ⟨rfl, hk10⟩; clear q8)
      | (go_at_call 5; refine (ql _).mono ?_; rintro e w11 ⟨rfl, hk11⟩))
    go_ret
    exact ⟨rfl, (((hk.trans hH).trans kS).trans hk10).trans hk11⟩
set_option maxRecDepth 100000 in
set_option maxHeartbeats 4000000 in
theorem sides_not3 (a : Option Addr) (len cap : Nat) (o l p m tv av : Int) (L : List Ow) (h : len ≤ 50) (w : World) (hL : OwsAt w a len cap L) (hm : verd false (L ++ [⟨p, m, true⟩]) o l = 3) (ht : verd true (L ++ [⟨o, l, true⟩]) p m = tv) (ha : verd true [⟨o, l, false⟩] p m = av) (b1 : (tv == 3) = false) (b3 : (av == 0) = true) :
    Calls Try.prog 4 #[.agg #[.int .i64 o, .int .i64 l], .agg #[.int .i64 p, .int .i64 m], .slice a len cap] w fun e w' => e = .returned (.bool true) ∧ Kept [] w w' := by
  have kA := kept_alloc [] w (.cells #[.int .i64 o, .int .i64 l] 24)
  have hA := blk_new w 24 #[.int .i64 o, .int .i64 l]
  obtain ⟨W1, hW1⟩ : ∃ W1, w.alloc (.cells #[.int .i64 o, .int .i64 l] 24) = W1 := ⟨_, rfl⟩
  rw [hW1] at kA hA
  have kB := kept_alloc [] W1 (.cells #[.int .i64 p, .int .i64 m] 24)
  have hB := blk_new W1 24 #[.int .i64 p, .int .i64 m]
  obtain ⟨W2, hW2⟩ : ∃ W2, W1.alloc (.cells #[.int .i64 p, .int .i64 m] 24) = W2 := ⟨_, rfl⟩
  rw [hW2] at kB hB
  have cs : ∀ V, Kept [] W2 V → V.cell? ⟨w.heap.size, 0, none⟩ = some (.int .i64 o) ∧ V.cell? ⟨w.heap.size, 1, none⟩ = some (.int .i64 l) ∧ V.cell? ⟨W1.heap.size, 0, none⟩ = some (.int .i64 p) ∧ V.cell? ⟨W1.heap.size, 1, none⟩ = some (.int .i64 m) := fun V h =>
    ⟨((hA.kept (kB.trans h) (by simp)).cell 0).trans rfl, ((hA.kept (kB.trans h) (by simp)).cell 1).trans rfl, ((hB.kept h (by simp)).cell 0).trans rfl, ((hB.kept h (by simp)).cell 1).trans rfl⟩
  have g1 : ¬ ((50 : Int) < (len : Int)) := by omega
  have hk := kA.trans kB
  have qo := fun V (k : Kept [] w V) => owns_any a len cap L (by omega) V (hL.kept k)
  have hlen : Hid (L.length = len) := hL.1
  have hll : Hid (L.length ≤ 2000) := by show _ ≤ _; rw [hL.1]; omega
  have qm := fun V (u : Option Addr) (c : Nat) (hu : OwsAt V u (L.length + 1) c (L ++ [⟨p, m, true⟩])) => verdict_any false o l u (L.length + 1) c _ (by rw [hL.1]; omega) V hu
  have qt := fun V (u : Option Addr) (c : Nat) (hu : OwsAt V u (L.length + 1) c (L ++ [⟨o, l, true⟩])) => verdict_any true p m u (L.length + 1) c _ (by rw [hL.1]; omega) V hu
  have qa := fun V (u : Option Addr) (c : Nat) (hu : OwsAt V u 1 c [⟨o, l, false⟩]) => verdict_any true p m u 1 c _ (by omega) V hu
  have ql := fun V => lives_any V
  rw [hm] at qm
  rw [ht] at qt
  rw [ha] at qa
  clear hA hB hL hm ht ha
  have q3 := qo W2 hk
  go_enter Try.func4, Try.ntmps4
  go_wp2_with (go_at_call 6; refine q3.mono ?_; rintro e w3 ⟨vl, rfl, hO3, hk3⟩)
  clear hW1 hW2 q3
  have hbl := Nat.le_trans hk3.size (Nat.le_refl w3.heap.size)
  have qo4 := fun V (k : Kept [] w3 V) => qo V ((hk.trans hk3).trans k)
  obtain ⟨ul, cl, evl, -⟩ := hO3.ows
  subst evl
  refine wp_region_held_drew (S := fun W => Kept [] w3 W) (by kernel_rfl) (kept_drew [] w3) (fun hP => ?_)
  have hH := hP
  clear hP
  refine wpAnyH_take (i := 0) (oi := { dst := some 17, op := Op.move (Operand.tmp 2), type := 22, pos := "law.go:40", after := #[], guard := none }) (v := (.slice a len cap)) rfl (by kernel_rfl) (by kernel_rfl) (by kernel_rfl) (fun _ _ _ h => h) (Or.inl ⟨by rfl, fun W hSw => by go_simp⟩) hH ?_
  try simp only [Act.put, List.setIfInBounds_toArray, List.set_cons_zero, List.set_cons_succ]
  refine wpAnyH_take (i := 2) (oi := { dst := some 19, op := Op.load 24 (Operand.tmp 4), type := 24, pos := "law.go:40", after := #[], guard := none }) (v := (.agg #[.int .i64 p, .int .i64 m])) rfl (by kernel_rfl) (by kernel_rfl) (by kernel_rfl) (fun _ _ _ h => h) (Or.inl ⟨by rfl, fun W hSw => by obtain ⟨c0, c1, c2, c3⟩ := cs W (hk3.trans hSw); go_simp⟩) hH ?_
  try simp only [Act.put, List.setIfInBounds_toArray, List.set_cons_zero, List.set_cons_succ]
  refine wpAnyH_take (i := 3) (oi := { dst := some 20, op := Op.build 33 #[(0, Operand.tmp 19), (1, Operand.const (Value.bool true))], type := 33, pos := "law.go:40", after := #[{ on := 2, ground := Ground.data }], guard := none }) (v := (.agg #[.int .i64 p, .int .i64 m, .bool true])) rfl (by kernel_rfl) (by kernel_rfl) (by kernel_rfl) (fun _ _ _ h => h) (Or.inl ⟨by rfl, fun W hSw => by go_simp⟩) hH ?_
  try simp only [Act.put, List.setIfInBounds_toArray, List.set_cons_zero, List.set_cons_succ]
  refine wpAnyH_take (i := 6) (oi := { dst := some 23, op := Op.load 24 (Operand.tmp 3), type := 24, pos := "law.go:40", after := #[], guard := none }) (v := (.agg #[.int .i64 o, .int .i64 l])) rfl (by kernel_rfl) (by kernel_rfl) (by kernel_rfl) (fun _ _ _ h => h) (Or.inl ⟨by rfl, fun W hSw => by obtain ⟨c0, c1, c2, c3⟩ := cs W (hk3.trans hSw); go_simp⟩) hH ?_
  try simp only [Act.put, List.setIfInBounds_toArray, List.set_cons_zero, List.set_cons_succ]
  refine wpAnyH_ready (rs := [1, 4]) (by kernel_rfl) (by simp) ?_
  refine AllReadyH.cons (o := { dst := some 18, op := Op.call { callee := Callee.value (Operand.func 6), args := #[Operand.tmp 17], argTypes := #[22] }, type := 26, pos := "law.go:40", after := #[{ on := 0, ground := Ground.data }], guard := none }) rfl (fun KK hKK => ?_) (AllReadyH.cons (o := { dst := some 21, op := Op.buildSlice 26 1 #[(0, Operand.tmp 20)], type := 26, pos := "law.go:40", after := #[{ on := 3, ground := Ground.data }], guard := none }) rfl (fun KK hKK => ?_) AllReadyH.nil)
  · go_simp
    refine (qo4 _ hH).mono ?_
    rintro e w4 ⟨v, rfl, hO4, hk4⟩
    go_wp2_with fail
    have hH1 := hH.trans hk4
    refine hKK.out _ _ hH1 (fun _ => ?_)
    clear hKK KK
    try simp only [Act.put, List.setIfInBounds_toArray, List.set_cons_zero, List.set_cons_succ]
    obtain ⟨sv, cv, rfl, -⟩ := hO4.ows
    refine wpAnyH_ready (rs := [4]) (by kernel_rfl) (by simp) ?_
    refine AllReadyH.cons (o := { dst := some 21, op := Op.buildSlice 26 1 #[(0, Operand.tmp 20)], type := 26, pos := "law.go:40", after := #[{ on := 3, ground := Ground.data }], guard := none }) rfl (fun KK hKK => ?_) AllReadyH.nil
    go_simp
    have hH1 := hH1.trans (kept_alloc [] w4 (.cells #[.int .i64 p, .int .i64 m, .bool true] 33))
    refine hKK.out _ _ hH1 (fun _ => ?_)
    replace hH := hH1
    clear hKK KK hH1
    try simp only [Act.put, List.setIfInBounds_toArray, List.set_cons_zero, List.set_cons_succ]
    obtain ⟨base, hbase⟩ : ∃ base, w3.drew.heap.size = base := ⟨_, rfl⟩
    obtain ⟨v, hv⟩ : ∃ v, Value.slice sv L.length cv = v := ⟨_, rfl⟩
    obtain ⟨q, hqq⟩ : ∃ q, w4.heap.size = q := ⟨_, rfl⟩
    have hO : Hid (OwnOws (w4.alloc (.cells #[.int .i64 p, .int .i64 m, .bool true] 33)) base v L) := by rw [← hbase, ← hv]; exact hO4.kept (kept_alloc [] w4 (.cells #[.int .i64 p, .int .i64 m, .bool true] 33))
    have hq : Hid (Blk (w4.alloc (.cells #[.int .i64 p, .int .i64 m, .bool true] 33)) q 33 #[.int .i64 p, .int .i64 m, .bool true]) := by rw [← hqq]; exact blk_new w4 33 _
    have hb0 : Hid (w3.heap.size ≤ base) := by show _ ≤ _; rw [← hbase]; exact (kept_drew [] w3).size
    have hbb : Hid (base ≤ (w4.alloc (.cells #[.int .i64 p, .int .i64 m, .bool true] 33)).heap.size) := by show _ ≤ _; rw [← hbase]; exact Nat.le_trans hk4.size (kept_alloc [] w4 (.cells #[.int .i64 p, .int .i64 m, .bool true] 33)).size
    rw [hv, hqq]
    clear hO4 hk4 hv hqq hbase hH1
    generalize w4.alloc (.cells #[.int .i64 p, .int .i64 m, .bool true] 33) = w5 at *
    refine wpAnyH_ready (rs := [5]) (by kernel_rfl) (by simp) ?_
    refine AllReadyH.cons (o := { dst := some 22, op := Op.call { callee := Callee.builtin Builtin.append, args := #[Operand.tmp 18, Operand.tmp 21], argTypes := #[26, 26] }, type := 26, pos := "law.go:40", after := #[{ on := 1, ground := Ground.data }, { on := 4, ground := Ground.data }, { on := 1, ground := Ground.chain }], guard := none }) rfl (fun KK hKK => ?_) AllReadyH.nil
    refine step_append_ow rfl (Operand.tmp 18) (Operand.tmp 21) rfl base v L ⟨p, m, true⟩ q (by simp [Act.eval]) hO.out (by simp [Act.eval]) hq.out hll.out hbb.out ?_
    intro sa ca wa hA hg
    have hH1 := kept_grown hO.out hg w3 hH hb0.out
    refine hKK.out _ _ hH1 (fun _ => ?_)
    replace hH := hH1
    clear hKK KK hH1
    clear hg hO hq hbb
    try simp only [Act.put, List.setIfInBounds_toArray, List.set_cons_zero, List.set_cons_succ]
    refine wpAnyH_ready (rs := [7]) (by kernel_rfl) (by simp) ?_
    refine AllReadyH.cons (o := { dst := some 24, op := Op.call { callee := Callee.value (Operand.func 7), args := #[Operand.const (Value.bool false), Operand.tmp 22, Operand.tmp 23], argTypes := #[4, 26, 24] }, type := 3, pos := "law.go:40", after := #[{ on := 5, ground := Ground.data }, { on := 6, ground := Ground.data }, { on := 5, ground := Ground.chain }], guard := none }) rfl (fun KK hKK => ?_) AllReadyH.nil
    go_simp
    refine (qm _ sa ca hA).mono ?_
    rintro e wb ⟨rfl, hkb⟩
    go_wp2_with fail
    have hH1 := hH.trans hkb
    refine hKK.out _ _ hH1 (fun _ => ?_)
    replace hH := hH1
    clear hKK KK hH1
    clear hA hkb
    try simp only [Act.put, List.setIfInBounds_toArray, List.set_cons_zero, List.set_cons_succ]
    refine wpAnyH_take (i := 8) (oi := { dst := some 8, op := Op.assign (Operand.tmp 24), type := 3, pos := "law.go:40", after := #[{ on := 7, ground := Ground.data }, { on := 7, ground := Ground.chain }, { on := 0, ground := Ground.phase }, { on := 1, ground := Ground.phase }, { on := 2, ground := Ground.phase }, { on := 3, ground := Ground.phase }, { on := 4, ground := Ground.phase }, { on := 5, ground := Ground.phase }, { on := 6, ground := Ground.phase }, { on := 7, ground := Ground.phase }], guard := none }) (v := (.int .i64 3)) rfl (by kernel_rfl) (by kernel_rfl) (by kernel_rfl) (fun _ _ _ h => h) (Or.inl ⟨by rfl, fun W hSw => by go_simp⟩) hH ?_
    try simp only [Act.put, List.setIfInBounds_toArray, List.set_cons_zero, List.set_cons_succ]
    refine wpAnyH_done (by kernel_rfl) ?_ _
    have hO6 := hO3.kept hH
    have hk6 := hk3.trans hH
    clear hO3 hb0 hH hk3
    go_wp2_with fail
    refine wp_region_held_drew (S := fun W => Kept [] W2 W) (by kernel_rfl) (hk6.trans (kept_drew [] wb)) (fun hP => ?_)
    have hH := hP
    clear hP
    refine wpAnyH_take (i := 0) (oi := { dst := some 25, op := Op.move (Operand.tmp 7), type := 26, pos := "law.go:41", after := #[], guard := none }) (v := (.slice ul L.length cl)) rfl (by kernel_rfl) (by kernel_rfl) (by kernel_rfl) (fun _ _ _ h => h) (Or.inl ⟨by rfl, fun W hSw => by go_simp⟩) hH ?_
    try simp only [Act.put, List.setIfInBounds_toArray, List.set_cons_zero, List.set_cons_succ]
    refine wpAnyH_take (i := 1) (oi := { dst := some 26, op := Op.load 24 (Operand.tmp 3), type := 24, pos := "law.go:41", after := #[], guard := none }) (v := (.agg #[.int .i64 o, .int .i64 l])) rfl (by kernel_rfl) (by kernel_rfl) (by kernel_rfl) (fun _ _ _ h => h) (Or.inl ⟨by rfl, fun W hSw => by obtain ⟨c0, c1, c2, c3⟩ := cs W hSw; go_simp⟩) hH ?_
    try simp only [Act.put, List.setIfInBounds_toArray, List.set_cons_zero, List.set_cons_succ]
    refine wpAnyH_take (i := 2) (oi := { dst := some 27, op := Op.build 33 #[(0, Operand.tmp 26), (1, Operand.const (Value.bool true))], type := 33, pos := "law.go:41", after := #[{ on := 1, ground := Ground.data }], guard := none }) (v := (.agg #[.int .i64 o, .int .i64 l, .bool true])) rfl (by kernel_rfl) (by kernel_rfl) (by kernel_rfl) (fun _ _ _ h => h) (Or.inl ⟨by rfl, fun W hSw => by go_simp⟩) hH ?_
    try simp only [Act.put, List.setIfInBounds_toArray, List.set_cons_zero, List.set_cons_succ]
    refine wpAnyH_take (i := 5) (oi := { dst := some 30, op := Op.load 24 (Operand.tmp 4), type := 24, pos := "law.go:41", after := #[], guard := none }) (v := (.agg #[.int .i64 p, .int .i64 m])) rfl (by kernel_rfl) (by kernel_rfl) (by kernel_rfl) (fun _ _ _ h => h) (Or.inl ⟨by rfl, fun W hSw => by obtain ⟨c0, c1, c2, c3⟩ := cs W hSw; go_simp⟩) hH ?_
    try simp only [Act.put, List.setIfInBounds_toArray, List.set_cons_zero, List.set_cons_succ]
    refine wpAnyH_ready (rs := [3]) (by kernel_rfl) (by simp) ?_
    refine AllReadyH.cons (o := { dst := some 28, op := Op.buildSlice 26 1 #[(0, Operand.tmp 27)], type := 26, pos := "law.go:41", after := #[{ on := 2, ground := Ground.data }], guard := none }) rfl (fun KK hKK => ?_) AllReadyH.nil
    go_simp
    have hH1 := hH.trans (kept_alloc [] wb.drew (.cells #[.int .i64 o, .int .i64 l, .bool true] 33))
    refine hKK.out _ _ hH1 (fun _ => ?_)
    replace hH := hH1
    clear hKK KK hH1
    try simp only [Act.put, List.setIfInBounds_toArray, List.set_cons_zero, List.set_cons_succ]
    obtain ⟨v, hv⟩ : ∃ v, Value.slice ul L.length cl = v := ⟨_, rfl⟩
    obtain ⟨q, hqq⟩ : ∃ q, wb.heap.size = q := ⟨_, rfl⟩
    rw [hv] at hO6
    have hO : Hid (OwnOws (wb.alloc (.cells #[.int .i64 o, .int .i64 l, .bool true] 33)).drew W2.heap.size v L) := hO6.kept ((kept_alloc [] wb (.cells #[.int .i64 o, .int .i64 l, .bool true] 33)).trans (kept_drew [] _))
    have hq : Hid (Blk (wb.alloc (.cells #[.int .i64 o, .int .i64 l, .bool true] 33)).drew q 33 #[.int .i64 o, .int .i64 l, .bool true]) := by rw [← hqq]; exact (blk_new wb 33 _).kept (kept_drew [] _) (by simp)
    have hbb : Hid (W2.heap.size ≤ (wb.alloc (.cells #[.int .i64 o, .int .i64 l, .bool true] 33)).drew.heap.size) := hH.size
    rw [hv, hqq]
    replace hH : Kept [] W2 (wb.alloc (.cells #[.int .i64 o, .int .i64 l, .bool true] 33)).drew := hH
    clear hO6 hv hqq hk6
    generalize (wb.alloc (.cells #[.int .i64 o, .int .i64 l, .bool true] 33)).drew = w7 at *
    refine wpAnyH_ready (rs := [4]) (by kernel_rfl) (by simp) ?_
    refine AllReadyH.cons (o := { dst := some 29, op := Op.call { callee := Callee.builtin Builtin.append, args := #[Operand.tmp 25, Operand.tmp 28], argTypes := #[26, 26] }, type := 26, pos := "law.go:41", after := #[{ on := 0, ground := Ground.data }, { on := 3, ground := Ground.data }], guard := none }) rfl (fun KK hKK => ?_) AllReadyH.nil
    refine step_append_ow rfl (Operand.tmp 25) (Operand.tmp 28) rfl W2.heap.size v L ⟨o, l, true⟩ q (by simp [Act.eval]) hO.out (by simp [Act.eval]) hq.out hll.out hbb.out ?_
    intro sa8 ca8 w8 hA hg
    have hH1 := kept_grown hO.out hg W2 hH (Nat.le_refl _)
    refine hKK.out _ _ hH1 (fun _ => ?_)
    replace hH := hH1
    clear hKK KK hH1
    clear hg hO hq hbb
    try simp only [Act.put, List.setIfInBounds_toArray, List.set_cons_zero, List.set_cons_succ]
    refine wpAnyH_ready (rs := [6]) (by kernel_rfl) (by simp) ?_
    refine AllReadyH.cons (o := { dst := some 31, op := Op.call { callee := Callee.value (Operand.func 7), args := #[Operand.const (Value.bool true), Operand.tmp 29, Operand.tmp 30], argTypes := #[4, 26, 24] }, type := 3, pos := "law.go:41", after := #[{ on := 4, ground := Ground.data }, { on := 5, ground := Ground.data }, { on := 4, ground := Ground.chain }], guard := none }) rfl (fun KK hKK => ?_) AllReadyH.nil
    go_simp
    refine (qt _ sa8 ca8 hA).mono ?_
    rintro e w9 ⟨rfl, hk9⟩
    go_wp2_with fail
    have hH1 := hH.trans hk9
    refine hKK.out _ _ hH1 (fun _ => ?_)
    replace hH := hH1
    clear hKK KK hH1
    clear hA hk9
    try simp only [Act.put, List.setIfInBounds_toArray, List.set_cons_zero, List.set_cons_succ]
    refine wpAnyH_take (i := 7) (oi := { dst := some 9, op := Op.assign (Operand.tmp 31), type := 3, pos := "law.go:41", after := #[{ on := 6, ground := Ground.data }, { on := 6, ground := Ground.chain }, { on := 0, ground := Ground.phase }, { on := 1, ground := Ground.phase }, { on := 2, ground := Ground.phase }, { on := 3, ground := Ground.phase }, { on := 4, ground := Ground.phase }, { on := 5, ground := Ground.phase }, { on := 6, ground := Ground.phase }], guard := none }) (v := (.int .i64 tv)) rfl (by kernel_rfl) (by kernel_rfl) (by kernel_rfl) (fun _ _ _ h => h) (Or.inl ⟨by rfl, fun W hSw => by go_simp⟩) hH ?_
    try simp only [Act.put, List.setIfInBounds_toArray, List.set_cons_zero, List.set_cons_succ]
    refine wpAnyH_done (by kernel_rfl) ?_ _
    obtain ⟨c0, c1, c2, c3⟩ := cs w9 hH
    have kS := kept_alloc [] w9 (.cells #[.int .i64 o, .int .i64 l, .bool false] 33)
    have hS : OwsAt (w9.alloc (.cells #[.int .i64 o, .int .i64 l, .bool false] 33)) (some ⟨w9.heap.size, 0, none⟩) 1 1 [⟨o, l, false⟩] := (lies_one w9 ⟨o, l, false⟩).ows (cap := 1) (Nat.le_refl _)
    obtain ⟨d0, d1, d2, d3⟩ := cs _ (hH.trans kS)
    have q8 := qa _ _ _ hS
    clear qm qt qo qo4 hS
    go_wp2_with (first
      | (go_at_call 7; refine q8.mono ?_; rintro e w10 ⟨rfl, hk10⟩; clear q8)
      | (go_at_call 5; refine (ql _).mono ?_; rintro e w11 ⟨rfl, hk11⟩))
    go_ret
    exact ⟨rfl, (((hk.trans hH).trans kS).trans hk10).trans hk11⟩
  · go_simp
    have hH1 := hH.trans (kept_alloc [] w3.drew (.cells #[.int .i64 p, .int .i64 m, .bool true] 33))
    refine hKK.out _ _ hH1 (fun _ => ?_)
    clear hKK KK
    try simp only [Act.put, List.setIfInBounds_toArray, List.set_cons_zero, List.set_cons_succ]
    refine wpAnyH_ready (rs := [1]) (by kernel_rfl) (by simp) ?_
    refine AllReadyH.cons (o := { dst := some 18, op := Op.call { callee := Callee.value (Operand.func 6), args := #[Operand.tmp 17], argTypes := #[22] }, type := 26, pos := "law.go:40", after := #[{ on := 0, ground := Ground.data }], guard := none }) rfl (fun KK hKK => ?_) AllReadyH.nil
    go_simp
    refine (qo4 _ hH1).mono ?_
    rintro e w5 ⟨v, rfl, hO4, hk4⟩
    go_wp2_with fail
    have hH1 := hH1.trans hk4
    refine hKK.out _ _ hH1 (fun _ => ?_)
    replace hH := hH1
    clear hKK KK hH1
    try simp only [Act.put, List.setIfInBounds_toArray, List.set_cons_zero, List.set_cons_succ]
    obtain ⟨sv, cv, rfl, -⟩ := hO4.ows
    obtain ⟨base, hbase⟩ : ∃ base, (w3.drew.alloc (.cells #[.int .i64 p, .int .i64 m, .bool true] 33)).heap.size = base := ⟨_, rfl⟩
    obtain ⟨v, hv⟩ : ∃ v, Value.slice sv L.length cv = v := ⟨_, rfl⟩
    obtain ⟨q, hqq⟩ : ∃ q, w3.heap.size = q := ⟨_, rfl⟩
    have hO : Hid (OwnOws w5 base v L) := by rw [← hbase, ← hv]; exact hO4
    have hq : Hid (Blk w5 q 33 #[.int .i64 p, .int .i64 m, .bool true]) := by rw [← hqq]; exact (blk_new w3.drew 33 _).kept hk4 (by simp)
    have hb0 : Hid (w3.heap.size ≤ base) := by show _ ≤ _; rw [← hbase]; exact Nat.le_trans (kept_drew [] w3).size (kept_alloc [] w3.drew (.cells #[.int .i64 p, .int .i64 m, .bool true] 33)).size
    have hbb : Hid (base ≤ w5.heap.size) := by show _ ≤ _; rw [← hbase]; exact hk4.size
    rw [hv, hqq]
    clear hO4 hk4 hv hqq hbase hH1
    refine wpAnyH_ready (rs := [5]) (by kernel_rfl) (by simp) ?_
    refine AllReadyH.cons (o := { dst := some 22, op := Op.call { callee := Callee.builtin Builtin.append, args := #[Operand.tmp 18, Operand.tmp 21], argTypes := #[26, 26] }, type := 26, pos := "law.go:40", after := #[{ on := 1, ground := Ground.data }, { on := 4, ground := Ground.data }, { on := 1, ground := Ground.chain }], guard := none }) rfl (fun KK hKK => ?_) AllReadyH.nil
    refine step_append_ow rfl (Operand.tmp 18) (Operand.tmp 21) rfl base v L ⟨p, m, true⟩ q (by simp [Act.eval]) hO.out (by simp [Act.eval]) hq.out hll.out hbb.out ?_
    intro sa ca wa hA hg
    have hH1 := kept_grown hO.out hg w3 hH hb0.out
    refine hKK.out _ _ hH1 (fun _ => ?_)
    replace hH := hH1
    clear hKK KK hH1
    clear hg hO hq hbb
    try simp only [Act.put, List.setIfInBounds_toArray, List.set_cons_zero, List.set_cons_succ]
    refine wpAnyH_ready (rs := [7]) (by kernel_rfl) (by simp) ?_
    refine AllReadyH.cons (o := { dst := some 24, op := Op.call { callee := Callee.value (Operand.func 7), args := #[Operand.const (Value.bool false), Operand.tmp 22, Operand.tmp 23], argTypes := #[4, 26, 24] }, type := 3, pos := "law.go:40", after := #[{ on := 5, ground := Ground.data }, { on := 6, ground := Ground.data }, { on := 5, ground := Ground.chain }], guard := none }) rfl (fun KK hKK => ?_) AllReadyH.nil
    go_simp
    refine (qm _ sa ca hA).mono ?_
    rintro e wb ⟨rfl, hkb⟩
    go_wp2_with fail
    have hH1 := hH.trans hkb
    refine hKK.out _ _ hH1 (fun _ => ?_)
    replace hH := hH1
    clear hKK KK hH1
    clear hA hkb
    try simp only [Act.put, List.setIfInBounds_toArray, List.set_cons_zero, List.set_cons_succ]
    refine wpAnyH_take (i := 8) (oi := { dst := some 8, op := Op.assign (Operand.tmp 24), type := 3, pos := "law.go:40", after := #[{ on := 7, ground := Ground.data }, { on := 7, ground := Ground.chain }, { on := 0, ground := Ground.phase }, { on := 1, ground := Ground.phase }, { on := 2, ground := Ground.phase }, { on := 3, ground := Ground.phase }, { on := 4, ground := Ground.phase }, { on := 5, ground := Ground.phase }, { on := 6, ground := Ground.phase }, { on := 7, ground := Ground.phase }], guard := none }) (v := (.int .i64 3)) rfl (by kernel_rfl) (by kernel_rfl) (by kernel_rfl) (fun _ _ _ h => h) (Or.inl ⟨by rfl, fun W hSw => by go_simp⟩) hH ?_
    try simp only [Act.put, List.setIfInBounds_toArray, List.set_cons_zero, List.set_cons_succ]
    refine wpAnyH_done (by kernel_rfl) ?_ _
    have hO6 := hO3.kept hH
    have hk6 := hk3.trans hH
    clear hO3 hb0 hH hk3
    go_wp2_with fail
    refine wp_region_held_drew (S := fun W => Kept [] W2 W) (by kernel_rfl) (hk6.trans (kept_drew [] wb)) (fun hP => ?_)
    have hH := hP
    clear hP
    refine wpAnyH_take (i := 0) (oi := { dst := some 25, op := Op.move (Operand.tmp 7), type := 26, pos := "law.go:41", after := #[], guard := none }) (v := (.slice ul L.length cl)) rfl (by kernel_rfl) (by kernel_rfl) (by kernel_rfl) (fun _ _ _ h => h) (Or.inl ⟨by rfl, fun W hSw => by go_simp⟩) hH ?_
    try simp only [Act.put, List.setIfInBounds_toArray, List.set_cons_zero, List.set_cons_succ]
    refine wpAnyH_take (i := 1) (oi := { dst := some 26, op := Op.load 24 (Operand.tmp 3), type := 24, pos := "law.go:41", after := #[], guard := none }) (v := (.agg #[.int .i64 o, .int .i64 l])) rfl (by kernel_rfl) (by kernel_rfl) (by kernel_rfl) (fun _ _ _ h => h) (Or.inl ⟨by rfl, fun W hSw => by obtain ⟨c0, c1, c2, c3⟩ := cs W hSw; go_simp⟩) hH ?_
    try simp only [Act.put, List.setIfInBounds_toArray, List.set_cons_zero, List.set_cons_succ]
    refine wpAnyH_take (i := 2) (oi := { dst := some 27, op := Op.build 33 #[(0, Operand.tmp 26), (1, Operand.const (Value.bool true))], type := 33, pos := "law.go:41", after := #[{ on := 1, ground := Ground.data }], guard := none }) (v := (.agg #[.int .i64 o, .int .i64 l, .bool true])) rfl (by kernel_rfl) (by kernel_rfl) (by kernel_rfl) (fun _ _ _ h => h) (Or.inl ⟨by rfl, fun W hSw => by go_simp⟩) hH ?_
    try simp only [Act.put, List.setIfInBounds_toArray, List.set_cons_zero, List.set_cons_succ]
    refine wpAnyH_take (i := 5) (oi := { dst := some 30, op := Op.load 24 (Operand.tmp 4), type := 24, pos := "law.go:41", after := #[], guard := none }) (v := (.agg #[.int .i64 p, .int .i64 m])) rfl (by kernel_rfl) (by kernel_rfl) (by kernel_rfl) (fun _ _ _ h => h) (Or.inl ⟨by rfl, fun W hSw => by obtain ⟨c0, c1, c2, c3⟩ := cs W hSw; go_simp⟩) hH ?_
    try simp only [Act.put, List.setIfInBounds_toArray, List.set_cons_zero, List.set_cons_succ]
    refine wpAnyH_ready (rs := [3]) (by kernel_rfl) (by simp) ?_
    refine AllReadyH.cons (o := { dst := some 28, op := Op.buildSlice 26 1 #[(0, Operand.tmp 27)], type := 26, pos := "law.go:41", after := #[{ on := 2, ground := Ground.data }], guard := none }) rfl (fun KK hKK => ?_) AllReadyH.nil
    go_simp
    have hH1 := hH.trans (kept_alloc [] wb.drew (.cells #[.int .i64 o, .int .i64 l, .bool true] 33))
    refine hKK.out _ _ hH1 (fun _ => ?_)
    replace hH := hH1
    clear hKK KK hH1
    try simp only [Act.put, List.setIfInBounds_toArray, List.set_cons_zero, List.set_cons_succ]
    obtain ⟨v, hv⟩ : ∃ v, Value.slice ul L.length cl = v := ⟨_, rfl⟩
    obtain ⟨q, hqq⟩ : ∃ q, wb.heap.size = q := ⟨_, rfl⟩
    rw [hv] at hO6
    have hO : Hid (OwnOws (wb.alloc (.cells #[.int .i64 o, .int .i64 l, .bool true] 33)).drew W2.heap.size v L) := hO6.kept ((kept_alloc [] wb (.cells #[.int .i64 o, .int .i64 l, .bool true] 33)).trans (kept_drew [] _))
    have hq : Hid (Blk (wb.alloc (.cells #[.int .i64 o, .int .i64 l, .bool true] 33)).drew q 33 #[.int .i64 o, .int .i64 l, .bool true]) := by rw [← hqq]; exact (blk_new wb 33 _).kept (kept_drew [] _) (by simp)
    have hbb : Hid (W2.heap.size ≤ (wb.alloc (.cells #[.int .i64 o, .int .i64 l, .bool true] 33)).drew.heap.size) := hH.size
    rw [hv, hqq]
    replace hH : Kept [] W2 (wb.alloc (.cells #[.int .i64 o, .int .i64 l, .bool true] 33)).drew := hH
    clear hO6 hv hqq hk6
    generalize (wb.alloc (.cells #[.int .i64 o, .int .i64 l, .bool true] 33)).drew = w7 at *
    refine wpAnyH_ready (rs := [4]) (by kernel_rfl) (by simp) ?_
    refine AllReadyH.cons (o := { dst := some 29, op := Op.call { callee := Callee.builtin Builtin.append, args := #[Operand.tmp 25, Operand.tmp 28], argTypes := #[26, 26] }, type := 26, pos := "law.go:41", after := #[{ on := 0, ground := Ground.data }, { on := 3, ground := Ground.data }], guard := none }) rfl (fun KK hKK => ?_) AllReadyH.nil
    refine step_append_ow rfl (Operand.tmp 25) (Operand.tmp 28) rfl W2.heap.size v L ⟨o, l, true⟩ q (by simp [Act.eval]) hO.out (by simp [Act.eval]) hq.out hll.out hbb.out ?_
    intro sa8 ca8 w8 hA hg
    have hH1 := kept_grown hO.out hg W2 hH (Nat.le_refl _)
    refine hKK.out _ _ hH1 (fun _ => ?_)
    replace hH := hH1
    clear hKK KK hH1
    clear hg hO hq hbb
    try simp only [Act.put, List.setIfInBounds_toArray, List.set_cons_zero, List.set_cons_succ]
    refine wpAnyH_ready (rs := [6]) (by kernel_rfl) (by simp) ?_
    refine AllReadyH.cons (o := { dst := some 31, op := Op.call { callee := Callee.value (Operand.func 7), args := #[Operand.const (Value.bool true), Operand.tmp 29, Operand.tmp 30], argTypes := #[4, 26, 24] }, type := 3, pos := "law.go:41", after := #[{ on := 4, ground := Ground.data }, { on := 5, ground := Ground.data }, { on := 4, ground := Ground.chain }], guard := none }) rfl (fun KK hKK => ?_) AllReadyH.nil
    go_simp
    refine (qt _ sa8 ca8 hA).mono ?_
    rintro e w9 ⟨rfl, hk9⟩
    go_wp2_with fail
    have hH1 := hH.trans hk9
    refine hKK.out _ _ hH1 (fun _ => ?_)
    replace hH := hH1
    clear hKK KK hH1
    clear hA hk9
    try simp only [Act.put, List.setIfInBounds_toArray, List.set_cons_zero, List.set_cons_succ]
    refine wpAnyH_take (i := 7) (oi := { dst := some 9, op := Op.assign (Operand.tmp 31), type := 3, pos := "law.go:41", after := #[{ on := 6, ground := Ground.data }, { on := 6, ground := Ground.chain }, { on := 0, ground := Ground.phase }, { on := 1, ground := Ground.phase }, { on := 2, ground := Ground.phase }, { on := 3, ground := Ground.phase }, { on := 4, ground := Ground.phase }, { on := 5, ground := Ground.phase }, { on := 6, ground := Ground.phase }], guard := none }) (v := (.int .i64 tv)) rfl (by kernel_rfl) (by kernel_rfl) (by kernel_rfl) (fun _ _ _ h => h) (Or.inl ⟨by rfl, fun W hSw => by go_simp⟩) hH ?_
    try simp only [Act.put, List.setIfInBounds_toArray, List.set_cons_zero, List.set_cons_succ]
    refine wpAnyH_done (by kernel_rfl) ?_ _
    obtain ⟨c0, c1, c2, c3⟩ := cs w9 hH
    have kS := kept_alloc [] w9 (.cells #[.int .i64 o, .int .i64 l, .bool false] 33)
    have hS : OwsAt (w9.alloc (.cells #[.int .i64 o, .int .i64 l, .bool false] 33)) (some ⟨w9.heap.size, 0, none⟩) 1 1 [⟨o, l, false⟩] := (lies_one w9 ⟨o, l, false⟩).ows (cap := 1) (Nat.le_refl _)
    obtain ⟨d0, d1, d2, d3⟩ := cs _ (hH.trans kS)
    have q8 := qa _ _ _ hS
    clear qm qt qo qo4 hS
    go_wp2_with (first
      | (go_at_call 7; refine q8.mono ?_; rintro e w10 ⟨rfl, hk10⟩; clear q8)
      | (go_at_call 5; refine (ql _).mono ?_; rintro e w11 ⟨rfl, hk11⟩))
    go_ret
    exact ⟨rfl, (((hk.trans hH).trans kS).trans hk10).trans hk11⟩
set_option maxRecDepth 100000 in
theorem sides_play (a : Option Addr) (len cap : Nat) (o l p m : Int) (L : List Ow) (h : len ≤ 50) (w : World) (hL : OwsAt w a len cap L) :
    Calls Try.prog 4 #[.agg #[.int .i64 o, .int .i64 l], .agg #[.int .i64 p, .int .i64 m], .slice a len cap] w fun e w' => e = .returned (.bool true) ∧ Kept [] w w' := by
  obtain ⟨t1, t2⟩ := verd_arb L o l p m
  obtain ⟨a1, a2⟩ := verd_alone o l p m
  cases ho : Span.Math.over o l p m with
  | true =>
    rcases verd_not L o l p m with ⟨_, e⟩ | e
    · rw [ho] at e
      cases e
    · exact sides_over a len cap o l p m _ _ L h w hL e rfl rfl t1 (t2 ho) (a2 ho)
  | false =>
    have e3 : (verd true [⟨o, l, false⟩] p m == 0) = true := by rw [a1 ho]; rfl
    rcases verd_not L o l p m with ⟨e, _⟩ | e
    · exact sides_not0 a len cap o l p m _ _ L h w hL e rfl rfl t1 e3
    · exact sides_not3 a len cap o l p m _ _ L h w hL e rfl rfl t1 e3
end Go.Proofs.Ytfflmekmicjliaa.Clash
