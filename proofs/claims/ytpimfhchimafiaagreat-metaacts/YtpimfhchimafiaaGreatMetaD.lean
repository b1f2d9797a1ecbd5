/-
  The acts of MetaActs, as they lie in a slice and in a block; the walk of MetaActs.
-/
import Derived.Test.YtpimfhchimafiaaGreatMetaC
namespace Go.Proofs.YtpimfhchimafiaaGreat
open Go.RowKit Go.Maps Go.Shelf
open Math

/-- An act. -/
structure Sa where
  kind : Int
  at_ : Int
  mask : Nat
structure Sa.Ok (a : Sa) : Prop where
  kind0 : -9223372036854775808 ≤ a.kind
  kind1 : a.kind ≤ 9223372036854775807
  at_0 : -9223372036854775808 ≤ a.at_
  at_1 : a.at_ ≤ 9223372036854775807
  mask_ : a.mask < 18446744073709551616
  known : True
def Sa.cells (a : Sa) : List Value := .int .i64 a.kind :: .int .i64 a.at_ :: .int .u64 (a.mask : Int) :: []
/-- The acts of a slice, in a block below n₀ where there is one. -/
def ActsAt (n₀ : Nat) (W : World) (a : Option Addr) (len cap : Nat) (acts : List Sa) : Prop :=
  acts.length = len ∧ (∀ x ∈ acts, x.Ok) ∧ (acts = [] ∨ ∃ b off, a = some ⟨b, off, none⟩ ∧ len ≤ cap ∧ b < n₀ ∧ ∀ j x, acts[j]? = some x → W.rangeAt b (off + j * 3) x.cells)
theorem ActsAt.below {n₀ : Nat} {A B : World} (h : Below n₀ A B) {a : Option Addr} {len cap : Nat} {acts : List Sa} : ActsAt n₀ A a len cap acts → ActsAt n₀ B a len cap acts
  | ⟨h1, h2, .inl r⟩ => ⟨h1, h2, .inl r⟩
  | ⟨h1, h2, .inr ⟨b, off, e, hl, hb, hc⟩⟩ => ⟨h1, h2, .inr ⟨b, off, e, hl, hb, fun j x hx i v hv => (h.cell (p := ⟨b, off + j * 3 + i, none⟩) hb).trans (hc j x hx i v hv)⟩⟩
theorem Tryz.size33 : (Tryz.prog.info? 33).map (·.size) = some 3 := by kernel_rfl
theorem Sa.cells_length (a : Sa) (_ : a.Ok) : a.cells.length = 3 := by simp [Sa.cells]
theorem Sa.range {W : World} {g : Nat} {a : Sa} (h : Blk W g 33 a.cells.toArray) :
    W.cell? ⟨g, 0, none⟩ = some (.int .i64 a.kind) ∧ W.cell? ⟨g, 1, none⟩ = some (.int .i64 a.at_) ∧ W.cell? ⟨g, 2, none⟩ = some (.int .u64 (a.mask : Int)) := by
  refine ⟨by rw [h.cell]; rfl, by rw [h.cell]; rfl, by rw [h.cell]; rfl⟩
theorem Sa.one (a : Sa) : ∀ v ∈ a.cells, v.oneCell' = true := by
  intro v hv
  simp only [Sa.cells, List.mem_cons, List.not_mem_nil, or_false] at hv
  rcases hv with rfl | rfl | rfl <;> rfl
theorem wpAnyH_stronger {P : Program} {ops : Array Oper} {Q : Exit → Act → World → Prop} {md : Region.Mode} {S S' : World → Prop} (hS : ∀ w, S' w → S w) :
    ∀ (fuel : Nat) (listed : Array Bool) (a : Act) (w : World), wpAnyH P md ops Q S' fuel listed a w → wpAnyH P md ops Q S fuel listed a w
  | 0, _, _, _, h => h
  | fuel + 1, _, _, _, h => ⟨h.1, fun i hi => wpOp_mono (fun _ _ h' => ⟨hS _ h'.1, wpAnyH_stronger hS fuel _ _ _ h'.2⟩) (h.2 i hi)⟩

set_option maxRecDepth 100000 in
set_option maxHeartbeats 1000000 in
/-- MetaActs, of what is let go -/
theorem acts_early (n : Int) (a0 : Option Addr) (len cap : Nat) (hlen : len ≤ 9223372036854775807) (w : World) (hno : n < 1 ∨ 20 < n ∨ 50 < len) :
    Calls Tryz.prog 3 #[.int .i64 n, .slice a0 len cap] w fun e w' => e = .returned (.bool true) ∧ Kept [] w w' := by
  have q3 := metaLives_any
  rcases (show n < 1 ∨ (¬ (n < 1) ∧ 20 < n) ∨ (¬ (n < 1) ∧ ¬ (20 < n) ∧ (50 : Int) < (len : Int)) by omega) with g1 | ⟨g1, g2⟩ | ⟨g1, g2, g3⟩
  all_goals clear hno
  all_goals
    go_enter Tryz.func3, Tryz.ntmps3
    go_wp2_with (first
      | (go_at_call 4; refine (q3 _).mono ?_; rintro e w3 ⟨rfl, hk3⟩))
    go_ret
    exact ⟨rfl, hk3⟩

set_option maxRecDepth 100000 in
set_option maxHeartbeats 8000000 in
/-- MetaActs, of a play -/
theorem acts_play (N : Nat) (hN1 : 1 ≤ N) (hN2 : N ≤ 20) (a0 : Option Addr) (len cap0 : Nat) (acts : List Sa) (hlen : len ≤ 50) (w : World) (hacts : ActsAt w.heap.size w a0 len cap0 acts) :
    Calls Tryz.prog 3 #[.int .i64 (N : Int), .slice a0 len cap0] w fun e w' => e = .returned (.bool true) ∧ Kept [] w w' := by
  have q7 := metaLives_any
  have q8 := new_any N hN1 (by omega) w
  have q9 := fun W => refNew_any N hN1 (by omega) W
  have g0 : ¬ ((N : Int) < 1) := by omega
  have g1 : ¬ (20 < (N : Int)) := by omega
  have g2 : ¬ ((50 : Int) < (len : Int)) := by omega
  go_enter Tryz.func3, Tryz.ntmps3
  go_wp2_with (first
    | (go_at_call 5; refine q8.mono ?_; rintro e w4 ⟨rfl, hD, hk4⟩)
    | (go_at_call 6; refine (q9 _).mono ?_; rintro e w5 ⟨g, cap, rfl, hR, hg, hk5⟩; have hD5 := hD.kept hk5 (by simp) (by simp) (by simp)))
  have hlt := hD.lt
  have hs4 := hk4.size
  have hK5 := hk4.trans hk5
  have hBoth : Both w5 (w.heap.size + 2) w.heap.size (w.heap.size + 1) w4.heap.size g cap (made N) := ⟨hD5, hR, ⟨by omega, by omega, by omega, by omega, by omega, by omega⟩⟩
  obtain ⟨r, hr⟩ : ∃ r, w4.heap.size = r := ⟨_, rfl⟩
  obtain ⟨d, hd⟩ : ∃ d, w.heap.size + 2 = d := ⟨_, rfl⟩
  obtain ⟨b1, hb1⟩ : ∃ b, w.heap.size = b := ⟨_, rfl⟩
  obtain ⟨b2, hb2⟩ : ∃ b, w.heap.size + 1 = b := ⟨_, rfl⟩
  rw [hr, hd, hb2] at hBoth
  have hBoth' : Both w5 d b1 b2 r g cap (made N) := hb1 ▸ hBoth
  have hdl : w.heap.size ≤ d := by omega
  have hbl1 : w.heap.size ≤ b1 := by omega
  have hbl2 : w.heap.size ≤ b2 := by omega
  have hrl : w.heap.size ≤ r := by omega
  have hgl : w.heap.size ≤ g := by omega
  rw [hr, hd]
  clear hr hd hb1 hb2 hD hD5 hR hk4 hk5 q8 q9 hlt hs4 hg hBoth
  have ho0 : (made N).ops ≤ 0 := Nat.le_refl _
  generalize made N = s0 at *
  go_loopw [35] (fun i wr => ∃ (j : Nat) (s : Dk), j ≤ len ∧ i = .int .i64 j ∧ Both wr d b1 b2 r g cap s ∧ s.ops ≤ 4 * j ∧ Kept [] w wr) (fun i _ => len - (RowKit.intOf i).toNat)
  case atStart => exact ⟨0, s0, by omega, rfl, hBoth', ho0, hK5⟩
  case round =>
    obtain ⟨j, s, hj, rfl, hB, ho, hK⟩ := hrel
    clear hBoth' hK5 ho0
    by_cases hlt : j < len
    · obtain ⟨hal, haok, hnil | ⟨blk, off, rfl, hcap, hblk, hcs⟩⟩ := hacts.below (hK.below (Nat.le_refl _) (by simp))
      · rw [hnil] at hal
        simp at hal
        omega
      obtain ⟨a, ha⟩ : ∃ a, acts[j]? = some a := ⟨_, List.getElem?_eq_getElem (by rw [hal]; exact hlt)⟩
      have hok := haok a (List.mem_of_getElem? ha)
      have hr : Hid (wr.rangeAt blk (off + j * 3) a.cells) := hcs j a ha
      have kk4 : (j : Int) < (len : Int) := by omega
      have kcap : (j : Int) < (cap0 : Int) := by omega
      have hm1 : Hid (len - (j + 1) < len - j) := by show _ < _; omega
      have hz0 : Blk (wr.alloc (.cells #[.int .i64 0, .int .i64 0, .int .u64 0] 33)) wr.heap.size 33 #[.int .i64 0, .int .i64 0, .int .u64 0] := blk_new wr 33 _
      have hsz : Hid (a.cells.length = 3) := a.cells_length hok
      have hltB := hB.lt
      have hops : s.ops ≤ 999996 := by omega
      clear hcs hal haok hacts ha
      have qd := fun W (h : Both W d b1 b2 r g cap s) => do_any d b1 b2 r g cap s a.kind a.at_ a.mask hok.at_0 hok.at_1 hok.mask_ hops W h
      have ho' : Hid ((acted s a.kind a.at_ a.mask).ops ≤ 4 * (j + 1)) := by
        have := acted_ops s a.kind a.at_ a.mask
        show _ ≤ _
        omega
      generalize acted s a.kind a.at_ a.mask = s' at *
      have q13 := fun W (h : DiskAt W d b1 b2 s') => look_any d b1 b2 s' W h
      have q14 := fun W (h : RefAt W r g cap s') => refLook_any r g cap s' W h
      have q17 := fun W (h : DiskAt W d b1 b2 s') => ops_any d b1 b2 s' W h
      generalize boot s' = mb at *
      generalize latestY s' 2 4 = ml at *
      generalize latestY s' 6 2 = md at *
      go_wp2_with (first
        | refine wpList_load_mid rfl 33 _ rfl blk (off + j * 3) rfl a.cells _ hr.out Tryz.underlying33 rfl (by rw [hsz.out]; exact Tryz.size33) ?_
        | (refine wpList_store_blk rfl 33 _ _ rfl wr.heap.size 33 _ a.cells rfl rfl hz0 hsz.out (by rw [hsz.out]; exact Tryz.size33) a.one ?_; intro w7 hB7 hk7 hz7; have hk07 : Kept [] wr w7 := (kept_alloc [] wr _).young hk7 (Nat.le_refl _); have hBo7 := hB.kept hk07; replace hz7 : Hid _ := hz7))
      have hBD := hBo7.kept (kept_drew [] w7)
      have hxD := hB7.kept (kept_drew [] w7) (by simp)
      clear hr hz0 hB hB7 hBo7
      refine wp_region_held_drew (S := fun W => Kept [d, b1, b2, r, g] w7.drew W) (by kernel_rfl) (Kept.refl _ _) (fun hP => ?_)
      clear hP
      have hH : Kept [d, b1, b2, r, g] w7.drew w7.drew := Kept.refl _ _
      refine wpAnyH_take (i := 0) (oi := { dst := some 39, op := Op.move (Operand.tmp 5), type := 24, pos := "law.go:61", after := #[], guard := none }) (v := (.pointer (some ⟨d, 0, none⟩))) rfl (by kernel_rfl) (by kernel_rfl) (by kernel_rfl) (fun _ _ _ h => h) (Or.inl ⟨by rfl, fun W hSw => by go_simp⟩) hH ?_
      try simp only [Act.put, List.setIfInBounds_toArray, List.set_cons_zero, List.set_cons_succ]
      refine wpAnyH_take (i := 1) (oi := { dst := some 40, op := Op.move (Operand.tmp 7), type := 28, pos := "law.go:61", after := #[], guard := none }) (v := (.pointer (some ⟨r, 0, none⟩))) rfl (by kernel_rfl) (by kernel_rfl) (by kernel_rfl) (fun _ _ _ h => h) (Or.inl ⟨by rfl, fun W hSw => by go_simp⟩) hH ?_
      try simp only [Act.put, List.setIfInBounds_toArray, List.set_cons_zero, List.set_cons_succ]
      refine wpAnyH_take (i := 2) (oi := { dst := some 41, op := Op.load 33 (Operand.tmp 10), type := 33, pos := "law.go:61", after := #[], guard := none }) (v := (.agg #[.int .i64 a.kind, .int .i64 a.at_, .int .u64 (a.mask : Int)])) rfl (by kernel_rfl) (by kernel_rfl) (by kernel_rfl) (fun _ _ _ h => h) (Or.inl ⟨by rfl, fun W hSw => by obtain ⟨x0, x1, x2⟩ := Sa.range (hxD.kept hSw (by simp; omega)); go_simp⟩) hH ?_
      try simp only [Act.put, List.setIfInBounds_toArray, List.set_cons_zero, List.set_cons_succ]
      refine wpAnyH_ready (rs := [3]) (by kernel_rfl) (by simp) ?_
      refine AllReadyH.cons (o := { dst := some 42, op := Op.call { callee := Callee.value (Operand.func 7), args := #[Operand.tmp 39, Operand.tmp 40, Operand.tmp 41], argTypes := #[24, 28, 33] }, type := 4, pos := "law.go:61", after := #[{ on := 0, ground := Ground.data }, { on := 1, ground := Ground.data }, { on := 2, ground := Ground.data }], guard := none }) rfl (fun K hK => ?_) AllReadyH.nil
      go_simp
      refine (qd _ hBD).mono ?_
      rintro e w8 ⟨rfl, hQ, hk8⟩
      go_wp2_with fail
      refine hK.out _ _ hk8 (fun _ => ?_)
      clear hK K
      refine wpAnyH_stronger (S' := fun W => Kept [] w8 W) (fun W h => Kept.trans hk8 (h.mono (by simp))) _ _ _ _ ?_
      replace hH : Kept [] w8 w8 := Kept.refl _ _
      have hKq := ((hK.trans hk07).trans (kept_drew [] _)).young5 hk8 hdl hbl1 hbl2 hrl hgl
      try simp only [Act.put, List.setIfInBounds_toArray, List.set_cons_zero, List.set_cons_succ]
      refine wpAnyH_take (i := 4) (oi := { dst := some 43, op := Op.unOp UnOp.not 4 (Operand.tmp 42), type := 4, pos := "law.go:61", after := #[{ on := 3, ground := Ground.data }], guard := none }) (v := (.bool false)) rfl (by kernel_rfl) (by kernel_rfl) (by kernel_rfl) (fun _ _ _ h => h) (Or.inl ⟨by rfl, fun W hSw => by go_simp⟩) hH ?_
      try simp only [Act.put, List.setIfInBounds_toArray, List.set_cons_zero, List.set_cons_succ]
      refine wpAnyH_take (i := 5) (oi := { dst := some 44, op := Op.move (Operand.tmp 43), type := 4, pos := "law.go:61", after := #[{ on := 4, ground := Ground.data }, { on := 3, ground := Ground.chain }], guard := none }) (v := (.bool false)) rfl (by kernel_rfl) (by kernel_rfl) (by kernel_rfl) (fun _ _ _ h => h) (Or.inl ⟨by rfl, fun W hSw => by go_simp⟩) hH ?_
      try simp only [Act.put, List.setIfInBounds_toArray, List.set_cons_zero, List.set_cons_succ]
      refine wpAnyH_take (i := 6) (oi := { dst := some 45, op := Op.move (Operand.tmp 5), type := 24, pos := "law.go:61", after := #[{ on := 5, ground := Ground.guard }], guard := some (5, false) }) (v := (.pointer (some ⟨d, 0, none⟩))) rfl (by kernel_rfl) (by kernel_rfl) (by kernel_rfl) (fun _ _ _ h => h) (Or.inl ⟨by rfl, fun W hSw => by go_simp⟩) hH ?_
      try simp only [Act.put, List.setIfInBounds_toArray, List.set_cons_zero, List.set_cons_succ]
      refine wpAnyH_take (i := 8) (oi := { dst := some 47, op := Op.move (Operand.tmp 7), type := 28, pos := "law.go:61", after := #[{ on := 5, ground := Ground.guard }], guard := some (5, false) }) (v := (.pointer (some ⟨r, 0, none⟩))) rfl (by kernel_rfl) (by kernel_rfl) (by kernel_rfl) (fun _ _ _ h => h) (Or.inl ⟨by rfl, fun W hSw => by go_simp⟩) hH ?_
      try simp only [Act.put, List.setIfInBounds_toArray, List.set_cons_zero, List.set_cons_succ]
      refine wpAnyH_ready (rs := [7]) (by kernel_rfl) (by simp) ?_
      refine AllReadyH.cons (o := { dst := some 46, op := Op.call { callee := Callee.value (Operand.func 8), args := #[Operand.tmp 45], argTypes := #[24] }, type := 37, pos := "law.go:61", after := #[{ on := 6, ground := Ground.data }, { on := 5, ground := Ground.chain }, { on := 5, ground := Ground.guard }], guard := some (5, false) }) rfl (fun K hK => ?_) AllReadyH.nil
      go_simp
      refine (q13 _ hQ.disk).mono ?_
      rintro e w9 ⟨rfl, hk9⟩
      go_wp2_with fail
      refine hK.out _ _ hk9 (fun _ => ?_)
      clear hK K
      refine wpAnyH_stronger (S' := fun W => Kept [] w9 W) (fun W h => Kept.trans hk9 (h.mono (by simp))) _ _ _ _ ?_
      replace hH : Kept [] w9 w9 := Kept.refl _ _
      replace hQ := hQ.kept hk9
      replace hKq := hKq.trans hk9
      try simp only [Act.put, List.setIfInBounds_toArray, List.set_cons_zero, List.set_cons_succ]
      refine wpAnyH_ready (rs := [9]) (by kernel_rfl) (by simp) ?_
      refine AllReadyH.cons (o := { dst := some 48, op := Op.call { callee := Callee.value (Operand.func 9), args := #[Operand.tmp 47], argTypes := #[28] }, type := 39, pos := "law.go:61", after := #[{ on := 8, ground := Ground.data }, { on := 7, ground := Ground.chain }, { on := 5, ground := Ground.guard }], guard := some (5, false) }) rfl (fun K hK => ?_) AllReadyH.nil
      go_simp
      refine (q14 _ hQ.ref).mono ?_
      rintro e w10 ⟨rfl, hk10⟩
      go_wp2_with fail
      refine hK.out _ _ hk10 (fun _ => ?_)
      clear hK K
      refine wpAnyH_stronger (S' := fun W => Kept [] w10 W) (fun W h => Kept.trans hk10 (h.mono (by simp))) _ _ _ _ ?_
      replace hH : Kept [] w10 w10 := Kept.refl _ _
      replace hQ := hQ.kept hk10
      replace hKq := hKq.trans hk10
      try simp only [Act.put, List.setIfInBounds_toArray, List.set_cons_zero, List.set_cons_succ]
      refine wpAnyH_take (i := 10) (oi := { dst := some 49, op := Op.binOp BinOp.neq 37 (Operand.tmp 46) (Operand.tmp 48) 37, type := 4, pos := "law.go:61", after := #[{ on := 7, ground := Ground.data }, { on := 9, ground := Ground.data }, { on := 5, ground := Ground.guard }], guard := some (5, false) }) (v := (.bool false)) rfl (by kernel_rfl) (by kernel_rfl) (by kernel_rfl) (fun _ _ _ h => h) (Or.inl ⟨by rfl, fun W hSw => by have hc := differ_meta (mb : Int) ml md W; go_simp⟩) hH ?_
      try simp only [Act.put, List.setIfInBounds_toArray, List.set_cons_zero, List.set_cons_succ]
      refine wpAnyH_take (i := 11) (oi := { dst := some 50, op := Op.pick (Operand.tmp 44) (Operand.const (Value.bool true)) (Operand.tmp 49), type := 4, pos := "law.go:61", after := #[{ on := 5, ground := Ground.data }, { on := 10, ground := Ground.data }], guard := none }) (v := (.bool false)) rfl (by kernel_rfl) (by kernel_rfl) (by kernel_rfl) (fun _ _ _ h => h) (Or.inl ⟨by rfl, fun W hSw => by go_simp⟩) hH ?_
      try simp only [Act.put, List.setIfInBounds_toArray, List.set_cons_zero, List.set_cons_succ]
      refine wpAnyH_take (i := 12) (oi := { dst := some 51, op := Op.move (Operand.tmp 50), type := 4, pos := "law.go:61", after := #[{ on := 11, ground := Ground.data }, { on := 9, ground := Ground.chain }], guard := none }) (v := (.bool false)) rfl (by kernel_rfl) (by kernel_rfl) (by kernel_rfl) (fun _ _ _ h => h) (Or.inl ⟨by rfl, fun W hSw => by go_simp⟩) hH ?_
      try simp only [Act.put, List.setIfInBounds_toArray, List.set_cons_zero, List.set_cons_succ]
      refine wpAnyH_take (i := 13) (oi := { dst := some 52, op := Op.move (Operand.tmp 5), type := 24, pos := "law.go:61", after := #[{ on := 12, ground := Ground.guard }], guard := some (12, false) }) (v := (.pointer (some ⟨d, 0, none⟩))) rfl (by kernel_rfl) (by kernel_rfl) (by kernel_rfl) (fun _ _ _ h => h) (Or.inl ⟨by rfl, fun W hSw => by go_simp⟩) hH ?_
      try simp only [Act.put, List.setIfInBounds_toArray, List.set_cons_zero, List.set_cons_succ]
      refine wpAnyH_take (i := 15) (oi := { dst := some 54, op := Op.move (Operand.tmp 7), type := 28, pos := "law.go:61", after := #[{ on := 12, ground := Ground.guard }], guard := some (12, false) }) (v := (.pointer (some ⟨r, 0, none⟩))) rfl (by kernel_rfl) (by kernel_rfl) (by kernel_rfl) (fun _ _ _ h => h) (Or.inl ⟨by rfl, fun W hSw => by go_simp⟩) hH ?_
      try simp only [Act.put, List.setIfInBounds_toArray, List.set_cons_zero, List.set_cons_succ]
      refine wpAnyH_take (i := 16) (oi := { dst := some 55, op := Op.nilCheck (Operand.tmp 54), type := 0, pos := "law.go:61", after := #[{ on := 15, ground := Ground.data }, { on := 12, ground := Ground.guard }], guard := some (12, false) }) (v := (.pointer (some ⟨r, 0, none⟩))) rfl (by kernel_rfl) (by kernel_rfl) (by kernel_rfl) (fun _ _ _ h => h) (Or.inl ⟨by rfl, fun W hSw => by go_simp⟩) hH ?_
      try simp only [Act.put, List.setIfInBounds_toArray, List.set_cons_zero, List.set_cons_succ]
      refine wpAnyH_take (i := 17) (oi := { dst := some 56, op := Op.fieldAddr 44 (Operand.tmp 55) 3, type := 0, pos := "law.go:61", after := #[{ on := 16, ground := Ground.data }, { on := 12, ground := Ground.guard }], guard := some (12, false) }) (v := (.pointer (some ⟨r, 3, none⟩))) rfl (by kernel_rfl) (by kernel_rfl) (by kernel_rfl) (fun _ _ _ h => h) (Or.inl ⟨by rfl, fun W hSw => by go_simp⟩) hH ?_
      try simp only [Act.put, List.setIfInBounds_toArray, List.set_cons_zero, List.set_cons_succ]
      refine wpAnyH_take (i := 18) (oi := { dst := some 57, op := Op.load 3 (Operand.tmp 56), type := 3, pos := "law.go:61", after := #[{ on := 17, ground := Ground.data }, { on := 12, ground := Ground.guard }], guard := some (12, false) }) (v := (.int .i64 (s'.ops : Int))) rfl (by kernel_rfl) (by kernel_rfl) (by kernel_rfl) (fun _ _ _ h => h) (Or.inl ⟨by rfl, fun W hSw => by have hc := (hQ.kept hSw).ref.1.four.2.2.2; go_simp⟩) hH ?_
      try simp only [Act.put, List.setIfInBounds_toArray, List.set_cons_zero, List.set_cons_succ]
      refine wpAnyH_ready (rs := [14]) (by kernel_rfl) (by simp) ?_
      refine AllReadyH.cons (o := { dst := some 53, op := Op.call { callee := Callee.value (Operand.func 10), args := #[Operand.tmp 52], argTypes := #[24] }, type := 3, pos := "law.go:61", after := #[{ on := 13, ground := Ground.data }, { on := 12, ground := Ground.chain }, { on := 12, ground := Ground.guard }], guard := some (12, false) }) rfl (fun K hK => ?_) AllReadyH.nil
      go_simp
      refine (q17 _ hQ.disk).mono ?_
      rintro e w' ⟨rfl, rfl⟩
      go_wp2_with fail
      refine hK.out _ _ hH (fun _ => ?_)
      clear hK K
      try simp only [Act.put, List.setIfInBounds_toArray, List.set_cons_zero, List.set_cons_succ]
      refine wpAnyH_take (i := 19) (oi := { dst := some 58, op := Op.binOp BinOp.neq 3 (Operand.tmp 53) (Operand.tmp 57) 3, type := 4, pos := "law.go:61", after := #[{ on := 14, ground := Ground.data }, { on := 18, ground := Ground.data }, { on := 12, ground := Ground.guard }], guard := some (12, false) }) (v := (.bool false)) rfl (by kernel_rfl) (by kernel_rfl) (by kernel_rfl) (fun _ _ _ h => h) (Or.inl ⟨by rfl, fun W hSw => by go_simp⟩) hH ?_
      try simp only [Act.put, List.setIfInBounds_toArray, List.set_cons_zero, List.set_cons_succ]
      refine wpAnyH_take (i := 20) (oi := { dst := some 59, op := Op.pick (Operand.tmp 51) (Operand.const (Value.bool true)) (Operand.tmp 58), type := 4, pos := "law.go:61", after := #[{ on := 12, ground := Ground.data }, { on := 19, ground := Ground.data }], guard := none }) (v := (.bool false)) rfl (by kernel_rfl) (by kernel_rfl) (by kernel_rfl) (fun _ _ _ h => h) (Or.inl ⟨by rfl, fun W hSw => by go_simp⟩) hH ?_
      try simp only [Act.put, List.setIfInBounds_toArray, List.set_cons_zero, List.set_cons_succ]
      refine wpAnyH_done (by kernel_rfl) ?_ _
      go_wp2_with fail
      go_roundw
      case rel => exact ⟨j + 1, s', by omega, rfl, hQ, ho'.out, hKq⟩
      case measure => simpa [RowKit.intOf] using hm1.out
    · obtain rfl : j = len := by omega
      clear hacts
      go_wp2_with (first
        | (go_at_call 4; refine (q7 _).mono ?_; rintro e w12 ⟨rfl, hk12⟩))
      go_ret
      exact ⟨rfl, hK.trans hk12⟩
end Go.Proofs.YtpimfhchimafiaaGreat
