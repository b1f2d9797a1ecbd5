/-
  The walk of WireBack.
-/
import Derived.Test.YtlbajnffbiaooaaWrK
namespace Go.Proofs.Ytlbajnffbiaooaa.Wire
open Go.RowKit
open Seal (enc ret_bool ret_int)
open Seal.Math

set_option maxRecDepth 100000 in
set_option maxHeartbeats 4000000 in
/-- WireBack, of what is let go -/
theorem wireBack_early (x : Pv) (ab : Option Addr) (lb cb : Nat) (w : World) (hx : x.len ≤ 9223372036854775807) (hb : lb ≤ 9223372036854775807) (hl : 300 < x.len ∨ 400 < lb) : Calls Try.prog 5 #[x.val, .slice ab lb cb] w fun e w' => e = .returned (.bool true) ∧ Kept [] w w' := by
  have hb0 : x.In (w.alloc (.cells #[.int .u32 (x.f : Int), .int .u32 (x.t : Int), .int .i64 x.k, .int .i64 x.s, .int .i64 x.a, .slice x.sa x.len x.cap] 25)) w.heap.size := blk_new w 25 _
  have hk0 := kept_alloc [] w (.cells #[.int .u32 (x.f : Int), .int .u32 (x.t : Int), .int .i64 x.k, .int .i64 x.s, .int .i64 x.a, .slice x.sa x.len x.cap] 25)
  obtain ⟨c0, c1, c2, c3, c4, c5⟩ := hb0.six
  clear hb0
  unfold Pv.val
  generalize x.len = len at *
  by_cases h1 : 300 < len
  · clear hl
    go_enter Try.func5, Try.ntmps5
    go_wp2_with (first
      | (go_at_call 7; refine (lives_any _).mono ?_; rintro e w1 ⟨rfl, hk1⟩))
    go_ret
    exact ⟨rfl, hk0.trans hk1⟩
  · have h2 : 400 < lb := by omega
    clear hl
    go_enter Try.func5, Try.ntmps5
    go_wp2_with (first
      | (go_at_call 7; refine (lives_any _).mono ?_; rintro e w1 ⟨rfl, hk1⟩))
    go_ret
    exact ⟨rfl, hk0.trans hk1⟩
set_option maxRecDepth 100000 in
set_option maxHeartbeats 4000000 in
/-- WireBack -/
theorem wireBack (x : Pv) (ab : Option Addr) (lb cb : Nat) (bs : List Nat) (w : World) (h : x.At 0 w.heap.size w) (hb : ByteRow 0 w.heap.size w (.slice ab lb cb) bs) (hl : x.len ≤ 300) (hlb : lb ≤ 400) : Calls Try.prog 5 #[x.val, .slice ab lb cb] w fun e w' => e = .returned (.bool true) ∧ Kept [] w w' := by
  have hlbs := hb.len
  have hb0 : x.In (w.alloc (.cells #[.int .u32 (x.f : Int), .int .u32 (x.t : Int), .int .i64 x.k, .int .i64 x.s, .int .i64 x.a, .slice x.sa x.len x.cap] 25)) w.heap.size := blk_new w 25 _
  have hk0 := kept_alloc [] w (.cells #[.int .u32 (x.f : Int), .int .u32 (x.t : Int), .int .i64 x.k, .int .i64 x.s, .int .i64 x.a, .slice x.sa x.len x.cap] 25)
  obtain ⟨W, hW⟩ : ∃ W, w.alloc (.cells #[.int .u32 (x.f : Int), .int .u32 (x.t : Int), .int .i64 x.k, .int .i64 x.s, .int .i64 x.a, .slice x.sa x.len x.cap] 25) = W := ⟨_, rfl⟩
  rw [hW] at hb0 hk0
  have hxA : ∀ A, Kept [] w A → x.At 0 w.heap.size A := fun A hA => h.kept (Nat.le_refl _) hA (by simp)
  have hIn : ∀ A, Kept [] W A → x.In A w.heap.size := fun A hA => hb0.kept hA (by simp)
  have q1 := bytes_any x _ _ W (hxA W hk0) hk0.size (by omega)
  have q2 : ∀ A, Kept [] w A → Calls Try.prog 14 #[.slice ab lb cb] A _ := fun A hA => parse_any (.slice ab lb cb) bs _ _ A (hb.kept (Nat.le_refl _) hA (by simp)) hA.size (by omega)
  have hCb : ∀ A, Kept [] w A → (convert 23 9 (.slice ab lb cb)).run Try.prog A = .ok (.string (txt bs)) A := fun A hA => conv_txt (hb.kept (Nat.le_refl _) hA (by simp))
  have ql := fun A : World => lives_any A
  have hxf := h.f
  have hxt := h.t
  have hbb := hb.1
  have hpi : Hid (parseE bs = 0 → bytesL (parseM bs) = bs ∧ Fine (parseM bs)) := fun e => parse_is hbb e
  have hmlen : Hid (∀ z : Pv, z.ps = parseM bs → z.d.length ≤ 200) := fun z hz => by
    have h1 : z.d = (parseM bs).d := congrArg Ps.d hz
    rw [h1]
    by_cases e : parseE bs = 0
    · exact fine_len (parse_is hbb e).2
    · rw [parseM_out e]
      exact Nat.zero_le _
  clear hb h hlbs hbb
  obtain ⟨c0, c1, c2, c3, c4, c5⟩ := hb0.six
  generalize parseE bs = E at *
  generalize hMM : parseM bs = M at *
  clear hMM
  unfold Pv.val at *
  replace hk0 : Hid (Kept [] w W) := hk0
  have hbl := bytesL_len x.ps
  have hfo : Hid (¬ Fine x.ps → (bytesL x.ps).length = 0) := fun hf => by rw [bytesL_out hf]; rfl
  have hfi : Hid (Fine x.ps → 0 < (bytesL x.ps).length) := fun hf => by rw [bytesL_length hf]; omega
  have hbk : Hid (Fine x.ps → parseM (bytesL x.ps) = x.ps ∧ parseE (bytesL x.ps) = 0) := fun hf => parse_back hf hxf hxt
  obtain ⟨L, hL⟩ : ∃ L, (bytesL x.ps).length = L := ⟨_, rfl⟩
  rw [hL] at q1 hbl hfo hfi
  replace hL : Hid ((bytesL x.ps).length = L) := hL
  clear hxf hxt
  go_enter Try.func5, Try.ntmps5
  go_upto_if 24 with (first
    | (go_at_call 10; refine q1.mono ?_; rintro e w1 ⟨sa1, cap1, rfl, hR1, hk1⟩; clear q1))
  go_cut [] from 24 (fun A => Kept [] w A)
  case first =>
    by_cases hf : Fine x.ps
    · have hLp : 0 < L := hfi.out hf
      obtain ⟨hb1, hb2⟩ := hbk.out hf
      have qp := parse_any (.slice sa1 L cap1) (bytesL x.ps) _ _ w1 hR1.byteRow (Nat.le_refl _) (by rw [hL.out]; omega)
      rw [hb1, hb2] at qp
      clear hb1 hb2 hbk hfi hfo c0 c1 c2 c3 c4 c5
      go_wp2_with (first
        | (go_at_call 14; refine qp.mono ?_; rintro e w2 ⟨y, rfl, hyM, hyA, hk2⟩; have hk2a := kept_alloc [] w2 (.cells #[.int .u32 (y.f : Int), .int .u32 (y.t : Int), .int .i64 y.k, .int .i64 y.s, .int .i64 y.a, .slice y.sa y.len y.cap] 25); have hY : y.In (w2.alloc (.cells #[.int .u32 (y.f : Int), .int .u32 (y.t : Int), .int .i64 y.k, .int .i64 y.s, .int .i64 y.a, .slice y.sa y.len y.cap] 25)) w2.heap.size := blk_new w2 25 _; have hkn := (hk1.trans hk2).trans hk2a; have hXI := hIn _ hkn; replace hyA := hyA.kept (Nat.le_refl _) hk2a (by simp); have hle := hk2a.size; obtain ⟨c0, c1, c2, c3, c4, c5⟩ := hXI.six; obtain ⟨d0, d1, d2, d3, d4, d5⟩ := hY.six; have qs := same_any y x _ _ _ _ _ hyA hle (hxA _ (hk0.out.trans hkn)) (hk0.out.trans hkn).size; rw [hyM, sameB_refl] at qs; unfold Pv.val at qs; clear qp hk2a hk2)
        | (go_at_call 17; refine qs.mono ?_; rintro e w3 ⟨rfl, hk3⟩; replace hkn := hkn.trans hk3; replace hXI := hXI.kept hk3 (by simp); replace hY := hY.kept hk3 (by simp); replace hyA := hyA.kept hle hk3 (by simp); replace hle := Nat.le_trans hle hk3.size; obtain ⟨c0, c1, c2, c3, c4, c5⟩ := hXI.six; obtain ⟨d0, d1, d2, d3, d4, d5⟩ := hY.six; have qr := refSame_any y x _ _ _ _ _ hyA hle (hxA _ (hk0.out.trans hkn)) (hk0.out.trans hkn).size; rw [hyM, sameB_refl] at qr; unfold Pv.val at qr; clear qs hk3)
        | (go_at_call 16; refine qr.mono ?_; rintro e w4 ⟨rfl, hk4⟩; replace hkn := hkn.trans hk4; replace hXI := hXI.kept hk4 (by simp); obtain ⟨c0, c1, c2, c3, c4, c5⟩ := hXI.six; clear qr hk4))
      go_meet
      exact hk0.out.trans hkn
    · have hL0 : L ≤ 0 := Nat.le_of_eq (hfo.out hf)
      go_wp2_with fail
      go_meet
      exact hk0.out.trans hk1
  case rest =>
    have hkc : Kept [] w wc := hcut
    clear hcut
    clear c0 c1 c2 c3 c4 c5
    go_upto_region 9 with (first
      | (go_at_call 14; refine (q2 _ hkc).mono ?_; rintro e w2 ⟨z, rfl, hzM, hzA, hk2⟩))
    have hZ : z.In (w2.alloc (.cells #[.int .u32 (z.f : Int), .int .u32 (z.t : Int), .int .i64 z.k, .int .i64 z.s, .int .i64 z.a, .slice z.sa z.len z.cap] 25)) w2.heap.size := blk_new w2 25 _
    have hk2a := kept_alloc [] w2 (.cells #[.int .u32 (z.f : Int), .int .u32 (z.t : Int), .int .i64 z.k, .int .i64 z.s, .int .i64 z.a, .slice z.sa z.len z.cap] 25)
    obtain ⟨W0, hW0⟩ : ∃ W0, w2.alloc (.cells #[.int .u32 (z.f : Int), .int .u32 (z.t : Int), .int .i64 z.k, .int .i64 z.s, .int .i64 z.a, .slice z.sa z.len z.cap] 25) = W0 := ⟨_, rfl⟩
    rw [hW0] at hZ hk2a
    try rw [hW0]
    have hkW : Kept [] w W0 := (hkc.trans hk2).trans hk2a
    have hcells : ∀ A, Kept [] W0 A → _ := fun A hA => (hZ.kept hA (by simp)).six
    have hzW : z.At wc.heap.size w2.heap.size W0 := hzA.kept (Nat.le_refl _) hk2a (by simp)
    have hzl : z.len ≤ 9223372036854775807 := by
      have h1 := hzA.len
      have h2 := hmlen.out z hzM
      omega
    by_cases hE : E = 0
    · subst hE
      obtain ⟨hp1, hp2⟩ := hpi.out rfl
      have qb : ∀ A : World, Kept [] W0 A → Calls Try.prog 10 #[.agg #[.int .u32 (z.f : Int), .int .u32 (z.t : Int), .int .i64 z.k, .int .i64 z.s, .int .i64 z.a, .slice z.sa z.len z.cap]] A fun e w' => ∃ v, e = .returned v ∧ (∀ B, Kept [] w' B → (convert 23 9 v).run Try.prog B = .ok (.string (txt bs)) B) ∧ Kept [] A w' := fun A hA => by
        refine (bytes_any z _ _ A (hzW.kept hk2a.size hA (by simp)) (Nat.le_trans hk2a.size hA.size) hzl).mono ?_
        rintro e w' ⟨sa, cap, rfl, ho, hk⟩
        refine ⟨_, rfl, fun B hB => ?_, hk⟩
        have := conv_txt (ho.byteRow.kept (Nat.le_refl _) hB (by simp))
        rw [hzM, hp1] at this
        rw [hzM, hp1]
        exact this
      generalize txt bs = T at *
      clear hp1 hp2 hzM hzA hzW hzl hZ q2 hpi hmlen hIn hxA hb0
      refine wp_region_held_drew (S := fun A => Kept [] W0 A) (by kernel_rfl) (kept_drew [] W0) (fun hP => ?_)
      have hH := hP
      clear hP
      refine wpAnyH_take (i := 0) (oi := { dst := some 49, op := Op.move (Operand.tmp 9), type := 30, pos := "law.go:47", after := #[], guard := none }) (v := (.int .i64 0)) rfl (by kernel_rfl) (by kernel_rfl) (by kernel_rfl) (fun _ _ _ h => h) (Or.inl ⟨by rfl, fun W hSw => by go_simp⟩) hH ?_
      try simp only [Act.put, List.setIfInBounds_toArray, List.set_cons_zero, List.set_cons_succ]
      refine wpAnyH_take (i := 1) (oi := { dst := some 50, op := Op.binOp BinOp.neq 30 (Operand.tmp 49) (Operand.const (Value.int IntKind.i64 0)) 30, type := 4, pos := "law.go:47", after := #[{ on := 0, ground := Ground.data }], guard := none }) (v := (.bool false)) rfl (by kernel_rfl) (by kernel_rfl) (by kernel_rfl) (fun _ _ _ h => h) (Or.inl ⟨by rfl, fun W hSw => by go_simp⟩) hH ?_
      try simp only [Act.put, List.setIfInBounds_toArray, List.set_cons_zero, List.set_cons_succ]
      refine wpAnyH_take (i := 2) (oi := { dst := some 51, op := Op.move (Operand.tmp 50), type := 4, pos := "law.go:47", after := #[{ on := 1, ground := Ground.data }], guard := none }) (v := (.bool false)) rfl (by kernel_rfl) (by kernel_rfl) (by kernel_rfl) (fun _ _ _ h => h) (Or.inl ⟨by rfl, fun W hSw => by go_simp⟩) hH ?_
      try simp only [Act.put, List.setIfInBounds_toArray, List.set_cons_zero, List.set_cons_succ]
      refine wpAnyH_take (i := 3) (oi := { dst := some 52, op := Op.load 25 (Operand.tmp 8), type := 25, pos := "law.go:47", after := #[{ on := 2, ground := Ground.guard }], guard := some (2, false) }) (v := (.agg #[.int .u32 (z.f : Int), .int .u32 (z.t : Int), .int .i64 z.k, .int .i64 z.s, .int .i64 z.a, .slice z.sa z.len z.cap])) rfl (by kernel_rfl) (by kernel_rfl) (by kernel_rfl) (fun _ _ _ h => h) (Or.inl ⟨by rfl, fun W hSw => by obtain ⟨c0, c1, c2, c3, c4, c5⟩ := hcells W hSw; go_simp⟩) hH ?_
      try simp only [Act.put, List.setIfInBounds_toArray, List.set_cons_zero, List.set_cons_succ]
      refine wpAnyH_take (i := 6) (oi := { dst := some 55, op := Op.move (Operand.tmp 1), type := 23, pos := "law.go:47", after := #[{ on := 2, ground := Ground.guard }], guard := some (2, false) }) (v := (.slice ab lb cb)) rfl (by kernel_rfl) (by kernel_rfl) (by kernel_rfl) (fun _ _ _ h => h) (Or.inl ⟨by rfl, fun W hSw => by go_simp⟩) hH ?_
      try simp only [Act.put, List.setIfInBounds_toArray, List.set_cons_zero, List.set_cons_succ]
      refine wpAnyH_take (i := 7) (oi := { dst := some 56, op := Op.convert 23 9 (Operand.tmp 55), type := 9, pos := "law.go:47", after := #[{ on := 6, ground := Ground.data }, { on := 2, ground := Ground.guard }], guard := some (2, false) }) (v := (.string T)) rfl (by kernel_rfl) (by kernel_rfl) (by kernel_rfl) (fun _ _ _ h => h) (Or.inl ⟨by rfl, fun W hSw => by have cvb := hCb W (hkW.trans hSw); go_simp⟩) hH ?_
      try simp only [Act.put, List.setIfInBounds_toArray, List.set_cons_zero, List.set_cons_succ]
      refine wpAnyH_ready (rs := [4]) (by kernel_rfl) (by simp) ?_
      refine AllReadyH.cons (o := { dst := some 53, op := Op.call { callee := Callee.value (Operand.func 10), args := #[Operand.tmp 52], argTypes := #[25] }, type := 23, pos := "law.go:47", after := #[{ on := 3, ground := Ground.data }, { on := 2, ground := Ground.chain }, { on := 2, ground := Ground.guard }], guard := some (2, false) }) rfl (fun K hK => ?_) AllReadyH.nil
      go_simp
      refine (qb _ hH).mono ?_
      rintro e w4 ⟨v4, rfl, hC4, hk4⟩
      go_wp2_with fail
      refine hK.out _ _ (hH.trans hk4) (fun _ => ?_)
      clear hK K
      refine wpAnyH_stronger (S' := fun A => Kept [] W0 A ∧ Kept [] w4 A) (fun A h => h.1) _ _ _ _ ?_
      replace hH := (⟨hH.trans hk4, Kept.refl _ _⟩ : Kept [] W0 w4 ∧ Kept [] w4 w4)
      try simp only [Act.put, List.setIfInBounds_toArray, List.set_cons_zero, List.set_cons_succ]
      refine wpAnyH_take (i := 5) (oi := { dst := some 54, op := Op.convert 23 9 (Operand.tmp 53), type := 9, pos := "law.go:47", after := #[{ on := 4, ground := Ground.data }, { on := 2, ground := Ground.guard }], guard := some (2, false) }) (v := (.string T)) rfl (by kernel_rfl) (by kernel_rfl) (by kernel_rfl) (fun _ _ _ h => h) (Or.inl ⟨by rfl, fun W hSw => by have cv := hC4 W hSw.2; go_simp⟩) hH ?_
      try simp only [Act.put, List.setIfInBounds_toArray, List.set_cons_zero, List.set_cons_succ]
      refine wpAnyH_take (i := 8) (oi := { dst := some 57, op := Op.binOp BinOp.eql 9 (Operand.tmp 54) (Operand.tmp 56) 9, type := 4, pos := "law.go:47", after := #[{ on := 5, ground := Ground.data }, { on := 7, ground := Ground.data }, { on := 2, ground := Ground.guard }], guard := some (2, false) }) (v := (.bool true)) rfl (by kernel_rfl) (by kernel_rfl) (by kernel_rfl) (fun _ _ _ h => h) (Or.inl ⟨by rfl, fun W hSw => by go_simp⟩) hH ?_
      try simp only [Act.put, List.setIfInBounds_toArray, List.set_cons_zero, List.set_cons_succ]
      refine wpAnyH_take (i := 9) (oi := { dst := some 58, op := Op.pick (Operand.tmp 51) (Operand.const (Value.bool true)) (Operand.tmp 57), type := 4, pos := "law.go:47", after := #[{ on := 2, ground := Ground.data }, { on := 8, ground := Ground.data }], guard := none }) (v := (.bool true)) rfl (by kernel_rfl) (by kernel_rfl) (by kernel_rfl) (fun _ _ _ h => h) (Or.inl ⟨by rfl, fun W hSw => by go_simp⟩) hH ?_
      try simp only [Act.put, List.setIfInBounds_toArray, List.set_cons_zero, List.set_cons_succ]
      refine wpAnyH_take (i := 10) (oi := { dst := some 59, op := Op.move (Operand.tmp 58), type := 4, pos := "law.go:47", after := #[{ on := 9, ground := Ground.data }, { on := 4, ground := Ground.chain }], guard := none }) (v := (.bool true)) rfl (by kernel_rfl) (by kernel_rfl) (by kernel_rfl) (fun _ _ _ h => h) (Or.inl ⟨by rfl, fun W hSw => by go_simp⟩) hH ?_
      try simp only [Act.put, List.setIfInBounds_toArray, List.set_cons_zero, List.set_cons_succ]
      refine wpAnyH_ready (rs := [11]) (by kernel_rfl) (by simp) ?_
      refine AllReadyH.cons (o := { dst := some 60, op := Op.call { callee := Callee.value (Operand.func 7), args := #[], argTypes := #[] }, type := 4, pos := "law.go:47", after := #[{ on := 10, ground := Ground.chain }, { on := 10, ground := Ground.guard }], guard := some (10, true) }) rfl (fun K hK => ?_) AllReadyH.nil
      go_simp
      refine (ql _).mono ?_
      rintro e w15 ⟨rfl, hk1⟩
      go_wp2_with fail
      have hH1 := (⟨hH.1.trans hk1, hH.2.trans hk1⟩ : Kept [] W0 w15 ∧ Kept [] w4 w15)
      refine hK.out _ _ hH1 (fun _ => ?_)
      replace hH := hH1
      clear hK K hH1
      try simp only [Act.put, List.setIfInBounds_toArray, List.set_cons_zero, List.set_cons_succ]
      refine wpAnyH_take (i := 12) (oi := { dst := some 61, op := Op.pick (Operand.tmp 59) (Operand.tmp 60) (Operand.const (Value.bool false)), type := 4, pos := "law.go:47", after := #[{ on := 10, ground := Ground.data }, { on := 11, ground := Ground.data }], guard := none }) (v := (.bool true)) rfl (by kernel_rfl) (by kernel_rfl) (by kernel_rfl) (fun _ _ _ h => h) (Or.inl ⟨by rfl, fun W hSw => by go_simp⟩) hH ?_
      try simp only [Act.put, List.setIfInBounds_toArray, List.set_cons_zero, List.set_cons_succ]
      refine wpAnyH_take (i := 13) (oi := { dst := some 4, op := Op.assign (Operand.tmp 61), type := 4, pos := "law.go:47", after := #[{ on := 12, ground := Ground.data }, { on := 11, ground := Ground.chain }, { on := 0, ground := Ground.phase }, { on := 1, ground := Ground.phase }, { on := 2, ground := Ground.phase }, { on := 3, ground := Ground.phase }, { on := 4, ground := Ground.phase }, { on := 5, ground := Ground.phase }, { on := 6, ground := Ground.phase }, { on := 7, ground := Ground.phase }, { on := 8, ground := Ground.phase }, { on := 9, ground := Ground.phase }, { on := 10, ground := Ground.phase }, { on := 11, ground := Ground.phase }, { on := 12, ground := Ground.phase }], guard := none }) (v := (.bool true)) rfl (by kernel_rfl) (by kernel_rfl) (by kernel_rfl) (fun _ _ _ h => h) (Or.inl ⟨by rfl, fun W hSw => by go_simp⟩) hH ?_
      try simp only [Act.put, List.setIfInBounds_toArray, List.set_cons_zero, List.set_cons_succ]
      refine wpAnyH_done (by kernel_rfl) ?_ _
      go_wp2_with fail
      go_ret
      exact ⟨rfl, hkW.trans hH.1⟩
    · have hne : (E != 0) = true := by simpa using hE
      clear hzM hzA hzW hzl hZ q2 hpi hmlen hIn hxA hb0
      refine wp_region_held_drew (S := fun A => Kept [] W0 A) (by kernel_rfl) (kept_drew [] W0) (fun hP => ?_)
      have hH := hP
      clear hP
      refine wpAnyH_take (i := 0) (oi := { dst := some 49, op := Op.move (Operand.tmp 9), type := 30, pos := "law.go:47", after := #[], guard := none }) (v := (.int .i64 E)) rfl (by kernel_rfl) (by kernel_rfl) (by kernel_rfl) (fun _ _ _ h => h) (Or.inl ⟨by rfl, fun W hSw => by go_simp⟩) hH ?_
      try simp only [Act.put, List.setIfInBounds_toArray, List.set_cons_zero, List.set_cons_succ]
      refine wpAnyH_take (i := 1) (oi := { dst := some 50, op := Op.binOp BinOp.neq 30 (Operand.tmp 49) (Operand.const (Value.int IntKind.i64 0)) 30, type := 4, pos := "law.go:47", after := #[{ on := 0, ground := Ground.data }], guard := none }) (v := (.bool true)) rfl (by kernel_rfl) (by kernel_rfl) (by kernel_rfl) (fun _ _ _ h => h) (Or.inl ⟨by rfl, fun W hSw => by go_simp⟩) hH ?_
      try simp only [Act.put, List.setIfInBounds_toArray, List.set_cons_zero, List.set_cons_succ]
      refine wpAnyH_take (i := 2) (oi := { dst := some 51, op := Op.move (Operand.tmp 50), type := 4, pos := "law.go:47", after := #[{ on := 1, ground := Ground.data }], guard := none }) (v := (.bool true)) rfl (by kernel_rfl) (by kernel_rfl) (by kernel_rfl) (fun _ _ _ h => h) (Or.inl ⟨by rfl, fun W hSw => by go_simp⟩) hH ?_
      try simp only [Act.put, List.setIfInBounds_toArray, List.set_cons_zero, List.set_cons_succ]
      refine wpAnyH_take (i := 3) (oi := { dst := some 52, op := Op.load 25 (Operand.tmp 8), type := 25, pos := "law.go:47", after := #[{ on := 2, ground := Ground.guard }], guard := some (2, false) }) (v := undef) rfl (by kernel_rfl) (by kernel_rfl) (by kernel_rfl) (fun _ _ _ h => h) (Or.inr ⟨by rfl, rfl⟩) hH ?_
      try simp only [Act.put, List.setIfInBounds_toArray, List.set_cons_zero, List.set_cons_succ]
      refine wpAnyH_take (i := 4) (oi := { dst := some 53, op := Op.call { callee := Callee.value (Operand.func 10), args := #[Operand.tmp 52], argTypes := #[25] }, type := 23, pos := "law.go:47", after := #[{ on := 3, ground := Ground.data }, { on := 2, ground := Ground.chain }, { on := 2, ground := Ground.guard }], guard := some (2, false) }) (v := undef) rfl (by kernel_rfl) (by kernel_rfl) (by kernel_rfl) (fun _ _ _ h => h) (Or.inr ⟨by rfl, rfl⟩) hH ?_
      try simp only [Act.put, List.setIfInBounds_toArray, List.set_cons_zero, List.set_cons_succ]
      refine wpAnyH_take (i := 5) (oi := { dst := some 54, op := Op.convert 23 9 (Operand.tmp 53), type := 9, pos := "law.go:47", after := #[{ on := 4, ground := Ground.data }, { on := 2, ground := Ground.guard }], guard := some (2, false) }) (v := undef) rfl (by kernel_rfl) (by kernel_rfl) (by kernel_rfl) (fun _ _ _ h => h) (Or.inr ⟨by rfl, rfl⟩) hH ?_
      try simp only [Act.put, List.setIfInBounds_toArray, List.set_cons_zero, List.set_cons_succ]
      refine wpAnyH_take (i := 6) (oi := { dst := some 55, op := Op.move (Operand.tmp 1), type := 23, pos := "law.go:47", after := #[{ on := 2, ground := Ground.guard }], guard := some (2, false) }) (v := undef) rfl (by kernel_rfl) (by kernel_rfl) (by kernel_rfl) (fun _ _ _ h => h) (Or.inr ⟨by rfl, rfl⟩) hH ?_
      try simp only [Act.put, List.setIfInBounds_toArray, List.set_cons_zero, List.set_cons_succ]
      refine wpAnyH_take (i := 7) (oi := { dst := some 56, op := Op.convert 23 9 (Operand.tmp 55), type := 9, pos := "law.go:47", after := #[{ on := 6, ground := Ground.data }, { on := 2, ground := Ground.guard }], guard := some (2, false) }) (v := undef) rfl (by kernel_rfl) (by kernel_rfl) (by kernel_rfl) (fun _ _ _ h => h) (Or.inr ⟨by rfl, rfl⟩) hH ?_
      try simp only [Act.put, List.setIfInBounds_toArray, List.set_cons_zero, List.set_cons_succ]
      refine wpAnyH_take (i := 8) (oi := { dst := some 57, op := Op.binOp BinOp.eql 9 (Operand.tmp 54) (Operand.tmp 56) 9, type := 4, pos := "law.go:47", after := #[{ on := 5, ground := Ground.data }, { on := 7, ground := Ground.data }, { on := 2, ground := Ground.guard }], guard := some (2, false) }) (v := undef) rfl (by kernel_rfl) (by kernel_rfl) (by kernel_rfl) (fun _ _ _ h => h) (Or.inr ⟨by rfl, rfl⟩) hH ?_
      try simp only [Act.put, List.setIfInBounds_toArray, List.set_cons_zero, List.set_cons_succ]
      refine wpAnyH_take (i := 9) (oi := { dst := some 58, op := Op.pick (Operand.tmp 51) (Operand.const (Value.bool true)) (Operand.tmp 57), type := 4, pos := "law.go:47", after := #[{ on := 2, ground := Ground.data }, { on := 8, ground := Ground.data }], guard := none }) (v := (.bool true)) rfl (by kernel_rfl) (by kernel_rfl) (by kernel_rfl) (fun _ _ _ h => h) (Or.inl ⟨by rfl, fun W hSw => by go_simp⟩) hH ?_
      try simp only [Act.put, List.setIfInBounds_toArray, List.set_cons_zero, List.set_cons_succ]
      refine wpAnyH_take (i := 10) (oi := { dst := some 59, op := Op.move (Operand.tmp 58), type := 4, pos := "law.go:47", after := #[{ on := 9, ground := Ground.data }, { on := 4, ground := Ground.chain }], guard := none }) (v := (.bool true)) rfl (by kernel_rfl) (by kernel_rfl) (by kernel_rfl) (fun _ _ _ h => h) (Or.inl ⟨by rfl, fun W hSw => by go_simp⟩) hH ?_
      try simp only [Act.put, List.setIfInBounds_toArray, List.set_cons_zero, List.set_cons_succ]
      refine wpAnyH_ready (rs := [11]) (by kernel_rfl) (by simp) ?_
      refine AllReadyH.cons (o := { dst := some 60, op := Op.call { callee := Callee.value (Operand.func 7), args := #[], argTypes := #[] }, type := 4, pos := "law.go:47", after := #[{ on := 10, ground := Ground.chain }, { on := 10, ground := Ground.guard }], guard := some (10, true) }) rfl (fun K hK => ?_) AllReadyH.nil
      go_simp
      refine (ql _).mono ?_
      rintro e w15 ⟨rfl, hk1⟩
      go_wp2_with fail
      have hH1 := hH.trans hk1
      refine hK.out _ _ hH1 (fun _ => ?_)
      replace hH := hH1
      clear hK K hH1
      try simp only [Act.put, List.setIfInBounds_toArray, List.set_cons_zero, List.set_cons_succ]
      refine wpAnyH_take (i := 12) (oi := { dst := some 61, op := Op.pick (Operand.tmp 59) (Operand.tmp 60) (Operand.const (Value.bool false)), type := 4, pos := "law.go:47", after := #[{ on := 10, ground := Ground.data }, { on := 11, ground := Ground.data }], guard := none }) (v := (.bool true)) rfl (by kernel_rfl) (by kernel_rfl) (by kernel_rfl) (fun _ _ _ h => h) (Or.inl ⟨by rfl, fun W hSw => by go_simp⟩) hH ?_
      try simp only [Act.put, List.setIfInBounds_toArray, List.set_cons_zero, List.set_cons_succ]
      refine wpAnyH_take (i := 13) (oi := { dst := some 4, op := Op.assign (Operand.tmp 61), type := 4, pos := "law.go:47", after := #[{ on := 12, ground := Ground.data }, { on := 11, ground := Ground.chain }, { on := 0, ground := Ground.phase }, { on := 1, ground := Ground.phase }, { on := 2, ground := Ground.phase }, { on := 3, ground := Ground.phase }, { on := 4, ground := Ground.phase }, { on := 5, ground := Ground.phase }, { on := 6, ground := Ground.phase }, { on := 7, ground := Ground.phase }, { on := 8, ground := Ground.phase }, { on := 9, ground := Ground.phase }, { on := 10, ground := Ground.phase }, { on := 11, ground := Ground.phase }, { on := 12, ground := Ground.phase }], guard := none }) (v := (.bool true)) rfl (by kernel_rfl) (by kernel_rfl) (by kernel_rfl) (fun _ _ _ h => h) (Or.inl ⟨by rfl, fun W hSw => by go_simp⟩) hH ?_
      try simp only [Act.put, List.setIfInBounds_toArray, List.set_cons_zero, List.set_cons_succ]
      refine wpAnyH_done (by kernel_rfl) ?_ _
      go_wp2_with fail
      go_ret
      exact ⟨rfl, hkW.trans hH⟩
end Go.Proofs.Ytlbajnffbiaooaa.Wire
