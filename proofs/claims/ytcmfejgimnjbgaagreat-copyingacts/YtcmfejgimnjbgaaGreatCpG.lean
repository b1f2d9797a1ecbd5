/-
  Two disks; an extent's way from one to the other: lives.
-/
import Derived.Test.YtcmfejgimnjbgaaGreatCpD
import Derived.Test.YtcmfejgimnjbgaaGreatDataK
import Derived.Lib.SlBytesConst
namespace Go.Proofs.YtcmfejgimnjbgaaGreat.Copying
open Go.RowKit
open Math
open Pack (Mv Ms mv0 good)

theorem wpAnyH_stronger {P : Program} {ops : Array Oper} {Q : Exit → Act → World → Prop} {md : Region.Mode} {S S' : World → Prop} (hS : ∀ w, S' w → S w) :
    ∀ (fuel : Nat) (listed : Array Bool) (a : Act) (w : World), wpAnyH P md ops Q S' fuel listed a w → wpAnyH P md ops Q S fuel listed a w
  | 0, _, _, _, h => h
  | fuel + 1, _, _, _, h => ⟨h.1, fun i hi => wpOp_mono (fun _ _ h' => ⟨hS _ h'.1, wpAnyH_stronger hS fuel _ _ _ h'.2⟩) (h.2 i hi)⟩
/-- Two disks in memory, apart. -/
structure Two (W : World) (d b1 b2 : Nat) (s : Dk) (x c1 c2 : Nat) (t : Dk) : Prop where
  one : DiskAt W d b1 b2 s
  two : DiskAt W x c1 c2 t
  off : ∃ m, (d < m ∧ b1 < m ∧ b2 < m) ∧ m ≤ x ∧ m ≤ c1 ∧ m ≤ c2
theorem Two.kept {A B : World} {d b1 b2 x c1 c2 : Nat} {s t : Dk} (h : Two A d b1 b2 s x c1 c2 t) (hk : Kept [] A B) : Two B d b1 b2 s x c1 c2 t := ⟨h.one.kept hk (by simp) (by simp) (by simp), h.two.kept hk (by simp) (by simp) (by simp), h.off⟩
theorem Two.left {A B : World} {d b1 b2 x c1 c2 : Nat} {s t s' : Dk} (h : Two A d b1 b2 s x c1 c2 t) (hd : DiskAt B d b1 b2 s') (hk : Kept [d, b1, b2] A B) : Two B d b1 b2 s' x c1 c2 t := by
  obtain ⟨m, ho⟩ := h.off
  exact ⟨hd, h.two.kept hk (by simp; omega) (by simp; omega) (by simp; omega), ⟨m, ho⟩⟩
theorem Two.right {A B : World} {d b1 b2 x c1 c2 : Nat} {s t t' : Dk} (h : Two A d b1 b2 s x c1 c2 t) (hd : DiskAt B x c1 c2 t') (hk : Kept [x, c1, c2] A B) : Two B d b1 b2 s x c1 c2 t' := by
  obtain ⟨m, ho⟩ := h.off
  exact ⟨h.one.kept hk (by simp; omega) (by simp; omega) (by simp; omega), hd, ⟨m, ho⟩⟩
/-- A message's parts, as they are stored. -/
theorem cells_one (k i o : Int) (m : Nat) (s : Bool) (sa : Option Addr) (len cap : Nat) : ∀ v ∈ [Value.int .i64 k, .int .i64 i, .int .i64 o, .int .u64 (m : Int), .bool s, .slice sa len cap], v.oneCell' = true := by simp [Value.oneCell']
def b16 : List Nat := [115, 105, 120, 116, 101, 101, 110, 32, 98, 121, 116, 101, 115, 46, 46, 32]
theorem b16_row (W : World) : ByteRow W.heap.size (W.heap.size + 1) (W.alloc (.cells #[.int .u8 115, .int .u8 105, .int .u8 120, .int .u8 116, .int .u8 101, .int .u8 101, .int .u8 110, .int .u8 32, .int .u8 98, .int .u8 121, .int .u8 116, .int .u8 101, .int .u8 115, .int .u8 46, .int .u8 46, .int .u8 32] 5 (16, 17))) (.slice (some ⟨W.heap.size, 0, none⟩) 16 16) b16 := by
  refine ⟨by decide, some ⟨W.heap.size, 0, none⟩, 16, rfl, fun e => (by cases e), .inr ⟨W.heap.size, 0, rfl, Nat.le_refl _, Nat.le_refl _, Nat.lt_succ_self _, fun j hj => ?_⟩⟩
  have e := World.cell?_alloc_mark W (b16.map enc).toArray 5 (16, 17) j
  rw [Nat.zero_add]
  exact e.trans (by rw [List.getElem?_toArray, enc_get b16 j hj])
set_option maxRecDepth 100000 in
theorem dWrite_b16 (d b1 b2 : Nat) (s : Dk) (o l : Int) (W : World) (h : DiskAt W d b1 b2 s) (hops : s.ops ≤ 900000) :
    Calls Tryz.prog 31 #[.pointer (some ⟨d, 0, none⟩), .agg #[.int .i64 o, .int .i64 l], .slice (some ⟨W.heap.size, 0, none⟩) 16 16] (W.alloc (.cells #[.int .u8 115, .int .u8 105, .int .u8 120, .int .u8 116, .int .u8 101, .int .u8 101, .int .u8 110, .int .u8 32, .int .u8 98, .int .u8 121, .int .u8 116, .int .u8 101, .int .u8 115, .int .u8 46, .int .u8 46, .int .u8 32] 5 (16, 17))) fun e w' =>
      e = .returned (.int .i64 (areaE s o l b16 : Nat)) ∧ DiskAt w' d b1 b2 (areaS s o l b16) ∧ Kept [d, b1, b2] W w' := by
  have hlt := h.lt
  exact (dWrite_any d b1 b2 s o l _ b16 W.heap.size _ _ (h.alloc _) hops (b16_row W) (by simp) (by simp; omega)).mono fun e w' ⟨he, hd, hk⟩ => ⟨he, hd, (kept_alloc _ _ _).trans hk⟩
/-- What is told at the disks of lives. -/
def given : Dk := areaS (made 16) 4 1 b16
def taker : Dk := mapS (made 16) 6
set_option maxRecDepth 100000 in
theorem lives_write : areaE (made 16) 4 1 b16 = 0 := by kernel_rfl
set_option maxRecDepth 100000 in
theorem lives_map : mapE (made 16) 6 = 0 := by kernel_rfl
set_option maxRecDepth 100000 in
theorem lives_got : gotE given (Span.wOff 1) (Span.wLen 1) = 0 := by kernel_rfl
set_option maxRecDepth 100000 in
theorem lives_ext : extE taker (giveM given 1) = 0 := by kernel_rfl
set_option maxRecDepth 100000 in
theorem lives_have : (extV taker (giveM given 1)).k = 7 ∧ (extV taker (giveM given 1)).o = 1 := ⟨by kernel_rfl, by kernel_rfl⟩
set_option maxRecDepth 100000 in
theorem lives_left : latestY (extS taker (giveM given 1)) 6 2 = 4 := by kernel_rfl
set_option maxRecDepth 100000 in
theorem lives_alike : imgL (extS taker (giveM given 1)) = imgL given := by kernel_rfl
set_option maxRecDepth 100000 in
theorem lives_ops : given.ops ≤ 900000 ∧ taker.ops ≤ 900000 := ⟨by rw [show given.ops = 1 by kernel_rfl]; decide, by rw [show taker.ops = 2 by kernel_rfl]; decide⟩
set_option maxRecDepth 100000 in
set_option maxHeartbeats 8000000 in
/-- lives -/
theorem lives_any (w : World) : Calls Tryz.prog 6 #[] w fun e w' => e = .returned (.bool true) ∧ Kept [] w w' := by
  have hcv : ∀ W : World, (convert 32 32 (.slice (some ⟨W.heap.size, 0, none⟩) 16 16)).run Tryz.prog (W.alloc (.cells #[.int .u8 115, .int .u8 105, .int .u8 120, .int .u8 116, .int .u8 101, .int .u8 101, .int .u8 110, .int .u8 32, .int .u8 98, .int .u8 121, .int .u8 116, .int .u8 101, .int .u8 115, .int .u8 46, .int .u8 46, .int .u8 32] 5)) = .ok (.slice (some ⟨W.heap.size, 0, none⟩) 16 16) (W.alloc (.cells #[.int .u8 115, .int .u8 105, .int .u8 120, .int .u8 116, .int .u8 101, .int .u8 101, .int .u8 110, .int .u8 32, .int .u8 98, .int .u8 121, .int .u8 116, .int .u8 101, .int .u8 115, .int .u8 46, .int .u8 46, .int .u8 32] 5 (16, 17))) := fun W => Lib.run_convert_bytes_const (P := Tryz.prog) W 32 5 #[.int .u8 115, .int .u8 105, .int .u8 120, .int .u8 116, .int .u8 101, .int .u8 101, .int .u8 110, .int .u8 32, .int .u8 98, .int .u8 121, .int .u8 116, .int .u8 101, .int .u8 115, .int .u8 46, .int .u8 46, .int .u8 32] 16 16 Tryz.underlying32 Tryz.underlying5
  have qa := new_ex 16 (by omega) (by omega) w
  have qb := fun W => new_ex 16 (by omega) (by omega) W
  have q1 := fun d b1 b2 W h => dWrite_b16 d b1 b2 (made 16) 4 1 W h (by decide)
  have q2 := fun d b1 b2 W h => mapPut_any d b1 b2 (made 16) 6 (by decide) (by decide) W h
  have q3 := fun d b1 b2 W h => give_any d b1 b2 given 1 W h
  have q4 := fun d b1 b2 x lo hi W h => put_any d b1 b2 taker x lo hi W h lives_ops.2
  have q5 := fun d b1 b2 W h => dget_any d b1 b2 (extS taker (giveM given 1)) W h
  have q6 := fun d b1 b2 W h => dImage_any d b1 b2 (extS taker (giveM given 1)) W h
  have q7 := fun d b1 b2 W h => dImage_any d b1 b2 given W h
  have hgk : Hid ((giveM given 1).d.length ≤ 1000) := by
    show _ ≤ _
    rw [show (giveM given 1).d.length = 64 by kernel_rfl]
    decide
  rw [lives_write] at q1
  rw [lives_map] at q2
  rw [lives_got] at q3
  rw [lives_left] at q5
  rw [lives_alike] at q6
  have hv := lives_have
  have he := lives_ext
  have eg : areaS (made 16) 4 1 b16 = given := rfl
  have et : mapS (made 16) 6 = taker := rfl
  rw [eg] at q1
  rw [et] at q2
  generalize giveM given 1 = M at *
  generalize given = sg at *
  generalize taker = st at *
  generalize imgL sg = im at *
  clear eg et
  replace hv : Hid _ := hv
  replace he : Hid _ := he
  go_enter Tryz.func6, Tryz.ntmps6
  go_upto_region 7 with (first
    | (go_at_call 7; refine qa.mono ?_; clear qa; rintro e w1 ⟨d, b1, b2, rfl, hD1, hdl, hk1⟩; have hz1 := hD1.lt)
    | (go_at_call 7; refine (qb _).mono ?_; clear qb; rintro e w2 ⟨x, c1, c2, rfl, hX2, hxl, hk2⟩; have hT2 : Two w2 d b1 b2 (made 16) x c1 c2 (made 16) := ⟨hD1.kept hk2 (by simp) (by simp) (by simp), hX2, w1.heap.size, by omega, by omega⟩; have hk02 := hk1.trans hk2; have hs1 : Hid (w.heap.size ≤ w1.heap.size) := hk1.size)
    | (go_at_call 31; refine (q1 _ _ _ _ hT2.one).mono ?_; clear q1; rintro e w3 ⟨rfl, hD3, hk3⟩; have hT3 := hT2.left hD3 hk3)
    | (go_at_call 16; refine (q2 _ _ _ _ hT3.two).mono ?_; clear q2; rintro e w4 ⟨rfl, hD4, hk4⟩; have hT4 := hT3.right hD4 hk4)
    | (go_at_call 9; refine (q3 _ _ _ _ hT4.one).mono ?_; clear q3; rintro e w5 ⟨v, rfl, hvm, hvat, hk5⟩; have hT5 := hT4.kept hk5; obtain ⟨vk, vi, vo, vm, vs, vsa, vlen, vcap, vd⟩ := v; have hlv : Hid (vlen ≤ 1000) := (by show _ ≤ _; have h1 := hvat.len; have h2 := hgk.out; rw [← hvm] at h2; simp only [Mv.ms] at h1 h2; omega); simp only [Mv.val]; have hb5 := zero_new w5)
    | (refine wpList_store_blk rfl 34 _ _ rfl w5.heap.size 34 _ [.int .i64 vk, .int .i64 vi, .int .i64 vo, .int .u64 (vm : Int), .bool vs, .slice vsa vlen vcap] rfl rfl hb5 rfl Pack.Tryz.sizeM (cells_one _ _ _ _ _ _ _ _) ?_; intro w6 hB6 hk6 hz6; have hk56 : Kept [] w5 w6 := (kept_alloc [] w5 _).young hk6 (Nat.le_refl _); have hT6 := hT5.kept hk56; replace hz6 : Hid _ := hz6; obtain ⟨y0, y1, y2, y3, y4, y5⟩ := Mv.In.six (x := ⟨vk, vi, vo, vm, vs, vsa, vlen, vcap, vd⟩) hB6; have hv6 := hvat.kept (Nat.le_refl _) hk56 (by simp); have hs45 : Hid (x < w4.heap.size ∧ c1 < w4.heap.size ∧ c2 < w4.heap.size) := hD4.lt)
    | (go_at_call 12; refine (q4 x c1 c2 ⟨vk, vi, vo, vm, vs, vsa, vlen, vcap, vd⟩ _ _ _ hT6.two hv6 hk56.size (Nat.le_trans hlv.out (by decide)) (by have := hs45.out; simp; omega)).mono ?_; clear q4; rintro e w7 ⟨rfl, hX7, hk7⟩; have hT7 := hT6.right hX7 hk7; rw [hvm] at *; rw [he.out]; obtain ⟨ha, hb⟩ := hv.out; generalize extV st M = u at *; obtain ⟨uk, ui, uo, um, us, usa, ulen, ucap, ud⟩ := u; simp only [Mv.val] at *; subst ha; subst hb; have hb7 := zero_new w7)
    | (refine wpList_store_blk rfl 34 _ _ rfl w7.heap.size 34 _ [.int .i64 7, .int .i64 ui, .int .i64 1, .int .u64 (um : Int), .bool us, .slice usa ulen ucap] rfl rfl hb7 rfl Pack.Tryz.sizeM (cells_one _ _ _ _ _ _ _ _) ?_; intro w8 hB8 hk8 hz8; have hk78 : Kept [] w7 w8 := (kept_alloc [] w7 _).young hk8 (Nat.le_refl _); have hT8 := hT7.kept hk78; replace hz8 : Hid _ := hz8))
  have hC : Kept [] w8 w8 := Kept.refl _ _
  clear hv he hlv hgk
  refine wp_region_held_drew (S := fun W => Kept [] w8 W) (by kernel_rfl) (kept_drew [] w8) (fun hP => ?_)
  have hH := hP
  clear hP
  refine wpAnyH_take (i := 0) (oi := { dst := some 37, op := Op.move (Operand.tmp 5), type := 25, pos := "law.go:24", after := #[], guard := none }) (v := (.int .i64 0)) rfl (by kernel_rfl) (by kernel_rfl) (by kernel_rfl) (fun _ _ _ h => h) (Or.inl ⟨by rfl, fun W hSw => by go_simp⟩) hH ?_
  try simp only [Act.put, List.setIfInBounds_toArray, List.set_cons_zero, List.set_cons_succ]
  refine wpAnyH_take (i := 1) (oi := { dst := some 38, op := Op.binOp BinOp.eql 25 (Operand.tmp 37) (Operand.const (Value.int IntKind.i64 0)) 25, type := 4, pos := "law.go:24", after := #[{ on := 0, ground := Ground.data }], guard := none }) (v := (.bool true)) rfl (by kernel_rfl) (by kernel_rfl) (by kernel_rfl) (fun _ _ _ h => h) (Or.inl ⟨by rfl, fun W hSw => by go_simp⟩) hH ?_
  try simp only [Act.put, List.setIfInBounds_toArray, List.set_cons_zero, List.set_cons_succ]
  refine wpAnyH_take (i := 2) (oi := { dst := some 39, op := Op.move (Operand.tmp 38), type := 4, pos := "law.go:24", after := #[{ on := 1, ground := Ground.data }], guard := none }) (v := (.bool true)) rfl (by kernel_rfl) (by kernel_rfl) (by kernel_rfl) (fun _ _ _ h => h) (Or.inl ⟨by rfl, fun W hSw => by go_simp⟩) hH ?_
  try simp only [Act.put, List.setIfInBounds_toArray, List.set_cons_zero, List.set_cons_succ]
  refine wpAnyH_take (i := 3) (oi := { dst := some 40, op := Op.move (Operand.tmp 6), type := 25, pos := "law.go:24", after := #[{ on := 2, ground := Ground.guard }], guard := some (2, true) }) (v := (.int .i64 0)) rfl (by kernel_rfl) (by kernel_rfl) (by kernel_rfl) (fun _ _ _ h => h) (Or.inl ⟨by rfl, fun W hSw => by go_simp⟩) hH ?_
  try simp only [Act.put, List.setIfInBounds_toArray, List.set_cons_zero, List.set_cons_succ]
  refine wpAnyH_take (i := 4) (oi := { dst := some 41, op := Op.binOp BinOp.eql 25 (Operand.tmp 40) (Operand.const (Value.int IntKind.i64 0)) 25, type := 4, pos := "law.go:24", after := #[{ on := 3, ground := Ground.data }, { on := 2, ground := Ground.guard }], guard := some (2, true) }) (v := (.bool true)) rfl (by kernel_rfl) (by kernel_rfl) (by kernel_rfl) (fun _ _ _ h => h) (Or.inl ⟨by rfl, fun W hSw => by go_simp⟩) hH ?_
  try simp only [Act.put, List.setIfInBounds_toArray, List.set_cons_zero, List.set_cons_succ]
  refine wpAnyH_take (i := 5) (oi := { dst := some 42, op := Op.pick (Operand.tmp 39) (Operand.tmp 41) (Operand.const (Value.bool false)), type := 4, pos := "law.go:24", after := #[{ on := 2, ground := Ground.data }, { on := 4, ground := Ground.data }], guard := none }) (v := (.bool true)) rfl (by kernel_rfl) (by kernel_rfl) (by kernel_rfl) (fun _ _ _ h => h) (Or.inl ⟨by rfl, fun W hSw => by go_simp⟩) hH ?_
  try simp only [Act.put, List.setIfInBounds_toArray, List.set_cons_zero, List.set_cons_succ]
  refine wpAnyH_take (i := 6) (oi := { dst := some 43, op := Op.move (Operand.tmp 42), type := 4, pos := "law.go:24", after := #[{ on := 5, ground := Ground.data }, { on := 2, ground := Ground.chain }], guard := none }) (v := (.bool true)) rfl (by kernel_rfl) (by kernel_rfl) (by kernel_rfl) (fun _ _ _ h => h) (Or.inl ⟨by rfl, fun W hSw => by go_simp⟩) hH ?_
  try simp only [Act.put, List.setIfInBounds_toArray, List.set_cons_zero, List.set_cons_succ]
  refine wpAnyH_take (i := 7) (oi := { dst := some 44, op := Op.move (Operand.tmp 8), type := 25, pos := "law.go:24", after := #[{ on := 6, ground := Ground.guard }], guard := some (6, true) }) (v := (.int .i64 0)) rfl (by kernel_rfl) (by kernel_rfl) (by kernel_rfl) (fun _ _ _ h => h) (Or.inl ⟨by rfl, fun W hSw => by go_simp⟩) hH ?_
  try simp only [Act.put, List.setIfInBounds_toArray, List.set_cons_zero, List.set_cons_succ]
  refine wpAnyH_take (i := 8) (oi := { dst := some 45, op := Op.binOp BinOp.eql 25 (Operand.tmp 44) (Operand.const (Value.int IntKind.i64 0)) 25, type := 4, pos := "law.go:24", after := #[{ on := 7, ground := Ground.data }, { on := 6, ground := Ground.guard }], guard := some (6, true) }) (v := (.bool true)) rfl (by kernel_rfl) (by kernel_rfl) (by kernel_rfl) (fun _ _ _ h => h) (Or.inl ⟨by rfl, fun W hSw => by go_simp⟩) hH ?_
  try simp only [Act.put, List.setIfInBounds_toArray, List.set_cons_zero, List.set_cons_succ]
  refine wpAnyH_take (i := 9) (oi := { dst := some 46, op := Op.pick (Operand.tmp 43) (Operand.tmp 45) (Operand.const (Value.bool false)), type := 4, pos := "law.go:24", after := #[{ on := 6, ground := Ground.data }, { on := 8, ground := Ground.data }], guard := none }) (v := (.bool true)) rfl (by kernel_rfl) (by kernel_rfl) (by kernel_rfl) (fun _ _ _ h => h) (Or.inl ⟨by rfl, fun W hSw => by go_simp⟩) hH ?_
  try simp only [Act.put, List.setIfInBounds_toArray, List.set_cons_zero, List.set_cons_succ]
  refine wpAnyH_take (i := 10) (oi := { dst := some 47, op := Op.move (Operand.tmp 46), type := 4, pos := "law.go:24", after := #[{ on := 9, ground := Ground.data }, { on := 6, ground := Ground.chain }], guard := none }) (v := (.bool true)) rfl (by kernel_rfl) (by kernel_rfl) (by kernel_rfl) (fun _ _ _ h => h) (Or.inl ⟨by rfl, fun W hSw => by go_simp⟩) hH ?_
  try simp only [Act.put, List.setIfInBounds_toArray, List.set_cons_zero, List.set_cons_succ]
  refine wpAnyH_take (i := 11) (oi := { dst := some 48, op := Op.move (Operand.tmp 10), type := 25, pos := "law.go:24", after := #[{ on := 10, ground := Ground.guard }], guard := some (10, true) }) (v := (.int .i64 0)) rfl (by kernel_rfl) (by kernel_rfl) (by kernel_rfl) (fun _ _ _ h => h) (Or.inl ⟨by rfl, fun W hSw => by go_simp⟩) hH ?_
  try simp only [Act.put, List.setIfInBounds_toArray, List.set_cons_zero, List.set_cons_succ]
  refine wpAnyH_take (i := 12) (oi := { dst := some 49, op := Op.binOp BinOp.eql 25 (Operand.tmp 48) (Operand.const (Value.int IntKind.i64 0)) 25, type := 4, pos := "law.go:24", after := #[{ on := 11, ground := Ground.data }, { on := 10, ground := Ground.guard }], guard := some (10, true) }) (v := (.bool true)) rfl (by kernel_rfl) (by kernel_rfl) (by kernel_rfl) (fun _ _ _ h => h) (Or.inl ⟨by rfl, fun W hSw => by go_simp⟩) hH ?_
  try simp only [Act.put, List.setIfInBounds_toArray, List.set_cons_zero, List.set_cons_succ]
  refine wpAnyH_take (i := 13) (oi := { dst := some 50, op := Op.pick (Operand.tmp 47) (Operand.tmp 49) (Operand.const (Value.bool false)), type := 4, pos := "law.go:24", after := #[{ on := 10, ground := Ground.data }, { on := 12, ground := Ground.data }], guard := none }) (v := (.bool true)) rfl (by kernel_rfl) (by kernel_rfl) (by kernel_rfl) (fun _ _ _ h => h) (Or.inl ⟨by rfl, fun W hSw => by go_simp⟩) hH ?_
  try simp only [Act.put, List.setIfInBounds_toArray, List.set_cons_zero, List.set_cons_succ]
  refine wpAnyH_take (i := 14) (oi := { dst := some 51, op := Op.move (Operand.tmp 50), type := 4, pos := "law.go:24", after := #[{ on := 13, ground := Ground.data }, { on := 10, ground := Ground.chain }], guard := none }) (v := (.bool true)) rfl (by kernel_rfl) (by kernel_rfl) (by kernel_rfl) (fun _ _ _ h => h) (Or.inl ⟨by rfl, fun W hSw => by go_simp⟩) hH ?_
  try simp only [Act.put, List.setIfInBounds_toArray, List.set_cons_zero, List.set_cons_succ]
  refine wpAnyH_take (i := 15) (oi := { dst := some 52, op := Op.fieldAddr 34 (Operand.tmp 9) 0, type := 0, pos := "law.go:24", after := #[{ on := 14, ground := Ground.guard }], guard := some (14, true) }) (v := (.pointer (some ⟨w7.heap.size, 0, none⟩))) rfl (by kernel_rfl) (by kernel_rfl) (by kernel_rfl) (fun _ _ _ h => h) (Or.inl ⟨by rfl, fun W hSw => by go_simp⟩) hH ?_
  try simp only [Act.put, List.setIfInBounds_toArray, List.set_cons_zero, List.set_cons_succ]
  refine wpAnyH_take (i := 16) (oi := { dst := some 53, op := Op.load 3 (Operand.tmp 52), type := 3, pos := "law.go:24", after := #[{ on := 15, ground := Ground.data }, { on := 14, ground := Ground.guard }], guard := some (14, true) }) (v := (.int .i64 7)) rfl (by kernel_rfl) (by kernel_rfl) (by kernel_rfl) (fun _ _ _ h => h) (Or.inl ⟨by rfl, fun W hSw => by obtain ⟨f0, f1, f2, f3, f4, f5⟩ := Mv.In.six (x := ⟨7, ui, 1, um, us, usa, ulen, ucap, ud⟩) (hB8.kept (hC.trans hSw) (by simp)); go_simp⟩) hH ?_
  try simp only [Act.put, List.setIfInBounds_toArray, List.set_cons_zero, List.set_cons_succ]
  refine wpAnyH_take (i := 17) (oi := { dst := some 54, op := Op.binOp BinOp.eql 3 (Operand.tmp 53) (Operand.const (Value.int IntKind.i64 7)) 3, type := 4, pos := "law.go:24", after := #[{ on := 16, ground := Ground.data }, { on := 14, ground := Ground.guard }], guard := some (14, true) }) (v := (.bool true)) rfl (by kernel_rfl) (by kernel_rfl) (by kernel_rfl) (fun _ _ _ h => h) (Or.inl ⟨by rfl, fun W hSw => by go_simp⟩) hH ?_
  try simp only [Act.put, List.setIfInBounds_toArray, List.set_cons_zero, List.set_cons_succ]
  refine wpAnyH_take (i := 18) (oi := { dst := some 55, op := Op.pick (Operand.tmp 51) (Operand.tmp 54) (Operand.const (Value.bool false)), type := 4, pos := "law.go:24", after := #[{ on := 14, ground := Ground.data }, { on := 17, ground := Ground.data }], guard := none }) (v := (.bool true)) rfl (by kernel_rfl) (by kernel_rfl) (by kernel_rfl) (fun _ _ _ h => h) (Or.inl ⟨by rfl, fun W hSw => by go_simp⟩) hH ?_
  try simp only [Act.put, List.setIfInBounds_toArray, List.set_cons_zero, List.set_cons_succ]
  refine wpAnyH_take (i := 19) (oi := { dst := some 56, op := Op.move (Operand.tmp 55), type := 4, pos := "law.go:24", after := #[{ on := 18, ground := Ground.data }, { on := 14, ground := Ground.chain }], guard := none }) (v := (.bool true)) rfl (by kernel_rfl) (by kernel_rfl) (by kernel_rfl) (fun _ _ _ h => h) (Or.inl ⟨by rfl, fun W hSw => by go_simp⟩) hH ?_
  try simp only [Act.put, List.setIfInBounds_toArray, List.set_cons_zero, List.set_cons_succ]
  refine wpAnyH_take (i := 20) (oi := { dst := some 57, op := Op.fieldAddr 34 (Operand.tmp 9) 2, type := 0, pos := "law.go:24", after := #[{ on := 19, ground := Ground.guard }], guard := some (19, true) }) (v := (.pointer (some ⟨w7.heap.size, 2, none⟩))) rfl (by kernel_rfl) (by kernel_rfl) (by kernel_rfl) (fun _ _ _ h => h) (Or.inl ⟨by rfl, fun W hSw => by go_simp⟩) hH ?_
  try simp only [Act.put, List.setIfInBounds_toArray, List.set_cons_zero, List.set_cons_succ]
  refine wpAnyH_take (i := 21) (oi := { dst := some 58, op := Op.load 3 (Operand.tmp 57), type := 3, pos := "law.go:24", after := #[{ on := 20, ground := Ground.data }, { on := 19, ground := Ground.guard }], guard := some (19, true) }) (v := (.int .i64 1)) rfl (by kernel_rfl) (by kernel_rfl) (by kernel_rfl) (fun _ _ _ h => h) (Or.inl ⟨by rfl, fun W hSw => by obtain ⟨f0, f1, f2, f3, f4, f5⟩ := Mv.In.six (x := ⟨7, ui, 1, um, us, usa, ulen, ucap, ud⟩) (hB8.kept (hC.trans hSw) (by simp)); go_simp⟩) hH ?_
  try simp only [Act.put, List.setIfInBounds_toArray, List.set_cons_zero, List.set_cons_succ]
  refine wpAnyH_take (i := 22) (oi := { dst := some 59, op := Op.binOp BinOp.eql 3 (Operand.tmp 58) (Operand.const (Value.int IntKind.i64 1)) 3, type := 4, pos := "law.go:24", after := #[{ on := 21, ground := Ground.data }, { on := 19, ground := Ground.guard }], guard := some (19, true) }) (v := (.bool true)) rfl (by kernel_rfl) (by kernel_rfl) (by kernel_rfl) (fun _ _ _ h => h) (Or.inl ⟨by rfl, fun W hSw => by go_simp⟩) hH ?_
  try simp only [Act.put, List.setIfInBounds_toArray, List.set_cons_zero, List.set_cons_succ]
  refine wpAnyH_take (i := 23) (oi := { dst := some 60, op := Op.pick (Operand.tmp 56) (Operand.tmp 59) (Operand.const (Value.bool false)), type := 4, pos := "law.go:24", after := #[{ on := 19, ground := Ground.data }, { on := 22, ground := Ground.data }], guard := none }) (v := (.bool true)) rfl (by kernel_rfl) (by kernel_rfl) (by kernel_rfl) (fun _ _ _ h => h) (Or.inl ⟨by rfl, fun W hSw => by go_simp⟩) hH ?_
  try simp only [Act.put, List.setIfInBounds_toArray, List.set_cons_zero, List.set_cons_succ]
  refine wpAnyH_take (i := 24) (oi := { dst := some 61, op := Op.move (Operand.tmp 60), type := 4, pos := "law.go:24", after := #[{ on := 23, ground := Ground.data }, { on := 19, ground := Ground.chain }], guard := none }) (v := (.bool true)) rfl (by kernel_rfl) (by kernel_rfl) (by kernel_rfl) (fun _ _ _ h => h) (Or.inl ⟨by rfl, fun W hSw => by go_simp⟩) hH ?_
  try simp only [Act.put, List.setIfInBounds_toArray, List.set_cons_zero, List.set_cons_succ]
  refine wpAnyH_take (i := 25) (oi := { dst := some 62, op := Op.move (Operand.tmp 3), type := 24, pos := "law.go:24", after := #[{ on := 24, ground := Ground.guard }], guard := some (24, true) }) (v := (.pointer (some ⟨x, 0, none⟩))) rfl (by kernel_rfl) (by kernel_rfl) (by kernel_rfl) (fun _ _ _ h => h) (Or.inl ⟨by rfl, fun W hSw => by go_simp⟩) hH ?_
  try simp only [Act.put, List.setIfInBounds_toArray, List.set_cons_zero, List.set_cons_succ]
  refine wpAnyH_ready (rs := [26]) (by kernel_rfl) (by simp) ?_
  refine AllReadyH.cons (o := { dst := some 63, op := Op.call { callee := Callee.value (Operand.func 22), args := #[Operand.tmp 62], argTypes := #[24] }, type := 31, pos := "law.go:24", after := #[{ on := 25, ground := Ground.data }, { on := 24, ground := Ground.chain }, { on := 24, ground := Ground.guard }], guard := some (24, true) }) rfl (fun K hK => ?_) AllReadyH.nil
  go_simp
  refine (q5 x c1 c2 _ (hT8.kept (hC.trans hH)).two).mono ?_
  rintro e w9 ⟨rfl, hk9⟩
  go_wp2_with fail
  refine hK.out _ _ (hH.trans hk9) (fun _ => ?_)
  clear hK K
  have hC9 := (hC.trans hH).trans hk9
  refine wpAnyH_stronger (S' := fun W => Kept [] w9 W) (fun W h => (hH.trans hk9).trans h) _ _ _ _ ?_
  replace hH := Kept.refl [] w9
  replace hC := hC9
  try simp only [Act.put, List.setIfInBounds_toArray, List.set_cons_zero, List.set_cons_succ]
  refine wpAnyH_take (i := 27) (oi := { dst := some 64, op := Op.binOp BinOp.eql 31 (Operand.tmp 63) (Operand.const (Value.int IntKind.u64 4)) 31, type := 4, pos := "law.go:24", after := #[{ on := 26, ground := Ground.data }, { on := 24, ground := Ground.guard }], guard := some (24, true) }) (v := (.bool true)) rfl (by kernel_rfl) (by kernel_rfl) (by kernel_rfl) (fun _ _ _ h => h) (Or.inl ⟨by rfl, fun W hSw => by go_simp⟩) hH ?_
  try simp only [Act.put, List.setIfInBounds_toArray, List.set_cons_zero, List.set_cons_succ]
  refine wpAnyH_take (i := 28) (oi := { dst := some 65, op := Op.pick (Operand.tmp 61) (Operand.tmp 64) (Operand.const (Value.bool false)), type := 4, pos := "law.go:24", after := #[{ on := 24, ground := Ground.data }, { on := 27, ground := Ground.data }], guard := none }) (v := (.bool true)) rfl (by kernel_rfl) (by kernel_rfl) (by kernel_rfl) (fun _ _ _ h => h) (Or.inl ⟨by rfl, fun W hSw => by go_simp⟩) hH ?_
  try simp only [Act.put, List.setIfInBounds_toArray, List.set_cons_zero, List.set_cons_succ]
  refine wpAnyH_take (i := 29) (oi := { dst := some 66, op := Op.move (Operand.tmp 65), type := 4, pos := "law.go:24", after := #[{ on := 28, ground := Ground.data }, { on := 26, ground := Ground.chain }], guard := none }) (v := (.bool true)) rfl (by kernel_rfl) (by kernel_rfl) (by kernel_rfl) (fun _ _ _ h => h) (Or.inl ⟨by rfl, fun W hSw => by go_simp⟩) hH ?_
  try simp only [Act.put, List.setIfInBounds_toArray, List.set_cons_zero, List.set_cons_succ]
  refine wpAnyH_take (i := 30) (oi := { dst := some 67, op := Op.move (Operand.tmp 3), type := 24, pos := "law.go:24", after := #[{ on := 29, ground := Ground.guard }], guard := some (29, true) }) (v := (.pointer (some ⟨x, 0, none⟩))) rfl (by kernel_rfl) (by kernel_rfl) (by kernel_rfl) (fun _ _ _ h => h) (Or.inl ⟨by rfl, fun W hSw => by go_simp⟩) hH ?_
  try simp only [Act.put, List.setIfInBounds_toArray, List.set_cons_zero, List.set_cons_succ]
  refine wpAnyH_take (i := 33) (oi := { dst := some 70, op := Op.move (Operand.tmp 1), type := 24, pos := "law.go:24", after := #[{ on := 29, ground := Ground.guard }], guard := some (29, true) }) (v := (.pointer (some ⟨d, 0, none⟩))) rfl (by kernel_rfl) (by kernel_rfl) (by kernel_rfl) (fun _ _ _ h => h) (Or.inl ⟨by rfl, fun W hSw => by go_simp⟩) hH ?_
  try simp only [Act.put, List.setIfInBounds_toArray, List.set_cons_zero, List.set_cons_succ]
  refine wpAnyH_ready (rs := [31]) (by kernel_rfl) (by simp) ?_
  refine AllReadyH.cons (o := { dst := some 68, op := Op.call { callee := Callee.value (Operand.func 24), args := #[Operand.tmp 67], argTypes := #[24] }, type := 32, pos := "law.go:24", after := #[{ on := 30, ground := Ground.data }, { on := 29, ground := Ground.chain }, { on := 29, ground := Ground.guard }], guard := some (29, true) }) rfl (fun K hK => ?_) AllReadyH.nil
  go_simp
  refine (q6 x c1 c2 _ (hT8.kept (hC.trans hH)).two).mono ?_
  rintro e w10 ⟨v10, rfl, hR10, hk10⟩
  go_wp2_with fail
  refine hK.out _ _ (hH.trans hk10) (fun _ => ?_)
  clear hK K
  have hC10 := (hC.trans hH).trans hk10
  refine wpAnyH_stronger (S' := fun W => Kept [] w10 W) (fun W h => (hH.trans hk10).trans h) _ _ _ _ ?_
  replace hH := Kept.refl [] w10
  replace hC := hC10
  try simp only [Act.put, List.setIfInBounds_toArray, List.set_cons_zero, List.set_cons_succ]
  refine wpAnyH_take (i := 32) (oi := { dst := some 69, op := Op.convert 32 9 (Operand.tmp 68), type := 9, pos := "law.go:24", after := #[{ on := 31, ground := Ground.data }, { on := 29, ground := Ground.guard }], guard := some (29, true) }) (v := (.string (txt im))) rfl (by kernel_rfl) (by kernel_rfl) (by kernel_rfl) (fun _ _ _ h => h) (Or.inl ⟨by rfl, fun W hSw => by have hc := conv_txt (hR10.kept (Nat.le_refl _) hSw (by simp)); go_simp⟩) hH ?_
  try simp only [Act.put, List.setIfInBounds_toArray, List.set_cons_zero, List.set_cons_succ]
  refine wpAnyH_ready (rs := [34]) (by kernel_rfl) (by simp) ?_
  refine AllReadyH.cons (o := { dst := some 71, op := Op.call { callee := Callee.value (Operand.func 24), args := #[Operand.tmp 70], argTypes := #[24] }, type := 32, pos := "law.go:24", after := #[{ on := 33, ground := Ground.data }, { on := 31, ground := Ground.chain }, { on := 29, ground := Ground.guard }], guard := some (29, true) }) rfl (fun K hK => ?_) AllReadyH.nil
  go_simp
  refine (q7 d b1 b2 _ (hT8.kept (hC.trans hH)).one).mono ?_
  rintro e w11 ⟨v11, rfl, hR11, hk11⟩
  go_wp2_with fail
  refine hK.out _ _ (hH.trans hk11) (fun _ => ?_)
  clear hK K
  have hC11 := (hC.trans hH).trans hk11
  refine wpAnyH_stronger (S' := fun W => Kept [] w11 W) (fun W h => (hH.trans hk11).trans h) _ _ _ _ ?_
  replace hH := Kept.refl [] w11
  replace hC := hC11
  try simp only [Act.put, List.setIfInBounds_toArray, List.set_cons_zero, List.set_cons_succ]
  refine wpAnyH_take (i := 35) (oi := { dst := some 72, op := Op.convert 32 9 (Operand.tmp 71), type := 9, pos := "law.go:24", after := #[{ on := 34, ground := Ground.data }, { on := 29, ground := Ground.guard }], guard := some (29, true) }) (v := (.string (txt im))) rfl (by kernel_rfl) (by kernel_rfl) (by kernel_rfl) (fun _ _ _ h => h) (Or.inl ⟨by rfl, fun W hSw => by have hc := conv_txt (hR11.kept (Nat.le_refl _) hSw (by simp)); go_simp⟩) hH ?_
  try simp only [Act.put, List.setIfInBounds_toArray, List.set_cons_zero, List.set_cons_succ]
  refine wpAnyH_take (i := 36) (oi := { dst := some 73, op := Op.binOp BinOp.eql 9 (Operand.tmp 69) (Operand.tmp 72) 9, type := 4, pos := "law.go:24", after := #[{ on := 32, ground := Ground.data }, { on := 35, ground := Ground.data }, { on := 29, ground := Ground.guard }], guard := some (29, true) }) (v := (.bool true)) rfl (by kernel_rfl) (by kernel_rfl) (by kernel_rfl) (fun _ _ _ h => h) (Or.inl ⟨by rfl, fun W hSw => by go_simp⟩) hH ?_
  try simp only [Act.put, List.setIfInBounds_toArray, List.set_cons_zero, List.set_cons_succ]
  refine wpAnyH_take (i := 37) (oi := { dst := some 74, op := Op.pick (Operand.tmp 66) (Operand.tmp 73) (Operand.const (Value.bool false)), type := 4, pos := "law.go:24", after := #[{ on := 29, ground := Ground.data }, { on := 36, ground := Ground.data }], guard := none }) (v := (.bool true)) rfl (by kernel_rfl) (by kernel_rfl) (by kernel_rfl) (fun _ _ _ h => h) (Or.inl ⟨by rfl, fun W hSw => by go_simp⟩) hH ?_
  try simp only [Act.put, List.setIfInBounds_toArray, List.set_cons_zero, List.set_cons_succ]
  refine wpAnyH_take (i := 38) (oi := { dst := some 0, op := Op.assign (Operand.tmp 74), type := 4, pos := "law.go:24", after := #[{ on := 37, ground := Ground.data }, { on := 34, ground := Ground.chain }, { on := 0, ground := Ground.phase }, { on := 1, ground := Ground.phase }, { on := 2, ground := Ground.phase }, { on := 3, ground := Ground.phase }, { on := 4, ground := Ground.phase }, { on := 5, ground := Ground.phase }, { on := 6, ground := Ground.phase }, { on := 7, ground := Ground.phase }, { on := 8, ground := Ground.phase }, { on := 9, ground := Ground.phase }, { on := 10, ground := Ground.phase }, { on := 11, ground := Ground.phase }, { on := 12, ground := Ground.phase }, { on := 13, ground := Ground.phase }, { on := 14, ground := Ground.phase }, { on := 15, ground := Ground.phase }, { on := 16, ground := Ground.phase }, { on := 17, ground := Ground.phase }, { on := 18, ground := Ground.phase }, { on := 19, ground := Ground.phase }, { on := 20, ground := Ground.phase }, { on := 21, ground := Ground.phase }, { on := 22, ground := Ground.phase }, { on := 23, ground := Ground.phase }, { on := 24, ground := Ground.phase }, { on := 25, ground := Ground.phase }, { on := 26, ground := Ground.phase }, { on := 27, ground := Ground.phase }, { on := 28, ground := Ground.phase }, { on := 29, ground := Ground.phase }, { on := 30, ground := Ground.phase }, { on := 31, ground := Ground.phase }, { on := 32, ground := Ground.phase }, { on := 33, ground := Ground.phase }, { on := 34, ground := Ground.phase }, { on := 35, ground := Ground.phase }, { on := 36, ground := Ground.phase }, { on := 37, ground := Ground.phase }], guard := none }) (v := (.bool true)) rfl (by kernel_rfl) (by kernel_rfl) (by kernel_rfl) (fun _ _ _ h => h) (Or.inl ⟨by rfl, fun W hSw => by go_simp⟩) hH ?_
  try simp only [Act.put, List.setIfInBounds_toArray, List.set_cons_zero]
  refine wpAnyH_done (by kernel_rfl) ?_ _
  go_wp2_with fail
  go_ret
  have h1 := hs1.out
  have h3 : Kept [] w w3 := hk02.youngs hk3 (by simp; omega)
  have h4 : Kept [] w w4 := h3.youngs hk4 (by simp; omega)
  have h7 : Kept [] w w7 := ((h4.trans hk5).trans hk56).youngs hk7 (by simp; omega)
  exact ⟨rfl, ((h7.trans hk78).trans hC).trans hH⟩
end Go.Proofs.YtcmfejgimnjbgaaGreat.Copying
