/-
  The walk of the document's Push.
-/
import Derived.Test.YthlnhmdeoapoeaaLtJ
import Derived.Test.YthlnhmdeoapoeaaLtG
namespace Go.Proofs.Ythlnhmdeoapoeaa.Later
open Go.RowKit

/-- What the document's Push leaves. -/
theorem rfin_push {w X w5 w6 w8 : World} {base q : Nat} {gr gr6 : Option Nat} {L : List Lw} {P : List Lv} {id o l : Int} {bs : List Nat} {sa4 sa6 : Option Addr} {n4 cap4 n6 cap6 : Nat} (h : RQ w base q gr L) (hl : P.map Lv.lw = L) (hat : ∀ x ∈ P, x.At w) (k1 : Kept [] w X) (k5 : Kept [] X w5) (hB5 : Byt w5 (.slice sa4 n4 cap4) bs)
    (hr6 : RowAt 42 base w6 (.slice sa6 n6 cap6) (P ++ [⟨id, o, l, sa4, n4, cap4, bs⟩]) gr6) (k6 : Kept gr.toList w5 w6) (hg6 : ∀ g, gr6 = some g → gr = some g ∨ w5.heap.size ≤ g) (hb8 : RRaw w8 q sa6 n6 cap6) (k8 : Kept [q] w6 w8) :
    RQ w8 base q gr6 (L ++ [⟨id, o, l, bs⟩]) ∧ Kept (q :: gr.toList) w w8 ∧ (∀ g, gr6 = some g → gr = some g ∨ w.heap.size ≤ g) := by
  have k05 := k1.trans k5
  have hQ5 := h.kept0 k05
  have f5 := hQ5.foot
  have hlt := hQ5.lt
  have f6 : Foot [31, 42] w5 gr.toList := fun k hk => f5 k (List.mem_cons_of_mem _ hk)
  have hq6 : Foot [31] w6 [q] := by
    obtain ⟨v, P', b1, _⟩ := hQ5.blk
    exact Foot.cons (foot_nil _ _) (b1.kept k6 (fun hm => (hlt.2 q (by simpa using hm)).2.2 rfl)) (by simp)
  have hgq : ∀ g, gr6 = some g → g ≠ q := fun g hg e => by
    rcases hg6 g hg with h1 | h1
    · exact (hlt.2 g h1).2.2 e
    · have := hlt.1
      omega
  refine ⟨⟨⟨_, _, hb8, hr6.kept k8 (fun g hg => by simpa using hgq g hg), by rw [List.map_append, hl]; rfl, fun x hx => ?_⟩, h.low⟩, ((k05.mono (by simp)).trans (k6.mono (fun k hk => List.mem_cons_of_mem _ hk))).trans (k8.mono (by simp)), fun g hg => (hg6 g hg).imp (fun h => h) (fun h => Nat.le_trans k05.size h)⟩
  rcases List.mem_append.1 hx with hx | hx
  · exact (((hat x hx).kept0 k05).kept k6 f6 (by decide)).kept k8 hq6 (by decide)
  · simp at hx
    subst hx
    exact (Byt.kept hB5 k6 f6 (by decide)).kept k8 hq6 (by decide)
set_option maxRecDepth 100000 in
set_option maxHeartbeats 4000000 in
/-- The document's Push -/
theorem rpush_any {base q : Nat} {gr : Option Nat} {L : List Lw} (id o l : Int) (w : World) (h : RQ w base q gr L) (hs : L.length ≤ 999999) (v : Value) (hi : Nat) (bs : List Nat) (hv : ByteRow hi w v bs) (hhi : hi ≤ w.heap.size) (hlen : bs.length ≤ 140737488351232) :
    Calls Try.prog 12 #[.pointer (some ⟨q, 0, none⟩), .int .i64 id, .agg #[.int .i64 o, .int .i64 l], v] w fun e w' => e = .returned (.tuple #[]) ∧ ∃ gr', RQ w' base q gr' (L ++ [⟨id, o, l, bs⟩]) ∧ Kept (q :: gr.toList) w w' ∧ (∀ g, gr' = some g → gr = some g ∨ w.heap.size ≤ g) := by
  obtain ⟨a, cap, P, hR, hr, hl, hat, hPl, hc1, hc2⟩ := h.three
  have hlt := h.lt
  have hno : Hid (q ∉ gr.toList) := fun hm => (hlt.2 q (by simpa using hm)).2.2 rfl
  have hbase : Hid (base ≤ w.heap.size) := (by show _ ≤ _; have := hlt.1; have := h.low; omega)
  have hPs : Hid (P.length + ([⟨0, 0, 0, none, 0, 0, []⟩] : List Lv).length ≤ 1000000) := (by show _ ≤ _; simp; omega)
  have ka := kept_alloc [] w (.cells #[.int .i64 o, .int .i64 l] 24)
  have hbA := blk_new w 24 #[.int .i64 o, .int .i64 l]
  obtain ⟨B, hB⟩ : ∃ B, w.heap.size = B := ⟨_, rfl⟩
  have hBg : Hid (B ∉ gr.toList) := fun hm => by have := (hlt.2 B (by simpa using hm)).2.1; omega
  have hBq : Hid (B ∉ [q]) := fun hm => by have := hlt.1; simp at hm; omega
  rw [hB] at hbA
  obtain ⟨W1, hW1⟩ : ∃ W1, w.alloc (.cells #[.int .i64 o, .int .i64 l] 24) = W1 := ⟨_, rfl⟩
  rw [hW1] at ka hbA
  have hk1 : Hid (Kept [] w W1) := ka
  have hb1 : Hid (Blk W1 B 24 #[.int .i64 o, .int .i64 l]) := hbA
  have hbD := hbA.kept (kept_drew [] W1) (by simp)
  have hR1 := hR.kept hk1.out (by simp)
  have hr1 := hr.kept0 hk1.out
  have hk7 : Hid (Kept [] W1 (W1.alloc (.cells #[] 5)).drew) := (kept_alloc [] W1 _).trans (kept_drew [] _)
  have hb7 : Hid (Blk (W1.alloc (.cells #[] 5)).drew B 24 #[.int .i64 o, .int .i64 l]) := hb1.out.kept hk7.out (by simp)
  have hv7 : Hid (ByteRow hi (W1.alloc (.cells #[] 5)).drew v bs) := hv.kept hhi (hk1.out.trans hk7.out) (by simp)
  have r7 : Hid ((W1.alloc (.cells #[] 5)).drew.ownsRow W1.heap.size 5 1 (.slice (some ⟨W1.heap.size, 0, none⟩) 0 0) 0 []) := owns_kept (World.ownsRow_made W1 #[] 0 (Nat.le_refl _) (by unfold maxLen; omega) rfl) (kept_drew [] _)
  have hz7 : Hid (W1.heap.size ≤ (W1.alloc (.cells #[] 5)).drew.heap.size) := hk7.out.size
  have hSB : Hid (∀ W, Blk W B 24 #[.int .i64 o, .int .i64 l] → W.cell? ⟨B, 0, none⟩ = some (.int .i64 o) ∧ W.cell? ⟨B, 1, none⟩ = some (.int .i64 l)) := fun W hb => ⟨(hb.cell 0).trans rfl, (hb.cell 1).trans rfl⟩
  have hf0 : Hid (∀ (sa4 : Option Addr) (n4 cap4 : Nat) (w6 w8 : World) (gr6 : Option Nat) (sa6 : Option Addr) (n6 cap6 : Nat) {X w5 : World}, Kept [] w X → Kept [] X w5 → Byt w5 (.slice sa4 n4 cap4) bs → RowAt 42 base w6 (.slice sa6 n6 cap6) (P ++ [⟨id, o, l, sa4, n4, cap4, bs⟩]) gr6 → Kept gr.toList w5 w6 → (∀ g, gr6 = some g → gr = some g ∨ w5.heap.size ≤ g) → RRaw w8 q sa6 n6 cap6 → Kept [q] w6 w8 → RQ w8 base q gr6 (L ++ [⟨id, o, l, bs⟩]) ∧ Kept (q :: gr.toList) w w8 ∧ (∀ g, gr6 = some g → gr = some g ∨ w.heap.size ≤ g)) :=
    fun _ _ _ _ _ _ _ _ _ {_ _} k1 k5 b5 r6 k6 g6 b8 k8 => rfin_push h hl hat k1 k5 b5 r6 k6 g6 b8 k8
  replace hlen : Hid (bs.length ≤ 140737488351232) := hlen
  have c1D := (hR1.kept (kept_drew [] W1) (by simp)).one
  have c17 := (hR1.kept hk7.out (by simp)).one
  obtain ⟨n, hn⟩ : ∃ n, L.length = n := ⟨_, rfl⟩
  rw [hn] at hR1 hr1 c1D c17
  have c1 := hR1.one
  replace hB : Hid (w.heap.size = B) := hB
  replace hW1 : Hid (w.alloc (.cells #[.int .i64 o, .int .i64 l] 24) = W1) := hW1
  clear hR hr hat hl h hlt hv hhi hs hPl hc1 hc2 hn hbA ka
  go_enter Try.func12, Try.ntmps12
  go_upto_region 1 with fail
  rw [hW1.out, hB.out]
  refine wp_region_held_drew (S := fun W => W.cell? ⟨B, 0, none⟩ = some (.int .i64 o) ∧ W.cell? ⟨B, 1, none⟩ = some (.int .i64 l)) (by kernel_rfl) (hSB.out _ hbD) (fun hP => ?_)
  have hH := hP
  clear hP
  refine wpAnyH_take (i := 0) (oi := { dst := some 8, op := Op.move (Operand.tmp 0), type := 28, pos := "ref.go:22", after := #[], guard := none }) (v := (.pointer (some ⟨q, 0, none⟩))) rfl (by kernel_rfl) (by kernel_rfl) (by kernel_rfl) (fun _ _ _ h => h) (Or.inl ⟨by rfl, fun W hSw => by go_simp⟩) hH ?_
  try simp only [Act.put, List.setIfInBounds_toArray, List.set_cons_zero, List.set_cons_succ]
  refine wpAnyH_take (i := 1) (oi := { dst := some 9, op := Op.move (Operand.tmp 0), type := 28, pos := "ref.go:22", after := #[], guard := none }) (v := (.pointer (some ⟨q, 0, none⟩))) rfl (by kernel_rfl) (by kernel_rfl) (by kernel_rfl) (fun _ _ _ h => h) (Or.inl ⟨by rfl, fun W hSw => by go_simp⟩) hH ?_
  try simp only [Act.put, List.setIfInBounds_toArray, List.set_cons_zero, List.set_cons_succ]
  refine wpAnyH_take (i := 2) (oi := { dst := some 10, op := Op.nilCheck (Operand.tmp 9), type := 0, pos := "ref.go:22", after := #[{ on := 1, ground := Ground.data }], guard := none }) (v := (.pointer (some ⟨q, 0, none⟩))) rfl (by kernel_rfl) (by kernel_rfl) (by kernel_rfl) (fun _ _ _ h => h) (Or.inl ⟨by rfl, fun W hSw => by go_simp⟩) hH ?_
  try simp only [Act.put, List.setIfInBounds_toArray, List.set_cons_zero, List.set_cons_succ]
  refine wpAnyH_take (i := 3) (oi := { dst := some 11, op := Op.fieldAddr 31 (Operand.tmp 10) 0, type := 0, pos := "ref.go:22", after := #[{ on := 2, ground := Ground.data }], guard := none }) (v := (.pointer (some ⟨q, 0, none⟩))) rfl (by kernel_rfl) (by kernel_rfl) (by kernel_rfl) (fun _ _ _ h => h) (Or.inl ⟨by rfl, fun W hSw => by go_simp⟩) hH ?_
  try simp only [Act.put, List.setIfInBounds_toArray, List.set_cons_zero, List.set_cons_succ]
  refine wpAnyH_take (i := 5) (oi := { dst := some 13, op := Op.move (Operand.tmp 1), type := 3, pos := "ref.go:22", after := #[], guard := none }) (v := (.int .i64 id)) rfl (by kernel_rfl) (by kernel_rfl) (by kernel_rfl) (fun _ _ _ h => h) (Or.inl ⟨by rfl, fun W hSw => by go_simp⟩) hH ?_
  try simp only [Act.put, List.setIfInBounds_toArray, List.set_cons_zero, List.set_cons_succ]
  refine wpAnyH_take (i := 6) (oi := { dst := some 14, op := Op.load 24 (Operand.tmp 6), type := 24, pos := "ref.go:22", after := #[], guard := none }) (v := (.agg #[.int .i64 o, .int .i64 l])) rfl (by kernel_rfl) (by kernel_rfl) (by kernel_rfl) (fun _ _ _ h => h) (Or.inl ⟨by rfl, fun W hSw => by obtain ⟨t0, t1⟩ := hSw; go_simp⟩) hH ?_
  try simp only [Act.put, List.setIfInBounds_toArray, List.set_cons_zero, List.set_cons_succ]
  refine wpAnyH_take (i := 8) (oi := { dst := some 16, op := Op.move (Operand.tmp 3), type := 32, pos := "ref.go:22", after := #[], guard := none }) (v := v) rfl (by kernel_rfl) (by kernel_rfl) (by kernel_rfl) (fun _ _ _ h => h) (Or.inl ⟨by rfl, fun W hSw => by go_simp⟩) hH ?_
  try simp only [Act.put, List.setIfInBounds_toArray, List.set_cons_zero, List.set_cons_succ]
  refine wpAnyH_ready (rs := [4, 7]) (by kernel_rfl) (by simp) ?_
  refine AllReadyH.cons (o := { dst := some 12, op := Op.load 29 (Operand.tmp 11), type := 29, pos := "ref.go:22", after := #[{ on := 3, ground := Ground.data }], guard := none }) rfl (fun KK hKK => ?_) (AllReadyH.cons (o := { dst := some 15, op := Op.buildSlice 32 0 #[], type := 32, pos := "ref.go:22", after := #[], guard := none }) rfl (fun KK hKK => ?_) AllReadyH.nil)
  · go_simp
    refine hKK.out _ _ hH (fun _ => ?_)
    clear hKK KK
    try simp only [Act.put, List.setIfInBounds_toArray, List.set_cons_zero, List.set_cons_succ]
    refine wpAnyH_ready (rs := [7]) (by kernel_rfl) (by simp) ?_
    refine AllReadyH.cons (o := { dst := some 15, op := Op.buildSlice 32 0 #[], type := 32, pos := "ref.go:22", after := #[], guard := none }) rfl (fun KK hKK => ?_) AllReadyH.nil
    go_simp
    have hH4 := hSB.out _ hb7.out
    refine hKK.out _ _ hH4 (fun _ => ?_)
    replace hH := hH4
    clear hKK KK hH4
    try simp only [Act.put, List.setIfInBounds_toArray, List.set_cons_zero, List.set_cons_succ]
    refine wpAnyH_ready (rs := [9]) (by kernel_rfl) (by simp) ?_
    refine AllReadyH.cons (o := { dst := some 17, op := Op.call { callee := Callee.builtin Builtin.append, args := #[Operand.tmp 15, Operand.tmp 16], argTypes := #[32, 32] }, type := 32, pos := "ref.go:22", after := #[{ on := 7, ground := Ground.data }, { on := 8, ground := Ground.data }], guard := none }) rfl (fun KK hKK => ?_) AllReadyH.nil
    refine step_append_bytes rfl (.tmp 15) (.tmp 16) rfl W1.heap.size (.slice (some ⟨W1.heap.size, 0, none⟩) 0 0) v hi bs (by simp [Act.eval]) r7.out (by simp [Act.eval]) hv7.out hlen.out hz7.out ?_
    intro sa4 n4 cap4 w4 hB4 hg4
    have hk4 : Kept [] W1 w4 := kept_grown r7.out hg4 W1 hk7.out (Nat.le_refl _)
    have hb4 := hb1.out.kept hk4 (by simp)
    have hH4 := hSB.out w4 hb4
    refine hKK.out _ _ hH4 (fun _ => ?_)
    replace hH := hH4
    have hR4 := hR1.kept hk4 (by simp)
    have d1 := hR4.one
    clear hKK KK hH4
    try simp only [Act.put, List.setIfInBounds_toArray, List.set_cons_zero, List.set_cons_succ]
    refine wpAnyH_take (i := 10) (oi := { dst := some 18, op := Op.build 42 #[(0, Operand.tmp 13), (1, Operand.tmp 14), (2, Operand.tmp 17)], type := 42, pos := "ref.go:22", after := #[{ on := 5, ground := Ground.data }, { on := 6, ground := Ground.data }, { on := 9, ground := Ground.data }], guard := none }) (v := (.agg #[.int .i64 id, .int .i64 o, .int .i64 l, .slice sa4 n4 cap4])) rfl (by kernel_rfl) (by kernel_rfl) (by kernel_rfl) (fun _ _ _ h => h) (Or.inl ⟨by rfl, fun W hSw => by go_simp⟩) hH ?_
    try simp only [Act.put, List.setIfInBounds_toArray, List.set_cons_zero, List.set_cons_succ]
    refine wpAnyH_ready (rs := [11]) (by kernel_rfl) (by simp) ?_
    refine AllReadyH.cons (o := { dst := some 19, op := Op.buildSlice 29 1 #[(0, Operand.tmp 18)], type := 29, pos := "ref.go:22", after := #[{ on := 10, ground := Ground.data }], guard := none }) rfl (fun KK hKK => ?_) AllReadyH.nil
    go_simp
    have hk5 := kept_alloc [] w4 (.cells #[.int .i64 id, .int .i64 o, .int .i64 l, .slice sa4 n4 cap4] 42)
    have hb5 := hb4.kept hk5 (by simp)
    have hH5 := hSB.out _ hb5
    refine hKK.out _ _ hH5 (fun _ => ?_)
    replace hH := hH5
    have hR5 := hR4.kept hk5 (by simp)
    have hr5 := hr1.kept0 (hk4.trans hk5)
    have hB5 := Byt.kept hB4 hk5 (foot_nil [] _) (by simp)
    have hn5 := blk_new w4 42 #[.int .i64 id, .int .i64 o, .int .i64 l, .slice sa4 n4 cap4]
    have e1 := hR5.one
    clear hKK KK hH5
    try simp only [Act.put, List.setIfInBounds_toArray, List.set_cons_zero, List.set_cons_succ]
    refine wpAnyH_ready (rs := [12]) (by kernel_rfl) (by simp) ?_
    refine AllReadyH.cons (o := { dst := some 20, op := Op.call { callee := Callee.builtin Builtin.append, args := #[Operand.tmp 12, Operand.tmp 19], argTypes := #[29, 29] }, type := 29, pos := "ref.go:22", after := #[{ on := 4, ground := Ground.data }, { on := 11, ground := Ground.data }, { on := 9, ground := Ground.chain }], guard := none }) rfl (fun KK hKK => ?_) AllReadyH.nil
    refine step_append_row kindR rfl (.tmp 12) (.tmp 19) rfl base (.slice a n cap) P [⟨id, o, l, sa4, n4, cap4, bs⟩] gr ⟨w4.heap.size, 0, none⟩ 1 1 (by simp [Act.eval]) (by simp [Act.eval]) rfl hr5 (one_lies hn5) hPs.out (Nat.le_trans hbase.out (hk1.out.trans (hk4.trans hk5)).size) ?_
    intro sa6 n6 cap6 w6 gr6 hr6 hk6 hg6
    have hR6 := hR5.kept hk6 hno.out
    have hb6 := hb5.kept hk6 hBg.out
    have f1 := Blk.frozen hR6 0
    have e1 := hR6.one
    have hH6 := hSB.out _ hb6
    refine hKK.out _ _ hH6 (fun _ => ?_)
    replace hH := hH6
    clear hKK KK hH6
    try simp only [Act.put, List.setIfInBounds_toArray, List.set_cons_zero, List.set_cons_succ]
    refine wpAnyH_take (i := 13) (oi := { dst := some 21, op := Op.nilCheck (Operand.tmp 8), type := 0, pos := "ref.go:22", after := #[{ on := 0, ground := Ground.data }, { on := 0, ground := Ground.phase }, { on := 1, ground := Ground.phase }, { on := 2, ground := Ground.phase }, { on := 3, ground := Ground.phase }, { on := 4, ground := Ground.phase }, { on := 5, ground := Ground.phase }, { on := 6, ground := Ground.phase }, { on := 7, ground := Ground.phase }, { on := 8, ground := Ground.phase }, { on := 9, ground := Ground.phase }, { on := 10, ground := Ground.phase }, { on := 11, ground := Ground.phase }, { on := 12, ground := Ground.phase }], guard := none }) (v := (.pointer (some ⟨q, 0, none⟩))) rfl (by kernel_rfl) (by kernel_rfl) (by kernel_rfl) (fun _ _ _ h => h) (Or.inl ⟨by rfl, fun W hSw => by go_simp⟩) hH ?_
    try simp only [Act.put, List.setIfInBounds_toArray, List.set_cons_zero, List.set_cons_succ]
    refine wpAnyH_take (i := 14) (oi := { dst := some 22, op := Op.fieldAddr 31 (Operand.tmp 21) 0, type := 0, pos := "ref.go:22", after := #[{ on := 13, ground := Ground.data }, { on := 0, ground := Ground.phase }, { on := 1, ground := Ground.phase }, { on := 2, ground := Ground.phase }, { on := 3, ground := Ground.phase }, { on := 4, ground := Ground.phase }, { on := 5, ground := Ground.phase }, { on := 6, ground := Ground.phase }, { on := 7, ground := Ground.phase }, { on := 8, ground := Ground.phase }, { on := 9, ground := Ground.phase }, { on := 10, ground := Ground.phase }, { on := 11, ground := Ground.phase }, { on := 12, ground := Ground.phase }], guard := none }) (v := (.pointer (some ⟨q, 0, none⟩))) rfl (by kernel_rfl) (by kernel_rfl) (by kernel_rfl) (fun _ _ _ h => h) (Or.inl ⟨by rfl, fun W hSw => by go_simp⟩) hH ?_
    try simp only [Act.put, List.setIfInBounds_toArray, List.set_cons_zero, List.set_cons_succ]
    refine wpAnyH_ready (rs := [15]) (by kernel_rfl) (by simp) ?_
    refine AllReadyH.cons (o := { dst := none, op := Op.store 29 (Operand.tmp 22) (Operand.tmp 20), type := 0, pos := "ref.go:22", after := #[{ on := 14, ground := Ground.data }, { on := 12, ground := Ground.data }, { on := 12, ground := Ground.chain }, { on := 0, ground := Ground.phase }, { on := 1, ground := Ground.phase }, { on := 2, ground := Ground.phase }, { on := 3, ground := Ground.phase }, { on := 4, ground := Ground.phase }, { on := 5, ground := Ground.phase }, { on := 6, ground := Ground.phase }, { on := 7, ground := Ground.phase }, { on := 8, ground := Ground.phase }, { on := 9, ground := Ground.phase }, { on := 10, ground := Ground.phase }, { on := 11, ground := Ground.phase }, { on := 12, ground := Ground.phase }], guard := none }) rfl (fun KK hKK => ?_) AllReadyH.nil
    go_simp
    have hH8 := hSB.out _ (hb6.kept (kept_set (L := [q]) (g := q) (by simp) w6 0 (.slice sa6 n6 cap6)) hBq.out)
    refine hKK.out _ _ hH8 (fun _ => ?_)
    clear hKK KK hH8
    try simp only [Act.put, List.setIfInBounds_toArray, List.set_cons_zero, List.set_cons_succ]
    refine wpAnyH_done (by kernel_rfl) ?_ _
    have hb8 : RRaw (w6.setCell ⟨q, 0, none⟩ (.slice sa6 n6 cap6)) q sa6 n6 cap6 := Blk.set hR6 0 _
    have hk8 : Kept [q] w6 (w6.setCell ⟨q, 0, none⟩ (.slice sa6 n6 cap6)) := kept_set (by simp) _ _ _
    obtain ⟨w8, hw8⟩ : ∃ w8, w6.setCell ⟨q, 0, none⟩ (.slice sa6 n6 cap6) = w8 := ⟨_, rfl⟩
    rw [hw8] at hb8 hk8 ⊢
    have hfin := hf0.out _ _ _ w6 w8 gr6 _ _ _ hk1.out (hk4.trans hk5) hB5 hr6 hk6 hg6 hb8 hk8
    clear hw8 f1 e1 hr6 hR6 hr5 hR5 hB5 hk6 hk8 hg6 hR4
    go_wp2_with fail
    go_end0
    exact ⟨rfl, gr6, hfin⟩
  · go_simp
    have hH4 := hSB.out _ hb7.out
    refine hKK.out _ _ hH4 (fun _ => ?_)
    replace hH := hH4
    clear hKK KK hH4
    try simp only [Act.put, List.setIfInBounds_toArray, List.set_cons_zero, List.set_cons_succ]
    refine wpAnyH_ready (rs := [4, 9]) (by kernel_rfl) (by simp) ?_
    refine AllReadyH.cons (o := { dst := some 12, op := Op.load 29 (Operand.tmp 11), type := 29, pos := "ref.go:22", after := #[{ on := 3, ground := Ground.data }], guard := none }) rfl (fun KK hKK => ?_) (AllReadyH.cons (o := { dst := some 17, op := Op.call { callee := Callee.builtin Builtin.append, args := #[Operand.tmp 15, Operand.tmp 16], argTypes := #[32, 32] }, type := 32, pos := "ref.go:22", after := #[{ on := 7, ground := Ground.data }, { on := 8, ground := Ground.data }], guard := none }) rfl (fun KK hKK => ?_) AllReadyH.nil)
    · go_simp
      refine hKK.out _ _ hH (fun _ => ?_)
      clear hKK KK
      try simp only [Act.put, List.setIfInBounds_toArray, List.set_cons_zero, List.set_cons_succ]
      refine wpAnyH_ready (rs := [9]) (by kernel_rfl) (by simp) ?_
      refine AllReadyH.cons (o := { dst := some 17, op := Op.call { callee := Callee.builtin Builtin.append, args := #[Operand.tmp 15, Operand.tmp 16], argTypes := #[32, 32] }, type := 32, pos := "ref.go:22", after := #[{ on := 7, ground := Ground.data }, { on := 8, ground := Ground.data }], guard := none }) rfl (fun KK hKK => ?_) AllReadyH.nil
      refine step_append_bytes rfl (.tmp 15) (.tmp 16) rfl W1.heap.size (.slice (some ⟨W1.heap.size, 0, none⟩) 0 0) v hi bs (by simp [Act.eval]) r7.out (by simp [Act.eval]) hv7.out hlen.out hz7.out ?_
      intro sa4 n4 cap4 w4 hB4 hg4
      have hk4 : Kept [] W1 w4 := kept_grown r7.out hg4 W1 hk7.out (Nat.le_refl _)
      have hb4 := hb1.out.kept hk4 (by simp)
      have hH4 := hSB.out w4 hb4
      refine hKK.out _ _ hH4 (fun _ => ?_)
      replace hH := hH4
      have hR4 := hR1.kept hk4 (by simp)
      have d1 := hR4.one
      clear hKK KK hH4
      try simp only [Act.put, List.setIfInBounds_toArray, List.set_cons_zero, List.set_cons_succ]
      refine wpAnyH_take (i := 10) (oi := { dst := some 18, op := Op.build 42 #[(0, Operand.tmp 13), (1, Operand.tmp 14), (2, Operand.tmp 17)], type := 42, pos := "ref.go:22", after := #[{ on := 5, ground := Ground.data }, { on := 6, ground := Ground.data }, { on := 9, ground := Ground.data }], guard := none }) (v := (.agg #[.int .i64 id, .int .i64 o, .int .i64 l, .slice sa4 n4 cap4])) rfl (by kernel_rfl) (by kernel_rfl) (by kernel_rfl) (fun _ _ _ h => h) (Or.inl ⟨by rfl, fun W hSw => by go_simp⟩) hH ?_
      try simp only [Act.put, List.setIfInBounds_toArray, List.set_cons_zero, List.set_cons_succ]
      refine wpAnyH_ready (rs := [11]) (by kernel_rfl) (by simp) ?_
      refine AllReadyH.cons (o := { dst := some 19, op := Op.buildSlice 29 1 #[(0, Operand.tmp 18)], type := 29, pos := "ref.go:22", after := #[{ on := 10, ground := Ground.data }], guard := none }) rfl (fun KK hKK => ?_) AllReadyH.nil
      go_simp
      have hk5 := kept_alloc [] w4 (.cells #[.int .i64 id, .int .i64 o, .int .i64 l, .slice sa4 n4 cap4] 42)
      have hb5 := hb4.kept hk5 (by simp)
      have hH5 := hSB.out _ hb5
      refine hKK.out _ _ hH5 (fun _ => ?_)
      replace hH := hH5
      have hR5 := hR4.kept hk5 (by simp)
      have hr5 := hr1.kept0 (hk4.trans hk5)
      have hB5 := Byt.kept hB4 hk5 (foot_nil [] _) (by simp)
      have hn5 := blk_new w4 42 #[.int .i64 id, .int .i64 o, .int .i64 l, .slice sa4 n4 cap4]
      have e1 := hR5.one
      clear hKK KK hH5
      try simp only [Act.put, List.setIfInBounds_toArray, List.set_cons_zero, List.set_cons_succ]
      refine wpAnyH_ready (rs := [12]) (by kernel_rfl) (by simp) ?_
      refine AllReadyH.cons (o := { dst := some 20, op := Op.call { callee := Callee.builtin Builtin.append, args := #[Operand.tmp 12, Operand.tmp 19], argTypes := #[29, 29] }, type := 29, pos := "ref.go:22", after := #[{ on := 4, ground := Ground.data }, { on := 11, ground := Ground.data }, { on := 9, ground := Ground.chain }], guard := none }) rfl (fun KK hKK => ?_) AllReadyH.nil
      refine step_append_row kindR rfl (.tmp 12) (.tmp 19) rfl base (.slice a n cap) P [⟨id, o, l, sa4, n4, cap4, bs⟩] gr ⟨w4.heap.size, 0, none⟩ 1 1 (by simp [Act.eval]) (by simp [Act.eval]) rfl hr5 (one_lies hn5) hPs.out (Nat.le_trans hbase.out (hk1.out.trans (hk4.trans hk5)).size) ?_
      intro sa6 n6 cap6 w6 gr6 hr6 hk6 hg6
      have hR6 := hR5.kept hk6 hno.out
      have hb6 := hb5.kept hk6 hBg.out
      have f1 := Blk.frozen hR6 0
      have e1 := hR6.one
      have hH6 := hSB.out _ hb6
      refine hKK.out _ _ hH6 (fun _ => ?_)
      replace hH := hH6
      clear hKK KK hH6
      try simp only [Act.put, List.setIfInBounds_toArray, List.set_cons_zero, List.set_cons_succ]
      refine wpAnyH_take (i := 13) (oi := { dst := some 21, op := Op.nilCheck (Operand.tmp 8), type := 0, pos := "ref.go:22", after := #[{ on := 0, ground := Ground.data }, { on := 0, ground := Ground.phase }, { on := 1, ground := Ground.phase }, { on := 2, ground := Ground.phase }, { on := 3, ground := Ground.phase }, { on := 4, ground := Ground.phase }, { on := 5, ground := Ground.phase }, { on := 6, ground := Ground.phase }, { on := 7, ground := Ground.phase }, { on := 8, ground := Ground.phase }, { on := 9, ground := Ground.phase }, { on := 10, ground := Ground.phase }, { on := 11, ground := Ground.phase }, { on := 12, ground := Ground.phase }], guard := none }) (v := (.pointer (some ⟨q, 0, none⟩))) rfl (by kernel_rfl) (by kernel_rfl) (by kernel_rfl) (fun _ _ _ h => h) (Or.inl ⟨by rfl, fun W hSw => by go_simp⟩) hH ?_
      try simp only [Act.put, List.setIfInBounds_toArray, List.set_cons_zero, List.set_cons_succ]
      refine wpAnyH_take (i := 14) (oi := { dst := some 22, op := Op.fieldAddr 31 (Operand.tmp 21) 0, type := 0, pos := "ref.go:22", after := #[{ on := 13, ground := Ground.data }, { on := 0, ground := Ground.phase }, { on := 1, ground := Ground.phase }, { on := 2, ground := Ground.phase }, { on := 3, ground := Ground.phase }, { on := 4, ground := Ground.phase }, { on := 5, ground := Ground.phase }, { on := 6, ground := Ground.phase }, { on := 7, ground := Ground.phase }, { on := 8, ground := Ground.phase }, { on := 9, ground := Ground.phase }, { on := 10, ground := Ground.phase }, { on := 11, ground := Ground.phase }, { on := 12, ground := Ground.phase }], guard := none }) (v := (.pointer (some ⟨q, 0, none⟩))) rfl (by kernel_rfl) (by kernel_rfl) (by kernel_rfl) (fun _ _ _ h => h) (Or.inl ⟨by rfl, fun W hSw => by go_simp⟩) hH ?_
      try simp only [Act.put, List.setIfInBounds_toArray, List.set_cons_zero, List.set_cons_succ]
      refine wpAnyH_ready (rs := [15]) (by kernel_rfl) (by simp) ?_
      refine AllReadyH.cons (o := { dst := none, op := Op.store 29 (Operand.tmp 22) (Operand.tmp 20), type := 0, pos := "ref.go:22", after := #[{ on := 14, ground := Ground.data }, { on := 12, ground := Ground.data }, { on := 12, ground := Ground.chain }, { on := 0, ground := Ground.phase }, { on := 1, ground := Ground.phase }, { on := 2, ground := Ground.phase }, { on := 3, ground := Ground.phase }, { on := 4, ground := Ground.phase }, { on := 5, ground := Ground.phase }, { on := 6, ground := Ground.phase }, { on := 7, ground := Ground.phase }, { on := 8, ground := Ground.phase }, { on := 9, ground := Ground.phase }, { on := 10, ground := Ground.phase }, { on := 11, ground := Ground.phase }, { on := 12, ground := Ground.phase }], guard := none }) rfl (fun KK hKK => ?_) AllReadyH.nil
      go_simp
      have hH8 := hSB.out _ (hb6.kept (kept_set (L := [q]) (g := q) (by simp) w6 0 (.slice sa6 n6 cap6)) hBq.out)
      refine hKK.out _ _ hH8 (fun _ => ?_)
      clear hKK KK hH8
      try simp only [Act.put, List.setIfInBounds_toArray, List.set_cons_zero, List.set_cons_succ]
      refine wpAnyH_done (by kernel_rfl) ?_ _
      have hb8 : RRaw (w6.setCell ⟨q, 0, none⟩ (.slice sa6 n6 cap6)) q sa6 n6 cap6 := Blk.set hR6 0 _
      have hk8 : Kept [q] w6 (w6.setCell ⟨q, 0, none⟩ (.slice sa6 n6 cap6)) := kept_set (by simp) _ _ _
      obtain ⟨w8, hw8⟩ : ∃ w8, w6.setCell ⟨q, 0, none⟩ (.slice sa6 n6 cap6) = w8 := ⟨_, rfl⟩
      rw [hw8] at hb8 hk8 ⊢
      have hfin := hf0.out _ _ _ w6 w8 gr6 _ _ _ hk1.out (hk4.trans hk5) hB5 hr6 hk6 hg6 hb8 hk8
      clear hw8 f1 e1 hr6 hR6 hr5 hR5 hB5 hk6 hk8 hg6 hR4
      go_wp2_with fail
      go_end0
      exact ⟨rfl, gr6, hfin⟩
    · refine step_append_bytes rfl (.tmp 15) (.tmp 16) rfl W1.heap.size (.slice (some ⟨W1.heap.size, 0, none⟩) 0 0) v hi bs (by simp [Act.eval]) r7.out (by simp [Act.eval]) hv7.out hlen.out hz7.out ?_
      intro sa4 n4 cap4 w4 hB4 hg4
      have hk4 : Kept [] W1 w4 := kept_grown r7.out hg4 W1 hk7.out (Nat.le_refl _)
      have hb4 := hb1.out.kept hk4 (by simp)
      have hH4 := hSB.out w4 hb4
      refine hKK.out _ _ hH4 (fun _ => ?_)
      replace hH := hH4
      have hR4 := hR1.kept hk4 (by simp)
      have d1 := hR4.one
      clear hKK KK hH4
      try simp only [Act.put, List.setIfInBounds_toArray, List.set_cons_zero, List.set_cons_succ]
      refine wpAnyH_take (i := 10) (oi := { dst := some 18, op := Op.build 42 #[(0, Operand.tmp 13), (1, Operand.tmp 14), (2, Operand.tmp 17)], type := 42, pos := "ref.go:22", after := #[{ on := 5, ground := Ground.data }, { on := 6, ground := Ground.data }, { on := 9, ground := Ground.data }], guard := none }) (v := (.agg #[.int .i64 id, .int .i64 o, .int .i64 l, .slice sa4 n4 cap4])) rfl (by kernel_rfl) (by kernel_rfl) (by kernel_rfl) (fun _ _ _ h => h) (Or.inl ⟨by rfl, fun W hSw => by go_simp⟩) hH ?_
      try simp only [Act.put, List.setIfInBounds_toArray, List.set_cons_zero, List.set_cons_succ]
      refine wpAnyH_ready (rs := [4, 11]) (by kernel_rfl) (by simp) ?_
      refine AllReadyH.cons (o := { dst := some 12, op := Op.load 29 (Operand.tmp 11), type := 29, pos := "ref.go:22", after := #[{ on := 3, ground := Ground.data }], guard := none }) rfl (fun KK hKK => ?_) (AllReadyH.cons (o := { dst := some 19, op := Op.buildSlice 29 1 #[(0, Operand.tmp 18)], type := 29, pos := "ref.go:22", after := #[{ on := 10, ground := Ground.data }], guard := none }) rfl (fun KK hKK => ?_) AllReadyH.nil)
      · go_simp
        refine hKK.out _ _ hH (fun _ => ?_)
        clear hKK KK
        try simp only [Act.put, List.setIfInBounds_toArray, List.set_cons_zero, List.set_cons_succ]
        refine wpAnyH_ready (rs := [11]) (by kernel_rfl) (by simp) ?_
        refine AllReadyH.cons (o := { dst := some 19, op := Op.buildSlice 29 1 #[(0, Operand.tmp 18)], type := 29, pos := "ref.go:22", after := #[{ on := 10, ground := Ground.data }], guard := none }) rfl (fun KK hKK => ?_) AllReadyH.nil
        go_simp
        have hk5 := kept_alloc [] w4 (.cells #[.int .i64 id, .int .i64 o, .int .i64 l, .slice sa4 n4 cap4] 42)
        have hb5 := hb4.kept hk5 (by simp)
        have hH5 := hSB.out _ hb5
        refine hKK.out _ _ hH5 (fun _ => ?_)
        replace hH := hH5
        have hR5 := hR4.kept hk5 (by simp)
        have hr5 := hr1.kept0 (hk4.trans hk5)
        have hB5 := Byt.kept hB4 hk5 (foot_nil [] _) (by simp)
        have hn5 := blk_new w4 42 #[.int .i64 id, .int .i64 o, .int .i64 l, .slice sa4 n4 cap4]
        have e1 := hR5.one
        clear hKK KK hH5
        try simp only [Act.put, List.setIfInBounds_toArray, List.set_cons_zero, List.set_cons_succ]
        refine wpAnyH_ready (rs := [12]) (by kernel_rfl) (by simp) ?_
        refine AllReadyH.cons (o := { dst := some 20, op := Op.call { callee := Callee.builtin Builtin.append, args := #[Operand.tmp 12, Operand.tmp 19], argTypes := #[29, 29] }, type := 29, pos := "ref.go:22", after := #[{ on := 4, ground := Ground.data }, { on := 11, ground := Ground.data }, { on := 9, ground := Ground.chain }], guard := none }) rfl (fun KK hKK => ?_) AllReadyH.nil
        refine step_append_row kindR rfl (.tmp 12) (.tmp 19) rfl base (.slice a n cap) P [⟨id, o, l, sa4, n4, cap4, bs⟩] gr ⟨w4.heap.size, 0, none⟩ 1 1 (by simp [Act.eval]) (by simp [Act.eval]) rfl hr5 (one_lies hn5) hPs.out (Nat.le_trans hbase.out (hk1.out.trans (hk4.trans hk5)).size) ?_
        intro sa6 n6 cap6 w6 gr6 hr6 hk6 hg6
        have hR6 := hR5.kept hk6 hno.out
        have hb6 := hb5.kept hk6 hBg.out
        have f1 := Blk.frozen hR6 0
        have e1 := hR6.one
        have hH6 := hSB.out _ hb6
        refine hKK.out _ _ hH6 (fun _ => ?_)
        replace hH := hH6
        clear hKK KK hH6
        try simp only [Act.put, List.setIfInBounds_toArray, List.set_cons_zero, List.set_cons_succ]
        refine wpAnyH_take (i := 13) (oi := { dst := some 21, op := Op.nilCheck (Operand.tmp 8), type := 0, pos := "ref.go:22", after := #[{ on := 0, ground := Ground.data }, { on := 0, ground := Ground.phase }, { on := 1, ground := Ground.phase }, { on := 2, ground := Ground.phase }, { on := 3, ground := Ground.phase }, { on := 4, ground := Ground.phase }, { on := 5, ground := Ground.phase }, { on := 6, ground := Ground.phase }, { on := 7, ground := Ground.phase }, { on := 8, ground := Ground.phase }, { on := 9, ground := Ground.phase }, { on := 10, ground := Ground.phase }, { on := 11, ground := Ground.phase }, { on := 12, ground := Ground.phase }], guard := none }) (v := (.pointer (some ⟨q, 0, none⟩))) rfl (by kernel_rfl) (by kernel_rfl) (by kernel_rfl) (fun _ _ _ h => h) (Or.inl ⟨by rfl, fun W hSw => by go_simp⟩) hH ?_
        try simp only [Act.put, List.setIfInBounds_toArray, List.set_cons_zero, List.set_cons_succ]
        refine wpAnyH_take (i := 14) (oi := { dst := some 22, op := Op.fieldAddr 31 (Operand.tmp 21) 0, type := 0, pos := "ref.go:22", after := #[{ on := 13, ground := Ground.data }, { on := 0, ground := Ground.phase }, { on := 1, ground := Ground.phase }, { on := 2, ground := Ground.phase }, { on := 3, ground := Ground.phase }, { on := 4, ground := Ground.phase }, { on := 5, ground := Ground.phase }, { on := 6, ground := Ground.phase }, { on := 7, ground := Ground.phase }, { on := 8, ground := Ground.phase }, { on := 9, ground := Ground.phase }, { on := 10, ground := Ground.phase }, { on := 11, ground := Ground.phase }, { on := 12, ground := Ground.phase }], guard := none }) (v := (.pointer (some ⟨q, 0, none⟩))) rfl (by kernel_rfl) (by kernel_rfl) (by kernel_rfl) (fun _ _ _ h => h) (Or.inl ⟨by rfl, fun W hSw => by go_simp⟩) hH ?_
        try simp only [Act.put, List.setIfInBounds_toArray, List.set_cons_zero, List.set_cons_succ]
        refine wpAnyH_ready (rs := [15]) (by kernel_rfl) (by simp) ?_
        refine AllReadyH.cons (o := { dst := none, op := Op.store 29 (Operand.tmp 22) (Operand.tmp 20), type := 0, pos := "ref.go:22", after := #[{ on := 14, ground := Ground.data }, { on := 12, ground := Ground.data }, { on := 12, ground := Ground.chain }, { on := 0, ground := Ground.phase }, { on := 1, ground := Ground.phase }, { on := 2, ground := Ground.phase }, { on := 3, ground := Ground.phase }, { on := 4, ground := Ground.phase }, { on := 5, ground := Ground.phase }, { on := 6, ground := Ground.phase }, { on := 7, ground := Ground.phase }, { on := 8, ground := Ground.phase }, { on := 9, ground := Ground.phase }, { on := 10, ground := Ground.phase }, { on := 11, ground := Ground.phase }, { on := 12, ground := Ground.phase }], guard := none }) rfl (fun KK hKK => ?_) AllReadyH.nil
        go_simp
        have hH8 := hSB.out _ (hb6.kept (kept_set (L := [q]) (g := q) (by simp) w6 0 (.slice sa6 n6 cap6)) hBq.out)
        refine hKK.out _ _ hH8 (fun _ => ?_)
        clear hKK KK hH8
        try simp only [Act.put, List.setIfInBounds_toArray, List.set_cons_zero, List.set_cons_succ]
        refine wpAnyH_done (by kernel_rfl) ?_ _
        have hb8 : RRaw (w6.setCell ⟨q, 0, none⟩ (.slice sa6 n6 cap6)) q sa6 n6 cap6 := Blk.set hR6 0 _
        have hk8 : Kept [q] w6 (w6.setCell ⟨q, 0, none⟩ (.slice sa6 n6 cap6)) := kept_set (by simp) _ _ _
        obtain ⟨w8, hw8⟩ : ∃ w8, w6.setCell ⟨q, 0, none⟩ (.slice sa6 n6 cap6) = w8 := ⟨_, rfl⟩
        rw [hw8] at hb8 hk8 ⊢
        have hfin := hf0.out _ _ _ w6 w8 gr6 _ _ _ hk1.out (hk4.trans hk5) hB5 hr6 hk6 hg6 hb8 hk8
        clear hw8 f1 e1 hr6 hR6 hr5 hR5 hB5 hk6 hk8 hg6 hR4
        go_wp2_with fail
        go_end0
        exact ⟨rfl, gr6, hfin⟩
      · go_simp
        have hk5 := kept_alloc [] w4 (.cells #[.int .i64 id, .int .i64 o, .int .i64 l, .slice sa4 n4 cap4] 42)
        have hb5 := hb4.kept hk5 (by simp)
        have hH5 := hSB.out _ hb5
        refine hKK.out _ _ hH5 (fun _ => ?_)
        replace hH := hH5
        have hR5 := hR4.kept hk5 (by simp)
        have hr5 := hr1.kept0 (hk4.trans hk5)
        have hB5 := Byt.kept hB4 hk5 (foot_nil [] _) (by simp)
        have hn5 := blk_new w4 42 #[.int .i64 id, .int .i64 o, .int .i64 l, .slice sa4 n4 cap4]
        have e1 := hR5.one
        clear hKK KK hH5
        try simp only [Act.put, List.setIfInBounds_toArray, List.set_cons_zero, List.set_cons_succ]
        refine wpAnyH_ready (rs := [4]) (by kernel_rfl) (by simp) ?_
        refine AllReadyH.cons (o := { dst := some 12, op := Op.load 29 (Operand.tmp 11), type := 29, pos := "ref.go:22", after := #[{ on := 3, ground := Ground.data }], guard := none }) rfl (fun KK hKK => ?_) AllReadyH.nil
        go_simp
        refine hKK.out _ _ hH (fun _ => ?_)
        clear hKK KK
        try simp only [Act.put, List.setIfInBounds_toArray, List.set_cons_zero, List.set_cons_succ]
        refine wpAnyH_ready (rs := [12]) (by kernel_rfl) (by simp) ?_
        refine AllReadyH.cons (o := { dst := some 20, op := Op.call { callee := Callee.builtin Builtin.append, args := #[Operand.tmp 12, Operand.tmp 19], argTypes := #[29, 29] }, type := 29, pos := "ref.go:22", after := #[{ on := 4, ground := Ground.data }, { on := 11, ground := Ground.data }, { on := 9, ground := Ground.chain }], guard := none }) rfl (fun KK hKK => ?_) AllReadyH.nil
        refine step_append_row kindR rfl (.tmp 12) (.tmp 19) rfl base (.slice a n cap) P [⟨id, o, l, sa4, n4, cap4, bs⟩] gr ⟨w4.heap.size, 0, none⟩ 1 1 (by simp [Act.eval]) (by simp [Act.eval]) rfl hr5 (one_lies hn5) hPs.out (Nat.le_trans hbase.out (hk1.out.trans (hk4.trans hk5)).size) ?_
        intro sa6 n6 cap6 w6 gr6 hr6 hk6 hg6
        have hR6 := hR5.kept hk6 hno.out
        have hb6 := hb5.kept hk6 hBg.out
        have f1 := Blk.frozen hR6 0
        have e1 := hR6.one
        have hH6 := hSB.out _ hb6
        refine hKK.out _ _ hH6 (fun _ => ?_)
        replace hH := hH6
        clear hKK KK hH6
        try simp only [Act.put, List.setIfInBounds_toArray, List.set_cons_zero, List.set_cons_succ]
        refine wpAnyH_take (i := 13) (oi := { dst := some 21, op := Op.nilCheck (Operand.tmp 8), type := 0, pos := "ref.go:22", after := #[{ on := 0, ground := Ground.data }, { on := 0, ground := Ground.phase }, { on := 1, ground := Ground.phase }, { on := 2, ground := Ground.phase }, { on := 3, ground := Ground.phase }, { on := 4, ground := Ground.phase }, { on := 5, ground := Ground.phase }, { on := 6, ground := Ground.phase }, { on := 7, ground := Ground.phase }, { on := 8, ground := Ground.phase }, { on := 9, ground := Ground.phase }, { on := 10, ground := Ground.phase }, { on := 11, ground := Ground.phase }, { on := 12, ground := Ground.phase }], guard := none }) (v := (.pointer (some ⟨q, 0, none⟩))) rfl (by kernel_rfl) (by kernel_rfl) (by kernel_rfl) (fun _ _ _ h => h) (Or.inl ⟨by rfl, fun W hSw => by go_simp⟩) hH ?_
        try simp only [Act.put, List.setIfInBounds_toArray, List.set_cons_zero, List.set_cons_succ]
        refine wpAnyH_take (i := 14) (oi := { dst := some 22, op := Op.fieldAddr 31 (Operand.tmp 21) 0, type := 0, pos := "ref.go:22", after := #[{ on := 13, ground := Ground.data }, { on := 0, ground := Ground.phase }, { on := 1, ground := Ground.phase }, { on := 2, ground := Ground.phase }, { on := 3, ground := Ground.phase }, { on := 4, ground := Ground.phase }, { on := 5, ground := Ground.phase }, { on := 6, ground := Ground.phase }, { on := 7, ground := Ground.phase }, { on := 8, ground := Ground.phase }, { on := 9, ground := Ground.phase }, { on := 10, ground := Ground.phase }, { on := 11, ground := Ground.phase }, { on := 12, ground := Ground.phase }], guard := none }) (v := (.pointer (some ⟨q, 0, none⟩))) rfl (by kernel_rfl) (by kernel_rfl) (by kernel_rfl) (fun _ _ _ h => h) (Or.inl ⟨by rfl, fun W hSw => by go_simp⟩) hH ?_
        try simp only [Act.put, List.setIfInBounds_toArray, List.set_cons_zero, List.set_cons_succ]
        refine wpAnyH_ready (rs := [15]) (by kernel_rfl) (by simp) ?_
        refine AllReadyH.cons (o := { dst := none, op := Op.store 29 (Operand.tmp 22) (Operand.tmp 20), type := 0, pos := "ref.go:22", after := #[{ on := 14, ground := Ground.data }, { on := 12, ground := Ground.data }, { on := 12, ground := Ground.chain }, { on := 0, ground := Ground.phase }, { on := 1, ground := Ground.phase }, { on := 2, ground := Ground.phase }, { on := 3, ground := Ground.phase }, { on := 4, ground := Ground.phase }, { on := 5, ground := Ground.phase }, { on := 6, ground := Ground.phase }, { on := 7, ground := Ground.phase }, { on := 8, ground := Ground.phase }, { on := 9, ground := Ground.phase }, { on := 10, ground := Ground.phase }, { on := 11, ground := Ground.phase }, { on := 12, ground := Ground.phase }], guard := none }) rfl (fun KK hKK => ?_) AllReadyH.nil
        go_simp
        have hH8 := hSB.out _ (hb6.kept (kept_set (L := [q]) (g := q) (by simp) w6 0 (.slice sa6 n6 cap6)) hBq.out)
        refine hKK.out _ _ hH8 (fun _ => ?_)
        clear hKK KK hH8
        try simp only [Act.put, List.setIfInBounds_toArray, List.set_cons_zero, List.set_cons_succ]
        refine wpAnyH_done (by kernel_rfl) ?_ _
        have hb8 : RRaw (w6.setCell ⟨q, 0, none⟩ (.slice sa6 n6 cap6)) q sa6 n6 cap6 := Blk.set hR6 0 _
        have hk8 : Kept [q] w6 (w6.setCell ⟨q, 0, none⟩ (.slice sa6 n6 cap6)) := kept_set (by simp) _ _ _
        obtain ⟨w8, hw8⟩ : ∃ w8, w6.setCell ⟨q, 0, none⟩ (.slice sa6 n6 cap6) = w8 := ⟨_, rfl⟩
        rw [hw8] at hb8 hk8 ⊢
        have hfin := hf0.out _ _ _ w6 w8 gr6 _ _ _ hk1.out (hk4.trans hk5) hB5 hr6 hk6 hg6 hb8 hk8
        clear hw8 f1 e1 hr6 hR6 hr5 hR5 hB5 hk6 hk8 hg6 hR4
        go_wp2_with fail
        go_end0
        exact ⟨rfl, gr6, hfin⟩
end Go.Proofs.Ythlnhmdeoapoeaa.Later
