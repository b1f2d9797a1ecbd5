import Derived.Test.YtnbkbakbjllmcaaWrE
/-
  The walk of read.
-/
namespace Go.Proofs.Ytnbkbakbjllmcaa.Wire
open Go.RowKit
open Seal (enc ret_bool ret_int)
open Seal.Math

/-- What lies within a read: the place of the answer, the reader, the packet so far. -/
structure Rd (w : World) (lo hi : Nat) (v : Value) (l : List Nat) (f t k s a : Int) (d : Value) (W : World) : Prop where
  res : PIn W w.heap.size 0 0 0 0 0 (.slice none 0 0)
  rd : RAt lo hi (w.heap.size + 1) v l W
  msg : PIn W (w.heap.size + 2) f t k s a d
  kept : Kept [] w W
theorem Rd.put {w : World} {lo hi : Nat} {v : Value} {l : List Nat} {f t k s a f' t' k' s' a' : Int} {d d' : Value} {A B : World} (r : Rd w lo hi v l f t k s a d A) (hb : PIn B (w.heap.size + 2) f' t' k' s' a' d') (hk : Kept [w.heap.size + 2] A B) : Rd w lo hi v l f' t' k' s' a' d' B := by
  have := r.rd.hg
  exact ⟨r.res.kept hk (by simp), r.rd.kept hk (by simp; omega), hb, r.kept.young hk (by omega)⟩
theorem Rd.read {w : World} {lo hi : Nat} {v v' : Value} {l l' : List Nat} {f t k s a : Int} {d : Value} {A B : World} (r : Rd w lo hi v l f t k s a d A) (hr : RAt lo hi (w.heap.size + 1) v' l' B) (hk : Kept [w.heap.size + 1] A B) : Rd w lo hi v' l' f t k s a d B :=
  ⟨r.res.kept hk (by simp), hr, r.msg.kept hk (by simp), r.kept.young hk (by omega)⟩
theorem Rd.after {w : World} {lo hi : Nat} {v : Value} {l : List Nat} {f t k s a : Int} {d : Value} {A B : World} (r : Rd w lo hi v l f t k s a d A) (hk : Kept [] A B) : Rd w lo hi v l f t k s a d B :=
  ⟨r.res.kept hk (by simp), r.rd.kept hk (by simp), r.msg.kept hk (by simp), r.kept.trans hk⟩
set_option maxRecDepth 100000 in
/-- append([]byte(nil), b..) at a step of a region that draws its order -/
theorem step_append_nil {ops : Array Oper} {o : Oper} {a : Act} {w : World} {K : Act → World → Prop} {Q : Exit → Act → World → Prop} {E : Prop} (hgd : o.guard = none) (s x : Operand)
    (ho : o.op = .call { callee := .builtin .append, args := #[s, x], argTypes := #[34, 34] }) (hs : a.eval s = .slice none 0 0)
    (u : Value) (lo hi : Nat) (bs : List Nat) (hx : a.eval x = u) (hu : ByteRow lo hi w u bs) (hlen : bs.length ≤ 1000000)
    (h : ∀ sa z cap w', ByteRow w.heap.size w'.heap.size w' (.slice sa z cap) bs → Kept [] w w' → K (a.put o.dst (.slice sa z cap)) w') :
    if Region.wanted o (yielded ops a.tmps) = true then Oper.wp Try.prog o a w K Q else E := by
  have hown : w.ownsRow w.heap.size 5 1 (.slice none 0 0) ([] : List Nat).length (([] : List Nat).map enc) := ⟨by simp, .inl ⟨rfl, rfl⟩⟩
  refine step_append_bytes hgd s x ho w.heap.size (.slice none 0 0) u lo hi [] bs hs hown (by simp) hx hu (by simpa using hlen) (Nat.le_refl _) ?_
  intro sa cap w' h1 _ h3
  exact h sa _ cap w' h1 (kept_grown hown h3 w (Kept.refl _ _) (Nat.le_refl _))
theorem rd_new (w : World) (sb : Option Addr) (lo hi : Nat) (l : List Nat) (hh : hi ≤ w.heap.size) (hr : ByteRow lo hi w (.slice sb 17 17) l) : Rd w lo hi (.slice sb 17 17) l 0 0 0 0 0 (.slice none 0 0) (((w.alloc (.cells #[.int .u32 0, .int .u32 0, .int .i64 0, .int .i64 0, .int .i64 0, .slice none 0 0] 47)).alloc (.cells #[.slice sb 17 17] 106)).alloc (.cells #[.int .u32 0, .int .u32 0, .int .i64 0, .int .i64 0, .int .i64 0, .slice none 0 0] 47)) := by
  have k1 := kept_alloc [] w (.cells #[.int .u32 0, .int .u32 0, .int .i64 0, .int .i64 0, .int .i64 0, .slice none 0 0] 47)
  have b1 : PIn (w.alloc (.cells #[.int .u32 0, .int .u32 0, .int .i64 0, .int .i64 0, .int .i64 0, .slice none 0 0] 47)) w.heap.size 0 0 0 0 0 (.slice none 0 0) := blk_new w 47 _
  have e1 : (w.alloc (.cells #[.int .u32 0, .int .u32 0, .int .i64 0, .int .i64 0, .int .i64 0, .slice none 0 0] 47)).heap.size = w.heap.size + 1 := by simp
  obtain ⟨A, hA⟩ : ∃ A, w.alloc (.cells #[.int .u32 0, .int .u32 0, .int .i64 0, .int .i64 0, .int .i64 0, .slice none 0 0] 47) = A := ⟨_, rfl⟩
  rw [hA] at k1 b1 e1 ⊢
  have k2 := kept_alloc [] A (.cells #[.slice sb 17 17] 106)
  have b2 := blk_new A 106 #[.slice sb 17 17]
  have e2 : (A.alloc (.cells #[.slice sb 17 17] 106)).heap.size = w.heap.size + 2 := by rw [World.size_alloc, e1]
  rw [e1] at b2
  obtain ⟨B, hB⟩ : ∃ B, A.alloc (.cells #[.slice sb 17 17] 106) = B := ⟨_, rfl⟩
  rw [hB] at k2 b2 e2 ⊢
  have k3 := kept_alloc [] B (.cells #[.int .u32 0, .int .u32 0, .int .i64 0, .int .i64 0, .int .i64 0, .slice none 0 0] 47)
  have b3 : PIn (B.alloc (.cells #[.int .u32 0, .int .u32 0, .int .i64 0, .int .i64 0, .int .i64 0, .slice none 0 0] 47)) B.heap.size 0 0 0 0 0 (.slice none 0 0) := blk_new B 47 _
  rw [e2] at b3
  have k := (k1.trans k2).trans k3
  exact ⟨(b1.kept k2 (by simp)).kept k3 (by simp), ⟨b2.kept k3 (by simp), hr.kept hh k (by simp), by omega⟩, b3, k⟩
set_option maxRecDepth 100000 in
set_option maxHeartbeats 4000000 in
/-- read -/
theorem read_any (v : Value) (bs : List Nat) (lo hi : Nat) (w : World) (h : ByteRow lo hi w v bs) (hh : hi ≤ w.heap.size) (hn : 19 ≤ bs.length) (hlen : bs.length ≤ 1000) :
    Calls Try.prog 52 #[v] w fun e w' => ∃ y : Pv, e = .returned (.agg #[.int .u32 (y.f : Int), .int .u32 (y.t : Int), .int .i64 y.k, .int .i64 y.s, .int .i64 y.a, .slice y.sa y.len y.cap]) ∧ y.ps = readP bs ∧ y.At w.heap.size w'.heap.size w' ∧ Kept [] w w' := by
  obtain ⟨sb, hs2, hr2⟩ := row_head h hn
  obtain ⟨sd, cd, hs19, hr19⟩ := row_drop h 19 hn
  have hs19' : ∀ w, (Instr.sliceAt 34 v (some (.int .i64 19)) none none).run Try.prog w = .ok (.slice sd (bs.length - 19) cd) w := hs19
  clear hs19
  have hT := rd_new w sb lo hi _ hh hr2
  have hr19' : Hid (ByteRow lo hi w (.slice sd (bs.length - 19) cd) (bs.drop 19)) := hr19
  have hl19 : Hid ((bs.drop 19).length ≤ 1000000) := by
    show _ ≤ _
    rw [List.length_drop]
    omega
  have e1 : ((bs.drop 2).take 17).take 4 = (bs.drop 2).take 4 := by rw [List.take_take]; rfl
  have e2 : (((bs.drop 2).take 17).drop 4).take 4 = (bs.drop 6).take 4 := by rw [List.drop_take, List.take_take, List.drop_drop]; rfl
  have e3 : ((((bs.drop 2).take 17).drop 4).drop 4)[0]?.getD 0 = bs[10]?.getD 0 := by rw [List.drop_drop, List.getElem?_drop, List.getElem?_take_of_lt (by omega), List.getElem?_drop]
  have e4 : (((((bs.drop 2).take 17).drop 4).drop 4).drop 1).take 4 = (bs.drop 11).take 4 := by rw [List.drop_drop, List.drop_drop, List.drop_take, List.take_take, List.drop_drop]; rfl
  have e5 : ((((((bs.drop 2).take 17).drop 4).drop 4).drop 1).drop 4).take 4 = (bs.drop 15).take 4 := by rw [List.drop_drop, List.drop_drop, List.drop_drop, List.drop_take, List.take_take, List.drop_drop]; rfl
  have n1 : ((bs.drop 2).take 17).length = 17 := by simp; omega
  generalize (bs.drop 2).take 17 = l1 at *
  have n2 : (l1.drop 4).length = 13 := by rw [List.length_drop, n1]
  have n3 : ((l1.drop 4).drop 4).length = 9 := by rw [List.length_drop, n2]
  have n4 : (((l1.drop 4).drop 4).drop 1).length = 8 := by rw [List.length_drop, n3]
  have n5 : ((((l1.drop 4).drop 4).drop 1).drop 4).length = 4 := by rw [List.length_drop, n4]
  have hE : Hid (readP bs = ⟨val (l1.take 4), val ((l1.drop 4).take 4), (((l1.drop 4).drop 4)[0]?.getD 0 : Nat), (val ((((l1.drop 4).drop 4).drop 1).take 4) : Nat), (val (((((l1.drop 4).drop 4).drop 1).drop 4).take 4) : Nat), bs.drop 19⟩) := by
    show _ = _
    rw [e1, e2, e3, e4, e5]
    rfl
  have hbl : ∀ b ∈ l1, b < 256 := hr2.1
  have vl : ∀ r : List Nat, (∀ b ∈ r, b < 256) → val (r.take 4) < 4294967296 := fun r hr => by
    have h1 := val_lt (r.take 4) (fun b hb => hr b (List.mem_of_mem_take hb))
    have h2 : 256 ^ (r.take 4).length ≤ 256 ^ 4 := Nat.pow_le_pow_right (by omega) (by rw [List.length_take]; omega)
    have h3 := Nat.lt_of_lt_of_le h1 h2
    simpa using h3
  have v1 : Hid (val (l1.take 4) < 4294967296) := vl l1 hbl
  have v2 : Hid (val ((l1.drop 4).take 4) < 4294967296) := vl _ (fun b hb => hbl b (List.mem_of_mem_drop hb))
  have v4 : val ((((l1.drop 4).drop 4).drop 1).take 4) < 4294967296 := vl _ (fun b hb => hbl b (List.mem_of_mem_drop (List.mem_of_mem_drop (List.mem_of_mem_drop hb))))
  have v5 : val (((((l1.drop 4).drop 4).drop 1).drop 4).take 4) < 4294967296 := vl _ (fun b hb => hbl b (List.mem_of_mem_drop (List.mem_of_mem_drop (List.mem_of_mem_drop (List.mem_of_mem_drop hb)))))
  clear e1 e2 e3 e4 e5 hr2 hr19 hbl vl
  obtain ⟨l2, hl2⟩ : ∃ l2, l1.drop 4 = l2 := ⟨_, rfl⟩
  have q1 := fun A v (hr : RAt lo hi (w.heap.size + 1) v l1 A) => rfour_any lo hi (w.heap.size + 1) v l1 A hr (by omega) (by omega)
  rw [hl2] at n2 n3 n4 n5 hE v2 v4 v5 q1
  clear hl2
  obtain ⟨l3, hl3⟩ : ∃ l3, l2.drop 4 = l3 := ⟨_, rfl⟩
  have q2 := fun A v (hr : RAt lo hi (w.heap.size + 1) v l2 A) => rfour_any lo hi (w.heap.size + 1) v l2 A hr (by omega) (by omega)
  rw [hl3] at n3 n4 n5 hE v4 v5 q2
  clear hl3
  obtain ⟨l4, hl4⟩ : ∃ l4, l3.drop 1 = l4 := ⟨_, rfl⟩
  have q3 := fun A v (hr : RAt lo hi (w.heap.size + 1) v l3 A) => rone_any lo hi (w.heap.size + 1) v l3 A hr (by omega)
  rw [hl4] at n4 n5 hE v4 v5 q3
  clear hl4
  obtain ⟨l5, hl5⟩ : ∃ l5, l4.drop 4 = l5 := ⟨_, rfl⟩
  have q4 := fun A v (hr : RAt lo hi (w.heap.size + 1) v l4 A) => rfour_any lo hi (w.heap.size + 1) v l4 A hr (by omega) (by omega)
  rw [hl5] at n5 hE v5 q4
  clear hl5
  have q5 := fun A v (hr : RAt lo hi (w.heap.size + 1) v l5 A) => rfour_any lo hi (w.heap.size + 1) v l5 A hr (by omega) (by omega)
  generalize val (l1.take 4) = F at *
  generalize val (l2.take 4) = T at *
  generalize l3[0]?.getD 0 = K at *
  generalize val (l4.take 4) = N at *
  generalize val (l5.take 4) = M at *
  generalize bs.drop 19 = D at *
  generalize bs.length - 19 = z19 at *
  clear n1 n2 n3 n4 n5 hn hlen
  replace h : Hid _ := h
  obtain ⟨c0, c1, c2, c3, c4, c5⟩ := hT.msg.six
  go_enter Try.func52, Try.ntmps52
  go_upto_region 8 with (first
    | (go_at_call 63; refine (q1 _ _ hT.rd).mono ?_; rintro e w4 ⟨rfl, ⟨v4, hr4⟩, hk4⟩; replace hT := hT.read hr4 hk4; obtain ⟨c0, c1, c2, c3, c4, c5⟩ := hT.msg.six; clear hr4 hk4 q1)
    | (refine wpList_store_cell rfl 25 _ _ rfl (w.heap.size + 2) 0 47 _ (.int .u32 (F : Int)) rfl rfl hT.msg (by simp) Try.sizeU rfl ?_; intro w5 hb5 hk5; replace hT := hT.put (show PIn w5 (w.heap.size + 2) F 0 0 0 0 (.slice none 0 0) from hb5) hk5; obtain ⟨c0, c1, c2, c3, c4, c5⟩ := hT.msg.six; clear hb5 hk5)
    | (go_at_call 63; refine (q2 _ _ hT.rd).mono ?_; rintro e w4 ⟨rfl, ⟨v4, hr4⟩, hk4⟩; replace hT := hT.read hr4 hk4; obtain ⟨c0, c1, c2, c3, c4, c5⟩ := hT.msg.six; clear hr4 hk4 q2)
    | (refine wpList_store_cell rfl 25 _ _ rfl (w.heap.size + 2) 1 47 _ (.int .u32 (T : Int)) rfl rfl hT.msg (by simp) Try.sizeU rfl ?_; intro w5 hb5 hk5; replace hT := hT.put (show PIn w5 (w.heap.size + 2) F T 0 0 0 (.slice none 0 0) from hb5) hk5; obtain ⟨c0, c1, c2, c3, c4, c5⟩ := hT.msg.six; clear hb5 hk5)
    | (go_at_call 64; refine (q3 _ _ hT.rd).mono ?_; rintro e w4 ⟨rfl, ⟨v4, hr4⟩, hk4⟩; replace hT := hT.read hr4 hk4; obtain ⟨c0, c1, c2, c3, c4, c5⟩ := hT.msg.six; clear hr4 hk4 q3)
    | (refine wpList_store_cell rfl 3 _ _ rfl (w.heap.size + 2) 2 47 _ (.int .i64 (K : Int)) rfl rfl hT.msg (by simp) Try.sizeI rfl ?_; intro w5 hb5 hk5; replace hT := hT.put (show PIn w5 (w.heap.size + 2) F T K 0 0 (.slice none 0 0) from hb5) hk5; obtain ⟨c0, c1, c2, c3, c4, c5⟩ := hT.msg.six; clear hb5 hk5)
    | (go_at_call 63; refine (q4 _ _ hT.rd).mono ?_; rintro e w4 ⟨rfl, ⟨v4, hr4⟩, hk4⟩; replace hT := hT.read hr4 hk4; obtain ⟨c0, c1, c2, c3, c4, c5⟩ := hT.msg.six; clear hr4 hk4 q4)
    | (refine wpList_store_cell rfl 3 _ _ rfl (w.heap.size + 2) 3 47 _ (.int .i64 (N : Int)) rfl rfl hT.msg (by simp) Try.sizeI rfl ?_; intro w5 hb5 hk5; replace hT := hT.put (show PIn w5 (w.heap.size + 2) F T K N 0 (.slice none 0 0) from hb5) hk5; obtain ⟨c0, c1, c2, c3, c4, c5⟩ := hT.msg.six; clear hb5 hk5)
    | (go_at_call 63; refine (q5 _ _ hT.rd).mono ?_; rintro e w4 ⟨rfl, ⟨v4, hr4⟩, hk4⟩; replace hT := hT.read hr4 hk4; obtain ⟨c0, c1, c2, c3, c4, c5⟩ := hT.msg.six; clear hr4 hk4 q5)
    | (refine wpList_store_cell rfl 3 _ _ rfl (w.heap.size + 2) 4 47 _ (.int .i64 (M : Int)) rfl rfl hT.msg (by simp) Try.sizeI rfl ?_; intro w5 hb5 hk5; replace hT := hT.put (show PIn w5 (w.heap.size + 2) F T K N M (.slice none 0 0) from hb5) hk5; obtain ⟨c0, c1, c2, c3, c4, c5⟩ := hT.msg.six; clear hb5 hk5))
  replace hT := hT.after (kept_drew [] _)
  obtain ⟨c0, c1, c2, c3, c4, c5⟩ := hT.msg.six
  refine wp_region_held_drew (S := fun _ => True) (by kernel_rfl) trivial (fun hP => ?_)
  have hH := hP
  clear hP
  refine wpAnyH_take (i := 0) (oi := ⟨some 26, _, _, _, _, _⟩) (v := (.pointer (some ⟨w.heap.size + 2, 5, none⟩))) rfl (by kernel_rfl) (by kernel_rfl) (by kernel_rfl) (fun _ _ _ h => h) (Or.inl ⟨by rfl, fun W hSw => by go_simp⟩) hH ?_
  try simp only [Act.put, List.setIfInBounds_toArray, List.set_cons_zero, List.set_cons_succ]
  refine wpAnyH_take (i := 2) (oi := ⟨some 28, _, _, _, _, _⟩) (v := v) rfl (by kernel_rfl) (by kernel_rfl) (by kernel_rfl) (fun _ _ _ h => h) (Or.inl ⟨by rfl, fun W hSw => by go_simp⟩) hH ?_
  try simp only [Act.put, List.setIfInBounds_toArray, List.set_cons_zero, List.set_cons_succ]
  refine wpAnyH_take (i := 3) (oi := ⟨some 29, _, _, _, _, _⟩) (v := (.slice sd z19 cd)) rfl (by kernel_rfl) (by kernel_rfl) (by kernel_rfl) (fun _ _ _ h => h) (Or.inl ⟨by rfl, fun W hSw => by go_simp⟩) hH ?_
  try simp only [Act.put, List.setIfInBounds_toArray, List.set_cons_zero, List.set_cons_succ]
  refine wpAnyH_ready (rs := [1]) (by kernel_rfl) (by simp) ?_
  refine AllReadyH.cons (o := ⟨some 27, _, _, _, _, _⟩) rfl (fun K hK => ?_) AllReadyH.nil
  go_simp
  refine hK.out _ _ trivial (fun _ => ?_)
  clear hK K
  try simp only [Act.put, List.setIfInBounds_toArray, List.set_cons_zero, List.set_cons_succ]
  refine wpAnyH_ready (rs := [4]) (by kernel_rfl) (by simp) ?_
  refine AllReadyH.cons (o := ⟨some 30, _, _, _, _, _⟩) rfl (fun K hK => ?_) AllReadyH.nil
  refine step_append_nil rfl (.tmp 27) (.tmp 29) rfl (by simp [Act.eval]) (.slice sd z19 cd) lo hi D (by simp [Act.eval]) (hr19'.out.kept hh hT.kept (by simp)) hl19.out ?_
  intro sa7 z7 cap7 w7 hD hk7
  have hTT := hT.after hk7
  obtain ⟨d0, d1, d2, d3, d4, d5⟩ := hTT.msg.six
  have f5 := Blk.frozen hTT.msg 5
  refine hK.out _ _ trivial (fun _ => ?_)
  clear hK K
  try simp only [Act.put, List.setIfInBounds_toArray, List.set_cons_zero, List.set_cons_succ]
  refine wpAnyH_take (i := 5) (oi := ⟨some 31, _, _, _, _, _⟩) (v := (.pointer (some ⟨w.heap.size + 2, 5, none⟩))) rfl (by kernel_rfl) (by kernel_rfl) (by kernel_rfl) (fun _ _ _ h => h) (Or.inl ⟨by rfl, fun W hSw => by go_simp⟩) hH ?_
  try simp only [Act.put, List.setIfInBounds_toArray, List.set_cons_zero, List.set_cons_succ]
  refine wpAnyH_ready (rs := [6]) (by kernel_rfl) (by simp) ?_
  refine AllReadyH.cons (o := ⟨none, _, _, _, _, _⟩) rfl (fun K hK => ?_) AllReadyH.nil
  go_simp
  refine hK.out _ _ trivial (fun _ => ?_)
  clear hK K
  try simp only [Act.put, List.setIfInBounds_toArray, List.set_cons_zero, List.set_cons_succ]
  refine wpAnyH_done (by kernel_rfl) ?_ _
  have hlt := Blk.lt hT.msg
  have hb8 : PIn (w7.setCell ⟨w.heap.size + 2, 5, none⟩ (.slice sa7 z7 cap7)) (w.heap.size + 2) F T K N M (.slice sa7 z7 cap7) := Blk.set hTT.msg 5 _
  have hk8 : Kept [w.heap.size + 2] w7 (w7.setCell ⟨w.heap.size + 2, 5, none⟩ (.slice sa7 z7 cap7)) := kept_set (by simp) _ _ _
  obtain ⟨w8, hw8⟩ : ∃ w8, w7.setCell ⟨w.heap.size + 2, 5, none⟩ (.slice sa7 z7 cap7) = w8 := ⟨_, rfl⟩
  rw [hw8] at hb8 hk8 ⊢
  have hT8 := hTT.put hb8 hk8
  have hD8 := (hD.kept (Nat.le_refl _) hk8 (by intro k hm; rw [List.mem_singleton] at hm; subst hm; exact .inl hlt)).mono (show w.heap.size + 3 ≤ _ from hlt) hk8.size
  clear hw8 hD hk8 hb8 hTT hT hlt d0 d1 d2 d3 d4 d5 f5 c0 c1 c2 c3 c4 c5
  obtain ⟨c0, c1, c2, c3, c4, c5⟩ := hT8.msg.six
  replace hD8 : Hid _ := hD8
  go_wp2_with (first
    | (refine wpList_store_blk rfl 47 _ _ rfl w.heap.size 47 _ [.int .u32 (F : Int), .int .u32 (T : Int), .int .i64 (K : Int), .int .i64 (N : Int), .int .i64 (M : Int), .slice sa7 z7 cap7] rfl rfl hT8.res rfl Try.sizeP (by simp [Value.oneCell']) ?_; intro w9 hb9 hk9 hz9))
  have hb9' : w9.heap[w.heap.size]? = some (.cells #[.int .u32 (F : Int), .int .u32 (T : Int), .int .i64 (K : Int), .int .i64 (N : Int), .int .i64 (M : Int), .slice sa7 z7 cap7] 47 (0, 0)) := hb9
  refine bodyPost_ret (results_cell_row rfl _ _ w.heap.size 47 _ (0, 0) _ rfl hb9' Try.underlying47 rfl Try.sizeP) rfl ?_
  have hD9 : ByteRow (w.heap.size + 3) w8.heap.size w8 (.slice sa7 z7 cap7) D := hD8.out
  exact ⟨⟨F, T, K, N, M, sa7, z7, cap7, D⟩, rfl, hE.out.symm, ⟨(hD9.kept (Nat.le_refl _) hk9 (by simp)).mono (by omega) hk9.size, v1.out, v2.out⟩, hT8.kept.young hk9 (Nat.le_refl _)⟩
end Go.Proofs.Ytnbkbakbjllmcaa.Wire

