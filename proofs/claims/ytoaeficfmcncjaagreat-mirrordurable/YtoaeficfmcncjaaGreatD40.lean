/-
 Messages about writes: tell, writeOf.
-/
import Derived.Test.YtoaeficfmcncjaaGreatD39
import Derived.Test.YtoaeficfmcncjaaGreatD30
namespace Go.Proofs.YtoaeficfmcncjaaGreat.Mirror
open Go.RowKit
open Math
open Flight (Fw Fv FlAt Off)
open Later (Lw Lv QAt Foot RowAt)
open Pack (Ms Mv)
open Resync (MRow)

theorem zero_msg (w : World) : Blk (w.alloc (.cells #[.int .i64 0, .int .i64 0, .int .i64 0, .int .u64 0, .bool false, .slice none 0 0] 47)) w.heap.size 47 #[.int .i64 0, .int .i64 0, .int .i64 0, .int .u64 0, .bool false, .slice none 0 0] := blk_new w 47 _
theorem zero_lw (w : World) : Blk (w.alloc (.cells #[.int .i64 0, .int .i64 0, .int .i64 0, .slice none 0 0] 152)) w.heap.size 152 #[.int .i64 0, .int .i64 0, .int .i64 0, .slice none 0 0] := blk_new w 152 _
set_option maxRecDepth 100000 in
theorem size_lw : (Tryz.prog.info? 152).map (·.size) = some 4 := by kernel_rfl
theorem row_range {ty : TypeId} {base : Nat} {W : World} {a : Option Addr} {n cap : Nat} {P : List Lv} {gr : Option Nat} (h : RowAt ty base W (.slice a n cap) P gr) {j : Nat} {x : Lv} (hj : P[j]? = some x) :
  ∃ g off, a = some ⟨g, off, none⟩ ∧ gr = some g ∧ W.rangeAt g (off + j * 4) x.cells := by
 obtain ⟨g, off, e1, e2, hc⟩ := h.at hj
 obtain ⟨c0, c1, c2, c3⟩ := hc [] W (Kept.refl _ _) (by simp)
 refine ⟨g, off, e1, e2, fun i v hv => ?_⟩
 rcases i with _ | _ | _ | _ | i
 ·simpa [Lv.cells] using hv ▸ c0
 ·simpa [Lv.cells] using hv ▸ c1
 ·simpa [Lv.cells] using hv ▸ c2
 ·simpa [Lv.cells] using hv ▸ c3
 ·simp [Lv.cells] at hv
structure LRow (base : Nat) (W : World) (v : Value) (P : List Lv) (gr : Option Nat) : Prop where
 row : RowAt 152 base W v P gr
 byt : ∀ x ∈ P, Later.ByteRow W.heap.size W (.slice x.sa x.len x.cap) x.bs
structure Told (base : Nat) (W : World) (v : Value) (L : List Ms) (P : List Mv) : Prop where
 row : MRow base W v P
 is : P.map Mv.ms = L
 byt : ∀ y ∈ P, Later.Byt W (.slice y.sa y.len y.cap) y.d
theorem Told.nil (base : Nat) (W : World) : Told base W (.slice none 0 0) [] [] := ⟨MRow.nil _ _, rfl, by simp⟩
theorem Told.kept {base : Nat} {A B : World} {v : Value} {L : List Ms} {P : List Mv} {X : List Nat} (h : Told base A v L P) (hk : Kept X A B) (hX : ∀ k, v.ownBlock = some k → k ∉ X) (hc : Clean A X) : Told base B v L P :=
 ⟨h.row.kept hk hX, h.is, fun y hy => hc.byt hk (h.byt y hy)⟩
theorem Told.kept0 {base : Nat} {A B : World} {v : Value} {L : List Ms} {P : List Mv} (h : Told base A v L P) (hk : Kept [] A B) : Told base B v L P := h.kept hk (by simp) (clean_nil _)
theorem Told.low {base base' : Nat} {W : World} {v : Value} {L : List Ms} {P : List Mv} (h : Told base W v L P) (hb : base' ≤ base) : Told base' W v L P := ⟨h.row.low hb, h.is, h.byt⟩
set_option maxRecDepth 100000 in
set_option maxHeartbeats 4000000 in
theorem tell_other (k : Int) (hk2 : k ≠ 2) (sa : Option Addr) (n cap : Nat) (P : List Lv) (base : Nat) (gr : Option Nat) (w : World) (hP : RowAt 152 base w (.slice sa n cap) P gr) (hlen : P.length ≤ 900000) :
  Calls Tryz.prog 72 #[.int .i64 k, .slice sa n cap] w fun e w' => ∃ v Q, e = .returned v ∧ Told w.heap.size w' v (P.map fun x => msgOf k x.lw) Q ∧ Kept [] w w' := by
 obtain ⟨a', cap', e1, hcap, hmax⟩ := hP.open
 injection e1 with e2 e3 e4
 subst e4
 replace e3 : Hid (P.length = n) := e3.symm
 clear e2
 go_enter Tryz.func72, Tryz.ntmps72
 go_wp2
 go_loopw [11, 5] (fun i t wr => ∃ (j : Nat) (ta : Option Addr) (tn tc : Nat) (Q : List Mv), j ≤ n ∧ i = .int .i64 j ∧ t = .slice ta tn tc ∧ Told w.heap.size wr (.slice ta tn tc) ((P.take j).map fun x => msgOf k x.lw) Q ∧ Kept [] w wr) (fun i _ _ => n - (RowKit.intOf i).toNat)
 case atStart => exact ⟨0, none, 0, 0, [], Nat.zero_le _, rfl, rfl, Told.nil _ _, Kept.refl _ _⟩
 case round =>
  obtain ⟨j, ta, tn, tc, Q, hj, rfl, rfl, hT, hK⟩ := hrel
  by_cases hlt : j < n
  ·obtain ⟨x, hx⟩ : ∃ x, P[j]? = some x := ⟨_, List.getElem?_eq_getElem (by have := e3.out; omega)⟩
   obtain ⟨g, off, rfl, hg, hr⟩ := row_range (hP.kept0 hK) hx
   have kk : (j : Int) < (n : Int) := by omega
   have kc : (j : Int) < (cap : Int) := by have := e3.out; omega
   have hm1 : Hid (n - (j + 1) < n - j) := by show _ < _; omega
   have hnext : Hid ((P.take (j + 1)).map (fun x => msgOf k x.lw) = (P.take j).map (fun x => msgOf k x.lw) ++ [msgOf k x.lw]) := by
    show _ = _
    rw [List.take_add_one, hx]
    simp
   have hQl : Q.length = j := by
    have := congrArg List.length hT.is
    simpa [e3.out, Nat.min_eq_left hj] using this
   have hQ9 : Hid (Q.length + [(⟨k, x.id, 0, 0, false, none, 0, 0, []⟩ : Mv)].length ≤ 1000000) := by
    have := e3.out
    show _ ≤ _
    simp
    omega
   replace hr : Hid _ := hr
   replace hg : Hid _ := hg
   have h0 := zero_lw wr
   have ka := kept_alloc [] wr (.cells #[.int .i64 0, .int .i64 0, .int .i64 0, .slice none 0 0] 152)
   clear hx hP
   obtain ⟨xid, xo, xl, xsa, xlen, xcap, xbs⟩ := x
   simp only [Lv.cells] at hr
   go_wp2_with (first
    | refine wpList_load_mid rfl 152 _ rfl g (off + j * 4) rfl [.int .i64 xid, .int .i64 xo, .int .i64 xl, .slice xsa xlen xcap] _ hr.out Tryz.underlying152 rfl size_lw ?_
    | (refine wpList_store_blk rfl 152 _ _ rfl wr.heap.size 152 _ [.int .i64 xid, .int .i64 xo, .int .i64 xl, .slice xsa xlen xcap] rfl rfl h0 rfl size_lw (by simp [Value.oneCell']) ?_; intro w3 hB3 hk3 hz3; have hk3' : Kept [] wr w3 := ka.young hk3 (Nat.le_refl _); have x0 := (hB3.cell 0).trans (show _ = some (Value.int .i64 xid) from rfl); have h5 := zero_msg w3; have kb := kept_alloc [] w3 (.cells #[.int .i64 0, .int .i64 0, .int .i64 0, .int .u64 0, .bool false, .slice none 0 0] 47))
    | (refine wpList_store_blk rfl 47 _ _ rfl w3.heap.size 47 _ [.int .i64 k, .int .i64 xid, .int .i64 0, .int .u64 0, .bool false, .slice none 0 0] rfl rfl h5 rfl Pack.Tryz.sizeM (by simp [Value.oneCell']) ?_; intro w5 hB5 hk5 hz5; have hk5' : Kept [] wr w5 := hk3'.trans (kb.young hk5 (Nat.le_refl _)); obtain ⟨y0, y1, y2, y3, y4, y5⟩ := Mv.In.six (x := ⟨k, xid, 0, 0, false, none, 0, 0, []⟩) hB5; have hI : Mv.In ⟨k, xid, 0, 0, false, none, 0, 0, []⟩ (w5.alloc (.cells #[.int .i64 k, .int .i64 xid, .int .i64 0, .int .u64 0, .bool false, .slice none 0 0] 47)) w5.heap.size := blk_new w5 47 _; have hL := Resync.lies_one _ _ hI; have hk6 : Kept [] wr (w5.alloc (.cells #[.int .i64 k, .int .i64 xid, .int .i64 0, .int .u64 0, .bool false, .slice none 0 0] 47)) := hk5'.trans (kept_alloc [] w5 _))
    | (refine Resync.wpList_append_msgs rfl (.tmp 29) (.tmp 31) rfl w.heap.size (.slice ta tn tc) _ Q [⟨k, xid, 0, 0, false, none, 0, 0, []⟩] rfl rfl (hT.row.kept0 hk6) hL hQ9.out (Nat.le_trans hK.size hk6.size) ?_; intro sa6 n6 cap6 w6 hr6 hk6' ho6))
   have hK6 : Kept [] w w6 := by
    have := (hK.trans hk6).youngs hk6' (fun y hy => .inr (hT.row.lt y (by simpa using hy)).1)
    exact this
   have hT6 : Told w.heap.size w6 (.slice sa6 n6 cap6) ((P.take (j + 1)).map fun x => msgOf k x.lw) (Q ++ [⟨k, xid, 0, 0, false, none, 0, 0, []⟩]) := by
    refine ⟨hr6, by rw [hnext.out, List.map_append, hT.is]; simp [msgOf, hk2, Mv.ms, Lv.lw], fun y hy => ?_⟩
    rcases List.mem_append.1 hy with h1 | h1
    ·refine Clean.byt ?_ hk6' ((hT.kept0 hk6).byt y h1)
     intro b hb
     obtain ⟨c, hc⟩ := (hT.kept0 hk6).row.blk b (by simpa using hb)
     exact clean_of hc (by decide) (by decide)
    ·rw [List.mem_singleton] at h1
     subst h1
     exact Later.byt_nil _
   go_round
   case rel => exact ⟨j + 1, sa6, n6, cap6, _, by omega, by go_num, rfl, hT6, hK6⟩
   case measure => simp [RowKit.intOf]; omega
  ·obtain rfl : j = n := by omega
   go_wp2
   go_ret
   refine ⟨_, Q, rfl, ?_, hK⟩
   rwa [← e3.out, List.take_length] at hT
set_option maxRecDepth 100000 in
set_option maxHeartbeats 4000000 in
theorem tell_data (sa : Option Addr) (n cap : Nat) (P : List Lv) (base : Nat) (gr : Option Nat) (w : World) (hP : LRow base w (.slice sa n cap) P gr) (hbl : ∀ x ∈ P, x.bs.length ≤ 140737488351232) (hlen : P.length ≤ 900000) :
  Calls Tryz.prog 72 #[.int .i64 2, .slice sa n cap] w fun e w' => ∃ v Q, e = .returned v ∧ Told w.heap.size w' v (P.map fun x => msgOf 2 x.lw) Q ∧ Kept [] w w' := by
 obtain ⟨a', cap', e1, hcap, hmax⟩ := hP.row.open
 injection e1 with e2 e3 e4
 subst e4
 replace e3 : Hid (P.length = n) := e3.symm
 clear e2
 go_enter Tryz.func72, Tryz.ntmps72
 go_wp2
 go_loopw [11, 5] (fun i t wr => ∃ (j : Nat) (ta : Option Addr) (tn tc : Nat) (Q : List Mv), j ≤ n ∧ i = .int .i64 j ∧ t = .slice ta tn tc ∧ Told w.heap.size wr (.slice ta tn tc) ((P.take j).map fun x => msgOf 2 x.lw) Q ∧ Kept [] w wr) (fun i _ _ => n - (RowKit.intOf i).toNat)
 case atStart => exact ⟨0, none, 0, 0, [], Nat.zero_le _, rfl, rfl, Told.nil _ _, Kept.refl _ _⟩
 case round =>
  obtain ⟨j, ta, tn, tc, Q, hj, rfl, rfl, hT, hK⟩ := hrel
  by_cases hlt : j < n
  ·obtain ⟨x, hx⟩ : ∃ x, P[j]? = some x := ⟨_, List.getElem?_eq_getElem (by have := e3.out; omega)⟩
   obtain ⟨g, off, rfl, hg, hr⟩ := row_range (hP.row.kept0 hK) hx
   have kk : (j : Int) < (n : Int) := by omega
   have kc : (j : Int) < (cap : Int) := by have := e3.out; omega
   have hm1 : Hid (n - (j + 1) < n - j) := by show _ < _; omega
   have hnext : Hid ((P.take (j + 1)).map (fun x => msgOf 2 x.lw) = (P.take j).map (fun x => msgOf 2 x.lw) ++ [msgOf 2 x.lw]) := by
    show _ = _
    rw [List.take_add_one, hx]
    simp
   have hQl : Q.length = j := by
    have := congrArg List.length hT.is
    simpa [e3.out, Nat.min_eq_left hj] using this
   have hQ9 : Hid (Q.length + 1 ≤ 1000000) := by
    have := e3.out
    show _ ≤ _
    omega
   replace hr : Hid _ := hr
   replace hg : Hid _ := hg
   have h0 := zero_lw wr
   have ka := kept_alloc [] wr (.cells #[.int .i64 0, .int .i64 0, .int .i64 0, .slice none 0 0] 152)
   have hxm := List.mem_of_getElem? hx
   have hbyt := (hP.byt x hxm).kept (Nat.le_refl _) hK (by simp)
   have hxl := hbl x hxm
   have hww := hK.size
   clear hx hP hbl hxm
   obtain ⟨xid, xo, xl, xsa, xlen, xcap, xbs⟩ := x
   simp only [Lv.cells] at hr
   go_upto_region 7 with (first
    | refine wpList_load_mid rfl 152 _ rfl g (off + j * 4) rfl [.int .i64 xid, .int .i64 xo, .int .i64 xl, .slice xsa xlen xcap] _ hr.out Tryz.underlying152 rfl size_lw ?_
    | (refine wpList_store_blk rfl 152 _ _ rfl wr.heap.size 152 _ [.int .i64 xid, .int .i64 xo, .int .i64 xl, .slice xsa xlen xcap] rfl rfl h0 rfl size_lw (by simp [Value.oneCell']) ?_; intro w3 hB3 hk3 hz3; have hk3' : Kept [] wr w3 := ka.young hk3 (Nat.le_refl _); have x0 := (hB3.cell 0).trans (show _ = some (Value.int .i64 xid) from rfl); have h5 := zero_msg w3; have kb := kept_alloc [] w3 (.cells #[.int .i64 0, .int .i64 0, .int .i64 0, .int .u64 0, .bool false, .slice none 0 0] 47))
    | (refine wpList_store_blk rfl 47 _ _ rfl w3.heap.size 47 _ [.int .i64 2, .int .i64 xid, .int .i64 0, .int .u64 0, .bool false, .slice none 0 0] rfl rfl h5 rfl Pack.Tryz.sizeM (by simp [Value.oneCell']) ?_; intro w5 hB5 hk5 hz5; have hk35 := kb.young hk5 (Nat.le_refl _); have hk5' : Kept [] wr w5 := hk3'.trans hk35))
   obtain ⟨N3, hN3⟩ : ∃ N3, wr.heap.size = N3 := ⟨_, rfl⟩
   obtain ⟨N5, hN5⟩ : ∃ N5, w3.heap.size = N5 := ⟨_, rfl⟩
   have hB35 := hB3.kept hk35 (by simp)
   have hlt35 : N3 < N5 := by have := hB3.lt; omega
   rw [hN3] at hB35
   rw [hN5] at hB5
   rw [hN3, hN5]
   have hS : Hid (∀ W, Kept [N5] w5.drew W → W.cell? ⟨N3, 1, none⟩ = some (.int .i64 xo) ∧ W.cell? ⟨N3, 3, none⟩ = some (.slice xsa xlen xcap)) := fun W hk => by
    have e := hB35.kept ((kept_drew [N5] w5).trans hk) (by simp; omega)
    exact ⟨(e.cell 1).trans rfl, (e.cell 3).trans rfl⟩
   have x1 := (hB35.cell 1).trans (show _ = some (Value.int .i64 xo) from rfl)
   have x3 := (hB35.cell 3).trans (show _ = some (Value.slice xsa xlen xcap) from rfl)
   have hk5d := hk5'.trans (kept_drew [] w5)
   have hbyt5 := hbyt.kept hww hk5d (by simp)
   simp only [] at hbyt5 hxl
   have qc := Later.clone_any _ _ xbs w5.drew hbyt5 (Nat.le_trans hww hk5d.size) hxl
   have hsz5 : Hid (w.heap.size ≤ N5) := by show _ ≤ _; have := hk3'.size; omega
   replace hB5 : Hid (Blk w5 N5 47 #[.int .i64 2, .int .i64 xid, .int .i64 0, .int .u64 0, .bool false, .slice none 0 0]) := hB5
   clear hB3 hB35 hk3 hk5 hz3 hz5 hk35 kb ka h0 h5 x0 hbyt hbyt5 hr
   go_cut [] from 21 to 29 (fun W => ∃ (ca : Option Addr) (cl cc : Nat), Blk W N5 47 #[.int .i64 2, .int .i64 xid, .int .i64 xo, .int .u64 0, .bool false, .slice ca cl cc] ∧ Later.Byt W (.slice ca cl cc) xbs ∧ Kept [] wr W)
   case first =>
    refine wp_region_held_drew (S := fun W => Kept [N5] w5.drew W) (by kernel_rfl) (Kept.refl _ _) (fun hP => ?_)
    have hH := hP
    clear hP
    refine tI (i := 0) (oi := ⟨some 21, _, _, _, _, _⟩) (v := (.pointer (some ⟨N3, 1, none⟩))) rfl (fun W hSw => by go_simp) hH ?_
    refine tI (i := 1) (oi := ⟨some 22, _, _, _, _, _⟩) (v := (.pointer (some ⟨N3, 1, none⟩))) rfl (fun W hSw => by go_simp) hH ?_
    refine tI (i := 2) (oi := ⟨some 23, _, _, _, _, _⟩) (v := (.int .i64 xo)) rfl (fun W hSw => by obtain ⟨x1, x3⟩ := hS.out _ hSw; go_simp) hH ?_
    refine tI (i := 3) (oi := ⟨some 24, _, _, _, _, _⟩) (v := (.pointer (some ⟨N3, 3, none⟩))) rfl (fun W hSw => by go_simp) hH ?_
    refine tI (i := 4) (oi := ⟨some 25, _, _, _, _, _⟩) (v := (.slice xsa xlen xcap)) rfl (fun W hSw => by obtain ⟨x1, x3⟩ := hS.out _ hSw; go_simp) hH ?_
    refine tI (i := 6) (oi := ⟨some 27, _, _, _, _, _⟩) (v := (.pointer (some ⟨N5, 2, none⟩))) rfl (fun W hSw => by go_simp) hH ?_
    refine wpAnyH_ready (rs := [5]) (by kernel_rfl) (by simp) ?_
    refine AllReadyH.cons (o := ⟨some 26, _, _, _, _, _⟩) rfl (fun K hK => ?_) AllReadyH.nil
    go_simp
    refine (qc).mono ?_
    rintro e w6 ⟨ca, cl, cc, rfl, hb6, hk6⟩
    go_wp2_with fail
    have hH1 := hH.trans (hk6.mono (by simp))
    refine hK.out _ _ hH1 (fun _ => ?_)
    replace hH := hH1
    clear hK K hH1
    have g6 := hB5.out.kept ((kept_drew [] w5).trans hk6) (by simp)
    try simp only [Act.put, List.setIfInBounds_toArray, List.set_cons_zero, List.set_cons_succ]
    refine wpAnyH_ready (rs := [7]) (by kernel_rfl) (by simp) ?_
    refine AllReadyH.cons (o := ⟨none, _, _, _, _, _⟩) rfl (fun K hK => ?_) AllReadyH.nil
    have f2 := g6.frozen 2
    have c2 := (g6.cell 2).trans (show _ = some (Value.int .i64 0) from rfl)
    go_simp
    have hH1 := hH.trans (kept_set (g := N5) (by simp) w6 2 (.int .i64 xo))
    refine hK.out _ _ hH1 (fun _ => ?_)
    replace hH := hH1
    clear hK K hH1
    have g7 := g6.set 2 (.int .i64 xo)
    have hk7 : Kept [N5] w6 (w6.setCell ⟨N5, 2, none⟩ (.int .i64 xo)) := kept_set (by simp) _ _ _
    try simp only [Act.put, List.setIfInBounds_toArray, List.set_cons_zero, List.set_cons_succ]
    refine tI (i := 8) (oi := ⟨some 28, _, _, _, _, _⟩) (v := (.pointer (some ⟨N5, 5, none⟩))) rfl (fun W hSw => by go_simp) hH ?_
    refine wpAnyH_ready (rs := [9]) (by kernel_rfl) (by simp) ?_
    refine AllReadyH.cons (o := ⟨none, _, _, _, _, _⟩) rfl (fun K hK => ?_) AllReadyH.nil
    have f5 := g7.frozen 5
    have c5 := (g7.cell 5).trans (show _ = some (Value.slice none 0 0) from rfl)
    go_simp
    have hH1 := hH.trans (kept_set (g := N5) (by simp) _ 5 (.slice ca cl cc))
    refine hK.out _ _ hH1 (fun _ => ?_)
    replace hH := hH1
    clear hK K hH1
    have g8 := g7.set 5 (.slice ca cl cc)
    have hk8 := hk7.trans (kept_set (g := N5) (L := [N5]) (by simp) _ 5 (.slice ca cl cc))
    try simp only [Act.put, List.setIfInBounds_toArray, List.set_cons_zero, List.set_cons_succ]
    refine wpAnyH_done (by kernel_rfl) ?_ _
    go_wp2_with fail
    go_meet
    have hcl : Clean w6 [N5] := fun k hk => by
     rw [List.mem_singleton] at hk
     subst hk
     exact clean_of g6 (by decide) (by decide)
    exact ⟨ca, cl, cc, g8, hcl.byt hk8 hb6, (hk5'.trans ((kept_drew [] w5).trans hk6)).young hk8 (by omega)⟩
   case rest =>
    obtain ⟨ca, cl, cc, hBc, hbc, hkc⟩ := hcut
    obtain ⟨y0, y1, y2, y3, y4, y5⟩ := Mv.In.six (x := ⟨2, xid, xo, 0, false, ca, cl, cc, xbs⟩) hBc
    have hI : Mv.In ⟨2, xid, xo, 0, false, ca, cl, cc, xbs⟩ (wc.alloc (.cells #[.int .i64 2, .int .i64 xid, .int .i64 xo, .int .u64 0, .bool false, .slice ca cl cc] 47)) wc.heap.size := blk_new wc 47 _
    have hL := Resync.lies_one _ _ hI
    have kz := kept_alloc [] wc (.cells #[.int .i64 2, .int .i64 xid, .int .i64 xo, .int .u64 0, .bool false, .slice ca cl cc] 47)
    have hk6 : Kept [] wr (wc.alloc (.cells #[.int .i64 2, .int .i64 xid, .int .i64 xo, .int .u64 0, .bool false, .slice ca cl cc] 47)) := hkc.trans kz
    go_wp2_with (first
     | (refine Resync.wpList_append_msgs rfl (.tmp 29) (.tmp 31) rfl w.heap.size (.slice ta tn tc) _ Q [⟨2, xid, xo, 0, false, ca, cl, cc, xbs⟩] rfl rfl (hT.row.kept0 hk6) hL hQ9.out (Nat.le_trans hK.size hk6.size) ?_; intro sa6 n6 cap6 w6 hr6 hk6' ho6))
    have hK6 : Kept [] w w6 := (hK.trans hk6).youngs hk6' (fun y hy => .inr (hT.row.lt y (by simpa using hy)).1)
    have hT6 : Told w.heap.size w6 (.slice sa6 n6 cap6) ((P.take (j + 1)).map fun x => msgOf 2 x.lw) (Q ++ [⟨2, xid, xo, 0, false, ca, cl, cc, xbs⟩]) := by
     have hcl : Clean (wc.alloc (.cells #[.int .i64 2, .int .i64 xid, .int .i64 xo, .int .u64 0, .bool false, .slice ca cl cc] 47)) (Value.slice ta tn tc).ownBlock.toList := fun b hb => by
      obtain ⟨c, hc⟩ := (hT.kept0 hk6).row.blk b (by simpa using hb)
      exact clean_of hc (by decide) (by decide)
     refine ⟨hr6, by rw [hnext.out, List.map_append, hT.is]; simp [msgOf, Mv.ms, Lv.lw], fun y hy => ?_⟩
     rcases List.mem_append.1 hy with h1 | h1
     ·exact hcl.byt hk6' ((hT.kept0 hk6).byt y h1)
     ·rw [List.mem_singleton] at h1
      subst h1
      exact hcl.byt hk6' ((clean_nil _).byt kz hbc)
    go_round
    case rel => exact ⟨j + 1, sa6, n6, cap6, _, by omega, by go_num, rfl, hT6, hK6⟩
    case measure => simp [RowKit.intOf]; omega
  ·obtain rfl : j = n := by omega
   go_wp2
   go_ret
   refine ⟨_, Q, rfl, ?_, hK⟩
   rwa [← e3.out, List.take_length] at hT
set_option maxRecDepth 100000 in
theorem results_lw {fn : Func} {p : Tmp} (h : fn.results = #[.cell p 152]) (tmps : Array Value) (w : World) (g : Nat) (x : Lv) (hp : tmps[p]? = some (.pointer (some ⟨g, 0, none⟩))) (hv : Blk w g 152 #[.int .i64 x.id, .int .i64 x.o, .int .i64 x.l, .slice x.sa x.len x.cap]) :
  (results fn tmps).run Tryz.prog w = .ok x.val w := by
 have c0 := (hv.cell 0).trans (show _ = some (Value.int .i64 x.id) from rfl)
 have c1 := (hv.cell 1).trans (show _ = some (Value.int .i64 x.o) from rfl)
 have c2 := (hv.cell 2).trans (show _ = some (Value.int .i64 x.l) from rfl)
 have c3 := (hv.cell 3).trans (show _ = some (Value.slice x.sa x.len x.cap) from rfl)
 simp [results, h, go_sem, hp, c0, c1, c2, c3, Lv.val]
def lvOf (x : Mv) : Lv := ⟨x.i, x.o, ((x.len / 16 : Nat) : Int), x.sa, x.len, x.cap, x.d⟩
set_option maxRecDepth 100000 in
set_option maxHeartbeats 4000000 in
theorem writeOf_any (x : Mv) (hl : x.len ≤ 4611686018427387904) (w : World) :
  Calls Tryz.prog 79 #[x.val] w fun e w' => e = .returned (lvOf x).val ∧ Kept [] w w' := by
 obtain ⟨xk, xi, xo, xm, xs, xa, xlen, xcap, xd⟩ := x
 simp only [Mv.val, lvOf] at *
 have hb0 := blk_new w 47 #[.int .i64 xk, .int .i64 xi, .int .i64 xo, .int .u64 (xm : Int), .bool xs, .slice xa xlen xcap]
 have k0 := kept_alloc [] w (.cells #[.int .i64 xk, .int .i64 xi, .int .i64 xo, .int .u64 (xm : Int), .bool xs, .slice xa xlen xcap] 47)
 have hz := zero_lw (w.alloc (.cells #[.int .i64 xk, .int .i64 xi, .int .i64 xo, .int .u64 (xm : Int), .bool xs, .slice xa xlen xcap] 47))
 rw [show (w.alloc (.cells #[.int .i64 xk, .int .i64 xi, .int .i64 xo, .int .u64 (xm : Int), .bool xs, .slice xa xlen xcap] 47)).heap.size = w.heap.size + 1 by simp] at hz
 have k1 := kept_alloc [] (w.alloc (.cells #[.int .i64 xk, .int .i64 xi, .int .i64 xo, .int .u64 (xm : Int), .bool xs, .slice xa xlen xcap] 47)) (.cells #[.int .i64 0, .int .i64 0, .int .i64 0, .slice none 0 0] 152)
 have hb1 := hb0.kept k1 (by simp)
 have c1 := (hb1.cell 1).trans (show _ = some (Value.int .i64 xi) from rfl)
 have c2 := (hb1.cell 2).trans (show _ = some (Value.int .i64 xo) from rfl)
 have c5 := (hb1.cell 5).trans (show _ = some (Value.slice xa xlen xcap) from rfl)
 have e1 : wrap64 (Int.tdiv (xlen : Int) 16) = ((xlen / 16 : Nat) : Int) := by
  have : Int.tdiv (xlen : Int) 16 = ((xlen / 16 : Nat) : Int) := rfl
  rw [this]
  simp [wrap64]
  omega
 go_enter Tryz.func79, Tryz.ntmps79
 go_wp2_with (first
  | (refine wpList_store_blk rfl 152 _ _ rfl (w.heap.size + 1) 152 _ [.int .i64 xi, .int .i64 xo, .int .i64 ((xlen / 16 : Nat) : Int), .slice xa xlen xcap] rfl rfl hz rfl size_lw (by simp [Value.oneCell']) ?_; intro w2 hb2 hk2 hz2))
 have hy : Kept [] w w2 := (k0.trans k1).young hk2 (Nat.le_succ _)
 exact bodyPost_ret (results_lw rfl _ _ _ ⟨xi, xo, ((xlen / 16 : Nat) : Int), xa, xlen, xcap, xd⟩ rfl hb2) rfl ⟨rfl, hy⟩
end Go.Proofs.YtoaeficfmcncjaaGreat.Mirror
namespace Go.Proofs.YtoaeficfmcncjaaGreat.Mirror
open Go.RowKit
open Math
open Flight (Fw Fv FlAt Off)
open Later (Lw Lv QAt Foot RowAt)
open Clash (Ow OwsAt)
open Pack (Ms Mv)
open Resync (MRow)

def mtV (m : Mr) (w : Lw) : Int := Clash.verd m.arb (ownsM m.fly) w.o w.l
def vE (V : Int) (m : Mr) (w : Lw) : Nat := if V = 0 then storeE m.d w else 0
def vP (V : Int) (w : Lw) : List Ms := if V = 0 then [msgOf 3 w] else if V = 1 then [msgOf 4 w] else if V = 2 then [msgOf 5 w] else []
def vS (V : Int) (m : Mr) (w : Lw) : Mr := if V = 0 then { m with d := storeS m.d w } else if V = 3 then { m with lat := m.lat ++ [w] } else m
def mtE (m : Mr) (w : Lw) : Nat := vE (mtV m w) m w
def mtP (m : Mr) (w : Lw) : List Ms := vP (mtV m w) w
def mtS (m : Mr) (w : Lw) : Mr := vS (mtV m w) m w
theorem verd_of (m : Mr) (w : Lw) : mtV m w = 0 ∨ mtV m w = 1 ∨ mtV m w = 2 ∨ mtV m w = 3 := by
 unfold mtV
 cases m.arb with
 | true =>
  show (if _ then (1 : Int) else if _ then 2 else 0) = 0 ∨ _
  split
  ·exact .inr (.inl (by simp_all [Clash.verd]))
  ·split
   ·exact .inr (.inr (.inl (by simp_all [Clash.verd])))
   ·exact .inl rfl
 | false =>
  show (if _ then (3 : Int) else 0) = 0 ∨ _
  split
  ·exact .inr (.inr (.inr (by simp_all [Clash.verd])))
  ·exact .inl rfl
theorem owns_at {W : World} {base : Nat} {v : Value} {L : List (Int × Fw)} (h : Flight.OwnOws 288 W base v (Flight.owsL L)) : ∃ a cap, v = .slice a L.length cap ∧ OwsAt W a L.length cap (ownsM L) := by
 obtain ⟨a, cap, e, hc, h0⟩ := h.open
 have hl : (Flight.owsL L).length = L.length := by simp [Flight.owsL]
 rw [hl] at e hc
 refine ⟨a, cap, e, by simp [ownsM], hc, ?_⟩
 rcases h0 with h0 | ⟨g, e1, _, hg, cur, hb, hcs⟩
 ·left
  rw [← hl, h0]
  rfl
 ·refine .inr ⟨g, 0, e1, hg, fun j x hj => fun c v hv => ?_⟩
  obtain ⟨y, hy, rfl⟩ : ∃ y, L[j]? = some y ∧ (⟨y.2.o, y.2.l, !decide (y.2.st = 1)⟩ : Ow) = x := by simpa [ownsM] using hj
  have hlt : c < 3 := by
   have := (List.getElem?_eq_some_iff.1 hv).1
   simpa [Ow.cells] using this
  have := hcs j ⟨y.2.o, y.2.l, !decide (y.2.st = 1)⟩ (by simp [Flight.owsL, hy]) c hlt
  rw [Nat.zero_add, hb.cell, this]
  exact hv
theorem row_one {W : World} {g base : Nat} {x : Lv} (h : Blk W g 152 #[.int .i64 x.id, .int .i64 x.o, .int .i64 x.l, .slice x.sa x.len x.cap]) (hb : base ≤ g) : RowAt 152 base W (.slice (some ⟨g, 0, none⟩) 1 1) [x] (some g) :=
 ⟨_, 1, rfl, Nat.le_refl _, by unfold maxLen; omega, .inr ⟨g, 0, _, rfl, rfl, hb, h, by simp, fun j y hj c hc => by
  have hj' : j = 0 := by
   have := (List.getElem?_eq_some_iff.1 hj).1
   simp at this
   omega
  subst hj'
  simp at hj
  subst hj
  simp [Lv.cells]⟩⟩
variable {lo m d b1 b2 : Nat} {K : List Nat} {M : Mr}
set_option maxRecDepth 100000 in
set_option maxHeartbeats 8000000 in
theorem meet_any (x : Lv) (w : World) (H : MiAt w lo m d b1 b2 K M) (hx : Bts w (K ++ [d, b1, b2]) (.slice x.sa x.len x.cap) x.bs) (hxl : x.bs.length ≤ 140737488351232) (hF : M.fly.length ≤ 600) (hL : M.lat.length ≤ 999999) (hops : M.d.ops ≤ 900000000000000) :
  Calls Tryz.prog 78 #[.pointer (some ⟨m, 0, none⟩), x.val] w fun e w' => ∃ v Q K', e = .returned (.tuple #[v, .int .i64 (mtE M x.lw : Nat)]) ∧ Told w.heap.size w' v (mtP M x.lw) Q ∧ Goes w w' lo m d b1 b2 K K' (mtS M x.lw) := by
 have HA := H
 obtain ⟨f, b, p, q, h, hi, F, gr, rfl, H⟩ := H
 obtain ⟨xid, xo, xl, xsa, xlen, xcap, xbs⟩ := x
 simp only [Lv.val] at *
 obtain ⟨W0, eW, hB0, k0, z0⟩ : ∃ W0, w.alloc (.cells #[.int .i64 xid, .int .i64 xo, .int .i64 xl, .slice xsa xlen xcap] 152) = W0 ∧ Blk W0 w.heap.size 152 #[.int .i64 xid, .int .i64 xo, .int .i64 xl, .slice xsa xlen xcap] ∧ Kept [] w W0 ∧ Hid (W0.heap.size = w.heap.size + 1) := ⟨_, rfl, blk_new w 152 _, kept_alloc [] w _, (by show _ = _; simp)⟩
 have kD := k0.trans (kept_drew [] W0)
 have H0 := H.kept kD (by simp) (clean_nil _)
 have hlo : lo ≤ w.heap.size := by have := (H.low m (by simp [own])); omega
 have q1 := Flight.own_any W0.drew H0.fly hF
 obtain ⟨N, hN⟩ : ∃ N, w.heap.size = N := ⟨_, rfl⟩
 rw [hN] at hB0
 have hbx := H0.box
 have hS : Hid (∀ (L : List Nat) W, m ∉ L → N ∉ L → Kept L W0.drew W → W.cell? ⟨m, 0, none⟩ = some (.pointer (some ⟨f, 0, none⟩)) ∧ W.cell? ⟨m, 1, none⟩ = some (.pointer (some ⟨q, 0, none⟩)) ∧ W.cell? ⟨m, 4, none⟩ = some (.bool M.arb) ∧ W.cell? ⟨N, 0, none⟩ = some (.int .i64 xid) ∧ W.cell? ⟨N, 1, none⟩ = some (.int .i64 xo) ∧ W.cell? ⟨N, 2, none⟩ = some (.int .i64 xl) ∧ W.cell? ⟨N, 3, none⟩ = some (.slice xsa xlen xcap)) := fun L W hm hn hk => by
  have e1 := hbx.kept hk hm
  have e2 := (hB0.kept (kept_drew [] W0) (by simp)).kept hk hn
  exact ⟨(e1.cell 0).trans rfl, (e1.cell 1).trans rfl, (e1.cell 4).trans rfl, (e2.cell 0).trans rfl, (e2.cell 1).trans rfl, (e2.cell 2).trans rfl, (e2.cell 3).trans rfl⟩
 have HH : Hid (MiAt W0.drew lo m d b1 b2 (own m f b q h F gr) M) := ⟨f, b, p, q, h, hi, F, gr, rfl, H0⟩
 have HO : Hid (MiOp W0.drew lo m d b1 b2 f b p q h hi F gr M) := H0
 have kw : Hid (Kept [] w W0.drew) := kD
 have hxd : Hid (Bts W0.drew (own m f b q h F gr ++ [d, b1, b2]) (.slice xsa xlen xcap) xbs) := hx.kept0 kD
 have hD : m ∉ [d, b1, b2] ∧ N ∉ [d, b1, b2] := by
  have h1 := H.lows.1
  have h2 := H.old
  have h3 := H.disk.lt
  simp
  omega
 have hQ : m ∉ q :: gr.toList ∧ N ∉ q :: gr.toList := by
  refine ⟨fun hm => (H.sepq m hm).1 rfl, fun hm => ?_⟩
  have := (H.low N (by simp only [own, List.mem_cons, List.mem_append, List.cons_append] at hm ⊢; rcases hm with h | h <;> simp [h])).2
  omega
 replace hD : Hid _ := hD
 replace hQ : Hid _ := hQ
 clear H H0 hB0 hbx k0 kD hx HA
 have hV := verd_of M ⟨xid, xo, xl, xbs⟩
 have eV : Clash.verd M.arb (ownsM M.fly) xo xl = mtV M ⟨xid, xo, xl, xbs⟩ := rfl
 show Calls Tryz.prog 78 _ w fun e w' => ∃ v Q K', e = .returned (.tuple #[v, .int .i64 (vE (mtV M ⟨xid, xo, xl, xbs⟩) M ⟨xid, xo, xl, xbs⟩ : Nat)]) ∧ Told w.heap.size w' v (vP (mtV M ⟨xid, xo, xl, xbs⟩) ⟨xid, xo, xl, xbs⟩) Q ∧ Goes w w' lo m d b1 b2 (own m f b q h F gr) K' (vS (mtV M ⟨xid, xo, xl, xbs⟩) M ⟨xid, xo, xl, xbs⟩)
 generalize mtV M ⟨xid, xo, xl, xbs⟩ = V at *
 go_enter Tryz.func78, Tryz.ntmps78
 go_wp2
 refine wp_region_held_drew (S := fun W => Kept [] W0.drew W) (by kernel_rfl) (Kept.refl _ _) (fun hP => ?_)
 have hH := hP
 clear hP
 refine tI (i := 0) (oi := ⟨some 6, _, _, _, _, _⟩) (v := (.pointer (some ⟨m, 0, none⟩))) rfl (fun W hSw => by go_simp) hH ?_
 refine tI (i := 1) (oi := ⟨some 7, _, _, _, _, _⟩) (v := (.pointer (some ⟨m, 0, none⟩))) rfl (fun W hSw => by go_simp) hH ?_
 refine tI (i := 2) (oi := ⟨some 8, _, _, _, _, _⟩) (v := (.pointer (some ⟨m, 4, none⟩))) rfl (fun W hSw => by go_simp) hH ?_
 refine tI (i := 3) (oi := ⟨some 9, _, _, _, _, _⟩) (v := (.bool M.arb)) rfl (fun W hSw => by obtain ⟨c0, c1, c4, s0, s1, s2, s3⟩ := hS.out _ _ (by simp) (by simp) (hSw); go_simp) hH ?_
 refine tI (i := 4) (oi := ⟨some 10, _, _, _, _, _⟩) (v := (.pointer (some ⟨m, 0, none⟩))) rfl (fun W hSw => by go_simp) hH ?_
 refine tI (i := 5) (oi := ⟨some 11, _, _, _, _, _⟩) (v := (.pointer (some ⟨m, 0, none⟩))) rfl (fun W hSw => by go_simp) hH ?_
 refine tI (i := 6) (oi := ⟨some 12, _, _, _, _, _⟩) (v := (.pointer (some ⟨m, 0, none⟩))) rfl (fun W hSw => by go_simp) hH ?_
 refine tI (i := 7) (oi := ⟨some 13, _, _, _, _, _⟩) (v := (.pointer (some ⟨f, 0, none⟩))) rfl (fun W hSw => by obtain ⟨c0, c1, c4, s0, s1, s2, s3⟩ := hS.out _ _ (by simp) (by simp) (hSw); go_simp) hH ?_
 refine tI (i := 9) (oi := ⟨some 15, _, _, _, _, _⟩) (v := (.pointer (some ⟨N, 1, none⟩))) rfl (fun W hSw => by go_simp) hH ?_
 refine tI (i := 10) (oi := ⟨some 16, _, _, _, _, _⟩) (v := (.agg #[.int .i64 xo, .int .i64 xl])) rfl (fun W hSw => by obtain ⟨c0, c1, c4, s0, s1, s2, s3⟩ := hS.out _ _ (by simp) (by simp) (hSw); go_simp) hH ?_
 refine wpAnyH_ready (rs := [8]) (by kernel_rfl) (by simp) ?_
 refine AllReadyH.cons (o := ⟨some 14, _, _, _, _, _⟩) rfl (fun K hK => ?_) AllReadyH.nil
 go_simp
 refine (q1).mono ?_
 rintro e w8 ⟨vo, rfl, hvo, hk1⟩
 go_wp2_with fail
 have hH1 := hH.trans (hk1.mono (by simp))
 refine hK.out _ _ hH1 (fun _ => ?_)
 replace hH := hH1
 clear hK K hH1
 obtain ⟨oa, ocap, rfl, hO⟩ := owns_at hvo
 try simp only [Act.put, List.setIfInBounds_toArray, List.set_cons_zero, List.set_cons_succ]
 refine wpAnyH_ready (rs := [11]) (by kernel_rfl) (by simp) ?_
 refine AllReadyH.cons (o := ⟨some 17, _, _, _, _, _⟩) rfl (fun K hK => ?_) AllReadyH.nil
 go_simp
 refine (Clash.verdict_any M.arb xo xl oa M.fly.length ocap (ownsM M.fly) (by omega) _ hO).mono ?_
 rintro e w11 ⟨rfl, hk2⟩
 go_wp2_with fail
 have hH1 := hH.trans (hk2.mono (by simp))
 refine hK.out _ _ hH1 (fun _ => ?_)
 replace hH := hH1
 clear hK K hH1
 try simp only [Act.put, List.setIfInBounds_toArray, List.set_cons_zero, List.set_cons_succ]
 refine wpAnyH_done (by kernel_rfl) ?_ _
 have kd : Kept [] W0.drew w11.drew := (hk1.trans hk2).trans (kept_drew [] w11)
 have kdd := kept_drew [] w11
 have kww : Hid (Kept [] w w11.drew) := kw.out.trans kd
 clear eV
 have q9 : ∀ (k : Int), k ≠ 2 → ∀ W g, Blk W g 152 #[.int .i64 xid, .int .i64 xo, .int .i64 xl, .slice xsa xlen xcap] → Calls Tryz.prog 72 #[.int .i64 k, .slice (some ⟨g, 0, none⟩) 1 1] W fun e w' => ∃ v Q, e = .returned v ∧ Told W.heap.size w' v ([msgOf k ⟨xid, xo, xl, xbs⟩]) Q ∧ Kept [] W w' := fun k hk W g hB =>
  tell_other k hk _ 1 1 [⟨xid, xo, xl, xsa, xlen, xcap, xbs⟩] 0 _ W (row_one hB (Nat.zero_le _)) (by simp)
 clear hH hvo hO q1 hk1 hk2
 rcases hV with rfl | rfl | rfl | rfl
 ·obtain ⟨E, hE⟩ : ∃ E, storeE M.d ⟨xid, xo, xl, xbs⟩ = E := ⟨_, rfl⟩
  have q10 : ∀ W, Kept [] w11.drew W → Calls Tryz.prog 73 #[.pointer (some ⟨m, 0, none⟩), .agg #[.int .i64 xid, .int .i64 xo, .int .i64 xl, .slice xsa xlen xcap]] W fun e w' => e = .returned (.int .i64 (E : Nat)) ∧ MiAt w' lo m d b1 b2 (own m f b q h F gr) { M with d := storeS M.d ⟨xid, xo, xl, xbs⟩ } ∧ Kept [d, b1, b2] W w' := fun W hk => by
   rw [← hE]
   exact store_any ⟨xid, xo, xl, xsa, xlen, xcap, xbs⟩ (own m f b q h F gr ++ [d, b1, b2]) W (HH.out.kept0 (kd.trans hk)) (fun k hk => List.mem_append.2 (.inr hk)) (hxd.out.kept0 (kd.trans hk)) hops
  have q9' := q9 3 (by decide)
  clear q9
  replace hE : Hid _ := hE
  go_wp2
  refine wp_region_held_drew (S := fun W => Kept [d, b1, b2] w11.drew W) (by kernel_rfl) (Kept.refl _ _) (fun hP => ?_)
  have hH := hP
  clear hP
  refine tI (i := 0) (oi := ⟨some 41, _, _, _, _, _⟩) (v := (.agg #[.int .i64 xid, .int .i64 xo, .int .i64 xl, .slice xsa xlen xcap])) rfl (fun W hSw => by obtain ⟨c0, c1, c4, s0, s1, s2, s3⟩ := hS.out _ _ hD.out.1 hD.out.2 ((kd.mono (by simp)).trans hSw); go_simp) hH ?_
  refine tI (i := 3) (oi := ⟨some 44, _, _, _, _, _⟩) (v := (.pointer (some ⟨m, 0, none⟩))) rfl (fun W hSw => by go_simp) hH ?_
  refine tI (i := 4) (oi := ⟨some 45, _, _, _, _, _⟩) (v := (.agg #[.int .i64 xid, .int .i64 xo, .int .i64 xl, .slice xsa xlen xcap])) rfl (fun W hSw => by obtain ⟨c0, c1, c4, s0, s1, s2, s3⟩ := hS.out _ _ hD.out.1 hD.out.2 ((kd.mono (by simp)).trans hSw); go_simp) hH ?_
  refine wpAnyH_ready (rs := [1]) (by kernel_rfl) (by simp) ?_
  refine AllReadyH.cons (o := ⟨some 42, _, _, _, _, _⟩) rfl (fun K hK => ?_) AllReadyH.nil
  go_simp
  have hH1 := hH.trans ((kept_alloc [] _ (.cells #[.int .i64 xid, .int .i64 xo, .int .i64 xl, .slice xsa xlen xcap] 152)).mono (by simp))
  refine hK.out _ _ hH1 (fun _ => ?_)
  replace hH := hH1
  clear hK K hH1
  have kA := kept_alloc [] w11.drew (.cells #[.int .i64 xid, .int .i64 xo, .int .i64 xl, .slice xsa xlen xcap] 152)
  have hB1 := blk_new w11.drew 152 #[.int .i64 xid, .int .i64 xo, .int .i64 xl, .slice xsa xlen xcap]
  try simp only [Act.put, List.setIfInBounds_toArray, List.set_cons_zero, List.set_cons_succ]
  refine wpAnyH_ready (rs := [2]) (by kernel_rfl) (by simp) ?_
  refine AllReadyH.cons (o := ⟨some 43, _, _, _, _, _⟩) rfl (fun K hK => ?_) AllReadyH.nil
  go_simp
  refine (q9' _ _ hB1).mono ?_
  rintro e w9 ⟨vt, Q9, rfl, hT9, hk9⟩
  go_wp2_with fail
  have hH1 := hH.trans (hk9.mono (by simp))
  refine hK.out _ _ hH1 (fun _ => ?_)
  replace hH := hH1
  clear hK K hH1
  have kB := kA.trans hk9
  try simp only [Act.put, List.setIfInBounds_toArray, List.set_cons_zero, List.set_cons_succ]
  refine wpAnyH_ready (rs := [5]) (by kernel_rfl) (by simp) ?_
  refine AllReadyH.cons (o := ⟨some 46, _, _, _, _, _⟩) rfl (fun K hK => ?_) AllReadyH.nil
  go_simp
  refine (q10 _ kB).mono ?_
  rintro e w10 ⟨rfl, hM10, hk10⟩
  go_wp2_with fail
  have hH1 := hH.trans hk10
  refine hK.out _ _ hH1 (fun _ => ?_)
  replace hH := hH1
  clear hK K hH1
  try simp only [Act.put, List.setIfInBounds_toArray, List.set_cons_zero, List.set_cons_succ]
  refine tI (i := 6) (oi := ⟨some 4, _, _, _, _, _⟩) (v := vt) rfl (fun W hSw => by go_simp) hH ?_
  refine tI (i := 7) (oi := ⟨some 5, _, _, _, _, _⟩) (v := (.int .i64 (E : Nat))) rfl (fun W hSw => by go_simp) hH ?_
  refine wpAnyH_done (by kernel_rfl) ?_ _
  go_wp2
  go_ret2
  have hgo : w.heap.size ≤ w9.heap.size := Nat.le_trans kww.out.size kB.size
  have hT : Told w.heap.size w10 vt [msgOf 3 ⟨xid, xo, xl, xbs⟩] Q9 := by
   refine (hT9.kept hk10 (fun k hk hm => ?_) (disk_clean (HH.out.kept0 (kd.trans kB)).disk)).low (Nat.le_trans kww.out.size kA.size)
   have h1 := (hT9.row.lt k hk).1
   have h2 := kA.size
   have h3 := kww.out.size
   have h4 := HH.out.low.2
   simp at hm
   omega
  have hEE := hE.out
  clear hE
  subst hEE
  exact ⟨vt, Q9, _, rfl, hT, Goes.of hM10 (((kww.out.trans kB).mono (by simp)).trans (hk10.mono fun k hk => List.mem_append.2 (.inr hk)))⟩
 ·obtain ⟨c0, c1, c4, s0, s1, s2, s3⟩ := hS.out [] w11 (by simp) (by simp) ((kd.trans (kept_undrew _)))
  have q9' := q9 4 (by decide) _ _ (blk_new w11 152 #[.int .i64 xid, .int .i64 xo, .int .i64 xl, .slice xsa xlen xcap])
  have kz := kept_alloc [] w11 (.cells #[.int .i64 xid, .int .i64 xo, .int .i64 xl, .slice xsa xlen xcap] 152)
  clear q9
  go_wp2_with (first
   | (go_at_call 72; refine q9'.mono ?_; rintro e w12 ⟨vt, Q12, rfl, hT12, hk12⟩))
  go_ret2
  have hz : Kept [] w w12 := (kww.out.trans (kept_undrew _)).trans (kz.trans hk12)
  exact ⟨vt, Q12, _, rfl, hT12.low (Nat.le_trans (kww.out.trans (kept_undrew _)).size kz.size), Goes.of ((HH.out.kept0 (kd.trans (kept_undrew _))).kept0 (kz.trans hk12)) (hz.mono (by simp))⟩
 ·obtain ⟨c0, c1, c4, s0, s1, s2, s3⟩ := hS.out [] w11 (by simp) (by simp) ((kd.trans (kept_undrew _)))
  have q9' := q9 5 (by decide) _ _ (blk_new w11 152 #[.int .i64 xid, .int .i64 xo, .int .i64 xl, .slice xsa xlen xcap])
  have kz := kept_alloc [] w11 (.cells #[.int .i64 xid, .int .i64 xo, .int .i64 xl, .slice xsa xlen xcap] 152)
  clear q9
  go_wp2_with (first
   | (go_at_call 72; refine q9'.mono ?_; rintro e w12 ⟨vt, Q12, rfl, hT12, hk12⟩))
  go_ret2
  have hz : Kept [] w w12 := (kww.out.trans (kept_undrew _)).trans (kz.trans hk12)
  exact ⟨vt, Q12, _, rfl, hT12.low (Nat.le_trans (kww.out.trans (kept_undrew _)).size kz.size), Goes.of ((HH.out.kept0 (kd.trans (kept_undrew _))).kept0 (kz.trans hk12)) (hz.mono (by simp))⟩
 ·have hOd := HO.out.kept kd (by simp) (clean_nil _)
  have hbd := (hxd.out.kept0 kd).lt
  have q7 := Later.push_any xid xo xl w11.drew hOd.lat hL (.slice xsa xlen xcap) _ xbs hbd (Nat.le_refl _) hxl
  clear q9
  go_wp2
  refine wp_region_held_drew (S := fun W => Kept (q :: gr.toList) w11.drew W) (by kernel_rfl) (Kept.refl _ _) (fun hP => ?_)
  have hH := hP
  clear hP
  refine tI (i := 0) (oi := ⟨some 30, _, _, _, _, _⟩) (v := (.pointer (some ⟨m, 0, none⟩))) rfl (fun W hSw => by go_simp) hH ?_
  refine tI (i := 1) (oi := ⟨some 31, _, _, _, _, _⟩) (v := (.pointer (some ⟨m, 0, none⟩))) rfl (fun W hSw => by go_simp) hH ?_
  refine tI (i := 2) (oi := ⟨some 32, _, _, _, _, _⟩) (v := (.pointer (some ⟨m, 1, none⟩))) rfl (fun W hSw => by go_simp) hH ?_
  refine tI (i := 3) (oi := ⟨some 33, _, _, _, _, _⟩) (v := (.pointer (some ⟨q, 0, none⟩))) rfl (fun W hSw => by obtain ⟨c0, c1, c4, s0, s1, s2, s3⟩ := hS.out _ _ hQ.out.1 hQ.out.2 ((kd.mono (by simp)).trans hSw); go_simp) hH ?_
  refine tI (i := 4) (oi := ⟨some 34, _, _, _, _, _⟩) (v := (.pointer (some ⟨N, 0, none⟩))) rfl (fun W hSw => by go_simp) hH ?_
  refine tI (i := 5) (oi := ⟨some 35, _, _, _, _, _⟩) (v := (.int .i64 xid)) rfl (fun W hSw => by obtain ⟨c0, c1, c4, s0, s1, s2, s3⟩ := hS.out _ _ hQ.out.1 hQ.out.2 ((kd.mono (by simp)).trans hSw); go_simp) hH ?_
  refine tI (i := 6) (oi := ⟨some 36, _, _, _, _, _⟩) (v := (.pointer (some ⟨N, 1, none⟩))) rfl (fun W hSw => by go_simp) hH ?_
  refine tI (i := 7) (oi := ⟨some 37, _, _, _, _, _⟩) (v := (.agg #[.int .i64 xo, .int .i64 xl])) rfl (fun W hSw => by obtain ⟨c0, c1, c4, s0, s1, s2, s3⟩ := hS.out _ _ hQ.out.1 hQ.out.2 ((kd.mono (by simp)).trans hSw); go_simp) hH ?_
  refine tI (i := 8) (oi := ⟨some 38, _, _, _, _, _⟩) (v := (.pointer (some ⟨N, 3, none⟩))) rfl (fun W hSw => by go_simp) hH ?_
  refine tI (i := 9) (oi := ⟨some 39, _, _, _, _, _⟩) (v := (.slice xsa xlen xcap)) rfl (fun W hSw => by obtain ⟨c0, c1, c4, s0, s1, s2, s3⟩ := hS.out _ _ hQ.out.1 hQ.out.2 ((kd.mono (by simp)).trans hSw); go_simp) hH ?_
  refine wpAnyH_ready (rs := [10]) (by kernel_rfl) (by simp) ?_
  refine AllReadyH.cons (o := ⟨some 40, _, _, _, _, _⟩) rfl (fun K hK => ?_) AllReadyH.nil
  go_simp
  refine (q7).mono ?_
  rintro e w10 ⟨rfl, gr7, hQ7, hk7, hn7⟩
  go_wp2_with fail
  have hH1 := hH.trans hk7
  refine hK.out _ _ hH1 (fun _ => ?_)
  replace hH := hH1
  clear hK K hH1
  try simp only [Act.put, List.setIfInBounds_toArray, List.set_cons_zero, List.set_cons_succ]
  refine wpAnyH_done (by kernel_rfl) ?_ _
  go_wp2
  go_ret2
  obtain ⟨g1, g2, g3⟩ := hOd.waits hQ7 hn7 hk7
  exact ⟨_, [], _, rfl, Told.nil _ _, ⟨⟨_, _, _, _, _, _, _, _, rfl, g1⟩, fun k hk => (g2 k hk).imp id fun h => Nat.le_trans kww.out.size h, ((kww.out.mono (by simp)).trans (g3.mono fun k hk => List.mem_append.2 (.inl hk)))⟩⟩
end Go.Proofs.YtoaeficfmcncjaaGreat.Mirror
