/-
 The walk of data.Write that is done, sector by sector.
-/
import Derived.Test.YtoaeficfmcncjaaGreatM34
import Derived.Test.YtoaeficfmcncjaaGreatM18
namespace Go.Proofs.YtoaeficfmcncjaaGreat
open Go.RowKit Go.Maps Go.Shelf
open Math
attribute [local go_sem] Oper.semAt_some
theorem WBox.tell {W : World} {n d : Nat} {o l : Int} {v r : Value} (h : WBox W n d o l v r) (r' : Value) : WBox (W.setCell ⟨n + 3, 0, none⟩ r') n d o l v r' := by
 have hk := kept_set (L := [n + 3]) (g := n + 3) (by simp) W 0 r'
 exact ⟨h.b0.kept hk (by simp), h.b1.kept hk (by simp), h.b2.kept hk (by simp), h.b3.set 0 r'⟩
set_option maxRecDepth 100000 in
set_option maxHeartbeats 4000000 in
theorem dWrite_in (m : Nat) (hm : 3 ≤ m) (d b1 b2 : Nat) (s : Dk) (o n : Nat) (bs : List Nat) (g off cap : Nat) (w : World) (h : DiskAt w d b1 b2 s) (hg : Span.Math.good (o : Int) (n : Int) (dataN s : Nat) = true) (hlen : bs.length = 16 * n) (hbs : ∀ b ∈ bs, b < 256) (hcap : 16 * n ≤ cap)
  (hgw : g < w.heap.size) (hgd : g ∉ [d, b1, b2]) (hc : ∀ j, j < 16 * n → w.cell? ⟨g, off + j, none⟩ = some (.int .u8 ((bs[j]?.getD 0 : Nat) : Int))) (hops : s.ops ≤ 900000000000000) :
  CallsIn Fence.wide m Tryz.prog 133 #[.pointer (some ⟨d, 0, none⟩), .agg #[.int .i64 (o : Int), .int .i64 (n : Int)], .slice (some ⟨g, off, none⟩) (16 * n) cap] w fun e w' =>
   e = .returned (.int .i64 (if (wroteL s o bs (List.range n)).broken then 3 else 0)) ∧ DiskAt w' d b1 b2 (wroteL s o bs (List.range n)) ∧ Kept [d, b1, b2] w w' := by
 have h1m : 1 ≤ m := by omega
 have hro : Fence.wide.round = none := rfl
 have hgo := good_of hg
 obtain ⟨E, hE⟩ : ∃ E : Int, (if (wroteL s o bs (List.range n)).broken then (3 : Int) else 0) = E := ⟨_, rfl⟩
 rw [hE]
 replace hE : Hid _ := hE
 have hb := wbox_new w d o n (.slice (some ⟨g, off, none⟩) (16 * n) cap) (.int .i64 0)
 have hk : Kept [] w ((((w.alloc (.cells #[.pointer (some ⟨d, 0, none⟩)] 27)).alloc (.cells #[.int .i64 (o : Int), .int .i64 (n : Int)] 44)).alloc (.cells #[.slice (some ⟨g, off, none⟩) (16 * n) cap] 45)).alloc (.cells #[.int .i64 0] 28)) :=
  (((kept_alloc [] _ _).trans (kept_alloc [] _ _)).trans (kept_alloc [] _ _)).trans (kept_alloc [] _ _)
 have q := dfind_any d b1 b2 s o n _ (h.kept hk (by simp) (by simp) (by simp))
 rw [hg, if_pos rfl] at q
 have hne : (((16 * n : Nat) : Int) != (n : Int) * 16) = false := by simp; omega
 have q2 := fun W => dsize_any o n (by omega) (by omega) W
 refine callsIn_of_wp_marks Tryz.func133 rfl trivial ?_ hro
 simp only [Tryz.ntmps133, List.size_toArray, List.length_cons, List.length_nil, Nat.reduceAdd, Nat.reduceSub, Array.replicate_succ, Array.replicate_zero, List.push_toArray, List.append_toArray, List.nil_append, List.cons_append]
 obtain ⟨L, hL⟩ : ∃ L, 16 * n = L := ⟨_, rfl⟩
 rw [hL] at hne q hb hk hcap hc ⊢
 replace hL : Hid _ := hL
 have hmx : Tryz.prog.follows .mixedOrders = true := by kernel_rfl
 gi_upto_region 4 with (refine ⟨trivial, ?_⟩; gi_at_call 85; refine (callsIn_wide.2 q).mono ?_; rintro e w1 ⟨rfl, hk1⟩; have hb1 := hb.kept hk1 (by simp); obtain ⟨c0, c1, c2, c3, c4, f4⟩ := hb1.cells)
 gi_cut [22] from 18 (fun r W => r = .bool false ∧ WBox W w.heap.size d o n (.slice (some ⟨g, off, none⟩) L cap) (.int .i64 0) ∧ Kept [] w W)
 case first =>
  first | gi_region_with_o (refine ⟨trivial, ?_⟩; gi_at_call 86; refine (callsIn_wide.2 (q2 _)).mono ?_; rintro e w2 ⟨rfl, hk2⟩; have hb2 := (hb1.kept (kept_drew [] w1) (by simp)).kept hk2 (by simp); obtain ⟨g0, g1, g2, g3, g4, e4⟩ := hb2.cells) | fail
  all_goals (try gi_wp2)
  all_goals gi_meet
  all_goals exact ⟨rfl, hb2, ((hk.trans hk1).trans (kept_drew [] _)).trans hk2⟩
 case rest =>
  obtain ⟨rfl, hb2, hk2⟩ := hcut
  obtain ⟨g0, g1, g2, g3, g4, e4⟩ := hb2.cells
  gi_wp2_with (refine ⟨trivial, ?_⟩; gi_at_call 87; refine (callsIn_wide.2 (dsectors_any _ _ _)).mono ?_; rintro e w3 ⟨rfl, rfl⟩)
  obtain ⟨W0, hW0⟩ : ∃ W0, wc.alloc (.cells #[.int .i64 (o : Int), .int .i64 (n : Int)] 44) = W0 := ⟨_, rfl⟩
  have hkW : Kept [] w W0 := hW0 ▸ hk2.trans (kept_alloc [] _ _)
  have hbW : WBox W0 w.heap.size d o n (.slice (some ⟨g, off, none⟩) L cap) (.int .i64 0) := hW0 ▸ hb2.kept (kept_alloc [] _ _) (by simp)
  have hdW : DiskAt W0 d b1 b2 s := h.kept hkW (by simp) (by simp) (by simp)
  have hbox : Blk W0 wc.heap.size 44 #[.int .i64 (o : Int), .int .i64 (n : Int)] := hW0 ▸ blk_new wc _ _
  have hBn : w.heap.size + 4 ≤ wc.heap.size := hb2.lt
  rw [hW0]
  clear g0 g1 g2 g3 g4 e4 hb2 hk2 c0 c1 c2 c3 c4 f4 hb1 hk1 hb hk q q2 hne hW0
  obtain ⟨Bs, hBs⟩ : ∃ Bs, wc.heap.size = Bs := ⟨_, rfl⟩
  rw [hBs] at hbox hBn ⊢
  clear hBs
  have hlt0 := h.lt
  have hltW := hdW.lt
  have hltB := hbox.lt
  have hltX := hbW.lt
  refine wpIn_rangeFunc_ownG hro h1m (gf := 150) (lb := #[.pointer (some ⟨Bs, 0, none⟩)]) rfl trivial (enters_of Tryz.func150 (by kernel_rfl) rfl)
   (sectors_stops Fence.wide (m - 1) trivial hro (by omega) Bs o n (by omega) (by omega) W0 hbox) sameAt_t (sameAt_b hltB) (Below.refl _ _) (fun _ => rfl)
   (fun pre W => WMid W0 W w.heap.size d b1 b2 o n (.slice (some ⟨g, off, none⟩) L cap) (.int .i64 0) (wroteL s o bs (pre.map (· % n))) ∧ (pre ≠ [] → (wroteL s o bs (pre.map (· % n))).broken = false))
   (fun c pre W => c = .ret ∧ WMid W0 W w.heap.size d b1 b2 o n (.slice (some ⟨g, off, none⟩) L cap) (.int .i64 3) (wroteL s o bs (pre.map (· % n))) ∧ (wroteL s o bs (pre.map (· % n))).broken = true)
   (fun pre A B row hs hg hr => ⟨hs.1.grown hltX hltW hg (fun r e => (hr r e).1), hs.2⟩)
   (fun c pre A B row hs hg hr => ⟨hs.1, hs.2.1.grown hltX hltW hg (fun r e => (hr r e).1), hs.2.2⟩)
   ⟨⟨hbW, by simpa [wroteL] using hdW, Kept.refl _ _⟩, by simp⟩
   (fun x => { tmps := #[.pointer (some ⟨d, 0, none⟩), .agg #[.int .i64 (o : Int), .int .i64 (n : Int)], .slice (some ⟨g, off, none⟩) L cap, .pointer (some ⟨w.heap.size, 0, none⟩), .pointer (some ⟨w.heap.size + 1, 0, none⟩), .pointer (some ⟨w.heap.size + 1 + 1, 0, none⟩), .pointer (some ⟨w.heap.size + 1 + 1 + 1, 0, none⟩), .int .i64 0,
    .int .i64 (8 + (o : Int) + ((x % n : Nat) : Int)), .int .i64 (((x % n : Nat) : Int) * 16), undef, undef, .pointer (some ⟨d, 0, none⟩), .agg #[.int .i64 (o : Int), .int .i64 (n : Int)], .int .i64 0, .int .i64 0, .bool false, undef, u18, u19, u20, u21, .bool false, .agg #[.int .i64 (o : Int), .int .i64 (n : Int)],
    .func (.func 150) #[] #[.pointer (some ⟨Bs, 0, none⟩)], .int .i64 (8 + (o : Int) + ((x % n : Nat) : Int)), .int .i64 (((x % n : Nat) : Int) * 16), u27, u28, u29, u30, u31, u32, u33, u34, u35, u36, u37, u38], defers := [] }) ?assign ?body ?done ?stop
  case assign =>
   intro l x W K hK
   simp only [encS]
   gi_wp2
   exact hK
  case body =>
   rintro l pre x W ⟨hM, hnb⟩ hlt
   obtain ⟨i, hi⟩ : ∃ i, x % n = i := ⟨_, rfl⟩
   have hin : i < n := hi ▸ Nat.mod_lt _ (by omega)
   obtain ⟨c0, c1, c2, c3, c4, f4⟩ := hM.box.cells
   have hd2 : 1 ≤ m - 1 - 1 := by omega
   rw [hi]
   have k1 : (i : Int) * 16 ≤ (L : Int) := by have := hL.out; omega
   have k2 : ¬ (cap = i * 16) := by have := hL.out; omega
   have hA : Arr (W.alloc (.cells #[.int .u8 0, .int .u8 0, .int .u8 0, .int .u8 0, .int .u8 0, .int .u8 0, .int .u8 0, .int .u8 0, .int .u8 0, .int .u8 0, .int .u8 0, .int .u8 0, .int .u8 0, .int .u8 0, .int .u8 0, .int .u8 0] 113)) W.heap.size 113 nought := arr_new W 113 nought
   have hM1 := (hM.box.kept (kept_alloc [] _ (.cells #[.int .u8 0, .int .u8 0, .int .u8 0, .int .u8 0, .int .u8 0, .int .u8 0, .int .u8 0, .int .u8 0, .int .u8 0, .int .u8 0, .int .u8 0, .int .u8 0, .int .u8 0, .int .u8 0, .int .u8 0, .int .u8 0] 113)) (by simp)).kept (kept_drew [] _) (by simp)
   obtain ⟨x0, x1, x2, x3, x4, y4⟩ := hM1.cells
   have hsec := sec_piece hbs hlen hin
   have hgk : W.cell? = W.cell? := rfl
   obtain ⟨V, hcp, hA2, hkc, hzc⟩ := run_copy_arr (off := 0) (l := piece bs i) hA.drew g (off + i * 16) 16 16 (L - i * 16) (cap - i * 16) 3 (by rw [hsec.1]; have := hL.out; exact (Nat.min_eq_right (by omega)).symm) (by rw [hsec.1]; decide) (fun j hj => by
    rw [hsec.1] at hj
    have hgW : g < W0.heap.size := Nat.lt_of_lt_of_le hgw hkW.size
    have hkk := ((hM.kept.trans (kept_alloc _ _ (.cells #[.int .u8 0, .int .u8 0, .int .u8 0, .int .u8 0, .int .u8 0, .int .u8 0, .int .u8 0, .int .u8 0, .int .u8 0, .int .u8 0, .int .u8 0, .int .u8 0, .int .u8 0, .int .u8 0, .int .u8 0, .int .u8 0] 113))).trans (kept_drew _ _)).block g hgW (by simp at hgd ⊢; omega)
    rw [World.cell?_of_block (hkk.trans (hkW.block g hgw (by simp))), piece_get hj, Nat.add_assoc, show i * 16 + j = 16 * i + j by omega]
    exact hc _ (by have := hL.out; omega))
   rw [hsec.1] at hcp
   replace hzc : Hid _ := hzc
   have hov : over nought 0 (piece bs i) = piece bs i := by
    have := hsec.1
    simp [over, this, nought]
   rw [hov] at hA2
   have hkV : Kept [] W V := ((kept_alloc [] _ _).trans (kept_drew [] _)).young hkc (by simp)
   have hbV := hM.box.kept hkV (by simp)
   have hdV := hM.disk.kept hkV (by simp) (by simp) (by simp)
   obtain ⟨v0, v1, v2, v3, v4, z4⟩ := hbV.cells
   obtain ⟨St, hSt⟩ : ∃ St, wroteL s o bs (pre.map (· % n)) = St := ⟨_, rfl⟩
   have hSn : wroteL s o bs ((pre ++ [x]).map (· % n)) = wroteS St (spot o i) (piece bs i) := by rw [List.map_append, List.map_cons, List.map_nil, hi, wroteL_snoc, hSt]
   rw [hSt] at hdV hM
   have hops2 : St.ops ≤ 1000000000000000 := by
    rw [← hSt]
    refine Nat.le_trans (wroteL_ops _ _ _ _) ?_
    have := h.valid.top
    simp [dataN] at hgo
    simp
    omega
   have hins : inside St (spot o i) = true := by
    have := inside_spot (s := s) hg (i := i) (by omega)
    rw [← hSt]
    simp only [inside, wroteL_size] at this ⊢
    simpa using this
   have hq := write_any d b1 b2 St (spot o i) (piece bs i) hsec hops2 V hdV
   rw [wroteE_inside (piece bs i) hins] at hq
   rw [show spot o i = 8 + (o : Int) + (i : Int) by simp [spot]] at hq
   rw [show spot o i = 8 + (o : Int) + (i : Int) by simp [spot]] at hSn
   generalize wroteS St (8 + (o : Int) + (i : Int)) (piece bs i) = Sn at *
   simp only [arr] at hq
   have hlenP : Hid ((piece bs i).length = 16) := hsec.1
   have hSn' : Hid _ := hSn
   have hA2' : Hid _ := hA2
   clear hsec hov hSt hins hops2 hA hM1 x0 x1 x2 x4 y4 hdV
   gi_wp2
   gi_cut [] from 27 (fun Wc => Wc = V)
   case first =>
    first | gi_region_with_o (fail) | fail
    all_goals (try gi_wp2)
    all_goals gi_meet
    all_goals rfl
   case rest =>
    obtain rfl := hcut
    cases hbr : Sn.broken with
    | true =>
     rw [hbr, if_pos rfl] at hq
     gi_wp2_with (first
      | refine wpListIn_load_arr rfl _ rfl W.heap.size 113 (piece bs i) rfl hA2'.out hlenP.out ?_
      | (refine ⟨trivial, ?_⟩; gi_at_call 194; refine (CallsIn.inRound l (callsIn_wide.2 hq)).mono ?_; rintro e w5 ⟨rfl, hD5, hk5⟩; have hb5 := hbV.kept hk5 (by simp; omega); obtain ⟨-, -, -, -, t4, r4⟩ := hb5.cells))
     have hkS := kept_set (L := [w.heap.size + 3]) (g := w.heap.size + 3) (by simp) w5 0 (.int .i64 3)
     have hkT : Kept [d, b1, b2, w.heap.size + 3] W (w5.setCell ⟨w.heap.size + 3, 0, none⟩ (.int .i64 3)) := ((hkV.mono (by simp)).trans (hk5.mono (by simp))).trans (hkS.mono (by simp))
     refine ⟨hkT.keepsFrom (by simp; omega), rfl, ?_, by rw [hSn'.out]; exact hbr⟩
     rw [hSn'.out]
     exact ⟨hb5.tell _, hD5.kept hkS (by simp; omega) (by simp; omega) (by simp; omega), hM.kept.trans hkT⟩
    | false =>
     rw [hbr, if_neg (by simp)] at hq
     gi_wp2_with (first
      | refine wpListIn_load_arr rfl _ rfl W.heap.size 113 (piece bs i) rfl hA2'.out hlenP.out ?_
      | (refine ⟨trivial, ?_⟩; gi_at_call 194; refine (CallsIn.inRound l (callsIn_wide.2 hq)).mono ?_; rintro e w5 ⟨rfl, hD5, hk5⟩; have hb5 := hbV.kept hk5 (by simp; omega)))
     have hkT : Kept [d, b1, b2] W w5 := (hkV.mono (by simp)).trans hk5
     refine ⟨hkT.keepsFrom (by simp; omega), hkT.sameAt (by have := hM.kept.size; omega) (by simp; omega), ?_, fun _ => by rw [hSn'.out]; exact hbr⟩
     rw [hSn'.out]
     exact ⟨hb5, hD5, hM.kept.trans (hkT.mono (by simp))⟩
  case done =>
   rintro D ys W hD rfl ⟨hM, hnb⟩ hK
   rw [mods_range n n (Nat.le_refl _)] at hM hnb
   have hbf := hnb (by simp; omega)
   obtain ⟨-, -, -, -, c4, f4⟩ := hM.box.cells
   gi_wp2
   have hkS := kept_set (L := [w.heap.size + 3]) (g := w.heap.size + 3) (by simp) W 0 (.int .i64 0)
   have hlD := (Array.getElem?_eq_some_iff.1 hK).1
   have hK' : (W.setCell ⟨w.heap.size + 3, 0, none⟩ (.int .i64 0)).heap[D]? = some (.deferred (some [])) := (hkS.block D hlD (by simp; omega)).trans hK
   refine ⟨by simp, .inl ⟨_, _, rfl, run_takeDeferred hK', ?_⟩⟩
   have hkP := kept_put (W := W.setCell ⟨w.heap.size + 3, 0, none⟩ (.int .i64 0)) (D := D) (.deferred none)
   have hbP := (hM.box.tell (.int .i64 0)).kept hkP (by simp; omega)
   have hdP := (hM.disk.kept hkS (by simp; omega) (by simp; omega) (by simp; omega)).kept hkP (by simp; omega) (by simp; omega) (by simp; omega)
   refine ⟨.int .i64 0, results_errno rfl _ _ (w.heap.size + 3) _ rfl (hbP.b3.cell 0), by rw [← hE.out, hbf]; rfl, hdP, ?_⟩
   exact (((hkW.mono (by simp)).youngs hM.kept (by simp)).youngs hkS (by simp)).youngs hkP (by simp; omega)
  case stop =>
   rintro D c pre W hD ⟨k, hk, rfl⟩ ⟨rfl, hM, hbr⟩ hK
   rw [mods_range n k hk] at hM hbr
   have hall : wroteL s o bs (List.range n) = wroteL s o bs (List.range k) := by
    have e : List.range n = List.range k ++ (List.range (n - k)).map (k + ·) := by
     rw [← List.range_add]
     congr 1
     omega
    rw [e, wroteL_append, wroteL_broken hbr]
   have hE3 := hE.out
   rw [hall, hbr, if_pos rfl] at hE3
   replace hE3 : Hid _ := hE3
   gi_wp2
   refine ⟨by simp, .inl ⟨_, _, rfl, run_takeDeferred hK, ?_⟩⟩
   have hkP := kept_put (W := W) (D := D) (.deferred none)
   have hbP := hM.box.kept hkP (by simp; omega)
   have hdP := hM.disk.kept hkP (by simp; omega) (by simp; omega) (by simp; omega)
   refine ⟨.int .i64 3, results_errno rfl _ _ (w.heap.size + 3) _ rfl (hbP.b3.cell 0), by rw [← hE3.out], by rw [hall]; exact hdP, ?_⟩
   exact ((hkW.mono (by simp)).youngs hM.kept (by simp)).youngs hkP (by simp; omega)
set_option maxRecDepth 100000 in
theorem dWrite_any (d b1 b2 : Nat) (s : Dk) (o l : Int) (v : Value) (bs : List Nat) (lo hi : Nat) (w : World) (h : DiskAt w d b1 b2 s) (hops : s.ops ≤ 900000000000000) (hR : ByteRow lo hi w v bs) (hhi : hi ≤ w.heap.size) (hap : ∀ k ∈ [d, b1, b2], k < lo ∨ hi ≤ k) :
  Calls Tryz.prog 133 #[.pointer (some ⟨d, 0, none⟩), .agg #[.int .i64 o, .int .i64 l], v] w fun e w' => e = .returned (.int .i64 (areaE s o l bs : Nat)) ∧ DiskAt w' d b1 b2 (areaS s o l bs) ∧ Kept [d, b1, b2] w w' := by
 obtain ⟨hb, a, cap, rfl, hn, hrow⟩ := hR
 unfold areaE areaS
 cases hg : Span.Math.good o l (dataN s : Nat) with
 | false =>
  simp only [Bool.false_eq_true, if_false]
  exact (dWrite_range d b1 b2 s o l a _ cap w h hg).mono fun e w' ⟨he, hk⟩ => ⟨he, h.kept hk (by simp) (by simp) (by simp), hk.mono (by simp)⟩
 | true =>
  simp only [if_true]
  by_cases hl : (bs.length : Int) = 16 * l
  ·rw [if_pos hl, if_pos hl]
   have hgo := good_of hg
   obtain ⟨p, rfl⟩ : ∃ p : Nat, o = p := ⟨o.toNat, by omega⟩
   obtain ⟨n, rfl⟩ : ∃ n : Nat, l = n := ⟨l.toNat, by omega⟩
   have hlen : bs.length = 16 * n := by omega
   rcases hrow with rfl | ⟨g, off, rfl, hc1, hc2, hc3, hc⟩
   ·simp at hlen
    omega
   rw [hlen] at hc hc1
   have := callsIn_wide.1 (dWrite_in 3 (Nat.le_refl _) d b1 b2 s p n bs g off cap w h hg hlen hb hc1 (by omega) (fun hm => by have := hap g hm; omega) hc hops)
   rw [hlen]
   refine this.mono fun e w' ⟨he, hd, hk⟩ => ⟨?_, hd, hk⟩
   rw [he]
   simp only [Int.toNat_natCast]
   by_cases hq : (wroteL s p bs (List.range n)).broken = true <;> simp [hq]
  ·rw [if_neg hl, if_neg hl]
   exact (dWrite_arg d b1 b2 s o l a _ cap w h hg hl).mono fun e w' ⟨he, hk⟩ => ⟨he, h.kept hk (by simp) (by simp) (by simp), hk.mono (by simp)⟩
end Go.Proofs.YtoaeficfmcncjaaGreat
namespace Go.Proofs.YtoaeficfmcncjaaGreat.Pack
open Go.RowKit
open Seal (enc)
def ByteRow (lo hi : Nat) (W : World) (v : Value) (bs : List Nat) : Prop :=
 (∀ b ∈ bs, b < 256) ∧ ∃ a cap, v = .slice a bs.length cap ∧ (a = none → cap = 0) ∧ (bs = [] ∨ ∃ g off, a = some ⟨g, off, none⟩ ∧ bs.length ≤ cap ∧ lo ≤ g ∧ g < hi ∧ ∀ j, j < bs.length → W.cell? ⟨g, off + j, none⟩ = some (.int .u8 ((bs[j]?.getD 0 : Nat) : Int)))
theorem ByteRow.kept {L : List Nat} {A B : World} {lo hi : Nat} {v : Value} {bs : List Nat} (h : ByteRow lo hi A v bs) (hh : hi ≤ A.heap.size) (hK : Kept L A B) (hL : ∀ k ∈ L, k < lo ∨ hi ≤ k) : ByteRow lo hi B v bs := by
 obtain ⟨hb, a, cap, e, hn, h | ⟨g, off, e2, hl, h1, h2, hc⟩⟩ := h
 ·exact ⟨hb, a, cap, e, hn, .inl h⟩
 ·refine ⟨hb, a, cap, e, hn, .inr ⟨g, off, e2, hl, h1, h2, fun j hj => ?_⟩⟩
  rw [World.cell?_of_block (w := A) (w' := B) (hK.block g (by omega) (fun hm => by have := hL g hm; omega))]
  exact hc j hj
theorem byteRow_nil (lo hi : Nat) (W : World) : ByteRow lo hi W (.slice none 0 0) [] := ⟨by simp, none, 0, rfl, fun _ => rfl, .inl rfl⟩
section
variable {ops : Array Oper} {rest : List Oper} {o : Oper} {a : Act} {w : World} {Q : Exit → Act → World → Prop}
end
set_option maxRecDepth 100000 in
theorem results_row_tmp {fn : Func} {p u : Tmp} {ty : TypeId} (h : fn.results = #[.cell p ty, .tmp u]) (tmps : Array Value) (w : World) (g : Nat) (cs : Array Value)
  (hp : tmps.getD p undef = .pointer (some ⟨g, 0, none⟩)) (hl : (loadVar ty ⟨g, 0, none⟩).run Tryz.prog w = .ok (.agg cs) w) :
  (results fn tmps).run Tryz.prog w = .ok (.tuple #[.agg cs, tmps.getD u undef]) w := by
 rw [results_cell_tmp h, hp]
 simp [asAddr, hl, Result.andThen]
structure Mv where
 k : Int
 i : Int
 o : Int
 m : Nat
 s : Bool
 sa : Option Addr
 len : Nat
 cap : Nat
 d : List Nat
def Mv.ms (x : Mv) : Ms := ⟨x.k, x.i, x.o, x.m, x.s, x.d⟩
def Mv.cells (x : Mv) : List Value := [.int .i64 x.k, .int .i64 x.i, .int .i64 x.o, .int .u64 (x.m : Int), .bool x.s, .slice x.sa x.len x.cap]
def Mv.val (x : Mv) : Value := .agg #[.int .i64 x.k, .int .i64 x.i, .int .i64 x.o, .int .u64 (x.m : Int), .bool x.s, .slice x.sa x.len x.cap]
set_option maxRecDepth 100000 in
theorem Tryz.sizeM : (Tryz.prog.info? 47).map (·.size) = some 6 := by kernel_rfl
set_option maxRecDepth 100000 in
theorem Tryz.sizeS : (Tryz.prog.info? 228).map (·.size) = some 5 := by kernel_rfl
def Mv.In (x : Mv) (W : World) (g : Nat) : Prop := Blk W g 47 #[.int .i64 x.k, .int .i64 x.i, .int .i64 x.o, .int .u64 (x.m : Int), .bool x.s, .slice x.sa x.len x.cap]
theorem Mv.In.six {x : Mv} {W : World} {g : Nat} (h : x.In W g) : W.cell? ⟨g, 0, none⟩ = some (.int .i64 x.k) ∧ W.cell? ⟨g, 1, none⟩ = some (.int .i64 x.i) ∧ W.cell? ⟨g, 2, none⟩ = some (.int .i64 x.o) ∧ W.cell? ⟨g, 3, none⟩ = some (.int .u64 (x.m : Int)) ∧ W.cell? ⟨g, 4, none⟩ = some (.bool x.s) ∧ W.cell? ⟨g, 5, none⟩ = some (.slice x.sa x.len x.cap) :=
 ⟨(Blk.cell h 0).trans rfl, (Blk.cell h 1).trans rfl, (Blk.cell h 2).trans rfl, (Blk.cell h 3).trans rfl, (Blk.cell h 4).trans rfl, (Blk.cell h 5).trans rfl⟩
theorem Mv.In.kept {L : List Nat} {A B : World} {g : Nat} {x : Mv} (h : x.In A g) (hK : Kept L A B) (hg : g ∉ L) : x.In B g := Blk.kept h hK hg
def nameOf (k : Int) : ByteArray :=
 if k = 1 then { data := #[103, 114, 101, 101, 116] } else if k = 2 then { data := #[100, 97, 116, 97] } else if k = 3 then { data := #[97, 99, 107] } else if k = 4 then { data := #[111, 118, 101, 114] } else
 if k = 5 then { data := #[114, 101, 116, 114, 121] } else if k = 6 then { data := #[101, 120, 116] } else if k = 7 then { data := #[104, 97, 118, 101] } else if k = 8 then { data := #[101, 110, 100] } else { data := #[] }
def partsOf (k : Int) : Nat := if k = 1 then 3 else if k = 2 then 28 else if 3 ≤ k ∧ k ≤ 5 then 4 else if k = 6 then 24 else if k = 7 then 8 else 0
def offsOf (k : Int) : Nat := if k = 2 then 256 else if k = 6 ∨ k = 7 then 64 else 0
def leastOf (k : Int) : Nat := if k = 2 then 1 else if k = 6 then 4 else 0
def mostOf (k : Int) : Nat := if k = 2 then 8 else if k = 6 then 4 else 0
def isKind (k : Int) : Bool := decide (1 ≤ k ∧ k ≤ 8)
def shV (n : ByteArray) (p o l u : Nat) : Value := .agg #[.string n, .int .i64 (p : Int), .int .i64 (o : Int), .int .i64 (l : Int), .int .i64 (u : Int)]
def ShIn (W : World) (g : Nat) (n : ByteArray) (p o l u : Nat) : Prop := Blk W g 228 #[.string n, .int .i64 (p : Int), .int .i64 (o : Int), .int .i64 (l : Int), .int .i64 (u : Int)]
theorem ShIn.five {W : World} {g : Nat} {n : ByteArray} {p o l u : Nat} (h : ShIn W g n p o l u) : W.cell? ⟨g, 0, none⟩ = some (.string n) ∧ W.cell? ⟨g, 1, none⟩ = some (.int .i64 (p : Int)) ∧ W.cell? ⟨g, 2, none⟩ = some (.int .i64 (o : Int)) ∧ W.cell? ⟨g, 3, none⟩ = some (.int .i64 (l : Int)) ∧ W.cell? ⟨g, 4, none⟩ = some (.int .i64 (u : Int)) :=
 ⟨(Blk.cell h 0).trans rfl, (Blk.cell h 1).trans rfl, (Blk.cell h 2).trans rfl, (Blk.cell h 3).trans rfl, (Blk.cell h 4).trans rfl⟩
theorem ShIn.kept {L : List Nat} {A B : World} {g : Nat} {n : ByteArray} {p o l u : Nat} (h : ShIn A g n p o l u) (hK : Kept L A B) (hg : g ∉ L) : ShIn B g n p o l u := Blk.kept h hK hg
end Go.Proofs.YtoaeficfmcncjaaGreat.Pack
