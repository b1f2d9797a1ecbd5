import Derived.Test.YtfiofdmefgkloaaGreatDataW
/-
  The walk of data.Write that is done, sector by sector.
-/
namespace Go.Proofs.YtfiofdmefgkloaaGreat
open Go.RowKit Go.Maps Go.Shelf
open Math

attribute [local go_sem] Oper.semAt_some

/-- What was made since may be written. -/
theorem Kept.youngs {L M : List Nat} {a b c : World} (h : Kept L a b) (k : Kept M b c) (hM : ∀ x ∈ M, x ∈ L ∨ a.heap.size ≤ x) : Kept L a c :=
  ⟨k.os.trans h.os, k.tape.trans h.tape, k.output.trans h.output, Nat.le_trans h.size k.size, fun i hi hL => (k.block i (Nat.lt_of_lt_of_le hi h.size) (fun hm => by
    rcases hM i hm with e | e
    · exact hL e
    · omega)).trans (h.block i hi hL)⟩
theorem WBox.tell {W : World} {n d : Nat} {o l : Int} {v r : Value} (h : WBox W n d o l v r) (r' : Value) : WBox (W.setCell ⟨n + 3, 0, none⟩ r') n d o l v r' := by
  have hk := kept_set (L := [n + 3]) (g := n + 3) (by simp) W 0 r'
  exact ⟨h.b0.kept hk (by simp), h.b1.kept hk (by simp), h.b2.kept hk (by simp), h.b3.set 0 r'⟩

set_option maxRecDepth 100000 in
set_option maxHeartbeats 4000000 in
/-- Write, that is done, sector by sector -/
theorem dWrite_in (m : Nat) (hm : 3 ≤ m) (d b1 b2 : Nat) (s : Dk) (o n : Nat) (bs : List Nat) (g off cap : Nat) (w : World) (h : DiskAt w d b1 b2 s) (hg : Span.Math.good (o : Int) (n : Int) (dataN s : Nat) = true) (hlen : bs.length = 16 * n) (hbs : ∀ b ∈ bs, b < 256) (hcap : 16 * n ≤ cap)
    (hgw : g < w.heap.size) (hgd : g ∉ [d, b1, b2]) (hc : ∀ j, j < 16 * n → w.cell? ⟨g, off + j, none⟩ = some (.int .u8 ((bs[j]?.getD 0 : Nat) : Int))) (hops : s.ops ≤ 900000) :
    CallsIn Fence.wide m Tryz.prog 64 #[.pointer (some ⟨d, 0, none⟩), .agg #[.int .i64 (o : Int), .int .i64 (n : Int)], .slice (some ⟨g, off, none⟩) (16 * n) cap] w fun e w' =>
      e = .returned (.int .i64 (if (wroteL s o bs (List.range n)).broken then 3 else 0)) ∧ DiskAt w' d b1 b2 (wroteL s o bs (List.range n)) ∧ Kept [d, b1, b2] w w' := by
  have h1m : 1 ≤ m := by omega
  have hro : Fence.wide.round = none := rfl
  have hgo := good_of hg
  obtain ⟨E, hE⟩ : ∃ E : Int, (if (wroteL s o bs (List.range n)).broken then (3 : Int) else 0) = E := ⟨_, rfl⟩
  rw [hE]
  replace hE : Hid _ := hE
  have hb := wbox_new w d o n (.slice (some ⟨g, off, none⟩) (16 * n) cap) (.int .i64 0)
  have hk : Kept [] w ((((w.alloc (.cells #[.pointer (some ⟨d, 0, none⟩)] 30)).alloc (.cells #[.int .i64 (o : Int), .int .i64 (n : Int)] 127)).alloc (.cells #[.slice (some ⟨g, off, none⟩) (16 * n) cap] 24)).alloc (.cells #[.int .i64 0] 31)) :=
    (((kept_alloc [] _ _).trans (kept_alloc [] _ _)).trans (kept_alloc [] _ _)).trans (kept_alloc [] _ _)
  have q := dfind_any d b1 b2 s o n _ (h.kept hk (by simp) (by simp) (by simp))
  rw [hg, if_pos rfl] at q
  have hne : (((16 * n : Nat) : Int) != (n : Int) * 16) = false := by simp; omega
  have q2 := fun W => dsize_any o n (by omega) (by omega) W
  refine callsIn_of_wp_marks Tryz.func64 rfl trivial ?_ hro
  simp only [Tryz.ntmps64, List.size_toArray, List.length_cons, List.length_nil, Nat.reduceAdd, Nat.reduceSub, Array.replicate_succ, Array.replicate_zero, List.push_toArray, List.append_toArray, List.nil_append, List.cons_append]
  obtain ⟨L, hL⟩ : ∃ L, 16 * n = L := ⟨_, rfl⟩
  rw [hL] at hne q hb hk hcap hc ⊢
  replace hL : Hid _ := hL
  have hmx : Tryz.prog.follows .mixedOrders = true := by kernel_rfl
  gi_upto_region 4 with (refine ⟨trivial, ?_⟩; gi_at_call 104; refine (callsIn_wide.2 q).mono ?_; rintro e w1 ⟨rfl, hk1⟩; have hb1 := hb.kept hk1 (by simp); obtain ⟨c0, c1, c2, c3, c4, f4⟩ := hb1.cells)
  gi_cut [22] from 18 (fun r W => r = .bool false ∧ WBox W w.heap.size d o n (.slice (some ⟨g, off, none⟩) L cap) (.int .i64 0) ∧ Kept [] w W)
  case first =>
    first | gi_region_with_o (refine ⟨trivial, ?_⟩; gi_at_call 105; refine (callsIn_wide.2 (q2 _)).mono ?_; rintro e w2 ⟨rfl, hk2⟩; have hb2 := (hb1.kept (kept_drew [] w1) (by simp)).kept hk2 (by simp); obtain ⟨g0, g1, g2, g3, g4, e4⟩ := hb2.cells) | fail
    all_goals (try gi_wp2)
    all_goals gi_meet
    all_goals exact ⟨rfl, hb2, ((hk.trans hk1).trans (kept_drew [] _)).trans hk2⟩
  case rest =>
    obtain ⟨rfl, hb2, hk2⟩ := hcut
    obtain ⟨g0, g1, g2, g3, g4, e4⟩ := hb2.cells
    gi_wp2_with (refine ⟨trivial, ?_⟩; gi_at_call 106; refine (callsIn_wide.2 (dsectors_any _ _ _)).mono ?_; rintro e w3 ⟨rfl, rfl⟩)
    obtain ⟨W0, hW0⟩ : ∃ W0, wc.alloc (.cells #[.int .i64 (o : Int), .int .i64 (n : Int)] 127) = W0 := ⟨_, rfl⟩
    have hkW : Kept [] w W0 := hW0 ▸ hk2.trans (kept_alloc [] _ _)
    have hbW : WBox W0 w.heap.size d o n (.slice (some ⟨g, off, none⟩) L cap) (.int .i64 0) := hW0 ▸ hb2.kept (kept_alloc [] _ _) (by simp)
    have hdW : DiskAt W0 d b1 b2 s := h.kept hkW (by simp) (by simp) (by simp)
    have hbox : Blk W0 wc.heap.size 127 #[.int .i64 (o : Int), .int .i64 (n : Int)] := hW0 ▸ blk_new wc _ _
    have hBn : w.heap.size + 4 ≤ wc.heap.size := hb2.lt
    rw [hW0]
    clear g0 g1 g2 g3 g4 e4 hb2 hk2 c0 c1 c2 c3 c4 f4 hb1 hk1 hb hk q q2 hne hW0
    obtain ⟨Bs, hBs⟩ : ∃ Bs, wc.heap.size = Bs := ⟨_, rfl⟩
    rw [hBs] at hbox hBn ⊢
    clear hBs
    have hlt0 := h.lt
    have hltW := hdW.lt
    have hltB := hbox.lt
    have hltX := hbW.lt
    refine wpIn_rangeFunc_ownG hro h1m (gf := 147) (lb := #[.pointer (some ⟨Bs, 0, none⟩)]) rfl trivial (enters_of Tryz.func147 (by kernel_rfl) rfl)
      (sectors_stops Fence.wide (m - 1) trivial hro (by omega) Bs o n (by omega) (by omega) W0 hbox) sameAt_t (sameAt_b hltB) (Below.refl _ _) (fun _ => rfl)
      (fun pre W => WMid W0 W w.heap.size d b1 b2 o n (.slice (some ⟨g, off, none⟩) L cap) (.int .i64 0) (wroteL s o bs (pre.map (· % n))) ∧ (pre ≠ [] → (wroteL s o bs (pre.map (· % n))).broken = false))
      (fun c pre W => c = .ret ∧ WMid W0 W w.heap.size d b1 b2 o n (.slice (some ⟨g, off, none⟩) L cap) (.int .i64 3) (wroteL s o bs (pre.map (· % n))) ∧ (wroteL s o bs (pre.map (· % n))).broken = true)
      (fun pre A B row hs hg hr => ⟨hs.1.grown hltX hltW hg (fun r e => (hr r e).1), hs.2⟩)
      (fun c pre A B row hs hg hr => ⟨hs.1, hs.2.1.grown hltX hltW hg (fun r e => (hr r e).1), hs.2.2⟩)
      ⟨⟨hbW, by simpa [wroteL] using hdW, Kept.refl _ _⟩, by simp⟩
      (fun x => { tmps := #[.pointer (some ⟨d, 0, none⟩), .agg #[.int .i64 (o : Int), .int .i64 (n : Int)], .slice (some ⟨g, off, none⟩) L cap, .pointer (some ⟨w.heap.size, 0, none⟩), .pointer (some ⟨w.heap.size + 1, 0, none⟩), .pointer (some ⟨w.heap.size + 1 + 1, 0, none⟩), .pointer (some ⟨w.heap.size + 1 + 1 + 1, 0, none⟩), .int .i64 0,
        .int .i64 (8 + (o : Int) + ((x % n : Nat) : Int)), .int .i64 (((x % n : Nat) : Int) * 16), undef, undef, .pointer (some ⟨d, 0, none⟩), .agg #[.int .i64 (o : Int), .int .i64 (n : Int)], .int .i64 0, .int .i64 0, .bool false, undef, u18, u19, u20, u21, .bool false, .agg #[.int .i64 (o : Int), .int .i64 (n : Int)],
        .func (.func 147) #[] #[.pointer (some ⟨Bs, 0, none⟩)], .int .i64 (8 + (o : Int) + ((x % n : Nat) : Int)), .int .i64 (((x % n : Nat) : Int) * 16), u27, u28, u29, u30, u31, u32, u33, u34, u35, u36, u37, u38], defers := [] }) ?assign ?body ?done ?stop
    case assign =>
      intro l x W K hK
      simp only [encS]
      gi_wp2
      exact hK
    case body =>
      rintro l pre x W ⟨hM, hnb⟩ hlt
      obtain ⟨i, hi⟩ : ∃ i, x % n = i := ⟨_, rfl⟩
      have hin : i < n := hi ▸ Nat.mod_lt _ (by omega)
      obtain ⟨c0, c1, c2, c3, c4, f4⟩ := hM.box.cells
      have hd2 : 1 ≤ m - 1 - 1 := by omega
      rw [hi]
      have k1 : (i : Int) * 16 ≤ (L : Int) := by have := hL.out; omega
      have k2 : ¬ (cap = i * 16) := by have := hL.out; omega
      have hA : Arr (W.alloc (.cells #[.int .u8 0, .int .u8 0, .int .u8 0, .int .u8 0, .int .u8 0, .int .u8 0, .int .u8 0, .int .u8 0, .int .u8 0, .int .u8 0, .int .u8 0, .int .u8 0, .int .u8 0, .int .u8 0, .int .u8 0, .int .u8 0] 95)) W.heap.size 95 nought := arr_new W 95 nought
      have hM1 := (hM.box.kept (kept_alloc [] _ (.cells #[.int .u8 0, .int .u8 0, .int .u8 0, .int .u8 0, .int .u8 0, .int .u8 0, .int .u8 0, .int .u8 0, .int .u8 0, .int .u8 0, .int .u8 0, .int .u8 0, .int .u8 0, .int .u8 0, .int .u8 0, .int .u8 0] 95)) (by simp)).kept (kept_drew [] _) (by simp)
      obtain ⟨x0, x1, x2, x3, x4, y4⟩ := hM1.cells
      have hsec := sec_piece hbs hlen hin
      have hgk : W.cell? = W.cell? := rfl
      obtain ⟨V, hcp, hA2, hkc, hzc⟩ := run_copy_arr (off := 0) (l := piece bs i) hA.drew g (off + i * 16) 16 16 (L - i * 16) (cap - i * 16) 3 (by rw [hsec.1]; have := hL.out; exact (Nat.min_eq_right (by omega)).symm) (by rw [hsec.1]; decide) (fun j hj => by
        rw [hsec.1] at hj
        have hgW : g < W0.heap.size := Nat.lt_of_lt_of_le hgw hkW.size
        have hkk := ((hM.kept.trans (kept_alloc _ _ (.cells #[.int .u8 0, .int .u8 0, .int .u8 0, .int .u8 0, .int .u8 0, .int .u8 0, .int .u8 0, .int .u8 0, .int .u8 0, .int .u8 0, .int .u8 0, .int .u8 0, .int .u8 0, .int .u8 0, .int .u8 0, .int .u8 0] 95))).trans (kept_drew _ _)).block g hgW (by simp at hgd ⊢; omega)
        rw [World.cell?_of_block (hkk.trans (hkW.block g hgw (by simp))), piece_get hj, Nat.add_assoc, show i * 16 + j = 16 * i + j by omega]
        exact hc _ (by have := hL.out; omega))
      rw [hsec.1] at hcp
      replace hzc : Hid _ := hzc
      have hov : over nought 0 (piece bs i) = piece bs i := by
        have := hsec.1
        simp [over, this, nought]
      rw [hov] at hA2
      have hkV : Kept [] W V := ((kept_alloc [] _ _).trans (kept_drew [] _)).young hkc (by simp)
      have hbV := hM.box.kept hkV (by simp)
      have hdV := hM.disk.kept hkV (by simp) (by simp) (by simp)
      obtain ⟨v0, v1, v2, v3, v4, z4⟩ := hbV.cells
      obtain ⟨St, hSt⟩ : ∃ St, wroteL s o bs (pre.map (· % n)) = St := ⟨_, rfl⟩
      have hSn : wroteL s o bs ((pre ++ [x]).map (· % n)) = wroteS St (spot o i) (piece bs i) := by rw [List.map_append, List.map_cons, List.map_nil, hi, wroteL_snoc, hSt]
      rw [hSt] at hdV hM
      have hops2 : St.ops ≤ 1000000 := by
        rw [← hSt]
        refine Nat.le_trans (wroteL_ops _ _ _ _) ?_
        have := h.valid.top
        simp [dataN] at hgo
        simp
        omega
      have hins : inside St (spot o i) = true := by
        have := inside_spot (s := s) hg (i := i) (by omega)
        rw [← hSt]
        simp only [inside, wroteL_size] at this ⊢
        simpa using this
      have hq := write_any d b1 b2 St (spot o i) (piece bs i) hsec hops2 V hdV
      rw [wroteE_inside (piece bs i) hins] at hq
      rw [show spot o i = 8 + (o : Int) + (i : Int) by simp [spot]] at hq
      rw [show spot o i = 8 + (o : Int) + (i : Int) by simp [spot]] at hSn
      generalize wroteS St (8 + (o : Int) + (i : Int)) (piece bs i) = Sn at *
      simp only [arr] at hq
      have hlenP : Hid ((piece bs i).length = 16) := hsec.1
      have hSn' : Hid _ := hSn
      have hA2' : Hid _ := hA2
      clear hsec hov hSt hins hops2 hA hM1 x0 x1 x2 x4 y4 hdV
      gi_wp2
      gi_cut [] from 27 (fun Wc => Wc = V)
      case first =>
        first | gi_region_with_o (fail) | fail
        all_goals (try gi_wp2)
        all_goals gi_meet
        all_goals rfl
      case rest =>
        obtain rfl := hcut
        cases hbr : Sn.broken with
        | true =>
          rw [hbr, if_pos rfl] at hq
          gi_wp2_with (first
            | refine wpListIn_load_arr rfl _ rfl W.heap.size 95 (piece bs i) rfl hA2'.out hlenP.out ?_
            | (refine ⟨trivial, ?_⟩; gi_at_call 113; refine (CallsIn.inRound l (callsIn_wide.2 hq)).mono ?_; rintro e w5 ⟨rfl, hD5, hk5⟩; have hb5 := hbV.kept hk5 (by simp; omega); obtain ⟨-, -, -, -, t4, r4⟩ := hb5.cells))
          have hkS := kept_set (L := [w.heap.size + 3]) (g := w.heap.size + 3) (by simp) w5 0 (.int .i64 3)
          have hkT : Kept [d, b1, b2, w.heap.size + 3] W (w5.setCell ⟨w.heap.size + 3, 0, none⟩ (.int .i64 3)) := ((hkV.mono (by simp)).trans (hk5.mono (by simp))).trans (hkS.mono (by simp))
          refine ⟨hkT.keepsFrom (by simp; omega), rfl, ?_, by rw [hSn'.out]; exact hbr⟩
          rw [hSn'.out]
          exact ⟨hb5.tell _, hD5.kept hkS (by simp; omega) (by simp; omega) (by simp; omega), hM.kept.trans hkT⟩
        | false =>
          rw [hbr, if_neg (by simp)] at hq
          gi_wp2_with (first
            | refine wpListIn_load_arr rfl _ rfl W.heap.size 95 (piece bs i) rfl hA2'.out hlenP.out ?_
            | (refine ⟨trivial, ?_⟩; gi_at_call 113; refine (CallsIn.inRound l (callsIn_wide.2 hq)).mono ?_; rintro e w5 ⟨rfl, hD5, hk5⟩; have hb5 := hbV.kept hk5 (by simp; omega)))
          have hkT : Kept [d, b1, b2] W w5 := (hkV.mono (by simp)).trans hk5
          refine ⟨hkT.keepsFrom (by simp; omega), hkT.sameAt (by have := hM.kept.size; omega) (by simp; omega), ?_, fun _ => by rw [hSn'.out]; exact hbr⟩
          rw [hSn'.out]
          exact ⟨hb5, hD5, hM.kept.trans (hkT.mono (by simp))⟩
    case done =>
      rintro D ys W hD rfl ⟨hM, hnb⟩ hK
      rw [mods_range n n (Nat.le_refl _)] at hM hnb
      have hbf := hnb (by simp; omega)
      obtain ⟨-, -, -, -, c4, f4⟩ := hM.box.cells
      gi_wp2
      have hkS := kept_set (L := [w.heap.size + 3]) (g := w.heap.size + 3) (by simp) W 0 (.int .i64 0)
      have hlD := (Array.getElem?_eq_some_iff.1 hK).1
      have hK' : (W.setCell ⟨w.heap.size + 3, 0, none⟩ (.int .i64 0)).heap[D]? = some (.deferred (some [])) := (hkS.block D hlD (by simp; omega)).trans hK
      refine ⟨by simp, .inl ⟨_, _, rfl, run_takeDeferred hK', ?_⟩⟩
      have hkP := kept_put (W := W.setCell ⟨w.heap.size + 3, 0, none⟩ (.int .i64 0)) (D := D) (.deferred none)
      have hbP := (hM.box.tell (.int .i64 0)).kept hkP (by simp; omega)
      have hdP := (hM.disk.kept hkS (by simp; omega) (by simp; omega) (by simp; omega)).kept hkP (by simp; omega) (by simp; omega) (by simp; omega)
      refine ⟨.int .i64 0, results_errno rfl _ _ (w.heap.size + 3) _ rfl (hbP.b3.cell 0), by rw [← hE.out, hbf]; rfl, hdP, ?_⟩
      exact (((hkW.mono (by simp)).youngs hM.kept (by simp)).youngs hkS (by simp)).youngs hkP (by simp; omega)
    case stop =>
      rintro D c pre W hD ⟨k, hk, rfl⟩ ⟨rfl, hM, hbr⟩ hK
      rw [mods_range n k hk] at hM hbr
      have hall : wroteL s o bs (List.range n) = wroteL s o bs (List.range k) := by
        have e : List.range n = List.range k ++ (List.range (n - k)).map (k + ·) := by
          rw [← List.range_add]
          congr 1
          omega
        rw [e, wroteL_append, wroteL_broken hbr]
      have hE3 := hE.out
      rw [hall, hbr, if_pos rfl] at hE3
      replace hE3 : Hid _ := hE3
      gi_wp2
      refine ⟨by simp, .inl ⟨_, _, rfl, run_takeDeferred hK, ?_⟩⟩
      have hkP := kept_put (W := W) (D := D) (.deferred none)
      have hbP := hM.box.kept hkP (by simp; omega)
      have hdP := hM.disk.kept hkP (by simp; omega) (by simp; omega) (by simp; omega)
      refine ⟨.int .i64 3, results_errno rfl _ _ (w.heap.size + 3) _ rfl (hbP.b3.cell 0), by rw [← hE3.out], by rw [hall]; exact hdP, ?_⟩
      exact ((hkW.mono (by simp)).youngs hM.kept (by simp)).youngs hkP (by simp; omega)
set_option maxRecDepth 100000 in
/-- Write -/
theorem dWrite_any (d b1 b2 : Nat) (s : Dk) (o l : Int) (v : Value) (bs : List Nat) (lo hi : Nat) (w : World) (h : DiskAt w d b1 b2 s) (hops : s.ops ≤ 900000) (hR : ByteRow lo hi w v bs) (hhi : hi ≤ w.heap.size) (hap : ∀ k ∈ [d, b1, b2], k < lo ∨ hi ≤ k) :
    Calls Tryz.prog 64 #[.pointer (some ⟨d, 0, none⟩), .agg #[.int .i64 o, .int .i64 l], v] w fun e w' => e = .returned (.int .i64 (areaE s o l bs : Nat)) ∧ DiskAt w' d b1 b2 (areaS s o l bs) ∧ Kept [d, b1, b2] w w' := by
  obtain ⟨hb, a, cap, rfl, hn, hrow⟩ := hR
  unfold areaE areaS
  cases hg : Span.Math.good o l (dataN s : Nat) with
  | false =>
    simp only [Bool.false_eq_true, if_false]
    exact (dWrite_range d b1 b2 s o l a _ cap w h hg).mono fun e w' ⟨he, hk⟩ => ⟨he, h.kept hk (by simp) (by simp) (by simp), hk.mono (by simp)⟩
  | true =>
    simp only [if_true]
    by_cases hl : (bs.length : Int) = 16 * l
    · rw [if_pos hl, if_pos hl]
      have hgo := good_of hg
      obtain ⟨p, rfl⟩ : ∃ p : Nat, o = p := ⟨o.toNat, by omega⟩
      obtain ⟨n, rfl⟩ : ∃ n : Nat, l = n := ⟨l.toNat, by omega⟩
      have hlen : bs.length = 16 * n := by omega
      rcases hrow with rfl | ⟨g, off, rfl, hc1, hc2, hc3, hc⟩
      · simp at hlen
        omega
      rw [hlen] at hc hc1
      have := callsIn_wide.1 (dWrite_in 3 (Nat.le_refl _) d b1 b2 s p n bs g off cap w h hg hlen hb hc1 (by omega) (fun hm => by have := hap g hm; omega) hc hops)
      rw [hlen]
      refine this.mono fun e w' ⟨he, hd, hk⟩ => ⟨?_, hd, hk⟩
      rw [he]
      simp only [Int.toNat_natCast]
      by_cases hq : (wroteL s p bs (List.range n)).broken = true <;> simp [hq]
    · rw [if_neg hl, if_neg hl]
      exact (dWrite_arg d b1 b2 s o l a _ cap w h hg hl).mono fun e w' ⟨he, hk⟩ => ⟨he, h.kept hk (by simp) (by simp) (by simp), hk.mono (by simp)⟩
set_option maxRecDepth 100000 in
/-- SetExtent -/
theorem dSetExtent_any (d b1 b2 : Nat) (s : Dk) (x : Int) (v : Value) (bs : List Nat) (lo hi : Nat) (w : World) (h : DiskAt w d b1 b2 s) (hops : s.ops ≤ 900000) (hR : ByteRow lo hi w v bs) (hhi : hi ≤ w.heap.size) (hap : ∀ k ∈ [d, b1, b2], k < lo ∨ hi ≤ k) :
    Calls Tryz.prog 162 #[.pointer (some ⟨d, 0, none⟩), .int .i64 x, v] w fun e w' => e = .returned (.int .i64 (areaE s (Span.wOff x) (Span.wLen x) bs : Nat)) ∧ DiskAt w' d b1 b2 (areaS s (Span.wOff x) (Span.wLen x) bs) ∧ Kept [d, b1, b2] w w' := by
  have q1 := Span.whole_any x w
  have q2 := fun w' (hk : Kept [] w w') => dWrite_any d b1 b2 s (Span.wOff x) (Span.wLen x) v bs lo hi w' (h.kept hk (by simp) (by simp) (by simp)) hops (hR.kept hhi hk (by simp)) (by have := hk.size; omega) hap
  obtain ⟨a, cap, rfl⟩ := hR.slice
  go_enter Tryz.func162, Tryz.ntmps162
  go_wp2_with (first
    | (go_at_call 115; refine q1.mono ?_; rintro e w1 ⟨rfl, hB⟩; have hk1 := Kept.of_below hB [])
    | (go_at_call 64; refine (q2 _ hk1).mono ?_; rintro e w2 ⟨rfl, hD2, hk2⟩))
  go_ret
  exact ⟨rfl, hD2, (hk1.mono (by simp)).trans hk2⟩
end Go.Proofs.YtfiofdmefgkloaaGreat

