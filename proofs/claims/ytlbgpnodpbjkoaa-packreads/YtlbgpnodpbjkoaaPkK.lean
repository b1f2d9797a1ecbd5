/-
  The walk of the document's Parse, of a kind's bytes.
-/
import Derived.Test.YtlbgpnodpbjkoaaPkJ
import Derived.Deep.Cut
namespace Go.Proofs.Ytlbgpnodpbjkoaa.Pack
open Go.RowKit
open Seal (enc ret_bool ret_int)
open Seal.Math

set_option maxRecDepth 100000 in
theorem refGet8_row (v : Value) (bs : List Nat) (lo hi : Nat) (w : World) (h : ByteRow lo hi w v bs) (hh : hi ≤ w.heap.size) (hlen : bs.length ≤ 9223372036854775807) (N : Nat) (hN : Seal.getv 8 bs = N) :
    Calls Try.prog 31 #[v, .int .i64 8] w fun e w' => e = .returned (.tuple #[.int .u64 (N : Int), .bool (Seal.getB 8 bs)]) ∧ w' = w := by
  have := Seal.refGet_any _ v bs 8 w (by omega) hlen (h.at hh)
  rw [hN] at this
  exact this
set_option maxRecDepth 100000 in
theorem refGet2_row (v : Value) (bs : List Nat) (lo hi : Nat) (w : World) (h : ByteRow lo hi w v bs) (hh : hi ≤ w.heap.size) (hlen : bs.length ≤ 9223372036854775807) (N : Nat) (hN : Seal.getv 2 bs = N) :
    Calls Try.prog 32 #[v] w fun e w' => e = .returned (.tuple #[.int .i64 (N : Int), .bool (Seal.getB 2 bs)]) ∧ w' = w := by
  have := Seal.refGet16_any _ v bs w hlen (h.at hh)
  rw [hN] at this
  exact this
set_option maxRecDepth 100000 in
set_option maxHeartbeats 4000000 in
/-- twainref17.Parse, of a kind's bytes -/
theorem refParse_in (v : Value) (k : Nat) (l : List Nat) (lo hi : Nat) (w : World) (h : ByteRow lo hi w v (k :: l)) (hh : hi ≤ w.heap.size) (hlen : (k :: l).length ≤ 200) (hk1 : 1 ≤ k) (hk8 : k ≤ 8) (hs : ¬ (k :: l).length < needN k) :
    Calls Try.prog 15 #[v] w fun e w' => ∃ y : Mv, e = .returned (.tuple #[.agg #[.int .i64 y.k, .int .i64 y.i, .int .i64 y.o, .int .u64 (y.m : Int), .bool y.s, .slice y.sa y.len y.cap], .int .i64 (parseE (k :: l))]) ∧ y.ms = parseM (k :: l) ∧ y.At w.heap.size w'.heap.size w' ∧ Kept [] w w' := by
  have hbyt := h.1
  have hbR0 : MIn ((w.alloc (.cells #[.int .i64 0, .int .i64 0, .int .i64 0, .int .u64 0, .bool false, .slice none 0 0] 25)).alloc (.cells #[.int .i64 0, .int .i64 0, .int .i64 0, .int .u64 0, .bool false, .slice none 0 0] 25)) w.heap.size 0 0 0 0 false (.slice none 0 0) := Blk.kept (blk_new w 25 _) (kept_alloc [] _ _) (by simp)
  have e0 : (w.alloc (.cells #[.int .i64 0, .int .i64 0, .int .i64 0, .int .u64 0, .bool false, .slice none 0 0] 25)).heap.size = w.heap.size + 1 := by simp
  have hbM0 : Blk ((w.alloc (.cells #[.int .i64 0, .int .i64 0, .int .i64 0, .int .u64 0, .bool false, .slice none 0 0] 25)).alloc (.cells #[.int .i64 0, .int .i64 0, .int .i64 0, .int .u64 0, .bool false, .slice none 0 0] 25)) (w.heap.size + 1) 25 #[.int .i64 0, .int .i64 0, .int .i64 0, .int .u64 0, .bool false, .slice none 0 0] := by
    have := blk_new (w.alloc (.cells #[.int .i64 0, .int .i64 0, .int .i64 0, .int .u64 0, .bool false, .slice none 0 0] 25)) 25 #[.int .i64 0, .int .i64 0, .int .i64 0, .int .u64 0, .bool false, .slice none 0 0]
    rw [e0] at this
    exact this
  have hkz : Hid (Kept [] w ((w.alloc (.cells #[.int .i64 0, .int .i64 0, .int .i64 0, .int .u64 0, .bool false, .slice none 0 0] 25)).alloc (.cells #[.int .i64 0, .int .i64 0, .int .i64 0, .int .u64 0, .bool false, .slice none 0 0] 25))) := (kept_alloc [] w _).trans (kept_alloc [] _ _)
  have hk0 := kept_alloc [] w (.cells #[.int .i64 0, .int .i64 0, .int .i64 0, .int .u64 0, .bool false, .slice none 0 0] 25)
  have hrow : Hid (ByteRow lo hi w v (k :: l)) := h
  obtain ⟨g, off, cap, rfl, hg, hc⟩ := cons_cell h
  have hcb : (w.alloc (.cells #[.int .i64 0, .int .i64 0, .int .i64 0, .int .u64 0, .bool false, .slice none 0 0] 25)).cell? ⟨g, off, none⟩ = some (.int .u8 (k : Int)) := (World.cell?_of_block (w := w) (hk0.block g (by omega) (by simp))).trans (hc 0 (by simp))
  have hpos : 0 < (k :: l).length := by simp
  have qn := need_any k
  have q1 := hasWas_any k
  have q2 := hasId_any k
  have q3 := hasOff_any k
  have hN : needN k = 1 + (if (k : Int) = 1 then 9 else 0) + (if 2 ≤ (k : Int) ∧ (k : Int) ≤ 5 then 8 else 0) + (if (k : Int) = 2 ∨ (k : Int) = 6 ∨ (k : Int) = 7 then 2 else 0) := rfl
  have hE : readL k l = ⟨k, readI k l, readO k l, readM k l, readS k l, r3 k l⟩ := rfl
  have hpO : Hid (bytesL (readL k l) = k :: l → parseM (k :: l) = readL k l ∧ parseE (k :: l) = 0) := fun hq => parse_ok hlen hs hq
  have hpB : Hid (bytesL (readL k l) ≠ k :: l → parseM (k :: l) = m0 ∧ parseE (k :: l) = 9) := fun hq => parse_bad hlen hs hq
  clear hk0 e0
  by_cases h1 : k = 1
  · have p1 : (k : Int) = 1 := by omega
    have p4 : ¬ (2 ≤ (k : Int) ∧ (k : Int) ≤ 5) := by omega
    have p8 : ¬ ((k : Int) = 2 ∨ (k : Int) = 6 ∨ (k : Int) = 7) := by omega
    rw [decide_eq_true p1] at q1
    rw [decide_eq_false p4] at q2
    rw [decide_eq_false p8] at q3
    rw [if_pos p1, if_neg p4, if_neg p8] at hN
    have x1 : r1 k l = l.drop 9 := if_pos p1
    have x2 : r2 k l = (l.drop 9) := (if_neg p4).trans (by rw [x1])
    have x3 : r3 k l = (k :: l).drop 10 := (if_neg p8).trans (by rw [x2]; rfl)
    have xS : readS k l = decide ((k :: l)[1]?.getD 0 = 1) := if_pos p1
    have xM : readM k l = val (((k :: l).drop 2).take 8) := if_pos p1
    have xI : readI k l = 0 := (if_neg p4)
    have xO : readO k l = 0 := (if_neg p8)
    rw [xS, xM, xI, xO, x3] at hE
    have hn2 : Hid (2 ≤ (k :: l).length) := by show _ ≤ _; omega
    have hn10 : Hid (10 ≤ (k :: l).length) := by show _ ≤ _; omega
    have hl2 : Hid (((k :: l).drop 2).length ≤ 9223372036854775807) := by show _ ≤ _; rw [List.length_drop]; omega
    have gg2 : 8 ≤ ((k :: l).drop 2).length := by rw [List.length_drop]; omega
    have g2 : Hid (Seal.getv 8 ((k :: l).drop 2) = val (((k :: l).drop 2).take 8)) := Seal.getv_in (Nat.not_lt.2 gg2)
    have b8 : val (((k :: l).drop 2).take 8) < 18446744073709551616 := by have := take_lt ((k :: l).drop 2) 8 (fun b hm => hbyt b (List.mem_of_mem_drop hm)) gg2; simpa using this
    have hl3 : Hid (([] : List Nat).length + ((k :: l).drop 10).length ≤ 1000000) := by show _ ≤ _; rw [List.length_drop]; simp only [List.length_nil]; omega
    have hc1 : Hid (∀ A : World, Kept [] w A → A.cell? ⟨g, off + 1, none⟩ = some (.int .u8 (((k :: l)[1]?.getD 0 : Nat) : Int))) := fun A hA => (World.cell?_of_block (w := w) (hA.block g (by omega) (by simp))).trans (hc 1 (by omega))
    have hb1 : ((((k :: l)[1]?.getD 0 : Nat) : Int) == 1) = decide ((k :: l)[1]?.getD 0 = 1) := by
      by_cases e : (k :: l)[1]?.getD 0 = 1
      · rw [e]
        rfl
      · rw [decide_eq_false e]
        simp only [beq_eq_false_iff_ne]
        omega
    generalize decide ((k :: l)[1]?.getD 0 = 1) = sb at *
    generalize (k :: l)[1]?.getD 0 = c at *
    have h1b : 1 < (k :: l).length := by omega
    replace hs : 10 ≤ (k :: l).length := by omega
    clear x1 x2 x3 xS xM xI xO p1 p4 p8 hc h h1 gg2
    generalize val (((k :: l).drop 2).take 8) = N8 at *
    generalize parseE (k :: l) = E at *
    generalize parseM (k :: l) = M at *
    generalize readL k l = R at *
    generalize k :: l = bb at *
    replace b8 : Hid (N8 < 18446744073709551616) := b8
    rw [hN] at qn
    replace hE : Hid _ := hE
    by_cases hda : 10 < bb.length
    · go_enter Try.func15, Try.ntmps15
      go_wp2_with (first
        | (go_at_call 30; refine (qn _).mono ?_; rintro e w5 ⟨rfl, rfl⟩)
        | (refine wpList_store_blk rfl 25 _ _ rfl (w.heap.size + 1) 25 _ [.int .i64 (k : Int), .int .i64 0, .int .i64 0, .int .u64 0, .bool false, .slice none 0 0] rfl rfl hbM0 rfl Try.sizeM (by simp [Value.oneCell']) ?_; intro W hbW hkW hzW; have hT : Pm w k 0 0 0 false (.slice none 0 0) W := ⟨hbR0.kept hkW (by simp), hbW, hkz.out.young hkW (by omega)⟩; have hb1c := hc1.out W hT.kept; obtain ⟨c0, c1, c2, c3, c4, c5⟩ := hT.msg.six; clear hbM0 hbR0 hbW hkW hzW)
        | (go_at_call 21; refine (q1 _).mono ?_; rintro e w5 ⟨rfl, rfl⟩)
        | (go_at_call 22; refine (q2 _).mono ?_; rintro e w5 ⟨rfl, rfl⟩)
        | (go_at_call 23; refine (q3 _).mono ?_; rintro e w5 ⟨rfl, rfl⟩)
        | (refine wpList_drop rfl _ _ rfl lo hi w _ bb 2 rfl rfl hrow.out hn2.out ?_; intro sa6 z6 cap6 hr6)
        | (go_at_call 31; refine (refGet8_row _ _ lo hi _ (hr6.kept hh hT.kept (by simp)) (Nat.le_trans hh hT.kept.size) hl2.out N8 g2.out).mono ?_; rintro e w5 ⟨rfl, rfl⟩; clear hr6)
        | (refine wpList_store_cell rfl 4 _ _ rfl (w.heap.size + 1) 4 25 _ (.bool sb) rfl rfl hT.msg (by simp) Try.sizeF rfl ?_; intro w5 hb5 hk5; replace hT := hT.put (show MIn w5 (w.heap.size + 1) k 0 0 0 sb (.slice none 0 0) from hb5) hk5; obtain ⟨c0, c1, c2, c3, c4, c5⟩ := hT.msg.six; clear hb5 hk5)
        | (refine wpList_store_cell rfl 22 _ _ rfl (w.heap.size + 1) 3 25 _ (.int .u64 (N8 : Int)) rfl rfl hT.msg (by simp) Try.sizeU rfl ?_; intro w5 hb5 hk5; replace hT := hT.put (show MIn w5 (w.heap.size + 1) k 0 0 N8 sb (.slice none 0 0) from hb5) hk5; obtain ⟨c0, c1, c2, c3, c4, c5⟩ := hT.msg.six; clear hb5 hk5)
        | (refine wpList_drop rfl _ _ rfl lo hi w _ bb 10 rfl rfl hrow.out hn10.out ?_; intro sa6 z6 cap6 hr6)
        | (at_builtin; refine wpList_append_z rfl _ _ rfl _ _ _ lo hi [] (bb.drop 10) rfl (own_empty _) rfl (hr6.kept hh (hT.kept.trans (kept_alloc [] _ _)) (by simp)) hl3.out ?_; intro sa7 z7 cap7 w7 ho7 hg7; have hD := ho7.byteRow.mono (Nat.succ_le_of_lt (Blk.lt hT.msg)) (Nat.le_refl _); replace hT := hT.after (kept_grown (own_empty _).row hg7 _ (kept_alloc [] _ _) (Nat.le_refl _)); obtain ⟨c0, c1, c2, c3, c4, c5⟩ := hT.msg.six; clear ho7 hg7 hr6)
        | (refine wpList_store_cell rfl 23 _ _ rfl (w.heap.size + 1) 5 25 _ (.slice sa7 z7 cap7) rfl rfl hT.msg (by simp) Try.sizeB rfl ?_; intro w5 hb5 hk5; replace hT := hT.put (show MIn w5 (w.heap.size + 1) k 0 0 N8 sb (.slice sa7 z7 cap7) from hb5) hk5; obtain ⟨c0, c1, c2, c3, c4, c5⟩ := hT.msg.six; replace hD := hD.kept (Nat.le_refl _) hk5 (by simp); have hs5 := hk5.size; clear hb5 hk5))
      have hX : Hid (Mv.At (w.heap.size + 2) w5.heap.size w5 ⟨k, 0, 0, N8, sb, sa7, z7, cap7, bb.drop 10⟩) := ⟨hD.mono (Nat.le_refl _) hs5, b8.out, (show (-9223372036854775808 : Int) ≤ 0 by decide), (show (0 : Int) ≤ 9223372036854775807 by decide)⟩
      obtain ⟨y, hy⟩ : ∃ y : Mv, y = ⟨k, 0, 0, N8, sb, sa7, z7, cap7, bb.drop 10⟩ := ⟨_, rfl⟩
      have hyR : y.ms = R := by rw [hy]; exact hE.out.symm
      have hA : y.At (w.heap.size + 2) w5.heap.size w5 := by rw [hy]; exact hX.out
      have hIn : y.In w5 (w.heap.size + 1) := by rw [hy]; exact hT.msg
      have hyl : y.len ≤ 9223372036854775807 := by
        have h1 : y.d = bb.drop 10 := by rw [hy]
        rw [hA.len, h1, List.length_drop]
        omega
      have qb : ∀ A : World, Kept [] w5 A → Calls Try.prog 11 #[.agg #[.int .i64 y.k, .int .i64 y.i, .int .i64 y.o, .int .u64 (y.m : Int), .bool y.s, .slice y.sa y.len y.cap]] A fun e w' => ∃ sa z cap, e = .returned (.slice sa z cap) ∧ Own w' A.heap.size (.slice sa z cap) (bytesL R) ∧ Kept [] A w' := fun A hA' => by
        have := refBytes_any y _ _ A (hA.kept (Nat.le_refl _) hA' (by simp)) hA'.size hyl
        rw [hyR] at this
        exact this
      have hRb : ∀ b ∈ bytesL R, b < 256 := by
        rw [← hyR]
        exact bytesL_byte y.ms hA.row.1
      have S0 : ∀ A : World, Kept [] w5 A → (A.cell? ⟨w.heap.size + 1, 0, none⟩ = some (.int .i64 y.k) ∧ A.cell? ⟨w.heap.size + 1, 1, none⟩ = some (.int .i64 y.i) ∧ A.cell? ⟨w.heap.size + 1, 2, none⟩ = some (.int .i64 y.o) ∧ A.cell? ⟨w.heap.size + 1, 3, none⟩ = some (.int .u64 (y.m : Int)) ∧ A.cell? ⟨w.heap.size + 1, 4, none⟩ = some (.bool y.s) ∧ A.cell? ⟨w.heap.size + 1, 5, none⟩ = some (.slice y.sa y.len y.cap)) ∧ (convert 23 9 (.slice (some ⟨g, off, none⟩) bb.length cap)).run Try.prog A = .ok (.string (txt bb)) A := fun A hA' => ⟨(hIn.kept hA' (by simp)).six, conv_txt (hrow.out.kept hh (hT.kept.trans hA') (by simp))⟩
      have hkD : Kept [] w5 w5.drew := kept_drew [] w5
      clear hy hX hE hyl c0 c1 c2 c3 c4 c5
      have hbn : ((txt (bytesL R)).toList != (txt bb).toList) = !decide (bytesL R = bb) := by rw [← txt_eq hRb hrow.out.1]; rfl
      replace hbn : Hid _ := hbn
      obtain ⟨⟨c0, c1, c2, c3, c4, c5⟩, cb⟩ := S0 _ hkD
      try simp only [Act.put]
      go_cut [100] from 95 (fun v A => v = .bool (!decide (bytesL R = bb)) ∧ Kept [] w5 A)
      case first =>
        go_region_with (first
          | (go_at_call 11; refine (qb _ hkD).mono ?_; rintro e w8 ⟨sa8, z8, cap8, rfl, hR8, hk8⟩; have hkD8 := hkD.trans hk8; have cv := conv_txt hR8.byteRow; obtain ⟨-, cb8⟩ := S0 _ hkD8))
        all_goals (try go_wp2_with fail)
        all_goals go_meet
        all_goals exact ⟨congrArg Value.bool hbn.out, hkD8⟩
      case rest =>
        obtain ⟨rfl, hkc⟩ := hcut
        obtain ⟨⟨d0, d1, d2, d3, d4, d5⟩, -⟩ := S0 _ hkc
        have hbRc := Blk.kept hT.res hkc (by simp)
        clear S0 qb hbn hRb cb c0 c1 c2 c3 c4 c5 hkD
        by_cases hq : bytesL R = bb
        · have hp := hpO.out hq
          replace hp : Hid _ := hp
          rw [decide_eq_true hq]
          clear hpO hpB hq
          go_wp2_with (first
            | (refine wpList_store_blk rfl 25 _ _ rfl w.heap.size 25 _ [.int .i64 y.k, .int .i64 y.i, .int .i64 y.o, .int .u64 (y.m : Int), .bool y.s, .slice y.sa y.len y.cap] rfl rfl hbRc rfl Try.sizeM (by simp [Value.oneCell']) ?_; intro w9 hb9 hk9 hz9))
          refine bodyPost_ret (results_row_tmp rfl _ _ w.heap.size _ rfl (run_loadVar_row (P := Try.prog) w9 w.heap.size 25 25 _ (0, 0) _ hb9 Try.underlying25 rfl Try.sizeM)) rfl ?_
          exact ⟨y, by rw [hp.out.2]; rfl, hyR.trans hp.out.1.symm, ((hA.kept (Nat.le_refl _) hkc (by simp)).kept hkc.size hk9 (by simp)).mono (by omega) (Nat.le_trans hkc.size hk9.size), (hT.kept.trans hkc).young hk9 (Nat.le_refl _)⟩
        · have hp := hpB.out hq
          replace hp : Hid _ := hp
          rw [decide_eq_false hq]
          clear hpO hpB hq
          go_wp2_with (first
            | (refine wpList_store_blk rfl 25 _ _ rfl w.heap.size 25 _ [.int .i64 0, .int .i64 0, .int .i64 0, .int .u64 0, .bool false, .slice none 0 0] rfl rfl hbRc rfl Try.sizeM (by simp [Value.oneCell']) ?_; intro w9 hb9 hk9 hz9))
          refine bodyPost_ret (results_row_tmp rfl _ _ w.heap.size _ rfl (run_loadVar_row (P := Try.prog) w9 w.heap.size 25 25 _ (0, 0) _ hb9 Try.underlying25 rfl Try.sizeM)) rfl ?_
          exact ⟨mv0, by rw [hp.out.2]; rfl, hp.out.1.symm, mv0_at _ _ _, (hT.kept.trans hkc).young hk9 (Nat.le_refl _)⟩
    · have hnil : Hid (bb.drop 10 = []) := List.drop_eq_nil_of_le (by omega)
      go_enter Try.func15, Try.ntmps15
      go_wp2_with (first
        | (go_at_call 30; refine (qn _).mono ?_; rintro e w5 ⟨rfl, rfl⟩)
        | (refine wpList_store_blk rfl 25 _ _ rfl (w.heap.size + 1) 25 _ [.int .i64 (k : Int), .int .i64 0, .int .i64 0, .int .u64 0, .bool false, .slice none 0 0] rfl rfl hbM0 rfl Try.sizeM (by simp [Value.oneCell']) ?_; intro W hbW hkW hzW; have hT : Pm w k 0 0 0 false (.slice none 0 0) W := ⟨hbR0.kept hkW (by simp), hbW, hkz.out.young hkW (by omega)⟩; have hb1c := hc1.out W hT.kept; obtain ⟨c0, c1, c2, c3, c4, c5⟩ := hT.msg.six; clear hbM0 hbR0 hbW hkW hzW)
        | (go_at_call 21; refine (q1 _).mono ?_; rintro e w5 ⟨rfl, rfl⟩)
        | (go_at_call 22; refine (q2 _).mono ?_; rintro e w5 ⟨rfl, rfl⟩)
        | (go_at_call 23; refine (q3 _).mono ?_; rintro e w5 ⟨rfl, rfl⟩)
        | (refine wpList_drop rfl _ _ rfl lo hi w _ bb 2 rfl rfl hrow.out hn2.out ?_; intro sa6 z6 cap6 hr6)
        | (go_at_call 31; refine (refGet8_row _ _ lo hi _ (hr6.kept hh hT.kept (by simp)) (Nat.le_trans hh hT.kept.size) hl2.out N8 g2.out).mono ?_; rintro e w5 ⟨rfl, rfl⟩; clear hr6)
        | (refine wpList_store_cell rfl 4 _ _ rfl (w.heap.size + 1) 4 25 _ (.bool sb) rfl rfl hT.msg (by simp) Try.sizeF rfl ?_; intro w5 hb5 hk5; replace hT := hT.put (show MIn w5 (w.heap.size + 1) k 0 0 0 sb (.slice none 0 0) from hb5) hk5; obtain ⟨c0, c1, c2, c3, c4, c5⟩ := hT.msg.six; clear hb5 hk5)
        | (refine wpList_store_cell rfl 22 _ _ rfl (w.heap.size + 1) 3 25 _ (.int .u64 (N8 : Int)) rfl rfl hT.msg (by simp) Try.sizeU rfl ?_; intro w5 hb5 hk5; replace hT := hT.put (show MIn w5 (w.heap.size + 1) k 0 0 N8 sb (.slice none 0 0) from hb5) hk5; obtain ⟨c0, c1, c2, c3, c4, c5⟩ := hT.msg.six; clear hb5 hk5))
      have hX : Hid (Mv.At (w.heap.size + 2) w5.heap.size w5 ⟨k, 0, 0, N8, sb, none, 0, 0, bb.drop 10⟩) := ⟨by rw [hnil.out]; exact byteRow_nil _ _ _, b8.out, (show (-9223372036854775808 : Int) ≤ 0 by decide), (show (0 : Int) ≤ 9223372036854775807 by decide)⟩
      obtain ⟨y, hy⟩ : ∃ y : Mv, y = ⟨k, 0, 0, N8, sb, none, 0, 0, bb.drop 10⟩ := ⟨_, rfl⟩
      have hyR : y.ms = R := by rw [hy]; exact hE.out.symm
      have hA : y.At (w.heap.size + 2) w5.heap.size w5 := by rw [hy]; exact hX.out
      have hIn : y.In w5 (w.heap.size + 1) := by rw [hy]; exact hT.msg
      have hyl : y.len ≤ 9223372036854775807 := by
        have h1 : y.d = bb.drop 10 := by rw [hy]
        rw [hA.len, h1, List.length_drop]
        omega
      have qb : ∀ A : World, Kept [] w5 A → Calls Try.prog 11 #[.agg #[.int .i64 y.k, .int .i64 y.i, .int .i64 y.o, .int .u64 (y.m : Int), .bool y.s, .slice y.sa y.len y.cap]] A fun e w' => ∃ sa z cap, e = .returned (.slice sa z cap) ∧ Own w' A.heap.size (.slice sa z cap) (bytesL R) ∧ Kept [] A w' := fun A hA' => by
        have := refBytes_any y _ _ A (hA.kept (Nat.le_refl _) hA' (by simp)) hA'.size hyl
        rw [hyR] at this
        exact this
      have hRb : ∀ b ∈ bytesL R, b < 256 := by
        rw [← hyR]
        exact bytesL_byte y.ms hA.row.1
      have S0 : ∀ A : World, Kept [] w5 A → (A.cell? ⟨w.heap.size + 1, 0, none⟩ = some (.int .i64 y.k) ∧ A.cell? ⟨w.heap.size + 1, 1, none⟩ = some (.int .i64 y.i) ∧ A.cell? ⟨w.heap.size + 1, 2, none⟩ = some (.int .i64 y.o) ∧ A.cell? ⟨w.heap.size + 1, 3, none⟩ = some (.int .u64 (y.m : Int)) ∧ A.cell? ⟨w.heap.size + 1, 4, none⟩ = some (.bool y.s) ∧ A.cell? ⟨w.heap.size + 1, 5, none⟩ = some (.slice y.sa y.len y.cap)) ∧ (convert 23 9 (.slice (some ⟨g, off, none⟩) bb.length cap)).run Try.prog A = .ok (.string (txt bb)) A := fun A hA' => ⟨(hIn.kept hA' (by simp)).six, conv_txt (hrow.out.kept hh (hT.kept.trans hA') (by simp))⟩
      have hkD : Kept [] w5 w5.drew := kept_drew [] w5
      clear hy hX hE hyl c0 c1 c2 c3 c4 c5
      have hbn : ((txt (bytesL R)).toList != (txt bb).toList) = !decide (bytesL R = bb) := by rw [← txt_eq hRb hrow.out.1]; rfl
      replace hbn : Hid _ := hbn
      obtain ⟨⟨c0, c1, c2, c3, c4, c5⟩, cb⟩ := S0 _ hkD
      try simp only [Act.put]
      go_cut [100] from 95 (fun v A => v = .bool (!decide (bytesL R = bb)) ∧ Kept [] w5 A)
      case first =>
        go_region_with (first
          | (go_at_call 11; refine (qb _ hkD).mono ?_; rintro e w8 ⟨sa8, z8, cap8, rfl, hR8, hk8⟩; have hkD8 := hkD.trans hk8; have cv := conv_txt hR8.byteRow; obtain ⟨-, cb8⟩ := S0 _ hkD8))
        all_goals (try go_wp2_with fail)
        all_goals go_meet
        all_goals exact ⟨congrArg Value.bool hbn.out, hkD8⟩
      case rest =>
        obtain ⟨rfl, hkc⟩ := hcut
        obtain ⟨⟨d0, d1, d2, d3, d4, d5⟩, -⟩ := S0 _ hkc
        have hbRc := Blk.kept hT.res hkc (by simp)
        clear S0 qb hbn hRb cb c0 c1 c2 c3 c4 c5 hkD
        by_cases hq : bytesL R = bb
        · have hp := hpO.out hq
          replace hp : Hid _ := hp
          rw [decide_eq_true hq]
          clear hpO hpB hq
          go_wp2_with (first
            | (refine wpList_store_blk rfl 25 _ _ rfl w.heap.size 25 _ [.int .i64 y.k, .int .i64 y.i, .int .i64 y.o, .int .u64 (y.m : Int), .bool y.s, .slice y.sa y.len y.cap] rfl rfl hbRc rfl Try.sizeM (by simp [Value.oneCell']) ?_; intro w9 hb9 hk9 hz9))
          refine bodyPost_ret (results_row_tmp rfl _ _ w.heap.size _ rfl (run_loadVar_row (P := Try.prog) w9 w.heap.size 25 25 _ (0, 0) _ hb9 Try.underlying25 rfl Try.sizeM)) rfl ?_
          exact ⟨y, by rw [hp.out.2]; rfl, hyR.trans hp.out.1.symm, ((hA.kept (Nat.le_refl _) hkc (by simp)).kept hkc.size hk9 (by simp)).mono (by omega) (Nat.le_trans hkc.size hk9.size), (hT.kept.trans hkc).young hk9 (Nat.le_refl _)⟩
        · have hp := hpB.out hq
          replace hp : Hid _ := hp
          rw [decide_eq_false hq]
          clear hpO hpB hq
          go_wp2_with (first
            | (refine wpList_store_blk rfl 25 _ _ rfl w.heap.size 25 _ [.int .i64 0, .int .i64 0, .int .i64 0, .int .u64 0, .bool false, .slice none 0 0] rfl rfl hbRc rfl Try.sizeM (by simp [Value.oneCell']) ?_; intro w9 hb9 hk9 hz9))
          refine bodyPost_ret (results_row_tmp rfl _ _ w.heap.size _ rfl (run_loadVar_row (P := Try.prog) w9 w.heap.size 25 25 _ (0, 0) _ hb9 Try.underlying25 rfl Try.sizeM)) rfl ?_
          exact ⟨mv0, by rw [hp.out.2]; rfl, hp.out.1.symm, mv0_at _ _ _, (hT.kept.trans hkc).young hk9 (Nat.le_refl _)⟩
  · by_cases h2 : k = 2
    · have p1 : ¬ (k : Int) = 1 := by omega
      have p4 : (2 ≤ (k : Int) ∧ (k : Int) ≤ 5) := by omega
      have p8 : ((k : Int) = 2 ∨ (k : Int) = 6 ∨ (k : Int) = 7) := by omega
      rw [decide_eq_false p1] at q1
      rw [decide_eq_true p4] at q2
      rw [decide_eq_true p8] at q3
      rw [if_neg p1, if_pos p4, if_pos p8] at hN
      have x1 : r1 k l = l := if_neg p1
      have x2 : r2 k l = l.drop 8 := (if_pos p4).trans (by rw [x1])
      have x3 : r3 k l = (k :: l).drop 11 := (if_pos p8).trans (by rw [x2]; rw [List.drop_drop]; rfl)
      have xS : readS k l = false := if_neg p1
      have xM : readM k l = 0 := if_neg p1
      have xI : readI k l = sg (val (((k :: l).drop 1).take 8)) := (if_pos p4).trans (by rw [x1]; rfl)
      have xO : readO k l = (val (((k :: l).drop 9).take 2) : Int) := (if_pos p8).trans (by rw [x2]; rfl)
      rw [xS, xM, xI, xO, x3] at hE
      have hn1 : Hid (1 ≤ (k :: l).length) := by show _ ≤ _; omega
      have hn9 : Hid (9 ≤ (k :: l).length) := by show _ ≤ _; omega
      have hn11 : Hid (11 ≤ (k :: l).length) := by show _ ≤ _; omega
      have hl1 : Hid (((k :: l).drop 1).length ≤ 9223372036854775807) := by show _ ≤ _; rw [List.length_drop]; omega
      have gg1 : 8 ≤ ((k :: l).drop 1).length := by rw [List.length_drop]; omega
      have g1 : Hid (Seal.getv 8 ((k :: l).drop 1) = val (((k :: l).drop 1).take 8)) := Seal.getv_in (Nat.not_lt.2 gg1)
      have b8 : val (((k :: l).drop 1).take 8) < 18446744073709551616 := by have := take_lt ((k :: l).drop 1) 8 (fun b hm => hbyt b (List.mem_of_mem_drop hm)) gg1; simpa using this
      have hl9 : Hid (((k :: l).drop 9).length ≤ 9223372036854775807) := by show _ ≤ _; rw [List.length_drop]; omega
      have gh9 : 2 ≤ ((k :: l).drop 9).length := by rw [List.length_drop]; omega
      have g9 : Hid (Seal.getv 2 ((k :: l).drop 9) = val (((k :: l).drop 9).take 2)) := Seal.getv_in (Nat.not_lt.2 gh9)
      have hl3 : Hid (([] : List Nat).length + ((k :: l).drop 11).length ≤ 1000000) := by show _ ≤ _; rw [List.length_drop]; simp only [List.length_nil]; omega
      have hbad : 72057594037927935 < val (((k :: l).drop 1).take 8) → bytesL (readL k l) ≠ k :: l := fun hx => by
        rw [bytesL_out (not_fine_id p4 (by rw [x1]; exact hx) (by rw [x1]; exact b8))]
        simp
      have hc1 : Hid (∀ A : World, Kept [] w A → True) := fun _ _ => trivial
      replace hs : 11 ≤ (k :: l).length := by omega
      clear x1 x2 x3 xS xM xI xO p1 p4 p8 hc h h1 h2 gg1 gh9
      generalize val (((k :: l).drop 1).take 8) = N8 at *
      generalize val (((k :: l).drop 9).take 2) = N2 at *
      generalize parseE (k :: l) = E at *
      generalize parseM (k :: l) = M at *
      generalize readL k l = R at *
      generalize k :: l = bb at *
      have vw := wrap_sg N8 b8
      have vb : Hid _ := sg_lo N8 b8
      rw [hN] at qn
      replace hE : Hid _ := hE
      by_cases hx : 72057594037927935 < N8
      · have hp := hpB.out (hbad hx)
        replace hp : Hid _ := hp
        clear hpO hpB hbad hE
        go_enter Try.func15, Try.ntmps15
        go_wp2_with (first
          | (go_at_call 30; refine (qn _).mono ?_; rintro e w5 ⟨rfl, rfl⟩)
          | (refine wpList_store_blk rfl 25 _ _ rfl (w.heap.size + 1) 25 _ [.int .i64 (k : Int), .int .i64 0, .int .i64 0, .int .u64 0, .bool false, .slice none 0 0] rfl rfl hbM0 rfl Try.sizeM (by simp [Value.oneCell']) ?_; intro W hbW hkW hzW; have hT : Pm w k 0 0 0 false (.slice none 0 0) W := ⟨hbR0.kept hkW (by simp), hbW, hkz.out.young hkW (by omega)⟩; have hb1c := hc1.out W hT.kept; obtain ⟨c0, c1, c2, c3, c4, c5⟩ := hT.msg.six; clear hbM0 hbR0 hbW hkW hzW)
          | (go_at_call 21; refine (q1 _).mono ?_; rintro e w5 ⟨rfl, rfl⟩)
          | (go_at_call 22; refine (q2 _).mono ?_; rintro e w5 ⟨rfl, rfl⟩)
          | (go_at_call 23; refine (q3 _).mono ?_; rintro e w5 ⟨rfl, rfl⟩)
          | (refine wpList_drop rfl _ _ rfl lo hi w _ bb 1 rfl rfl hrow.out hn1.out ?_; intro sa6 z6 cap6 hr6)
          | (go_at_call 31; refine (refGet8_row _ _ lo hi _ (hr6.kept hh hT.kept (by simp)) (Nat.le_trans hh hT.kept.size) hl1.out N8 g1.out).mono ?_; rintro e w5 ⟨rfl, rfl⟩; clear hr6)
          | (refine wpList_store_blk rfl 25 _ _ rfl w.heap.size 25 _ [.int .i64 0, .int .i64 0, .int .i64 0, .int .u64 0, .bool false, .slice none 0 0] rfl rfl hT.res rfl Try.sizeM (by simp [Value.oneCell']) ?_; intro w9 hb9 hk9 hz9))
        refine bodyPost_ret (results_row_tmp rfl _ _ w.heap.size _ rfl (run_loadVar_row (P := Try.prog) w9 w.heap.size 25 25 _ (0, 0) _ hb9 Try.underlying25 rfl Try.sizeM)) rfl ?_
        exact ⟨mv0, by rw [hp.out.2]; rfl, hp.out.1.symm, mv0_at _ _ _, hT.kept.young hk9 (Nat.le_refl _)⟩
      · clear hbad
        by_cases hda : 11 < bb.length
        · go_enter Try.func15, Try.ntmps15
          go_wp2_with (first
            | (go_at_call 30; refine (qn _).mono ?_; rintro e w5 ⟨rfl, rfl⟩)
            | (refine wpList_store_blk rfl 25 _ _ rfl (w.heap.size + 1) 25 _ [.int .i64 (k : Int), .int .i64 0, .int .i64 0, .int .u64 0, .bool false, .slice none 0 0] rfl rfl hbM0 rfl Try.sizeM (by simp [Value.oneCell']) ?_; intro W hbW hkW hzW; have hT : Pm w k 0 0 0 false (.slice none 0 0) W := ⟨hbR0.kept hkW (by simp), hbW, hkz.out.young hkW (by omega)⟩; have hb1c := hc1.out W hT.kept; obtain ⟨c0, c1, c2, c3, c4, c5⟩ := hT.msg.six; clear hbM0 hbR0 hbW hkW hzW)
            | (go_at_call 21; refine (q1 _).mono ?_; rintro e w5 ⟨rfl, rfl⟩)
            | (go_at_call 22; refine (q2 _).mono ?_; rintro e w5 ⟨rfl, rfl⟩)
            | (go_at_call 23; refine (q3 _).mono ?_; rintro e w5 ⟨rfl, rfl⟩)
            | (refine wpList_drop rfl _ _ rfl lo hi w _ bb 1 rfl rfl hrow.out hn1.out ?_; intro sa6 z6 cap6 hr6)
            | (go_at_call 31; refine (refGet8_row _ _ lo hi _ (hr6.kept hh hT.kept (by simp)) (Nat.le_trans hh hT.kept.size) hl1.out N8 g1.out).mono ?_; rintro e w5 ⟨rfl, rfl⟩; clear hr6)
            | (refine wpList_store_cell rfl 3 _ _ rfl (w.heap.size + 1) 1 25 _ (.int .i64 (sg N8)) rfl rfl hT.msg (by simp) Try.sizeI rfl ?_; intro w5 hb5 hk5; replace hT := hT.put (show MIn w5 (w.heap.size + 1) k (sg N8) 0 0 false (.slice none 0 0) from hb5) hk5; obtain ⟨c0, c1, c2, c3, c4, c5⟩ := hT.msg.six; clear hb5 hk5)
            | (refine wpList_drop rfl _ _ rfl lo hi w _ bb 9 rfl rfl hrow.out hn9.out ?_; intro sa6 z6 cap6 hr6)
            | (go_at_call 32; refine (refGet2_row _ _ lo hi _ (hr6.kept hh hT.kept (by simp)) (Nat.le_trans hh hT.kept.size) hl9.out N2 g9.out).mono ?_; rintro e w5 ⟨rfl, rfl⟩; clear hr6)
            | (refine wpList_store_cell rfl 3 _ _ rfl (w.heap.size + 1) 2 25 _ (.int .i64 (N2 : Int)) rfl rfl hT.msg (by simp) Try.sizeI rfl ?_; intro w5 hb5 hk5; replace hT := hT.put (show MIn w5 (w.heap.size + 1) k (sg N8) N2 0 false (.slice none 0 0) from hb5) hk5; obtain ⟨c0, c1, c2, c3, c4, c5⟩ := hT.msg.six; clear hb5 hk5)
            | (refine wpList_drop rfl _ _ rfl lo hi w _ bb 11 rfl rfl hrow.out hn11.out ?_; intro sa6 z6 cap6 hr6)
            | (at_builtin; refine wpList_append_z rfl _ _ rfl _ _ _ lo hi [] (bb.drop 11) rfl (own_empty _) rfl (hr6.kept hh (hT.kept.trans (kept_alloc [] _ _)) (by simp)) hl3.out ?_; intro sa7 z7 cap7 w7 ho7 hg7; have hD := ho7.byteRow.mono (Nat.succ_le_of_lt (Blk.lt hT.msg)) (Nat.le_refl _); replace hT := hT.after (kept_grown (own_empty _).row hg7 _ (kept_alloc [] _ _) (Nat.le_refl _)); obtain ⟨c0, c1, c2, c3, c4, c5⟩ := hT.msg.six; clear ho7 hg7 hr6)
            | (refine wpList_store_cell rfl 23 _ _ rfl (w.heap.size + 1) 5 25 _ (.slice sa7 z7 cap7) rfl rfl hT.msg (by simp) Try.sizeB rfl ?_; intro w5 hb5 hk5; replace hT := hT.put (show MIn w5 (w.heap.size + 1) k (sg N8) N2 0 false (.slice sa7 z7 cap7) from hb5) hk5; obtain ⟨c0, c1, c2, c3, c4, c5⟩ := hT.msg.six; replace hD := hD.kept (Nat.le_refl _) hk5 (by simp); have hs5 := hk5.size; clear hb5 hk5))
          have hX : Hid (Mv.At (w.heap.size + 2) w5.heap.size w5 ⟨k, (sg N8), (N2 : Int), 0, false, sa7, z7, cap7, bb.drop 11⟩) := ⟨hD.mono (Nat.le_refl _) hs5, (show (0 : Nat) < 18446744073709551616 by decide), vb.out.1, vb.out.2⟩
          obtain ⟨y, hy⟩ : ∃ y : Mv, y = ⟨k, (sg N8), (N2 : Int), 0, false, sa7, z7, cap7, bb.drop 11⟩ := ⟨_, rfl⟩
          have hyR : y.ms = R := by rw [hy]; exact hE.out.symm
          have hA : y.At (w.heap.size + 2) w5.heap.size w5 := by rw [hy]; exact hX.out
          have hIn : y.In w5 (w.heap.size + 1) := by rw [hy]; exact hT.msg
          have hyl : y.len ≤ 9223372036854775807 := by
            have h1 : y.d = bb.drop 11 := by rw [hy]
            rw [hA.len, h1, List.length_drop]
            omega
          have qb : ∀ A : World, Kept [] w5 A → Calls Try.prog 11 #[.agg #[.int .i64 y.k, .int .i64 y.i, .int .i64 y.o, .int .u64 (y.m : Int), .bool y.s, .slice y.sa y.len y.cap]] A fun e w' => ∃ sa z cap, e = .returned (.slice sa z cap) ∧ Own w' A.heap.size (.slice sa z cap) (bytesL R) ∧ Kept [] A w' := fun A hA' => by
            have := refBytes_any y _ _ A (hA.kept (Nat.le_refl _) hA' (by simp)) hA'.size hyl
            rw [hyR] at this
            exact this
          have hRb : ∀ b ∈ bytesL R, b < 256 := by
            rw [← hyR]
            exact bytesL_byte y.ms hA.row.1
          have S0 : ∀ A : World, Kept [] w5 A → (A.cell? ⟨w.heap.size + 1, 0, none⟩ = some (.int .i64 y.k) ∧ A.cell? ⟨w.heap.size + 1, 1, none⟩ = some (.int .i64 y.i) ∧ A.cell? ⟨w.heap.size + 1, 2, none⟩ = some (.int .i64 y.o) ∧ A.cell? ⟨w.heap.size + 1, 3, none⟩ = some (.int .u64 (y.m : Int)) ∧ A.cell? ⟨w.heap.size + 1, 4, none⟩ = some (.bool y.s) ∧ A.cell? ⟨w.heap.size + 1, 5, none⟩ = some (.slice y.sa y.len y.cap)) ∧ (convert 23 9 (.slice (some ⟨g, off, none⟩) bb.length cap)).run Try.prog A = .ok (.string (txt bb)) A := fun A hA' => ⟨(hIn.kept hA' (by simp)).six, conv_txt (hrow.out.kept hh (hT.kept.trans hA') (by simp))⟩
          have hkD : Kept [] w5 w5.drew := kept_drew [] w5
          clear hy hX hE hyl c0 c1 c2 c3 c4 c5
          have hbn : ((txt (bytesL R)).toList != (txt bb).toList) = !decide (bytesL R = bb) := by rw [← txt_eq hRb hrow.out.1]; rfl
          replace hbn : Hid _ := hbn
          obtain ⟨⟨c0, c1, c2, c3, c4, c5⟩, cb⟩ := S0 _ hkD
          try simp only [Act.put]
          go_cut [100] from 95 (fun v A => v = .bool (!decide (bytesL R = bb)) ∧ Kept [] w5 A)
          case first =>
            go_region_with (first
              | (go_at_call 11; refine (qb _ hkD).mono ?_; rintro e w8 ⟨sa8, z8, cap8, rfl, hR8, hk8⟩; have hkD8 := hkD.trans hk8; have cv := conv_txt hR8.byteRow; obtain ⟨-, cb8⟩ := S0 _ hkD8))
            all_goals (try go_wp2_with fail)
            all_goals go_meet
            all_goals exact ⟨congrArg Value.bool hbn.out, hkD8⟩
          case rest =>
            obtain ⟨rfl, hkc⟩ := hcut
            obtain ⟨⟨d0, d1, d2, d3, d4, d5⟩, -⟩ := S0 _ hkc
            have hbRc := Blk.kept hT.res hkc (by simp)
            clear S0 qb hbn hRb cb c0 c1 c2 c3 c4 c5 hkD
            by_cases hq : bytesL R = bb
            · have hp := hpO.out hq
              replace hp : Hid _ := hp
              rw [decide_eq_true hq]
              clear hpO hpB hq
              go_wp2_with (first
                | (refine wpList_store_blk rfl 25 _ _ rfl w.heap.size 25 _ [.int .i64 y.k, .int .i64 y.i, .int .i64 y.o, .int .u64 (y.m : Int), .bool y.s, .slice y.sa y.len y.cap] rfl rfl hbRc rfl Try.sizeM (by simp [Value.oneCell']) ?_; intro w9 hb9 hk9 hz9))
              refine bodyPost_ret (results_row_tmp rfl _ _ w.heap.size _ rfl (run_loadVar_row (P := Try.prog) w9 w.heap.size 25 25 _ (0, 0) _ hb9 Try.underlying25 rfl Try.sizeM)) rfl ?_
              exact ⟨y, by rw [hp.out.2]; rfl, hyR.trans hp.out.1.symm, ((hA.kept (Nat.le_refl _) hkc (by simp)).kept hkc.size hk9 (by simp)).mono (by omega) (Nat.le_trans hkc.size hk9.size), (hT.kept.trans hkc).young hk9 (Nat.le_refl _)⟩
            · have hp := hpB.out hq
              replace hp : Hid _ := hp
              rw [decide_eq_false hq]
              clear hpO hpB hq
              go_wp2_with (first
                | (refine wpList_store_blk rfl 25 _ _ rfl w.heap.size 25 _ [.int .i64 0, .int .i64 0, .int .i64 0, .int .u64 0, .bool false, .slice none 0 0] rfl rfl hbRc rfl Try.sizeM (by simp [Value.oneCell']) ?_; intro w9 hb9 hk9 hz9))
              refine bodyPost_ret (results_row_tmp rfl _ _ w.heap.size _ rfl (run_loadVar_row (P := Try.prog) w9 w.heap.size 25 25 _ (0, 0) _ hb9 Try.underlying25 rfl Try.sizeM)) rfl ?_
              exact ⟨mv0, by rw [hp.out.2]; rfl, hp.out.1.symm, mv0_at _ _ _, (hT.kept.trans hkc).young hk9 (Nat.le_refl _)⟩
        · have hnil : Hid (bb.drop 11 = []) := List.drop_eq_nil_of_le (by omega)
          go_enter Try.func15, Try.ntmps15
          go_wp2_with (first
            | (go_at_call 30; refine (qn _).mono ?_; rintro e w5 ⟨rfl, rfl⟩)
            | (refine wpList_store_blk rfl 25 _ _ rfl (w.heap.size + 1) 25 _ [.int .i64 (k : Int), .int .i64 0, .int .i64 0, .int .u64 0, .bool false, .slice none 0 0] rfl rfl hbM0 rfl Try.sizeM (by simp [Value.oneCell']) ?_; intro W hbW hkW hzW; have hT : Pm w k 0 0 0 false (.slice none 0 0) W := ⟨hbR0.kept hkW (by simp), hbW, hkz.out.young hkW (by omega)⟩; have hb1c := hc1.out W hT.kept; obtain ⟨c0, c1, c2, c3, c4, c5⟩ := hT.msg.six; clear hbM0 hbR0 hbW hkW hzW)
            | (go_at_call 21; refine (q1 _).mono ?_; rintro e w5 ⟨rfl, rfl⟩)
            | (go_at_call 22; refine (q2 _).mono ?_; rintro e w5 ⟨rfl, rfl⟩)
            | (go_at_call 23; refine (q3 _).mono ?_; rintro e w5 ⟨rfl, rfl⟩)
            | (refine wpList_drop rfl _ _ rfl lo hi w _ bb 1 rfl rfl hrow.out hn1.out ?_; intro sa6 z6 cap6 hr6)
            | (go_at_call 31; refine (refGet8_row _ _ lo hi _ (hr6.kept hh hT.kept (by simp)) (Nat.le_trans hh hT.kept.size) hl1.out N8 g1.out).mono ?_; rintro e w5 ⟨rfl, rfl⟩; clear hr6)
            | (refine wpList_store_cell rfl 3 _ _ rfl (w.heap.size + 1) 1 25 _ (.int .i64 (sg N8)) rfl rfl hT.msg (by simp) Try.sizeI rfl ?_; intro w5 hb5 hk5; replace hT := hT.put (show MIn w5 (w.heap.size + 1) k (sg N8) 0 0 false (.slice none 0 0) from hb5) hk5; obtain ⟨c0, c1, c2, c3, c4, c5⟩ := hT.msg.six; clear hb5 hk5)
            | (refine wpList_drop rfl _ _ rfl lo hi w _ bb 9 rfl rfl hrow.out hn9.out ?_; intro sa6 z6 cap6 hr6)
            | (go_at_call 32; refine (refGet2_row _ _ lo hi _ (hr6.kept hh hT.kept (by simp)) (Nat.le_trans hh hT.kept.size) hl9.out N2 g9.out).mono ?_; rintro e w5 ⟨rfl, rfl⟩; clear hr6)
            | (refine wpList_store_cell rfl 3 _ _ rfl (w.heap.size + 1) 2 25 _ (.int .i64 (N2 : Int)) rfl rfl hT.msg (by simp) Try.sizeI rfl ?_; intro w5 hb5 hk5; replace hT := hT.put (show MIn w5 (w.heap.size + 1) k (sg N8) N2 0 false (.slice none 0 0) from hb5) hk5; obtain ⟨c0, c1, c2, c3, c4, c5⟩ := hT.msg.six; clear hb5 hk5))
          have hX : Hid (Mv.At (w.heap.size + 2) w5.heap.size w5 ⟨k, (sg N8), (N2 : Int), 0, false, none, 0, 0, bb.drop 11⟩) := ⟨by rw [hnil.out]; exact byteRow_nil _ _ _, (show (0 : Nat) < 18446744073709551616 by decide), vb.out.1, vb.out.2⟩
          obtain ⟨y, hy⟩ : ∃ y : Mv, y = ⟨k, (sg N8), (N2 : Int), 0, false, none, 0, 0, bb.drop 11⟩ := ⟨_, rfl⟩
          have hyR : y.ms = R := by rw [hy]; exact hE.out.symm
          have hA : y.At (w.heap.size + 2) w5.heap.size w5 := by rw [hy]; exact hX.out
          have hIn : y.In w5 (w.heap.size + 1) := by rw [hy]; exact hT.msg
          have hyl : y.len ≤ 9223372036854775807 := by
            have h1 : y.d = bb.drop 11 := by rw [hy]
            rw [hA.len, h1, List.length_drop]
            omega
          have qb : ∀ A : World, Kept [] w5 A → Calls Try.prog 11 #[.agg #[.int .i64 y.k, .int .i64 y.i, .int .i64 y.o, .int .u64 (y.m : Int), .bool y.s, .slice y.sa y.len y.cap]] A fun e w' => ∃ sa z cap, e = .returned (.slice sa z cap) ∧ Own w' A.heap.size (.slice sa z cap) (bytesL R) ∧ Kept [] A w' := fun A hA' => by
            have := refBytes_any y _ _ A (hA.kept (Nat.le_refl _) hA' (by simp)) hA'.size hyl
            rw [hyR] at this
            exact this
          have hRb : ∀ b ∈ bytesL R, b < 256 := by
            rw [← hyR]
            exact bytesL_byte y.ms hA.row.1
          have S0 : ∀ A : World, Kept [] w5 A → (A.cell? ⟨w.heap.size + 1, 0, none⟩ = some (.int .i64 y.k) ∧ A.cell? ⟨w.heap.size + 1, 1, none⟩ = some (.int .i64 y.i) ∧ A.cell? ⟨w.heap.size + 1, 2, none⟩ = some (.int .i64 y.o) ∧ A.cell? ⟨w.heap.size + 1, 3, none⟩ = some (.int .u64 (y.m : Int)) ∧ A.cell? ⟨w.heap.size + 1, 4, none⟩ = some (.bool y.s) ∧ A.cell? ⟨w.heap.size + 1, 5, none⟩ = some (.slice y.sa y.len y.cap)) ∧ (convert 23 9 (.slice (some ⟨g, off, none⟩) bb.length cap)).run Try.prog A = .ok (.string (txt bb)) A := fun A hA' => ⟨(hIn.kept hA' (by simp)).six, conv_txt (hrow.out.kept hh (hT.kept.trans hA') (by simp))⟩
          have hkD : Kept [] w5 w5.drew := kept_drew [] w5
          clear hy hX hE hyl c0 c1 c2 c3 c4 c5
          have hbn : ((txt (bytesL R)).toList != (txt bb).toList) = !decide (bytesL R = bb) := by rw [← txt_eq hRb hrow.out.1]; rfl
          replace hbn : Hid _ := hbn
          obtain ⟨⟨c0, c1, c2, c3, c4, c5⟩, cb⟩ := S0 _ hkD
          try simp only [Act.put]
          go_cut [100] from 95 (fun v A => v = .bool (!decide (bytesL R = bb)) ∧ Kept [] w5 A)
          case first =>
            go_region_with (first
              | (go_at_call 11; refine (qb _ hkD).mono ?_; rintro e w8 ⟨sa8, z8, cap8, rfl, hR8, hk8⟩; have hkD8 := hkD.trans hk8; have cv := conv_txt hR8.byteRow; obtain ⟨-, cb8⟩ := S0 _ hkD8))
            all_goals (try go_wp2_with fail)
            all_goals go_meet
            all_goals exact ⟨congrArg Value.bool hbn.out, hkD8⟩
          case rest =>
            obtain ⟨rfl, hkc⟩ := hcut
            obtain ⟨⟨d0, d1, d2, d3, d4, d5⟩, -⟩ := S0 _ hkc
            have hbRc := Blk.kept hT.res hkc (by simp)
            clear S0 qb hbn hRb cb c0 c1 c2 c3 c4 c5 hkD
            by_cases hq : bytesL R = bb
            · have hp := hpO.out hq
              replace hp : Hid _ := hp
              rw [decide_eq_true hq]
              clear hpO hpB hq
              go_wp2_with (first
                | (refine wpList_store_blk rfl 25 _ _ rfl w.heap.size 25 _ [.int .i64 y.k, .int .i64 y.i, .int .i64 y.o, .int .u64 (y.m : Int), .bool y.s, .slice y.sa y.len y.cap] rfl rfl hbRc rfl Try.sizeM (by simp [Value.oneCell']) ?_; intro w9 hb9 hk9 hz9))
              refine bodyPost_ret (results_row_tmp rfl _ _ w.heap.size _ rfl (run_loadVar_row (P := Try.prog) w9 w.heap.size 25 25 _ (0, 0) _ hb9 Try.underlying25 rfl Try.sizeM)) rfl ?_
              exact ⟨y, by rw [hp.out.2]; rfl, hyR.trans hp.out.1.symm, ((hA.kept (Nat.le_refl _) hkc (by simp)).kept hkc.size hk9 (by simp)).mono (by omega) (Nat.le_trans hkc.size hk9.size), (hT.kept.trans hkc).young hk9 (Nat.le_refl _)⟩
            · have hp := hpB.out hq
              replace hp : Hid _ := hp
              rw [decide_eq_false hq]
              clear hpO hpB hq
              go_wp2_with (first
                | (refine wpList_store_blk rfl 25 _ _ rfl w.heap.size 25 _ [.int .i64 0, .int .i64 0, .int .i64 0, .int .u64 0, .bool false, .slice none 0 0] rfl rfl hbRc rfl Try.sizeM (by simp [Value.oneCell']) ?_; intro w9 hb9 hk9 hz9))
              refine bodyPost_ret (results_row_tmp rfl _ _ w.heap.size _ rfl (run_loadVar_row (P := Try.prog) w9 w.heap.size 25 25 _ (0, 0) _ hb9 Try.underlying25 rfl Try.sizeM)) rfl ?_
              exact ⟨mv0, by rw [hp.out.2]; rfl, hp.out.1.symm, mv0_at _ _ _, (hT.kept.trans hkc).young hk9 (Nat.le_refl _)⟩
    · by_cases h3 : k ≤ 5
      · have p1 : ¬ (k : Int) = 1 := by omega
        have p4 : (2 ≤ (k : Int) ∧ (k : Int) ≤ 5) := by omega
        have p8 : ¬ ((k : Int) = 2 ∨ (k : Int) = 6 ∨ (k : Int) = 7) := by omega
        rw [decide_eq_false p1] at q1
        rw [decide_eq_true p4] at q2
        rw [decide_eq_false p8] at q3
        rw [if_neg p1, if_pos p4, if_neg p8] at hN
        have x1 : r1 k l = l := if_neg p1
        have x2 : r2 k l = l.drop 8 := (if_pos p4).trans (by rw [x1])
        have x3 : r3 k l = (k :: l).drop 9 := (if_neg p8).trans (by rw [x2]; rfl)
        have xS : readS k l = false := if_neg p1
        have xM : readM k l = 0 := if_neg p1
        have xI : readI k l = sg (val (((k :: l).drop 1).take 8)) := (if_pos p4).trans (by rw [x1]; rfl)
        have xO : readO k l = 0 := (if_neg p8)
        rw [xS, xM, xI, xO, x3] at hE
        have hn1 : Hid (1 ≤ (k :: l).length) := by show _ ≤ _; omega
        have hn9 : Hid (9 ≤ (k :: l).length) := by show _ ≤ _; omega
        have hl1 : Hid (((k :: l).drop 1).length ≤ 9223372036854775807) := by show _ ≤ _; rw [List.length_drop]; omega
        have gg1 : 8 ≤ ((k :: l).drop 1).length := by rw [List.length_drop]; omega
        have g1 : Hid (Seal.getv 8 ((k :: l).drop 1) = val (((k :: l).drop 1).take 8)) := Seal.getv_in (Nat.not_lt.2 gg1)
        have b8 : val (((k :: l).drop 1).take 8) < 18446744073709551616 := by have := take_lt ((k :: l).drop 1) 8 (fun b hm => hbyt b (List.mem_of_mem_drop hm)) gg1; simpa using this
        have hl3 : Hid (([] : List Nat).length + ((k :: l).drop 9).length ≤ 1000000) := by show _ ≤ _; rw [List.length_drop]; simp only [List.length_nil]; omega
        have hbad : 72057594037927935 < val (((k :: l).drop 1).take 8) → bytesL (readL k l) ≠ k :: l := fun hx => by
          rw [bytesL_out (not_fine_id p4 (by rw [x1]; exact hx) (by rw [x1]; exact b8))]
          simp
        have hc1 : Hid (∀ A : World, Kept [] w A → True) := fun _ _ => trivial
        replace hs : 9 ≤ (k :: l).length := by omega
        clear x1 x2 x3 xS xM xI xO p1 p4 p8 hc h h1 h2 h3 gg1
        generalize val (((k :: l).drop 1).take 8) = N8 at *
        generalize parseE (k :: l) = E at *
        generalize parseM (k :: l) = M at *
        generalize readL k l = R at *
        generalize k :: l = bb at *
        have vw := wrap_sg N8 b8
        have vb : Hid _ := sg_lo N8 b8
        rw [hN] at qn
        replace hE : Hid _ := hE
        by_cases hx : 72057594037927935 < N8
        · have hp := hpB.out (hbad hx)
          replace hp : Hid _ := hp
          clear hpO hpB hbad hE
          go_enter Try.func15, Try.ntmps15
          go_wp2_with (first
            | (go_at_call 30; refine (qn _).mono ?_; rintro e w5 ⟨rfl, rfl⟩)
            | (refine wpList_store_blk rfl 25 _ _ rfl (w.heap.size + 1) 25 _ [.int .i64 (k : Int), .int .i64 0, .int .i64 0, .int .u64 0, .bool false, .slice none 0 0] rfl rfl hbM0 rfl Try.sizeM (by simp [Value.oneCell']) ?_; intro W hbW hkW hzW; have hT : Pm w k 0 0 0 false (.slice none 0 0) W := ⟨hbR0.kept hkW (by simp), hbW, hkz.out.young hkW (by omega)⟩; have hb1c := hc1.out W hT.kept; obtain ⟨c0, c1, c2, c3, c4, c5⟩ := hT.msg.six; clear hbM0 hbR0 hbW hkW hzW)
            | (go_at_call 21; refine (q1 _).mono ?_; rintro e w5 ⟨rfl, rfl⟩)
            | (go_at_call 22; refine (q2 _).mono ?_; rintro e w5 ⟨rfl, rfl⟩)
            | (go_at_call 23; refine (q3 _).mono ?_; rintro e w5 ⟨rfl, rfl⟩)
            | (refine wpList_drop rfl _ _ rfl lo hi w _ bb 1 rfl rfl hrow.out hn1.out ?_; intro sa6 z6 cap6 hr6)
            | (go_at_call 31; refine (refGet8_row _ _ lo hi _ (hr6.kept hh hT.kept (by simp)) (Nat.le_trans hh hT.kept.size) hl1.out N8 g1.out).mono ?_; rintro e w5 ⟨rfl, rfl⟩; clear hr6)
            | (refine wpList_store_blk rfl 25 _ _ rfl w.heap.size 25 _ [.int .i64 0, .int .i64 0, .int .i64 0, .int .u64 0, .bool false, .slice none 0 0] rfl rfl hT.res rfl Try.sizeM (by simp [Value.oneCell']) ?_; intro w9 hb9 hk9 hz9))
          refine bodyPost_ret (results_row_tmp rfl _ _ w.heap.size _ rfl (run_loadVar_row (P := Try.prog) w9 w.heap.size 25 25 _ (0, 0) _ hb9 Try.underlying25 rfl Try.sizeM)) rfl ?_
          exact ⟨mv0, by rw [hp.out.2]; rfl, hp.out.1.symm, mv0_at _ _ _, hT.kept.young hk9 (Nat.le_refl _)⟩
        · clear hbad
          by_cases hda : 9 < bb.length
          · go_enter Try.func15, Try.ntmps15
            go_wp2_with (first
              | (go_at_call 30; refine (qn _).mono ?_; rintro e w5 ⟨rfl, rfl⟩)
              | (refine wpList_store_blk rfl 25 _ _ rfl (w.heap.size + 1) 25 _ [.int .i64 (k : Int), .int .i64 0, .int .i64 0, .int .u64 0, .bool false, .slice none 0 0] rfl rfl hbM0 rfl Try.sizeM (by simp [Value.oneCell']) ?_; intro W hbW hkW hzW; have hT : Pm w k 0 0 0 false (.slice none 0 0) W := ⟨hbR0.kept hkW (by simp), hbW, hkz.out.young hkW (by omega)⟩; have hb1c := hc1.out W hT.kept; obtain ⟨c0, c1, c2, c3, c4, c5⟩ := hT.msg.six; clear hbM0 hbR0 hbW hkW hzW)
              | (go_at_call 21; refine (q1 _).mono ?_; rintro e w5 ⟨rfl, rfl⟩)
              | (go_at_call 22; refine (q2 _).mono ?_; rintro e w5 ⟨rfl, rfl⟩)
              | (go_at_call 23; refine (q3 _).mono ?_; rintro e w5 ⟨rfl, rfl⟩)
              | (refine wpList_drop rfl _ _ rfl lo hi w _ bb 1 rfl rfl hrow.out hn1.out ?_; intro sa6 z6 cap6 hr6)
              | (go_at_call 31; refine (refGet8_row _ _ lo hi _ (hr6.kept hh hT.kept (by simp)) (Nat.le_trans hh hT.kept.size) hl1.out N8 g1.out).mono ?_; rintro e w5 ⟨rfl, rfl⟩; clear hr6)
              | (refine wpList_store_cell rfl 3 _ _ rfl (w.heap.size + 1) 1 25 _ (.int .i64 (sg N8)) rfl rfl hT.msg (by simp) Try.sizeI rfl ?_; intro w5 hb5 hk5; replace hT := hT.put (show MIn w5 (w.heap.size + 1) k (sg N8) 0 0 false (.slice none 0 0) from hb5) hk5; obtain ⟨c0, c1, c2, c3, c4, c5⟩ := hT.msg.six; clear hb5 hk5)
              | (refine wpList_drop rfl _ _ rfl lo hi w _ bb 9 rfl rfl hrow.out hn9.out ?_; intro sa6 z6 cap6 hr6)
              | (at_builtin; refine wpList_append_z rfl _ _ rfl _ _ _ lo hi [] (bb.drop 9) rfl (own_empty _) rfl (hr6.kept hh (hT.kept.trans (kept_alloc [] _ _)) (by simp)) hl3.out ?_; intro sa7 z7 cap7 w7 ho7 hg7; have hD := ho7.byteRow.mono (Nat.succ_le_of_lt (Blk.lt hT.msg)) (Nat.le_refl _); replace hT := hT.after (kept_grown (own_empty _).row hg7 _ (kept_alloc [] _ _) (Nat.le_refl _)); obtain ⟨c0, c1, c2, c3, c4, c5⟩ := hT.msg.six; clear ho7 hg7 hr6)
              | (refine wpList_store_cell rfl 23 _ _ rfl (w.heap.size + 1) 5 25 _ (.slice sa7 z7 cap7) rfl rfl hT.msg (by simp) Try.sizeB rfl ?_; intro w5 hb5 hk5; replace hT := hT.put (show MIn w5 (w.heap.size + 1) k (sg N8) 0 0 false (.slice sa7 z7 cap7) from hb5) hk5; obtain ⟨c0, c1, c2, c3, c4, c5⟩ := hT.msg.six; replace hD := hD.kept (Nat.le_refl _) hk5 (by simp); have hs5 := hk5.size; clear hb5 hk5))
            have hX : Hid (Mv.At (w.heap.size + 2) w5.heap.size w5 ⟨k, (sg N8), 0, 0, false, sa7, z7, cap7, bb.drop 9⟩) := ⟨hD.mono (Nat.le_refl _) hs5, (show (0 : Nat) < 18446744073709551616 by decide), vb.out.1, vb.out.2⟩
            obtain ⟨y, hy⟩ : ∃ y : Mv, y = ⟨k, (sg N8), 0, 0, false, sa7, z7, cap7, bb.drop 9⟩ := ⟨_, rfl⟩
            have hyR : y.ms = R := by rw [hy]; exact hE.out.symm
            have hA : y.At (w.heap.size + 2) w5.heap.size w5 := by rw [hy]; exact hX.out
            have hIn : y.In w5 (w.heap.size + 1) := by rw [hy]; exact hT.msg
            have hyl : y.len ≤ 9223372036854775807 := by
              have h1 : y.d = bb.drop 9 := by rw [hy]
              rw [hA.len, h1, List.length_drop]
              omega
            have qb : ∀ A : World, Kept [] w5 A → Calls Try.prog 11 #[.agg #[.int .i64 y.k, .int .i64 y.i, .int .i64 y.o, .int .u64 (y.m : Int), .bool y.s, .slice y.sa y.len y.cap]] A fun e w' => ∃ sa z cap, e = .returned (.slice sa z cap) ∧ Own w' A.heap.size (.slice sa z cap) (bytesL R) ∧ Kept [] A w' := fun A hA' => by
              have := refBytes_any y _ _ A (hA.kept (Nat.le_refl _) hA' (by simp)) hA'.size hyl
              rw [hyR] at this
              exact this
            have hRb : ∀ b ∈ bytesL R, b < 256 := by
              rw [← hyR]
              exact bytesL_byte y.ms hA.row.1
            have S0 : ∀ A : World, Kept [] w5 A → (A.cell? ⟨w.heap.size + 1, 0, none⟩ = some (.int .i64 y.k) ∧ A.cell? ⟨w.heap.size + 1, 1, none⟩ = some (.int .i64 y.i) ∧ A.cell? ⟨w.heap.size + 1, 2, none⟩ = some (.int .i64 y.o) ∧ A.cell? ⟨w.heap.size + 1, 3, none⟩ = some (.int .u64 (y.m : Int)) ∧ A.cell? ⟨w.heap.size + 1, 4, none⟩ = some (.bool y.s) ∧ A.cell? ⟨w.heap.size + 1, 5, none⟩ = some (.slice y.sa y.len y.cap)) ∧ (convert 23 9 (.slice (some ⟨g, off, none⟩) bb.length cap)).run Try.prog A = .ok (.string (txt bb)) A := fun A hA' => ⟨(hIn.kept hA' (by simp)).six, conv_txt (hrow.out.kept hh (hT.kept.trans hA') (by simp))⟩
            have hkD : Kept [] w5 w5.drew := kept_drew [] w5
            clear hy hX hE hyl c0 c1 c2 c3 c4 c5
            have hbn : ((txt (bytesL R)).toList != (txt bb).toList) = !decide (bytesL R = bb) := by rw [← txt_eq hRb hrow.out.1]; rfl
            replace hbn : Hid _ := hbn
            obtain ⟨⟨c0, c1, c2, c3, c4, c5⟩, cb⟩ := S0 _ hkD
            try simp only [Act.put]
            go_cut [100] from 95 (fun v A => v = .bool (!decide (bytesL R = bb)) ∧ Kept [] w5 A)
            case first =>
              go_region_with (first
                | (go_at_call 11; refine (qb _ hkD).mono ?_; rintro e w8 ⟨sa8, z8, cap8, rfl, hR8, hk8⟩; have hkD8 := hkD.trans hk8; have cv := conv_txt hR8.byteRow; obtain ⟨-, cb8⟩ := S0 _ hkD8))
              all_goals (try go_wp2_with fail)
              all_goals go_meet
              all_goals exact ⟨congrArg Value.bool hbn.out, hkD8⟩
            case rest =>
              obtain ⟨rfl, hkc⟩ := hcut
              obtain ⟨⟨d0, d1, d2, d3, d4, d5⟩, -⟩ := S0 _ hkc
              have hbRc := Blk.kept hT.res hkc (by simp)
              clear S0 qb hbn hRb cb c0 c1 c2 c3 c4 c5 hkD
              by_cases hq : bytesL R = bb
              · have hp := hpO.out hq
                replace hp : Hid _ := hp
                rw [decide_eq_true hq]
                clear hpO hpB hq
                go_wp2_with (first
                  | (refine wpList_store_blk rfl 25 _ _ rfl w.heap.size 25 _ [.int .i64 y.k, .int .i64 y.i, .int .i64 y.o, .int .u64 (y.m : Int), .bool y.s, .slice y.sa y.len y.cap] rfl rfl hbRc rfl Try.sizeM (by simp [Value.oneCell']) ?_; intro w9 hb9 hk9 hz9))
                refine bodyPost_ret (results_row_tmp rfl _ _ w.heap.size _ rfl (run_loadVar_row (P := Try.prog) w9 w.heap.size 25 25 _ (0, 0) _ hb9 Try.underlying25 rfl Try.sizeM)) rfl ?_
                exact ⟨y, by rw [hp.out.2]; rfl, hyR.trans hp.out.1.symm, ((hA.kept (Nat.le_refl _) hkc (by simp)).kept hkc.size hk9 (by simp)).mono (by omega) (Nat.le_trans hkc.size hk9.size), (hT.kept.trans hkc).young hk9 (Nat.le_refl _)⟩
              · have hp := hpB.out hq
                replace hp : Hid _ := hp
                rw [decide_eq_false hq]
                clear hpO hpB hq
                go_wp2_with (first
                  | (refine wpList_store_blk rfl 25 _ _ rfl w.heap.size 25 _ [.int .i64 0, .int .i64 0, .int .i64 0, .int .u64 0, .bool false, .slice none 0 0] rfl rfl hbRc rfl Try.sizeM (by simp [Value.oneCell']) ?_; intro w9 hb9 hk9 hz9))
                refine bodyPost_ret (results_row_tmp rfl _ _ w.heap.size _ rfl (run_loadVar_row (P := Try.prog) w9 w.heap.size 25 25 _ (0, 0) _ hb9 Try.underlying25 rfl Try.sizeM)) rfl ?_
                exact ⟨mv0, by rw [hp.out.2]; rfl, hp.out.1.symm, mv0_at _ _ _, (hT.kept.trans hkc).young hk9 (Nat.le_refl _)⟩
          · have hnil : Hid (bb.drop 9 = []) := List.drop_eq_nil_of_le (by omega)
            go_enter Try.func15, Try.ntmps15
            go_wp2_with (first
              | (go_at_call 30; refine (qn _).mono ?_; rintro e w5 ⟨rfl, rfl⟩)
              | (refine wpList_store_blk rfl 25 _ _ rfl (w.heap.size + 1) 25 _ [.int .i64 (k : Int), .int .i64 0, .int .i64 0, .int .u64 0, .bool false, .slice none 0 0] rfl rfl hbM0 rfl Try.sizeM (by simp [Value.oneCell']) ?_; intro W hbW hkW hzW; have hT : Pm w k 0 0 0 false (.slice none 0 0) W := ⟨hbR0.kept hkW (by simp), hbW, hkz.out.young hkW (by omega)⟩; have hb1c := hc1.out W hT.kept; obtain ⟨c0, c1, c2, c3, c4, c5⟩ := hT.msg.six; clear hbM0 hbR0 hbW hkW hzW)
              | (go_at_call 21; refine (q1 _).mono ?_; rintro e w5 ⟨rfl, rfl⟩)
              | (go_at_call 22; refine (q2 _).mono ?_; rintro e w5 ⟨rfl, rfl⟩)
              | (go_at_call 23; refine (q3 _).mono ?_; rintro e w5 ⟨rfl, rfl⟩)
              | (refine wpList_drop rfl _ _ rfl lo hi w _ bb 1 rfl rfl hrow.out hn1.out ?_; intro sa6 z6 cap6 hr6)
              | (go_at_call 31; refine (refGet8_row _ _ lo hi _ (hr6.kept hh hT.kept (by simp)) (Nat.le_trans hh hT.kept.size) hl1.out N8 g1.out).mono ?_; rintro e w5 ⟨rfl, rfl⟩; clear hr6)
              | (refine wpList_store_cell rfl 3 _ _ rfl (w.heap.size + 1) 1 25 _ (.int .i64 (sg N8)) rfl rfl hT.msg (by simp) Try.sizeI rfl ?_; intro w5 hb5 hk5; replace hT := hT.put (show MIn w5 (w.heap.size + 1) k (sg N8) 0 0 false (.slice none 0 0) from hb5) hk5; obtain ⟨c0, c1, c2, c3, c4, c5⟩ := hT.msg.six; clear hb5 hk5))
            have hX : Hid (Mv.At (w.heap.size + 2) w5.heap.size w5 ⟨k, (sg N8), 0, 0, false, none, 0, 0, bb.drop 9⟩) := ⟨by rw [hnil.out]; exact byteRow_nil _ _ _, (show (0 : Nat) < 18446744073709551616 by decide), vb.out.1, vb.out.2⟩
            obtain ⟨y, hy⟩ : ∃ y : Mv, y = ⟨k, (sg N8), 0, 0, false, none, 0, 0, bb.drop 9⟩ := ⟨_, rfl⟩
            have hyR : y.ms = R := by rw [hy]; exact hE.out.symm
            have hA : y.At (w.heap.size + 2) w5.heap.size w5 := by rw [hy]; exact hX.out
            have hIn : y.In w5 (w.heap.size + 1) := by rw [hy]; exact hT.msg
            have hyl : y.len ≤ 9223372036854775807 := by
              have h1 : y.d = bb.drop 9 := by rw [hy]
              rw [hA.len, h1, List.length_drop]
              omega
            have qb : ∀ A : World, Kept [] w5 A → Calls Try.prog 11 #[.agg #[.int .i64 y.k, .int .i64 y.i, .int .i64 y.o, .int .u64 (y.m : Int), .bool y.s, .slice y.sa y.len y.cap]] A fun e w' => ∃ sa z cap, e = .returned (.slice sa z cap) ∧ Own w' A.heap.size (.slice sa z cap) (bytesL R) ∧ Kept [] A w' := fun A hA' => by
              have := refBytes_any y _ _ A (hA.kept (Nat.le_refl _) hA' (by simp)) hA'.size hyl
              rw [hyR] at this
              exact this
            have hRb : ∀ b ∈ bytesL R, b < 256 := by
              rw [← hyR]
              exact bytesL_byte y.ms hA.row.1
            have S0 : ∀ A : World, Kept [] w5 A → (A.cell? ⟨w.heap.size + 1, 0, none⟩ = some (.int .i64 y.k) ∧ A.cell? ⟨w.heap.size + 1, 1, none⟩ = some (.int .i64 y.i) ∧ A.cell? ⟨w.heap.size + 1, 2, none⟩ = some (.int .i64 y.o) ∧ A.cell? ⟨w.heap.size + 1, 3, none⟩ = some (.int .u64 (y.m : Int)) ∧ A.cell? ⟨w.heap.size + 1, 4, none⟩ = some (.bool y.s) ∧ A.cell? ⟨w.heap.size + 1, 5, none⟩ = some (.slice y.sa y.len y.cap)) ∧ (convert 23 9 (.slice (some ⟨g, off, none⟩) bb.length cap)).run Try.prog A = .ok (.string (txt bb)) A := fun A hA' => ⟨(hIn.kept hA' (by simp)).six, conv_txt (hrow.out.kept hh (hT.kept.trans hA') (by simp))⟩
            have hkD : Kept [] w5 w5.drew := kept_drew [] w5
            clear hy hX hE hyl c0 c1 c2 c3 c4 c5
            have hbn : ((txt (bytesL R)).toList != (txt bb).toList) = !decide (bytesL R = bb) := by rw [← txt_eq hRb hrow.out.1]; rfl
            replace hbn : Hid _ := hbn
            obtain ⟨⟨c0, c1, c2, c3, c4, c5⟩, cb⟩ := S0 _ hkD
            try simp only [Act.put]
            go_cut [100] from 95 (fun v A => v = .bool (!decide (bytesL R = bb)) ∧ Kept [] w5 A)
            case first =>
              go_region_with (first
                | (go_at_call 11; refine (qb _ hkD).mono ?_; rintro e w8 ⟨sa8, z8, cap8, rfl, hR8, hk8⟩; have hkD8 := hkD.trans hk8; have cv := conv_txt hR8.byteRow; obtain ⟨-, cb8⟩ := S0 _ hkD8))
              all_goals (try go_wp2_with fail)
              all_goals go_meet
              all_goals exact ⟨congrArg Value.bool hbn.out, hkD8⟩
            case rest =>
              obtain ⟨rfl, hkc⟩ := hcut
              obtain ⟨⟨d0, d1, d2, d3, d4, d5⟩, -⟩ := S0 _ hkc
              have hbRc := Blk.kept hT.res hkc (by simp)
              clear S0 qb hbn hRb cb c0 c1 c2 c3 c4 c5 hkD
              by_cases hq : bytesL R = bb
              · have hp := hpO.out hq
                replace hp : Hid _ := hp
                rw [decide_eq_true hq]
                clear hpO hpB hq
                go_wp2_with (first
                  | (refine wpList_store_blk rfl 25 _ _ rfl w.heap.size 25 _ [.int .i64 y.k, .int .i64 y.i, .int .i64 y.o, .int .u64 (y.m : Int), .bool y.s, .slice y.sa y.len y.cap] rfl rfl hbRc rfl Try.sizeM (by simp [Value.oneCell']) ?_; intro w9 hb9 hk9 hz9))
                refine bodyPost_ret (results_row_tmp rfl _ _ w.heap.size _ rfl (run_loadVar_row (P := Try.prog) w9 w.heap.size 25 25 _ (0, 0) _ hb9 Try.underlying25 rfl Try.sizeM)) rfl ?_
                exact ⟨y, by rw [hp.out.2]; rfl, hyR.trans hp.out.1.symm, ((hA.kept (Nat.le_refl _) hkc (by simp)).kept hkc.size hk9 (by simp)).mono (by omega) (Nat.le_trans hkc.size hk9.size), (hT.kept.trans hkc).young hk9 (Nat.le_refl _)⟩
              · have hp := hpB.out hq
                replace hp : Hid _ := hp
                rw [decide_eq_false hq]
                clear hpO hpB hq
                go_wp2_with (first
                  | (refine wpList_store_blk rfl 25 _ _ rfl w.heap.size 25 _ [.int .i64 0, .int .i64 0, .int .i64 0, .int .u64 0, .bool false, .slice none 0 0] rfl rfl hbRc rfl Try.sizeM (by simp [Value.oneCell']) ?_; intro w9 hb9 hk9 hz9))
                refine bodyPost_ret (results_row_tmp rfl _ _ w.heap.size _ rfl (run_loadVar_row (P := Try.prog) w9 w.heap.size 25 25 _ (0, 0) _ hb9 Try.underlying25 rfl Try.sizeM)) rfl ?_
                exact ⟨mv0, by rw [hp.out.2]; rfl, hp.out.1.symm, mv0_at _ _ _, (hT.kept.trans hkc).young hk9 (Nat.le_refl _)⟩
      · by_cases h6 : k = 6 ∨ k = 7
        · have p1 : ¬ (k : Int) = 1 := by omega
          have p4 : ¬ (2 ≤ (k : Int) ∧ (k : Int) ≤ 5) := by omega
          have p8 : ((k : Int) = 2 ∨ (k : Int) = 6 ∨ (k : Int) = 7) := by omega
          rw [decide_eq_false p1] at q1
          rw [decide_eq_false p4] at q2
          rw [decide_eq_true p8] at q3
          rw [if_neg p1, if_neg p4, if_pos p8] at hN
          have x1 : r1 k l = l := if_neg p1
          have x2 : r2 k l = l := (if_neg p4).trans (by rw [x1])
          have x3 : r3 k l = (k :: l).drop 3 := (if_pos p8).trans (by rw [x2]; rfl)
          have xS : readS k l = false := if_neg p1
          have xM : readM k l = 0 := if_neg p1
          have xI : readI k l = 0 := (if_neg p4)
          have xO : readO k l = (val (((k :: l).drop 1).take 2) : Int) := (if_pos p8).trans (by rw [x2]; rfl)
          rw [xS, xM, xI, xO, x3] at hE
          have hn1 : Hid (1 ≤ (k :: l).length) := by show _ ≤ _; omega
          have hn3 : Hid (3 ≤ (k :: l).length) := by show _ ≤ _; omega
          have hl1 : Hid (((k :: l).drop 1).length ≤ 9223372036854775807) := by show _ ≤ _; rw [List.length_drop]; omega
          have gh1 : 2 ≤ ((k :: l).drop 1).length := by rw [List.length_drop]; omega
          have g1 : Hid (Seal.getv 2 ((k :: l).drop 1) = val (((k :: l).drop 1).take 2)) := Seal.getv_in (Nat.not_lt.2 gh1)
          have hl3 : Hid (([] : List Nat).length + ((k :: l).drop 3).length ≤ 1000000) := by show _ ≤ _; rw [List.length_drop]; simp only [List.length_nil]; omega
          have hc1 : Hid (∀ A : World, Kept [] w A → True) := fun _ _ => trivial
          replace hs : 3 ≤ (k :: l).length := by omega
          clear x1 x2 x3 xS xM xI xO p1 p4 p8 hc h h1 h2 h3 h6 gh1
          generalize val (((k :: l).drop 1).take 2) = N2 at *
          generalize parseE (k :: l) = E at *
          generalize parseM (k :: l) = M at *
          generalize readL k l = R at *
          generalize k :: l = bb at *
          rw [hN] at qn
          replace hE : Hid _ := hE
          by_cases hda : 3 < bb.length
          · go_enter Try.func15, Try.ntmps15
            go_wp2_with (first
              | (go_at_call 30; refine (qn _).mono ?_; rintro e w5 ⟨rfl, rfl⟩)
              | (refine wpList_store_blk rfl 25 _ _ rfl (w.heap.size + 1) 25 _ [.int .i64 (k : Int), .int .i64 0, .int .i64 0, .int .u64 0, .bool false, .slice none 0 0] rfl rfl hbM0 rfl Try.sizeM (by simp [Value.oneCell']) ?_; intro W hbW hkW hzW; have hT : Pm w k 0 0 0 false (.slice none 0 0) W := ⟨hbR0.kept hkW (by simp), hbW, hkz.out.young hkW (by omega)⟩; have hb1c := hc1.out W hT.kept; obtain ⟨c0, c1, c2, c3, c4, c5⟩ := hT.msg.six; clear hbM0 hbR0 hbW hkW hzW)
              | (go_at_call 21; refine (q1 _).mono ?_; rintro e w5 ⟨rfl, rfl⟩)
              | (go_at_call 22; refine (q2 _).mono ?_; rintro e w5 ⟨rfl, rfl⟩)
              | (go_at_call 23; refine (q3 _).mono ?_; rintro e w5 ⟨rfl, rfl⟩)
              | (refine wpList_drop rfl _ _ rfl lo hi w _ bb 1 rfl rfl hrow.out hn1.out ?_; intro sa6 z6 cap6 hr6)
              | (go_at_call 32; refine (refGet2_row _ _ lo hi _ (hr6.kept hh hT.kept (by simp)) (Nat.le_trans hh hT.kept.size) hl1.out N2 g1.out).mono ?_; rintro e w5 ⟨rfl, rfl⟩; clear hr6)
              | (refine wpList_store_cell rfl 3 _ _ rfl (w.heap.size + 1) 2 25 _ (.int .i64 (N2 : Int)) rfl rfl hT.msg (by simp) Try.sizeI rfl ?_; intro w5 hb5 hk5; replace hT := hT.put (show MIn w5 (w.heap.size + 1) k 0 N2 0 false (.slice none 0 0) from hb5) hk5; obtain ⟨c0, c1, c2, c3, c4, c5⟩ := hT.msg.six; clear hb5 hk5)
              | (refine wpList_drop rfl _ _ rfl lo hi w _ bb 3 rfl rfl hrow.out hn3.out ?_; intro sa6 z6 cap6 hr6)
              | (at_builtin; refine wpList_append_z rfl _ _ rfl _ _ _ lo hi [] (bb.drop 3) rfl (own_empty _) rfl (hr6.kept hh (hT.kept.trans (kept_alloc [] _ _)) (by simp)) hl3.out ?_; intro sa7 z7 cap7 w7 ho7 hg7; have hD := ho7.byteRow.mono (Nat.succ_le_of_lt (Blk.lt hT.msg)) (Nat.le_refl _); replace hT := hT.after (kept_grown (own_empty _).row hg7 _ (kept_alloc [] _ _) (Nat.le_refl _)); obtain ⟨c0, c1, c2, c3, c4, c5⟩ := hT.msg.six; clear ho7 hg7 hr6)
              | (refine wpList_store_cell rfl 23 _ _ rfl (w.heap.size + 1) 5 25 _ (.slice sa7 z7 cap7) rfl rfl hT.msg (by simp) Try.sizeB rfl ?_; intro w5 hb5 hk5; replace hT := hT.put (show MIn w5 (w.heap.size + 1) k 0 N2 0 false (.slice sa7 z7 cap7) from hb5) hk5; obtain ⟨c0, c1, c2, c3, c4, c5⟩ := hT.msg.six; replace hD := hD.kept (Nat.le_refl _) hk5 (by simp); have hs5 := hk5.size; clear hb5 hk5))
            have hX : Hid (Mv.At (w.heap.size + 2) w5.heap.size w5 ⟨k, 0, (N2 : Int), 0, false, sa7, z7, cap7, bb.drop 3⟩) := ⟨hD.mono (Nat.le_refl _) hs5, (show (0 : Nat) < 18446744073709551616 by decide), (show (-9223372036854775808 : Int) ≤ 0 by decide), (show (0 : Int) ≤ 9223372036854775807 by decide)⟩
            obtain ⟨y, hy⟩ : ∃ y : Mv, y = ⟨k, 0, (N2 : Int), 0, false, sa7, z7, cap7, bb.drop 3⟩ := ⟨_, rfl⟩
            have hyR : y.ms = R := by rw [hy]; exact hE.out.symm
            have hA : y.At (w.heap.size + 2) w5.heap.size w5 := by rw [hy]; exact hX.out
            have hIn : y.In w5 (w.heap.size + 1) := by rw [hy]; exact hT.msg
            have hyl : y.len ≤ 9223372036854775807 := by
              have h1 : y.d = bb.drop 3 := by rw [hy]
              rw [hA.len, h1, List.length_drop]
              omega
            have qb : ∀ A : World, Kept [] w5 A → Calls Try.prog 11 #[.agg #[.int .i64 y.k, .int .i64 y.i, .int .i64 y.o, .int .u64 (y.m : Int), .bool y.s, .slice y.sa y.len y.cap]] A fun e w' => ∃ sa z cap, e = .returned (.slice sa z cap) ∧ Own w' A.heap.size (.slice sa z cap) (bytesL R) ∧ Kept [] A w' := fun A hA' => by
              have := refBytes_any y _ _ A (hA.kept (Nat.le_refl _) hA' (by simp)) hA'.size hyl
              rw [hyR] at this
              exact this
            have hRb : ∀ b ∈ bytesL R, b < 256 := by
              rw [← hyR]
              exact bytesL_byte y.ms hA.row.1
            have S0 : ∀ A : World, Kept [] w5 A → (A.cell? ⟨w.heap.size + 1, 0, none⟩ = some (.int .i64 y.k) ∧ A.cell? ⟨w.heap.size + 1, 1, none⟩ = some (.int .i64 y.i) ∧ A.cell? ⟨w.heap.size + 1, 2, none⟩ = some (.int .i64 y.o) ∧ A.cell? ⟨w.heap.size + 1, 3, none⟩ = some (.int .u64 (y.m : Int)) ∧ A.cell? ⟨w.heap.size + 1, 4, none⟩ = some (.bool y.s) ∧ A.cell? ⟨w.heap.size + 1, 5, none⟩ = some (.slice y.sa y.len y.cap)) ∧ (convert 23 9 (.slice (some ⟨g, off, none⟩) bb.length cap)).run Try.prog A = .ok (.string (txt bb)) A := fun A hA' => ⟨(hIn.kept hA' (by simp)).six, conv_txt (hrow.out.kept hh (hT.kept.trans hA') (by simp))⟩
            have hkD : Kept [] w5 w5.drew := kept_drew [] w5
            clear hy hX hE hyl c0 c1 c2 c3 c4 c5
            have hbn : ((txt (bytesL R)).toList != (txt bb).toList) = !decide (bytesL R = bb) := by rw [← txt_eq hRb hrow.out.1]; rfl
            replace hbn : Hid _ := hbn
            obtain ⟨⟨c0, c1, c2, c3, c4, c5⟩, cb⟩ := S0 _ hkD
            try simp only [Act.put]
            go_cut [100] from 95 (fun v A => v = .bool (!decide (bytesL R = bb)) ∧ Kept [] w5 A)
            case first =>
              go_region_with (first
                | (go_at_call 11; refine (qb _ hkD).mono ?_; rintro e w8 ⟨sa8, z8, cap8, rfl, hR8, hk8⟩; have hkD8 := hkD.trans hk8; have cv := conv_txt hR8.byteRow; obtain ⟨-, cb8⟩ := S0 _ hkD8))
              all_goals (try go_wp2_with fail)
              all_goals go_meet
              all_goals exact ⟨congrArg Value.bool hbn.out, hkD8⟩
            case rest =>
              obtain ⟨rfl, hkc⟩ := hcut
              obtain ⟨⟨d0, d1, d2, d3, d4, d5⟩, -⟩ := S0 _ hkc
              have hbRc := Blk.kept hT.res hkc (by simp)
              clear S0 qb hbn hRb cb c0 c1 c2 c3 c4 c5 hkD
              by_cases hq : bytesL R = bb
              · have hp := hpO.out hq
                replace hp : Hid _ := hp
                rw [decide_eq_true hq]
                clear hpO hpB hq
                go_wp2_with (first
                  | (refine wpList_store_blk rfl 25 _ _ rfl w.heap.size 25 _ [.int .i64 y.k, .int .i64 y.i, .int .i64 y.o, .int .u64 (y.m : Int), .bool y.s, .slice y.sa y.len y.cap] rfl rfl hbRc rfl Try.sizeM (by simp [Value.oneCell']) ?_; intro w9 hb9 hk9 hz9))
                refine bodyPost_ret (results_row_tmp rfl _ _ w.heap.size _ rfl (run_loadVar_row (P := Try.prog) w9 w.heap.size 25 25 _ (0, 0) _ hb9 Try.underlying25 rfl Try.sizeM)) rfl ?_
                exact ⟨y, by rw [hp.out.2]; rfl, hyR.trans hp.out.1.symm, ((hA.kept (Nat.le_refl _) hkc (by simp)).kept hkc.size hk9 (by simp)).mono (by omega) (Nat.le_trans hkc.size hk9.size), (hT.kept.trans hkc).young hk9 (Nat.le_refl _)⟩
              · have hp := hpB.out hq
                replace hp : Hid _ := hp
                rw [decide_eq_false hq]
                clear hpO hpB hq
                go_wp2_with (first
                  | (refine wpList_store_blk rfl 25 _ _ rfl w.heap.size 25 _ [.int .i64 0, .int .i64 0, .int .i64 0, .int .u64 0, .bool false, .slice none 0 0] rfl rfl hbRc rfl Try.sizeM (by simp [Value.oneCell']) ?_; intro w9 hb9 hk9 hz9))
                refine bodyPost_ret (results_row_tmp rfl _ _ w.heap.size _ rfl (run_loadVar_row (P := Try.prog) w9 w.heap.size 25 25 _ (0, 0) _ hb9 Try.underlying25 rfl Try.sizeM)) rfl ?_
                exact ⟨mv0, by rw [hp.out.2]; rfl, hp.out.1.symm, mv0_at _ _ _, (hT.kept.trans hkc).young hk9 (Nat.le_refl _)⟩
          · have hnil : Hid (bb.drop 3 = []) := List.drop_eq_nil_of_le (by omega)
            go_enter Try.func15, Try.ntmps15
            go_wp2_with (first
              | (go_at_call 30; refine (qn _).mono ?_; rintro e w5 ⟨rfl, rfl⟩)
              | (refine wpList_store_blk rfl 25 _ _ rfl (w.heap.size + 1) 25 _ [.int .i64 (k : Int), .int .i64 0, .int .i64 0, .int .u64 0, .bool false, .slice none 0 0] rfl rfl hbM0 rfl Try.sizeM (by simp [Value.oneCell']) ?_; intro W hbW hkW hzW; have hT : Pm w k 0 0 0 false (.slice none 0 0) W := ⟨hbR0.kept hkW (by simp), hbW, hkz.out.young hkW (by omega)⟩; have hb1c := hc1.out W hT.kept; obtain ⟨c0, c1, c2, c3, c4, c5⟩ := hT.msg.six; clear hbM0 hbR0 hbW hkW hzW)
              | (go_at_call 21; refine (q1 _).mono ?_; rintro e w5 ⟨rfl, rfl⟩)
              | (go_at_call 22; refine (q2 _).mono ?_; rintro e w5 ⟨rfl, rfl⟩)
              | (go_at_call 23; refine (q3 _).mono ?_; rintro e w5 ⟨rfl, rfl⟩)
              | (refine wpList_drop rfl _ _ rfl lo hi w _ bb 1 rfl rfl hrow.out hn1.out ?_; intro sa6 z6 cap6 hr6)
              | (go_at_call 32; refine (refGet2_row _ _ lo hi _ (hr6.kept hh hT.kept (by simp)) (Nat.le_trans hh hT.kept.size) hl1.out N2 g1.out).mono ?_; rintro e w5 ⟨rfl, rfl⟩; clear hr6)
              | (refine wpList_store_cell rfl 3 _ _ rfl (w.heap.size + 1) 2 25 _ (.int .i64 (N2 : Int)) rfl rfl hT.msg (by simp) Try.sizeI rfl ?_; intro w5 hb5 hk5; replace hT := hT.put (show MIn w5 (w.heap.size + 1) k 0 N2 0 false (.slice none 0 0) from hb5) hk5; obtain ⟨c0, c1, c2, c3, c4, c5⟩ := hT.msg.six; clear hb5 hk5))
            have hX : Hid (Mv.At (w.heap.size + 2) w5.heap.size w5 ⟨k, 0, (N2 : Int), 0, false, none, 0, 0, bb.drop 3⟩) := ⟨by rw [hnil.out]; exact byteRow_nil _ _ _, (show (0 : Nat) < 18446744073709551616 by decide), (show (-9223372036854775808 : Int) ≤ 0 by decide), (show (0 : Int) ≤ 9223372036854775807 by decide)⟩
            obtain ⟨y, hy⟩ : ∃ y : Mv, y = ⟨k, 0, (N2 : Int), 0, false, none, 0, 0, bb.drop 3⟩ := ⟨_, rfl⟩
            have hyR : y.ms = R := by rw [hy]; exact hE.out.symm
            have hA : y.At (w.heap.size + 2) w5.heap.size w5 := by rw [hy]; exact hX.out
            have hIn : y.In w5 (w.heap.size + 1) := by rw [hy]; exact hT.msg
            have hyl : y.len ≤ 9223372036854775807 := by
              have h1 : y.d = bb.drop 3 := by rw [hy]
              rw [hA.len, h1, List.length_drop]
              omega
            have qb : ∀ A : World, Kept [] w5 A → Calls Try.prog 11 #[.agg #[.int .i64 y.k, .int .i64 y.i, .int .i64 y.o, .int .u64 (y.m : Int), .bool y.s, .slice y.sa y.len y.cap]] A fun e w' => ∃ sa z cap, e = .returned (.slice sa z cap) ∧ Own w' A.heap.size (.slice sa z cap) (bytesL R) ∧ Kept [] A w' := fun A hA' => by
              have := refBytes_any y _ _ A (hA.kept (Nat.le_refl _) hA' (by simp)) hA'.size hyl
              rw [hyR] at this
              exact this
            have hRb : ∀ b ∈ bytesL R, b < 256 := by
              rw [← hyR]
              exact bytesL_byte y.ms hA.row.1
            have S0 : ∀ A : World, Kept [] w5 A → (A.cell? ⟨w.heap.size + 1, 0, none⟩ = some (.int .i64 y.k) ∧ A.cell? ⟨w.heap.size + 1, 1, none⟩ = some (.int .i64 y.i) ∧ A.cell? ⟨w.heap.size + 1, 2, none⟩ = some (.int .i64 y.o) ∧ A.cell? ⟨w.heap.size + 1, 3, none⟩ = some (.int .u64 (y.m : Int)) ∧ A.cell? ⟨w.heap.size + 1, 4, none⟩ = some (.bool y.s) ∧ A.cell? ⟨w.heap.size + 1, 5, none⟩ = some (.slice y.sa y.len y.cap)) ∧ (convert 23 9 (.slice (some ⟨g, off, none⟩) bb.length cap)).run Try.prog A = .ok (.string (txt bb)) A := fun A hA' => ⟨(hIn.kept hA' (by simp)).six, conv_txt (hrow.out.kept hh (hT.kept.trans hA') (by simp))⟩
            have hkD : Kept [] w5 w5.drew := kept_drew [] w5
            clear hy hX hE hyl c0 c1 c2 c3 c4 c5
            have hbn : ((txt (bytesL R)).toList != (txt bb).toList) = !decide (bytesL R = bb) := by rw [← txt_eq hRb hrow.out.1]; rfl
            replace hbn : Hid _ := hbn
            obtain ⟨⟨c0, c1, c2, c3, c4, c5⟩, cb⟩ := S0 _ hkD
            try simp only [Act.put]
            go_cut [100] from 95 (fun v A => v = .bool (!decide (bytesL R = bb)) ∧ Kept [] w5 A)
            case first =>
              go_region_with (first
                | (go_at_call 11; refine (qb _ hkD).mono ?_; rintro e w8 ⟨sa8, z8, cap8, rfl, hR8, hk8⟩; have hkD8 := hkD.trans hk8; have cv := conv_txt hR8.byteRow; obtain ⟨-, cb8⟩ := S0 _ hkD8))
              all_goals (try go_wp2_with fail)
              all_goals go_meet
              all_goals exact ⟨congrArg Value.bool hbn.out, hkD8⟩
            case rest =>
              obtain ⟨rfl, hkc⟩ := hcut
              obtain ⟨⟨d0, d1, d2, d3, d4, d5⟩, -⟩ := S0 _ hkc
              have hbRc := Blk.kept hT.res hkc (by simp)
              clear S0 qb hbn hRb cb c0 c1 c2 c3 c4 c5 hkD
              by_cases hq : bytesL R = bb
              · have hp := hpO.out hq
                replace hp : Hid _ := hp
                rw [decide_eq_true hq]
                clear hpO hpB hq
                go_wp2_with (first
                  | (refine wpList_store_blk rfl 25 _ _ rfl w.heap.size 25 _ [.int .i64 y.k, .int .i64 y.i, .int .i64 y.o, .int .u64 (y.m : Int), .bool y.s, .slice y.sa y.len y.cap] rfl rfl hbRc rfl Try.sizeM (by simp [Value.oneCell']) ?_; intro w9 hb9 hk9 hz9))
                refine bodyPost_ret (results_row_tmp rfl _ _ w.heap.size _ rfl (run_loadVar_row (P := Try.prog) w9 w.heap.size 25 25 _ (0, 0) _ hb9 Try.underlying25 rfl Try.sizeM)) rfl ?_
                exact ⟨y, by rw [hp.out.2]; rfl, hyR.trans hp.out.1.symm, ((hA.kept (Nat.le_refl _) hkc (by simp)).kept hkc.size hk9 (by simp)).mono (by omega) (Nat.le_trans hkc.size hk9.size), (hT.kept.trans hkc).young hk9 (Nat.le_refl _)⟩
              · have hp := hpB.out hq
                replace hp : Hid _ := hp
                rw [decide_eq_false hq]
                clear hpO hpB hq
                go_wp2_with (first
                  | (refine wpList_store_blk rfl 25 _ _ rfl w.heap.size 25 _ [.int .i64 0, .int .i64 0, .int .i64 0, .int .u64 0, .bool false, .slice none 0 0] rfl rfl hbRc rfl Try.sizeM (by simp [Value.oneCell']) ?_; intro w9 hb9 hk9 hz9))
                refine bodyPost_ret (results_row_tmp rfl _ _ w.heap.size _ rfl (run_loadVar_row (P := Try.prog) w9 w.heap.size 25 25 _ (0, 0) _ hb9 Try.underlying25 rfl Try.sizeM)) rfl ?_
                exact ⟨mv0, by rw [hp.out.2]; rfl, hp.out.1.symm, mv0_at _ _ _, (hT.kept.trans hkc).young hk9 (Nat.le_refl _)⟩
        · have p1 : ¬ (k : Int) = 1 := by omega
          have p4 : ¬ (2 ≤ (k : Int) ∧ (k : Int) ≤ 5) := by omega
          have p8 : ¬ ((k : Int) = 2 ∨ (k : Int) = 6 ∨ (k : Int) = 7) := by omega
          rw [decide_eq_false p1] at q1
          rw [decide_eq_false p4] at q2
          rw [decide_eq_false p8] at q3
          rw [if_neg p1, if_neg p4, if_neg p8] at hN
          have x1 : r1 k l = l := if_neg p1
          have x2 : r2 k l = l := (if_neg p4).trans (by rw [x1])
          have x3 : r3 k l = (k :: l).drop 1 := (if_neg p8).trans (by rw [x2]; rfl)
          have xS : readS k l = false := if_neg p1
          have xM : readM k l = 0 := if_neg p1
          have xI : readI k l = 0 := (if_neg p4)
          have xO : readO k l = 0 := (if_neg p8)
          rw [xS, xM, xI, xO, x3] at hE
          have hn1 : Hid (1 ≤ (k :: l).length) := by show _ ≤ _; omega
          have hl3 : Hid (([] : List Nat).length + ((k :: l).drop 1).length ≤ 1000000) := by show _ ≤ _; rw [List.length_drop]; simp only [List.length_nil]; omega
          have hc1 : Hid (∀ A : World, Kept [] w A → True) := fun _ _ => trivial
          replace hs : 1 ≤ (k :: l).length := by omega
          clear x1 x2 x3 xS xM xI xO p1 p4 p8 hc h h1 h2 h3 h6
          generalize parseE (k :: l) = E at *
          generalize parseM (k :: l) = M at *
          generalize readL k l = R at *
          generalize k :: l = bb at *
          rw [hN] at qn
          replace hE : Hid _ := hE
          by_cases hda : 1 < bb.length
          · go_enter Try.func15, Try.ntmps15
            go_wp2_with (first
              | (go_at_call 30; refine (qn _).mono ?_; rintro e w5 ⟨rfl, rfl⟩)
              | (refine wpList_store_blk rfl 25 _ _ rfl (w.heap.size + 1) 25 _ [.int .i64 (k : Int), .int .i64 0, .int .i64 0, .int .u64 0, .bool false, .slice none 0 0] rfl rfl hbM0 rfl Try.sizeM (by simp [Value.oneCell']) ?_; intro W hbW hkW hzW; have hT : Pm w k 0 0 0 false (.slice none 0 0) W := ⟨hbR0.kept hkW (by simp), hbW, hkz.out.young hkW (by omega)⟩; have hb1c := hc1.out W hT.kept; obtain ⟨c0, c1, c2, c3, c4, c5⟩ := hT.msg.six; clear hbM0 hbR0 hbW hkW hzW)
              | (go_at_call 21; refine (q1 _).mono ?_; rintro e w5 ⟨rfl, rfl⟩)
              | (go_at_call 22; refine (q2 _).mono ?_; rintro e w5 ⟨rfl, rfl⟩)
              | (go_at_call 23; refine (q3 _).mono ?_; rintro e w5 ⟨rfl, rfl⟩)
              | (refine wpList_drop rfl _ _ rfl lo hi w _ bb 1 rfl rfl hrow.out hn1.out ?_; intro sa6 z6 cap6 hr6)
              | (at_builtin; refine wpList_append_z rfl _ _ rfl _ _ _ lo hi [] (bb.drop 1) rfl (own_empty _) rfl (hr6.kept hh (hT.kept.trans (kept_alloc [] _ _)) (by simp)) hl3.out ?_; intro sa7 z7 cap7 w7 ho7 hg7; have hD := ho7.byteRow.mono (Nat.succ_le_of_lt (Blk.lt hT.msg)) (Nat.le_refl _); replace hT := hT.after (kept_grown (own_empty _).row hg7 _ (kept_alloc [] _ _) (Nat.le_refl _)); obtain ⟨c0, c1, c2, c3, c4, c5⟩ := hT.msg.six; clear ho7 hg7 hr6)
              | (refine wpList_store_cell rfl 23 _ _ rfl (w.heap.size + 1) 5 25 _ (.slice sa7 z7 cap7) rfl rfl hT.msg (by simp) Try.sizeB rfl ?_; intro w5 hb5 hk5; replace hT := hT.put (show MIn w5 (w.heap.size + 1) k 0 0 0 false (.slice sa7 z7 cap7) from hb5) hk5; obtain ⟨c0, c1, c2, c3, c4, c5⟩ := hT.msg.six; replace hD := hD.kept (Nat.le_refl _) hk5 (by simp); have hs5 := hk5.size; clear hb5 hk5))
            have hX : Hid (Mv.At (w.heap.size + 2) w5.heap.size w5 ⟨k, 0, 0, 0, false, sa7, z7, cap7, bb.drop 1⟩) := ⟨hD.mono (Nat.le_refl _) hs5, (show (0 : Nat) < 18446744073709551616 by decide), (show (-9223372036854775808 : Int) ≤ 0 by decide), (show (0 : Int) ≤ 9223372036854775807 by decide)⟩
            obtain ⟨y, hy⟩ : ∃ y : Mv, y = ⟨k, 0, 0, 0, false, sa7, z7, cap7, bb.drop 1⟩ := ⟨_, rfl⟩
            have hyR : y.ms = R := by rw [hy]; exact hE.out.symm
            have hA : y.At (w.heap.size + 2) w5.heap.size w5 := by rw [hy]; exact hX.out
            have hIn : y.In w5 (w.heap.size + 1) := by rw [hy]; exact hT.msg
            have hyl : y.len ≤ 9223372036854775807 := by
              have h1 : y.d = bb.drop 1 := by rw [hy]
              rw [hA.len, h1, List.length_drop]
              omega
            have qb : ∀ A : World, Kept [] w5 A → Calls Try.prog 11 #[.agg #[.int .i64 y.k, .int .i64 y.i, .int .i64 y.o, .int .u64 (y.m : Int), .bool y.s, .slice y.sa y.len y.cap]] A fun e w' => ∃ sa z cap, e = .returned (.slice sa z cap) ∧ Own w' A.heap.size (.slice sa z cap) (bytesL R) ∧ Kept [] A w' := fun A hA' => by
              have := refBytes_any y _ _ A (hA.kept (Nat.le_refl _) hA' (by simp)) hA'.size hyl
              rw [hyR] at this
              exact this
            have hRb : ∀ b ∈ bytesL R, b < 256 := by
              rw [← hyR]
              exact bytesL_byte y.ms hA.row.1
            have S0 : ∀ A : World, Kept [] w5 A → (A.cell? ⟨w.heap.size + 1, 0, none⟩ = some (.int .i64 y.k) ∧ A.cell? ⟨w.heap.size + 1, 1, none⟩ = some (.int .i64 y.i) ∧ A.cell? ⟨w.heap.size + 1, 2, none⟩ = some (.int .i64 y.o) ∧ A.cell? ⟨w.heap.size + 1, 3, none⟩ = some (.int .u64 (y.m : Int)) ∧ A.cell? ⟨w.heap.size + 1, 4, none⟩ = some (.bool y.s) ∧ A.cell? ⟨w.heap.size + 1, 5, none⟩ = some (.slice y.sa y.len y.cap)) ∧ (convert 23 9 (.slice (some ⟨g, off, none⟩) bb.length cap)).run Try.prog A = .ok (.string (txt bb)) A := fun A hA' => ⟨(hIn.kept hA' (by simp)).six, conv_txt (hrow.out.kept hh (hT.kept.trans hA') (by simp))⟩
            have hkD : Kept [] w5 w5.drew := kept_drew [] w5
            clear hy hX hE hyl c0 c1 c2 c3 c4 c5
            have hbn : ((txt (bytesL R)).toList != (txt bb).toList) = !decide (bytesL R = bb) := by rw [← txt_eq hRb hrow.out.1]; rfl
            replace hbn : Hid _ := hbn
            obtain ⟨⟨c0, c1, c2, c3, c4, c5⟩, cb⟩ := S0 _ hkD
            try simp only [Act.put]
            go_cut [100] from 95 (fun v A => v = .bool (!decide (bytesL R = bb)) ∧ Kept [] w5 A)
            case first =>
              go_region_with (first
                | (go_at_call 11; refine (qb _ hkD).mono ?_; rintro e w8 ⟨sa8, z8, cap8, rfl, hR8, hk8⟩; have hkD8 := hkD.trans hk8; have cv := conv_txt hR8.byteRow; obtain ⟨-, cb8⟩ := S0 _ hkD8))
              all_goals (try go_wp2_with fail)
              all_goals go_meet
              all_goals exact ⟨congrArg Value.bool hbn.out, hkD8⟩
            case rest =>
              obtain ⟨rfl, hkc⟩ := hcut
              obtain ⟨⟨d0, d1, d2, d3, d4, d5⟩, -⟩ := S0 _ hkc
              have hbRc := Blk.kept hT.res hkc (by simp)
              clear S0 qb hbn hRb cb c0 c1 c2 c3 c4 c5 hkD
              by_cases hq : bytesL R = bb
              · have hp := hpO.out hq
                replace hp : Hid _ := hp
                rw [decide_eq_true hq]
                clear hpO hpB hq
                go_wp2_with (first
                  | (refine wpList_store_blk rfl 25 _ _ rfl w.heap.size 25 _ [.int .i64 y.k, .int .i64 y.i, .int .i64 y.o, .int .u64 (y.m : Int), .bool y.s, .slice y.sa y.len y.cap] rfl rfl hbRc rfl Try.sizeM (by simp [Value.oneCell']) ?_; intro w9 hb9 hk9 hz9))
                refine bodyPost_ret (results_row_tmp rfl _ _ w.heap.size _ rfl (run_loadVar_row (P := Try.prog) w9 w.heap.size 25 25 _ (0, 0) _ hb9 Try.underlying25 rfl Try.sizeM)) rfl ?_
                exact ⟨y, by rw [hp.out.2]; rfl, hyR.trans hp.out.1.symm, ((hA.kept (Nat.le_refl _) hkc (by simp)).kept hkc.size hk9 (by simp)).mono (by omega) (Nat.le_trans hkc.size hk9.size), (hT.kept.trans hkc).young hk9 (Nat.le_refl _)⟩
              · have hp := hpB.out hq
                replace hp : Hid _ := hp
                rw [decide_eq_false hq]
                clear hpO hpB hq
                go_wp2_with (first
                  | (refine wpList_store_blk rfl 25 _ _ rfl w.heap.size 25 _ [.int .i64 0, .int .i64 0, .int .i64 0, .int .u64 0, .bool false, .slice none 0 0] rfl rfl hbRc rfl Try.sizeM (by simp [Value.oneCell']) ?_; intro w9 hb9 hk9 hz9))
                refine bodyPost_ret (results_row_tmp rfl _ _ w.heap.size _ rfl (run_loadVar_row (P := Try.prog) w9 w.heap.size 25 25 _ (0, 0) _ hb9 Try.underlying25 rfl Try.sizeM)) rfl ?_
                exact ⟨mv0, by rw [hp.out.2]; rfl, hp.out.1.symm, mv0_at _ _ _, (hT.kept.trans hkc).young hk9 (Nat.le_refl _)⟩
          · have hnil : Hid (bb.drop 1 = []) := List.drop_eq_nil_of_le (by omega)
            go_enter Try.func15, Try.ntmps15
            go_wp2_with (first
              | (go_at_call 30; refine (qn _).mono ?_; rintro e W ⟨rfl, rfl⟩)
              | (refine wpList_store_blk rfl 25 _ _ rfl (w.heap.size + 1) 25 _ [.int .i64 (k : Int), .int .i64 0, .int .i64 0, .int .u64 0, .bool false, .slice none 0 0] rfl rfl hbM0 rfl Try.sizeM (by simp [Value.oneCell']) ?_; intro W hbW hkW hzW; have hT : Pm w k 0 0 0 false (.slice none 0 0) W := ⟨hbR0.kept hkW (by simp), hbW, hkz.out.young hkW (by omega)⟩; have hb1c := hc1.out W hT.kept; obtain ⟨c0, c1, c2, c3, c4, c5⟩ := hT.msg.six; clear hbM0 hbR0 hbW hkW hzW)
              | (go_at_call 21; refine (q1 _).mono ?_; rintro e W ⟨rfl, rfl⟩)
              | (go_at_call 22; refine (q2 _).mono ?_; rintro e W ⟨rfl, rfl⟩)
              | (go_at_call 23; refine (q3 _).mono ?_; rintro e W ⟨rfl, rfl⟩))
            have hX : Hid (Mv.At (w.heap.size + 2) W.heap.size W ⟨k, 0, 0, 0, false, none, 0, 0, bb.drop 1⟩) := ⟨by rw [hnil.out]; exact byteRow_nil _ _ _, (show (0 : Nat) < 18446744073709551616 by decide), (show (-9223372036854775808 : Int) ≤ 0 by decide), (show (0 : Int) ≤ 9223372036854775807 by decide)⟩
            obtain ⟨y, hy⟩ : ∃ y : Mv, y = ⟨k, 0, 0, 0, false, none, 0, 0, bb.drop 1⟩ := ⟨_, rfl⟩
            have hyR : y.ms = R := by rw [hy]; exact hE.out.symm
            have hA : y.At (w.heap.size + 2) W.heap.size W := by rw [hy]; exact hX.out
            have hIn : y.In W (w.heap.size + 1) := by rw [hy]; exact hT.msg
            have hyl : y.len ≤ 9223372036854775807 := by
              have h1 : y.d = bb.drop 1 := by rw [hy]
              rw [hA.len, h1, List.length_drop]
              omega
            have qb : ∀ A : World, Kept [] W A → Calls Try.prog 11 #[.agg #[.int .i64 y.k, .int .i64 y.i, .int .i64 y.o, .int .u64 (y.m : Int), .bool y.s, .slice y.sa y.len y.cap]] A fun e w' => ∃ sa z cap, e = .returned (.slice sa z cap) ∧ Own w' A.heap.size (.slice sa z cap) (bytesL R) ∧ Kept [] A w' := fun A hA' => by
              have := refBytes_any y _ _ A (hA.kept (Nat.le_refl _) hA' (by simp)) hA'.size hyl
              rw [hyR] at this
              exact this
            have hRb : ∀ b ∈ bytesL R, b < 256 := by
              rw [← hyR]
              exact bytesL_byte y.ms hA.row.1
            have S0 : ∀ A : World, Kept [] W A → (A.cell? ⟨w.heap.size + 1, 0, none⟩ = some (.int .i64 y.k) ∧ A.cell? ⟨w.heap.size + 1, 1, none⟩ = some (.int .i64 y.i) ∧ A.cell? ⟨w.heap.size + 1, 2, none⟩ = some (.int .i64 y.o) ∧ A.cell? ⟨w.heap.size + 1, 3, none⟩ = some (.int .u64 (y.m : Int)) ∧ A.cell? ⟨w.heap.size + 1, 4, none⟩ = some (.bool y.s) ∧ A.cell? ⟨w.heap.size + 1, 5, none⟩ = some (.slice y.sa y.len y.cap)) ∧ (convert 23 9 (.slice (some ⟨g, off, none⟩) bb.length cap)).run Try.prog A = .ok (.string (txt bb)) A := fun A hA' => ⟨(hIn.kept hA' (by simp)).six, conv_txt (hrow.out.kept hh (hT.kept.trans hA') (by simp))⟩
            have hkD : Kept [] W W.drew := kept_drew [] W
            clear hy hX hE hyl c0 c1 c2 c3 c4 c5
            have hbn : ((txt (bytesL R)).toList != (txt bb).toList) = !decide (bytesL R = bb) := by rw [← txt_eq hRb hrow.out.1]; rfl
            replace hbn : Hid _ := hbn
            obtain ⟨⟨c0, c1, c2, c3, c4, c5⟩, cb⟩ := S0 _ hkD
            try simp only [Act.put]
            go_cut [100] from 95 (fun v A => v = .bool (!decide (bytesL R = bb)) ∧ Kept [] W A)
            case first =>
              go_region_with (first
                | (go_at_call 11; refine (qb _ hkD).mono ?_; rintro e w8 ⟨sa8, z8, cap8, rfl, hR8, hk8⟩; have hkD8 := hkD.trans hk8; have cv := conv_txt hR8.byteRow; obtain ⟨-, cb8⟩ := S0 _ hkD8))
              all_goals (try go_wp2_with fail)
              all_goals go_meet
              all_goals exact ⟨congrArg Value.bool hbn.out, hkD8⟩
            case rest =>
              obtain ⟨rfl, hkc⟩ := hcut
              obtain ⟨⟨d0, d1, d2, d3, d4, d5⟩, -⟩ := S0 _ hkc
              have hbRc := Blk.kept hT.res hkc (by simp)
              clear S0 qb hbn hRb cb c0 c1 c2 c3 c4 c5 hkD
              by_cases hq : bytesL R = bb
              · have hp := hpO.out hq
                replace hp : Hid _ := hp
                rw [decide_eq_true hq]
                clear hpO hpB hq
                go_wp2_with (first
                  | (refine wpList_store_blk rfl 25 _ _ rfl w.heap.size 25 _ [.int .i64 y.k, .int .i64 y.i, .int .i64 y.o, .int .u64 (y.m : Int), .bool y.s, .slice y.sa y.len y.cap] rfl rfl hbRc rfl Try.sizeM (by simp [Value.oneCell']) ?_; intro w9 hb9 hk9 hz9))
                refine bodyPost_ret (results_row_tmp rfl _ _ w.heap.size _ rfl (run_loadVar_row (P := Try.prog) w9 w.heap.size 25 25 _ (0, 0) _ hb9 Try.underlying25 rfl Try.sizeM)) rfl ?_
                exact ⟨y, by rw [hp.out.2]; rfl, hyR.trans hp.out.1.symm, ((hA.kept (Nat.le_refl _) hkc (by simp)).kept hkc.size hk9 (by simp)).mono (by omega) (Nat.le_trans hkc.size hk9.size), (hT.kept.trans hkc).young hk9 (Nat.le_refl _)⟩
              · have hp := hpB.out hq
                replace hp : Hid _ := hp
                rw [decide_eq_false hq]
                clear hpO hpB hq
                go_wp2_with (first
                  | (refine wpList_store_blk rfl 25 _ _ rfl w.heap.size 25 _ [.int .i64 0, .int .i64 0, .int .i64 0, .int .u64 0, .bool false, .slice none 0 0] rfl rfl hbRc rfl Try.sizeM (by simp [Value.oneCell']) ?_; intro w9 hb9 hk9 hz9))
                refine bodyPost_ret (results_row_tmp rfl _ _ w.heap.size _ rfl (run_loadVar_row (P := Try.prog) w9 w.heap.size 25 25 _ (0, 0) _ hb9 Try.underlying25 rfl Try.sizeM)) rfl ?_
                exact ⟨mv0, by rw [hp.out.2]; rfl, hp.out.1.symm, mv0_at _ _ _, (hT.kept.trans hkc).young hk9 (Nat.le_refl _)⟩
set_option maxRecDepth 100000 in
/-- twainref17.Parse -/
theorem refParse_any (v : Value) (bs : List Nat) (lo hi : Nat) (w : World) (h : ByteRow lo hi w v bs) (hh : hi ≤ w.heap.size) (hlen : bs.length ≤ 9223372036854775807) :
    Calls Try.prog 15 #[v] w fun e w' => ∃ y : Mv, e = .returned (.tuple #[.agg #[.int .i64 y.k, .int .i64 y.i, .int .i64 y.o, .int .u64 (y.m : Int), .bool y.s, .slice y.sa y.len y.cap], .int .i64 (parseE bs)]) ∧ y.ms = parseM bs ∧ y.At w.heap.size w'.heap.size w' ∧ Kept [] w w' := by
  by_cases h1 : 200 < bs.length ∨ bs.length = 0
  · exact refParse_out v bs lo hi w h hlen h1
  · match bs, h, h1 with
    | [], _, h1 => exact absurd (Or.inr rfl) h1
    | k :: l, h, h1 =>
      by_cases h2 : (k < 1 ∨ 8 < k) ∨ (k :: l).length < needN k
      · exact refParse_few v k l lo hi w h hh (by omega) h2
      · exact refParse_in v k l lo hi w h hh (by omega) (by omega) (by omega) (by omega)
end Go.Proofs.Ytlbgpnodpbjkoaa.Pack
