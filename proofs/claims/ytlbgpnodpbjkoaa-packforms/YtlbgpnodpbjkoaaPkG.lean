/-
  The walk of package pack's Parse.
-/
import Derived.Test.YtlbgpnodpbjkoaaPkF
namespace Go.Proofs.Ytlbgpnodpbjkoaa.Pack
open Go.RowKit
open Seal (enc ret_bool ret_int)
open Seal.Math

theorem Own.form {A : World} {base : Nat} {v : Value} {l : List Nat} (h : Own A base v l) : ∃ sa cap, v = .slice sa l.length cap := by
  obtain ⟨_, sa, cap, e, _⟩ := h.byteRow
  exact ⟨sa, cap, e⟩
theorem r3_len (k : Int) (l : List Nat) : (r3 k l).length ≤ l.length := by
  have h1 : (r1 k l).length ≤ l.length := by
    unfold r1
    split
    · rw [List.length_drop]
      omega
    · omega
  have h2 : (r2 k l).length ≤ (r1 k l).length := by
    unfold r2
    split
    · rw [List.length_drop]
      omega
    · omega
  unfold r3
  split
  · rw [List.length_drop]
    omega
  · omega
/-- A block's six cells, written one by one. -/
theorem six_set {W : World} {g : Nat} {c0 c1 c2 c3 c4 c5 : Value} (h : Blk W g 25 #[c0, c1, c2, c3, c4, c5]) (v0 v1 v2 v3 v4 v5 : Value) :
    Blk ((((((W.setCell ⟨g, 0, none⟩ v0).setCell ⟨g, 1, none⟩ v1).setCell ⟨g, 2, none⟩ v2).setCell ⟨g, 3, none⟩ v3).setCell ⟨g, 4, none⟩ v4).setCell ⟨g, 5, none⟩ v5) g 25 #[v0, v1, v2, v3, v4, v5] ∧
    Kept [g] W ((((((W.setCell ⟨g, 0, none⟩ v0).setCell ⟨g, 1, none⟩ v1).setCell ⟨g, 2, none⟩ v2).setCell ⟨g, 3, none⟩ v3).setCell ⟨g, 4, none⟩ v4).setCell ⟨g, 5, none⟩ v5) :=
  ⟨((((((Blk.set h 0 v0).set 1 v1).set 2 v2).set 3 v3).set 4 v4).set 5 v5), (((((kept_set (by simp) _ _ _).trans (kept_set (by simp) _ _ _)).trans (kept_set (by simp) _ _ _)).trans (kept_set (by simp) _ _ _)).trans (kept_set (by simp) _ _ _)).trans (kept_set (by simp) _ _ _)⟩
set_option maxRecDepth 100000 in
/-- Parse, of too many bytes, and of none -/
theorem parse_out (v : Value) (bs : List Nat) (lo hi : Nat) (w : World) (h : ByteRow lo hi w v bs) (hlen : bs.length ≤ 9223372036854775807) (hout : 200 < bs.length ∨ bs.length = 0) :
    Calls Try.prog 14 #[v] w fun e w' => ∃ y : Mv, e = .returned (.tuple #[.agg #[.int .i64 y.k, .int .i64 y.i, .int .i64 y.o, .int .u64 (y.m : Int), .bool y.s, .slice y.sa y.len y.cap], .int .i64 (parseE bs)]) ∧ y.ms = parseM bs ∧ y.At w.heap.size w'.heap.size w' ∧ Kept [] w w' := by
  have hb0 := blk_new w 25 #[.int .i64 0, .int .i64 0, .int .i64 0, .int .u64 0, .bool false, .slice none 0 0]
  have hk0 := kept_alloc [] w (.cells #[.int .i64 0, .int .i64 0, .int .i64 0, .int .u64 0, .bool false, .slice none 0 0] 25)
  have hp : Hid (parseM bs = m0 ∧ parseE bs = if 200 < bs.length then 11 else 8) := by
    show _ ∧ _
    rcases hout with h1 | h1
    · rw [if_pos h1]
      exact parse_long h1
    · have : bs = [] := List.eq_nil_of_length_eq_zero h1
      subst this
      exact parse_nil
  obtain ⟨_, sa, cap, rfl, _⟩ := h
  by_cases h1 : 200 < bs.length
  · rw [if_pos h1] at hp
    generalize parseE bs = E at *
    generalize parseM bs = M at *
    generalize bs.length = len at *
    go_enter Try.func14, Try.ntmps14
    go_wp2_with (first
      | (refine wpList_store_blk rfl 25 _ _ rfl w.heap.size 25 _ [.int .i64 0, .int .i64 0, .int .i64 0, .int .u64 0, .bool false, .slice none 0 0] rfl rfl hb0 rfl Try.sizeM (by simp [Value.oneCell']) ?_; intro w1 hb1 hk1 hz1))
    refine bodyPost_ret (results_row_tmp rfl _ _ w.heap.size _ rfl (run_loadVar_row (P := Try.prog) w1 w.heap.size 25 25 _ (0, 0) _ hb1 Try.underlying25 rfl Try.sizeM)) rfl ?_
    exact ⟨mv0, by rw [hp.out.2]; rfl, hp.out.1.symm, mv0_at _ _ _, hk0.young hk1 (Nat.le_refl _)⟩
  · rw [if_neg h1] at hp
    have h0 : bs.length = 0 := by omega
    rw [h0]
    clear hlen hout h1
    generalize parseE bs = E at *
    generalize parseM bs = M at *
    clear h0
    go_enter Try.func14, Try.ntmps14
    go_wp2_with (first
      | (refine wpList_store_blk rfl 25 _ _ rfl w.heap.size 25 _ [.int .i64 0, .int .i64 0, .int .i64 0, .int .u64 0, .bool false, .slice none 0 0] rfl rfl hb0 rfl Try.sizeM (by simp [Value.oneCell']) ?_; intro w1 hb1 hk1 hz1))
    refine bodyPost_ret (results_row_tmp rfl _ _ w.heap.size _ rfl (run_loadVar_row (P := Try.prog) w1 w.heap.size 25 25 _ (0, 0) _ hb1 Try.underlying25 rfl Try.sizeM)) rfl ?_
    exact ⟨mv0, by rw [hp.out.2]; rfl, hp.out.1.symm, mv0_at _ _ _, hk0.young hk1 (Nat.le_refl _)⟩
set_option maxRecDepth 100000 in
set_option maxHeartbeats 4000000 in
/-- Parse, of some bytes -/
theorem parse_in (v : Value) (k : Nat) (l : List Nat) (lo hi : Nat) (w : World) (h : ByteRow lo hi w v (k :: l)) (hh : hi ≤ w.heap.size) (hlen : (k :: l).length ≤ 200) :
    Calls Try.prog 14 #[v] w fun e w' => ∃ y : Mv, e = .returned (.tuple #[.agg #[.int .i64 y.k, .int .i64 y.i, .int .i64 y.o, .int .u64 (y.m : Int), .bool y.s, .slice y.sa y.len y.cap], .int .i64 (parseE (k :: l))]) ∧ y.ms = parseM (k :: l) ∧ y.At w.heap.size w'.heap.size w' ∧ Kept [] w w' := by
  have hk : k < 256 := h.1 k (by simp)
  have hbR0 : Blk ((w.alloc (.cells #[.int .i64 0, .int .i64 0, .int .i64 0, .int .u64 0, .bool false, .slice none 0 0] 25)).alloc (.cells #[.int .i64 0, .int .i64 0, .int .i64 0, .int .u64 0, .bool false, .slice none 0 0] 25)) w.heap.size 25 #[.int .i64 0, .int .i64 0, .int .i64 0, .int .u64 0, .bool false, .slice none 0 0] := Blk.kept (blk_new w 25 _) (kept_alloc [] _ _) (by simp)
  have e0 : (w.alloc (.cells #[.int .i64 0, .int .i64 0, .int .i64 0, .int .u64 0, .bool false, .slice none 0 0] 25)).heap.size = w.heap.size + 1 := by simp
  have hbM0 : Blk ((w.alloc (.cells #[.int .i64 0, .int .i64 0, .int .i64 0, .int .u64 0, .bool false, .slice none 0 0] 25)).alloc (.cells #[.int .i64 0, .int .i64 0, .int .i64 0, .int .u64 0, .bool false, .slice none 0 0] 25)) (w.heap.size + 1) 25 #[.int .i64 0, .int .i64 0, .int .i64 0, .int .u64 0, .bool false, .slice none 0 0] := by
    have := blk_new (w.alloc (.cells #[.int .i64 0, .int .i64 0, .int .i64 0, .int .u64 0, .bool false, .slice none 0 0] 25)) 25 #[.int .i64 0, .int .i64 0, .int .i64 0, .int .u64 0, .bool false, .slice none 0 0]
    rw [e0] at this
    exact this
  have hkz : Hid (Kept [] w ((w.alloc (.cells #[.int .i64 0, .int .i64 0, .int .i64 0, .int .u64 0, .bool false, .slice none 0 0] 25)).alloc (.cells #[.int .i64 0, .int .i64 0, .int .i64 0, .int .u64 0, .bool false, .slice none 0 0] 25))) := (kept_alloc [] w _).trans (kept_alloc [] _ _)
  have qh : ∀ W : World, Calls Try.prog 25 #[.agg #[.int .i64 (k : Int), .int .i64 0, .int .i64 0, .int .u64 0, .bool false, .slice none 0 0]] W _ := fun W => head_any ⟨k, 0, 0, 0, false, none, 0, 0, []⟩ k hk rfl (by show (0 : Nat) < _; decide) W
  have hdl : (hd (Mv.ms ⟨k, 0, 0, 0, false, none, 0, 0, []⟩)).length = needN k := hd_length _
  obtain ⟨g, off, hg⟩ : ∃ g off, ∃ cap, v = .slice (some ⟨g, off, none⟩) (k :: l).length cap ∧ g < hi := by
    obtain ⟨_, sa, cap, e, _⟩ := id h
    obtain ⟨g, off, e2, h2, _⟩ := (e ▸ h).cell 0 (by simp)
    exact ⟨g, off, cap, by rw [e, e2], h2⟩
  obtain ⟨cap, rfl, hghi⟩ := hg
  have hcb0 : (w.alloc (.cells #[.int .i64 0, .int .i64 0, .int .i64 0, .int .u64 0, .bool false, .slice none 0 0] 25)).cell? ⟨g, off, none⟩ = some (.int .u8 (k : Int)) := by
    obtain ⟨g', off', e2, _, hc⟩ := (h.kept hh (kept_alloc [] w (.cells #[.int .i64 0, .int .i64 0, .int .i64 0, .int .u64 0, .bool false, .slice none 0 0] 25)) (by simp)).cell 0 (by simp)
    injection e2 with e2
    injection e2 with e2 e3 _
    subst e2 e3
    exact hc
  obtain ⟨sb, cbp, hsl, hrl⟩ := row_drop h 1 (by simp)
  have hsl' : ∀ w, (Instr.sliceAt 23 (.slice (some ⟨g, off, none⟩) (k :: l).length cap) (some (.int .i64 1)) none none).run Try.prog w = .ok (.slice sb ((k :: l).length - 1) cbp) w := hsl
  have hrl' : Hid (ByteRow lo hi w (.slice sb ((k :: l).length - 1) cbp) l) := hrl
  clear hsl hrl
  have hL : Hid ((k :: l).length = l.length + 1) := rfl
  have hpos : 0 < (k :: l).length := by simp
  replace h : Hid (ByteRow lo hi w (.slice (some ⟨g, off, none⟩) (k :: l).length cap) (k :: l)) := h
  by_cases hs : (k :: l).length < needN k
  · have hp : Hid (parseM (k :: l) = m0 ∧ parseE (k :: l) = 8) := parse_short hlen hs
    generalize needN (k : Int) = nn at *
    generalize (k :: l).length = len at *
    generalize parseE (k :: l) = E at *
    generalize parseM (k :: l) = M at *
    replace hdl : Hid _ := hdl
    go_enter Try.func14, Try.ntmps14
    go_wp2_with (first
      | (refine wpList_store_blk rfl 25 _ _ rfl (w.heap.size + 1) 25 _ [.int .i64 (k : Int), .int .i64 0, .int .i64 0, .int .u64 0, .bool false, .slice none 0 0] rfl rfl hbM0 rfl Try.sizeM (by simp [Value.oneCell']) ?_; intro W hbW hkW hzW; have hbM : MIn W (w.heap.size + 1) k 0 0 0 false (.slice none 0 0) := hbW; have hbR := hbR0.kept hkW (by simp); have hk1 : Kept [] w W := hkz.out.young hkW (by omega); obtain ⟨c0, c1, c2, c3, c4, c5⟩ := hbM.six; clear hbM0 hbR0 hbW hkW hzW)
      | (go_at_call 25; refine (qh W).mono ?_; rintro e w2 ⟨v2, rfl, hR2, hk2⟩; obtain ⟨sa2, cap2, rfl⟩ := hR2.form; rw [hdl.out]; have hbR2 := hbR.kept hk2 (by simp); have hbM2 : MIn w2 (w.heap.size + 1) k 0 0 0 false (.slice none 0 0) := Blk.kept hbM hk2 (by simp); clear qh hR2 hbR hbM c0 c1 c2 c3 c4 c5)
      | (refine wpList_store_blk rfl 25 _ _ rfl w.heap.size 25 _ [.int .i64 0, .int .i64 0, .int .i64 0, .int .u64 0, .bool false, .slice none 0 0] rfl rfl hbR2 rfl Try.sizeM (by simp [Value.oneCell']) ?_; intro w3 hb3 hk3 hz3))
    refine bodyPost_ret (results_row_tmp rfl _ _ w.heap.size _ rfl (run_loadVar_row (P := Try.prog) w3 w.heap.size 25 25 _ (0, 0) _ hb3 Try.underlying25 rfl Try.sizeM)) rfl ?_
    exact ⟨mv0, by rw [hp.out.2]; rfl, hp.out.1.symm, mv0_at _ _ _, (hk1.trans hk2).young hk3 (Nat.le_refl _)⟩
  · have hl0 : Hid (l.length ≤ 200) := by
      have := hL.out
      show _ ≤ _
      omega
    have qr : ∀ W' : World, Kept [] w W' → Calls Try.prog 28 #[.agg #[.int .i64 (k : Int), .int .i64 0, .int .i64 0, .int .u64 0, .bool false, .slice none 0 0], .slice sb ((k :: l).length - 1) cbp] W' fun e w' => ∃ y : Mv, e = .returned (.agg #[.int .i64 y.k, .int .i64 y.i, .int .i64 y.o, .int .u64 (y.m : Int), .bool y.s, .slice y.sa y.len y.cap]) ∧ y.ms = readL k l ∧ y.At W'.heap.size w'.heap.size w' ∧ Kept [] W' w' :=
      fun W' hk' => read_any k hk _ l lo hi W' (hrl'.out.kept hh hk' (by simp)) (Nat.le_trans hh hk'.size) (by have := hL.out; omega) (by have := hL.out; omega)
    by_cases hq : bytesL (readL k l) = k :: l
    · have hp : Hid (parseM (k :: l) = readL k l ∧ parseE (k :: l) = 0) := parse_ok hlen hs hq
      have hq' : Hid (decide (bytesL (readL k l) = k :: l) = true) := decide_eq_true hq
      clear hq
      generalize needN (k : Int) = nn at *
      generalize (k :: l).length = len at *
      generalize parseE (k :: l) = E at *
      generalize parseM (k :: l) = M at *
      generalize len - 1 = lz at *
      replace hdl : Hid _ := hdl
      go_enter Try.func14, Try.ntmps14
      go_wp2_with (first
        | (refine wpList_store_blk rfl 25 _ _ rfl (w.heap.size + 1) 25 _ [.int .i64 (k : Int), .int .i64 0, .int .i64 0, .int .u64 0, .bool false, .slice none 0 0] rfl rfl hbM0 rfl Try.sizeM (by simp [Value.oneCell']) ?_; intro W hbW hkW hzW; have hbM : MIn W (w.heap.size + 1) k 0 0 0 false (.slice none 0 0) := hbW; have hbR := hbR0.kept hkW (by simp); have hk1 : Kept [] w W := hkz.out.young hkW (by omega); obtain ⟨c0, c1, c2, c3, c4, c5⟩ := hbM.six; clear hbM0 hbR0 hbW hkW hzW)
        | (go_at_call 25; refine (qh W).mono ?_; rintro e w2 ⟨v2, rfl, hR2, hk2⟩; obtain ⟨sa2, cap2, rfl⟩ := hR2.form; rw [hdl.out]; have hbR2 := hbR.kept hk2 (by simp); have hbM2 : MIn w2 (w.heap.size + 1) k 0 0 0 false (.slice none 0 0) := Blk.kept hbM hk2 (by simp); clear qh hR2 hbR hbM c0 c1 c2 c3 c4 c5))
      replace hbM2 : MIn w2.drew (w.heap.size + 1) k 0 0 0 false (.slice none 0 0) := Blk.kept hbM2 (kept_drew [] w2) (by simp)
      replace hbR2 := hbR2.kept (kept_drew [] w2) (by simp)
      have hkD : Kept [] w w2.drew := (hk1.trans hk2).trans (kept_drew [] w2)
      obtain ⟨c0, c1, c2, c3, c4, c5⟩ := hbM2.six
      go_region_with (first
        | (go_at_call 28; refine (qr _ hkD).mono ?_; rintro e w3 ⟨y, rfl, hy3, hA3, hk3⟩; have hbM3 : MIn w3 (w.heap.size + 1) k 0 0 0 false (.slice none 0 0) := Blk.kept hbM2 hk3 (by simp); have hbR3 := hbR2.kept hk3 (by simp); obtain ⟨d0, d1, d2, d3, d4, d5⟩ := hbM3.six; have f0 := Blk.frozen hbM3 0; have f1 := Blk.frozen hbM3 1; have f2 := Blk.frozen hbM3 2; have f3 := Blk.frozen hbM3 3; have f4 := Blk.frozen hbM3 4; have f5 := Blk.frozen hbM3 5))
      obtain ⟨hbM6, hk6⟩ := six_set hbM3 (.int .i64 y.k) (.int .i64 y.i) (.int .i64 y.o) (.int .u64 (y.m : Int)) (.bool y.s) (.slice y.sa y.len y.cap)
      obtain ⟨w6, hw6⟩ : ∃ w6, ((((((w3.setCell ⟨w.heap.size + 1, 0, none⟩ (.int .i64 y.k)).setCell ⟨w.heap.size + 1, 1, none⟩ (.int .i64 y.i)).setCell ⟨w.heap.size + 1, 2, none⟩ (.int .i64 y.o)).setCell ⟨w.heap.size + 1, 3, none⟩ (.int .u64 (y.m : Int))).setCell ⟨w.heap.size + 1, 4, none⟩ (.bool y.s)).setCell ⟨w.heap.size + 1, 5, none⟩ (.slice y.sa y.len y.cap)) = w6 := ⟨_, rfl⟩
      rw [hw6] at hbM6 hk6 ⊢
      clear hw6 f0 f1 f2 f3 f4 f5 d0 d1 d2 d3 d4 d5 c0 c1 c2 c3 c4 c5 hbM3
      have hlt : Hid (w.heap.size + 1 < w2.drew.heap.size) := Blk.lt hbM2
      have hbR6 := hbR3.kept hk6 (by simp)
      have hA6 : y.At w2.drew.heap.size w3.heap.size w6 := hA3.kept (Nat.le_refl _) hk6 (fun j hj => .inl (by simp at hj; subst hj; exact hlt.out))
      have hk06 : Kept [] w w6 := (hkD.trans hk3).young hk6 (by omega)
      have hrb := h.out.kept hh hk06 (by simp)
      have hyl : y.len ≤ 9223372036854775807 := by
        have h1 := hA3.len
        have h2 : y.d = r3 k l := congrArg Ms.d hy3
        have h3 := r3_len k l
        have h4 := hl0.out
        rw [h1, h2]
        omega
      have qb := bytes_any y _ _ w6 hA6 hk6.size hyl
      unfold Mv.val at qb
      have hIn6 : y.In w6 (w.heap.size + 1) := hbM6
      obtain ⟨d0, d1, d2, d3, d4, d5⟩ := hIn6.six
      rw [hy3] at qb
      have hle6 := hk6.size
      clear hbM2 hbR2 hbR3 hyl
      go_wp2_with (first
        | (go_at_call 10; refine qb.mono ?_; rintro e w7 ⟨sa7, cap7, rfl, hR7, hk7⟩; have hIn7 := hIn6.kept hk7 (by simp); obtain ⟨d0, d1, d2, d3, d4, d5⟩ := hIn7.six; have hbR7 := hbR6.kept hk7 (by simp); have qe := equal_any _ _ _ _ _ _ _ _ w7 hR7.byteRow (hrb.kept (Nat.le_trans hh hk06.size) hk7 (by simp)); rw [hq'.out] at qe; clear qb)
        | (go_at_call 29; refine qe.mono ?_; rintro e w8 ⟨rfl, hw8⟩; subst hw8; clear qe)
        | (refine wpList_store_blk rfl 25 _ _ rfl w.heap.size 25 _ [.int .i64 y.k, .int .i64 y.i, .int .i64 y.o, .int .u64 (y.m : Int), .bool y.s, .slice y.sa y.len y.cap] rfl rfl hbR7 rfl Try.sizeM (by simp [Value.oneCell']) ?_; intro w9 hb9 hk9 hz9))
      refine bodyPost_ret (results_row_tmp rfl _ _ w.heap.size _ rfl (run_loadVar_row (P := Try.prog) w9 w.heap.size 25 25 _ (0, 0) _ hb9 Try.underlying25 rfl Try.sizeM)) rfl ?_
      exact ⟨y, by rw [hp.out.2]; rfl, hy3.trans hp.out.1.symm, ((hA6.kept hle6 hk7 (by simp)).kept (Nat.le_trans hle6 hk7.size) hk9 (fun j hj => .inl (by simp at hj; subst hj; exact Nat.lt_of_succ_lt hlt.out))).mono (Nat.le_of_lt (Nat.lt_of_succ_lt hlt.out)) (Nat.le_trans (Nat.le_trans hle6 hk7.size) hk9.size), (hk06.trans hk7).young hk9 (Nat.le_refl _)⟩
    · have hp : Hid (parseM (k :: l) = m0 ∧ parseE (k :: l) = 9) := parse_bad hlen hs hq
      have hq' : Hid (decide (bytesL (readL k l) = k :: l) = false) := decide_eq_false hq
      clear hq
      generalize needN (k : Int) = nn at *
      generalize (k :: l).length = len at *
      generalize parseE (k :: l) = E at *
      generalize parseM (k :: l) = M at *
      generalize len - 1 = lz at *
      replace hdl : Hid _ := hdl
      go_enter Try.func14, Try.ntmps14
      go_wp2_with (first
        | (refine wpList_store_blk rfl 25 _ _ rfl (w.heap.size + 1) 25 _ [.int .i64 (k : Int), .int .i64 0, .int .i64 0, .int .u64 0, .bool false, .slice none 0 0] rfl rfl hbM0 rfl Try.sizeM (by simp [Value.oneCell']) ?_; intro W hbW hkW hzW; have hbM : MIn W (w.heap.size + 1) k 0 0 0 false (.slice none 0 0) := hbW; have hbR := hbR0.kept hkW (by simp); have hk1 : Kept [] w W := hkz.out.young hkW (by omega); obtain ⟨c0, c1, c2, c3, c4, c5⟩ := hbM.six; clear hbM0 hbR0 hbW hkW hzW)
        | (go_at_call 25; refine (qh W).mono ?_; rintro e w2 ⟨v2, rfl, hR2, hk2⟩; obtain ⟨sa2, cap2, rfl⟩ := hR2.form; rw [hdl.out]; have hbR2 := hbR.kept hk2 (by simp); have hbM2 : MIn w2 (w.heap.size + 1) k 0 0 0 false (.slice none 0 0) := Blk.kept hbM hk2 (by simp); clear qh hR2 hbR hbM c0 c1 c2 c3 c4 c5))
      replace hbM2 : MIn w2.drew (w.heap.size + 1) k 0 0 0 false (.slice none 0 0) := Blk.kept hbM2 (kept_drew [] w2) (by simp)
      replace hbR2 := hbR2.kept (kept_drew [] w2) (by simp)
      have hkD : Kept [] w w2.drew := (hk1.trans hk2).trans (kept_drew [] w2)
      obtain ⟨c0, c1, c2, c3, c4, c5⟩ := hbM2.six
      go_region_with (first
        | (go_at_call 28; refine (qr _ hkD).mono ?_; rintro e w3 ⟨y, rfl, hy3, hA3, hk3⟩; have hbM3 : MIn w3 (w.heap.size + 1) k 0 0 0 false (.slice none 0 0) := Blk.kept hbM2 hk3 (by simp); have hbR3 := hbR2.kept hk3 (by simp); obtain ⟨d0, d1, d2, d3, d4, d5⟩ := hbM3.six; have f0 := Blk.frozen hbM3 0; have f1 := Blk.frozen hbM3 1; have f2 := Blk.frozen hbM3 2; have f3 := Blk.frozen hbM3 3; have f4 := Blk.frozen hbM3 4; have f5 := Blk.frozen hbM3 5))
      obtain ⟨hbM6, hk6⟩ := six_set hbM3 (.int .i64 y.k) (.int .i64 y.i) (.int .i64 y.o) (.int .u64 (y.m : Int)) (.bool y.s) (.slice y.sa y.len y.cap)
      obtain ⟨w6, hw6⟩ : ∃ w6, ((((((w3.setCell ⟨w.heap.size + 1, 0, none⟩ (.int .i64 y.k)).setCell ⟨w.heap.size + 1, 1, none⟩ (.int .i64 y.i)).setCell ⟨w.heap.size + 1, 2, none⟩ (.int .i64 y.o)).setCell ⟨w.heap.size + 1, 3, none⟩ (.int .u64 (y.m : Int))).setCell ⟨w.heap.size + 1, 4, none⟩ (.bool y.s)).setCell ⟨w.heap.size + 1, 5, none⟩ (.slice y.sa y.len y.cap)) = w6 := ⟨_, rfl⟩
      rw [hw6] at hbM6 hk6 ⊢
      clear hw6 f0 f1 f2 f3 f4 f5 d0 d1 d2 d3 d4 d5 c0 c1 c2 c3 c4 c5 hbM3
      have hlt : Hid (w.heap.size + 1 < w2.drew.heap.size) := Blk.lt hbM2
      have hbR6 := hbR3.kept hk6 (by simp)
      have hA6 : y.At w2.drew.heap.size w3.heap.size w6 := hA3.kept (Nat.le_refl _) hk6 (fun j hj => .inl (by simp at hj; subst hj; exact hlt.out))
      have hk06 : Kept [] w w6 := (hkD.trans hk3).young hk6 (by omega)
      have hrb := h.out.kept hh hk06 (by simp)
      have hyl : y.len ≤ 9223372036854775807 := by
        have h1 := hA3.len
        have h2 : y.d = r3 k l := congrArg Ms.d hy3
        have h3 := r3_len k l
        have h4 := hl0.out
        rw [h1, h2]
        omega
      have qb := bytes_any y _ _ w6 hA6 hk6.size hyl
      unfold Mv.val at qb
      have hIn6 : y.In w6 (w.heap.size + 1) := hbM6
      obtain ⟨d0, d1, d2, d3, d4, d5⟩ := hIn6.six
      rw [hy3] at qb
      have hle6 := hk6.size
      clear hbM2 hbR2 hbR3 hyl
      go_wp2_with (first
        | (go_at_call 10; refine qb.mono ?_; rintro e w7 ⟨sa7, cap7, rfl, hR7, hk7⟩; have hIn7 := hIn6.kept hk7 (by simp); obtain ⟨d0, d1, d2, d3, d4, d5⟩ := hIn7.six; have hbR7 := hbR6.kept hk7 (by simp); have qe := equal_any _ _ _ _ _ _ _ _ w7 hR7.byteRow (hrb.kept (Nat.le_trans hh hk06.size) hk7 (by simp)); rw [hq'.out] at qe; clear qb)
        | (go_at_call 29; refine qe.mono ?_; rintro e w8 ⟨rfl, hw8⟩; subst hw8; clear qe)
        | (refine wpList_store_blk rfl 25 _ _ rfl w.heap.size 25 _ [.int .i64 0, .int .i64 0, .int .i64 0, .int .u64 0, .bool false, .slice none 0 0] rfl rfl hbR7 rfl Try.sizeM (by simp [Value.oneCell']) ?_; intro w9 hb9 hk9 hz9))
      refine bodyPost_ret (results_row_tmp rfl _ _ w.heap.size _ rfl (run_loadVar_row (P := Try.prog) w9 w.heap.size 25 25 _ (0, 0) _ hb9 Try.underlying25 rfl Try.sizeM)) rfl ?_
      exact ⟨mv0, by rw [hp.out.2]; rfl, hp.out.1.symm, mv0_at _ _ _, (hk06.trans hk7).young hk9 (Nat.le_refl _)⟩
set_option maxRecDepth 100000 in
/-- Parse -/
theorem parse_any (v : Value) (bs : List Nat) (lo hi : Nat) (w : World) (h : ByteRow lo hi w v bs) (hh : hi ≤ w.heap.size) (hlen : bs.length ≤ 9223372036854775807) :
    Calls Try.prog 14 #[v] w fun e w' => ∃ y : Mv, e = .returned (.tuple #[.agg #[.int .i64 y.k, .int .i64 y.i, .int .i64 y.o, .int .u64 (y.m : Int), .bool y.s, .slice y.sa y.len y.cap], .int .i64 (parseE bs)]) ∧ y.ms = parseM bs ∧ y.At w.heap.size w'.heap.size w' ∧ Kept [] w w' := by
  by_cases h1 : 200 < bs.length ∨ bs.length = 0
  · exact parse_out v bs lo hi w h hlen h1
  · match bs, h, h1 with
    | [], _, h1 => exact absurd (Or.inr rfl) h1
    | k :: l, h, h1 => exact parse_in v k l lo hi w h hh (by omega)
end Go.Proofs.Ytlbgpnodpbjkoaa.Pack
