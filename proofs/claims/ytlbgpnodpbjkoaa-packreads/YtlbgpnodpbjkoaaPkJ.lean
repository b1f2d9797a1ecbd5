/-
  The walk of the document's Parse.
-/
import Derived.Test.YtlbgpnodpbjkoaaPkG
import Derived.Test.YtlbgpnodpbjkoaaPkI
namespace Go.Proofs.Ytlbgpnodpbjkoaa.Pack
open Go.RowKit
open Seal (enc ret_bool ret_int)
open Seal.Math

set_option maxRecDepth 100000 in
/-- twainref17.Parse, of too many bytes, and of none -/
theorem refParse_out (v : Value) (bs : List Nat) (lo hi : Nat) (w : World) (h : ByteRow lo hi w v bs) (hlen : bs.length ≤ 9223372036854775807) (hout : 200 < bs.length ∨ bs.length = 0) :
    Calls Try.prog 15 #[v] w fun e w' => ∃ y : Mv, e = .returned (.tuple #[.agg #[.int .i64 y.k, .int .i64 y.i, .int .i64 y.o, .int .u64 (y.m : Int), .bool y.s, .slice y.sa y.len y.cap], .int .i64 (parseE bs)]) ∧ y.ms = parseM bs ∧ y.At w.heap.size w'.heap.size w' ∧ Kept [] w w' := by
  have hb0 := blk_new w 25 #[.int .i64 0, .int .i64 0, .int .i64 0, .int .u64 0, .bool false, .slice none 0 0]
  have hk0 := kept_alloc [] w (.cells #[.int .i64 0, .int .i64 0, .int .i64 0, .int .u64 0, .bool false, .slice none 0 0] 25)
  have hp : Hid (parseM bs = m0 ∧ parseE bs = if 200 < bs.length then 11 else 8) := by
    show _ ∧ _
    rcases hout with h1 | h1
    · rw [if_pos h1]
      exact parse_long h1
    · have : bs = [] := List.eq_nil_of_length_eq_zero h1
      subst this
      exact parse_nil
  obtain ⟨_, sa, cap, rfl, _⟩ := h
  by_cases h1 : 200 < bs.length
  · rw [if_pos h1] at hp
    generalize parseE bs = E at *
    generalize parseM bs = M at *
    generalize bs.length = len at *
    go_enter Try.func15, Try.ntmps15
    go_wp2_with (first
      | (refine wpList_store_blk rfl 25 _ _ rfl w.heap.size 25 _ [.int .i64 0, .int .i64 0, .int .i64 0, .int .u64 0, .bool false, .slice none 0 0] rfl rfl hb0 rfl Try.sizeM (by simp [Value.oneCell']) ?_; intro w1 hb1 hk1 hz1))
    refine bodyPost_ret (results_row_tmp rfl _ _ w.heap.size _ rfl (run_loadVar_row (P := Try.prog) w1 w.heap.size 25 25 _ (0, 0) _ hb1 Try.underlying25 rfl Try.sizeM)) rfl ?_
    exact ⟨mv0, by rw [hp.out.2]; rfl, hp.out.1.symm, mv0_at _ _ _, hk0.young hk1 (Nat.le_refl _)⟩
  · rw [if_neg h1] at hp
    have h0 : bs.length = 0 := by omega
    rw [h0]
    clear hlen hout h1
    generalize parseE bs = E at *
    generalize parseM bs = M at *
    clear h0
    go_enter Try.func15, Try.ntmps15
    go_wp2_with (first
      | (refine wpList_store_blk rfl 25 _ _ rfl w.heap.size 25 _ [.int .i64 0, .int .i64 0, .int .i64 0, .int .u64 0, .bool false, .slice none 0 0] rfl rfl hb0 rfl Try.sizeM (by simp [Value.oneCell']) ?_; intro w1 hb1 hk1 hz1))
    refine bodyPost_ret (results_row_tmp rfl _ _ w.heap.size _ rfl (run_loadVar_row (P := Try.prog) w1 w.heap.size 25 25 _ (0, 0) _ hb1 Try.underlying25 rfl Try.sizeM)) rfl ?_
    exact ⟨mv0, by rw [hp.out.2]; rfl, hp.out.1.symm, mv0_at _ _ _, hk0.young hk1 (Nat.le_refl _)⟩
/-- What lies within: the place of the answer, the message so far. -/
structure Pm (w : World) (k i o m : Int) (s : Bool) (d : Value) (W : World) : Prop where
  res : MIn W w.heap.size 0 0 0 0 false (.slice none 0 0)
  msg : MIn W (w.heap.size + 1) k i o m s d
  kept : Kept [] w W
theorem Pm.after {w : World} {k i o m : Int} {s : Bool} {d : Value} {A B : World} (t : Pm w k i o m s d A) (hk : Kept [] A B) : Pm w k i o m s d B := ⟨Blk.kept t.res hk (by simp), Blk.kept t.msg hk (by simp), t.kept.trans hk⟩
theorem Pm.put {w : World} {k i o m k' i' o' m' : Int} {s s' : Bool} {d d' : Value} {A B : World} (t : Pm w k i o m s d A) (hb : MIn B (w.heap.size + 1) k' i' o' m' s' d') (hk : Kept [w.heap.size + 1] A B) : Pm w k' i' o' m' s' d' B := ⟨Blk.kept t.res hk (by simp), hb, t.kept.young hk (by omega)⟩
theorem own_empty (W : World) : Own (W.alloc (.cells #[] 5)) W.heap.size (.slice (some ⟨W.heap.size, 0, none⟩) 0 0) [] := ⟨World.ownsRow_made W #[] 0 (Nat.le_refl _) (by unfold maxLen; omega) rfl, by simp, by simp⟩
theorem cons_cell {lo hi : Nat} {W : World} {v : Value} {k : Nat} {l : List Nat} (h : ByteRow lo hi W v (k :: l)) : ∃ g off cap, v = .slice (some ⟨g, off, none⟩) (k :: l).length cap ∧ g < hi ∧ ∀ j, j < (k :: l).length → W.cell? ⟨g, off + j, none⟩ = some (.int .u8 (((k :: l)[j]?.getD 0 : Nat) : Int)) := by
  obtain ⟨_, sa, cap, rfl, _, h1 | ⟨g, off, rfl, _, _, h2, hc⟩⟩ := h
  · cases h1
  · exact ⟨g, off, cap, rfl, h2, hc⟩
set_option maxRecDepth 100000 in
set_option maxHeartbeats 4000000 in
/-- twainref17.Parse, of a kind that there is not, and of too few bytes -/
theorem refParse_few (v : Value) (k : Nat) (l : List Nat) (lo hi : Nat) (w : World) (h : ByteRow lo hi w v (k :: l)) (hh : hi ≤ w.heap.size) (hlen : (k :: l).length ≤ 200) (hf : (k < 1 ∨ 8 < k) ∨ (k :: l).length < needN k) :
    Calls Try.prog 15 #[v] w fun e w' => ∃ y : Mv, e = .returned (.tuple #[.agg #[.int .i64 y.k, .int .i64 y.i, .int .i64 y.o, .int .u64 (y.m : Int), .bool y.s, .slice y.sa y.len y.cap], .int .i64 (parseE (k :: l))]) ∧ y.ms = parseM (k :: l) ∧ y.At w.heap.size w'.heap.size w' ∧ Kept [] w w' := by
  have hk : k < 256 := h.1 k (by simp)
  have hb0 := blk_new w 25 #[.int .i64 0, .int .i64 0, .int .i64 0, .int .u64 0, .bool false, .slice none 0 0]
  have hk0 := kept_alloc [] w (.cells #[.int .i64 0, .int .i64 0, .int .i64 0, .int .u64 0, .bool false, .slice none 0 0] 25)
  obtain ⟨g, off, cap, rfl, hg, hc⟩ := cons_cell h
  have hcb : (w.alloc (.cells #[.int .i64 0, .int .i64 0, .int .i64 0, .int .u64 0, .bool false, .slice none 0 0] 25)).cell? ⟨g, off, none⟩ = some (.int .u8 (k : Int)) := (World.cell?_of_block (w := w) (hk0.block g (by omega) (by simp))).trans (hc 0 (by simp))
  clear hc
  have hpos : 0 < (k :: l).length := by simp
  have qn := need_any k
  by_cases ho : k < 1 ∨ 8 < k
  · have hn : needN k = 1 := needN_out (by omega)
    have hp : Hid (parseM (k :: l) = m0 ∧ parseE (k :: l) = 9) := parse_bad hlen (by rw [hn]; omega) (by rw [bytesL_out (not_fine_kind (by show (k : Int) < 1 ∨ 8 < (k : Int); omega))]; simp)
    clear hf hn qn
    generalize (k :: l).length = len at *
    generalize parseE (k :: l) = E at *
    generalize parseM (k :: l) = M at *
    by_cases h1 : k < 1
    · clear ho
      go_enter Try.func15, Try.ntmps15
      go_wp2_with (first
        | (refine wpList_store_blk rfl 25 _ _ rfl w.heap.size 25 _ [.int .i64 0, .int .i64 0, .int .i64 0, .int .u64 0, .bool false, .slice none 0 0] rfl rfl hb0 rfl Try.sizeM (by simp [Value.oneCell']) ?_; intro w1 hb1 hk1 hz1))
      refine bodyPost_ret (results_row_tmp rfl _ _ w.heap.size _ rfl (run_loadVar_row (P := Try.prog) w1 w.heap.size 25 25 _ (0, 0) _ hb1 Try.underlying25 rfl Try.sizeM)) rfl ?_
      exact ⟨mv0, by rw [hp.out.2]; rfl, hp.out.1.symm, mv0_at _ _ _, hk0.young hk1 (Nat.le_refl _)⟩
    · have h8 : 8 < k := by omega
      clear ho
      go_enter Try.func15, Try.ntmps15
      go_wp2_with (first
        | (refine wpList_store_blk rfl 25 _ _ rfl w.heap.size 25 _ [.int .i64 0, .int .i64 0, .int .i64 0, .int .u64 0, .bool false, .slice none 0 0] rfl rfl hb0 rfl Try.sizeM (by simp [Value.oneCell']) ?_; intro w1 hb1 hk1 hz1))
      refine bodyPost_ret (results_row_tmp rfl _ _ w.heap.size _ rfl (run_loadVar_row (P := Try.prog) w1 w.heap.size 25 25 _ (0, 0) _ hb1 Try.underlying25 rfl Try.sizeM)) rfl ?_
      exact ⟨mv0, by rw [hp.out.2]; rfl, hp.out.1.symm, mv0_at _ _ _, hk0.young hk1 (Nat.le_refl _)⟩
  · have hs : (k :: l).length < needN k := hf.resolve_left ho
    have hp : Hid (parseM (k :: l) = m0 ∧ parseE (k :: l) = 8) := parse_short hlen hs
    have h1 : 1 ≤ k := by omega
    have h8 : k ≤ 8 := by omega
    clear hf ho
    generalize needN (k : Int) = nn at *
    generalize (k :: l).length = len at *
    generalize parseE (k :: l) = E at *
    generalize parseM (k :: l) = M at *
    go_enter Try.func15, Try.ntmps15
    go_wp2_with (first
      | (go_at_call 30; refine (qn _).mono ?_; rintro e w5 ⟨rfl, rfl⟩)
      | (refine wpList_store_blk rfl 25 _ _ rfl w.heap.size 25 _ [.int .i64 0, .int .i64 0, .int .i64 0, .int .u64 0, .bool false, .slice none 0 0] rfl rfl hb0 rfl Try.sizeM (by simp [Value.oneCell']) ?_; intro w1 hb1 hk1 hz1))
    refine bodyPost_ret (results_row_tmp rfl _ _ w.heap.size _ rfl (run_loadVar_row (P := Try.prog) w1 w.heap.size 25 25 _ (0, 0) _ hb1 Try.underlying25 rfl Try.sizeM)) rfl ?_
    exact ⟨mv0, by rw [hp.out.2]; rfl, hp.out.1.symm, mv0_at _ _ _, hk0.young hk1 (Nat.le_refl _)⟩
end Go.Proofs.Ytlbgpnodpbjkoaa.Pack
