/-
  The walk of PackBack.
-/
import Derived.Test.YtlbgpnodpbjkoaaPkO
namespace Go.Proofs.Ytlbgpnodpbjkoaa.Pack
open Go.RowKit
open Seal (enc ret_bool ret_int)
open Seal.Math

theorem parse_m0 {b : List Nat} (h : parseE b ≠ 0) : parseM b = m0 := by
  by_cases h0 : 200 < b.length
  · exact (parse_long h0).1
  · match b, h, h0 with
    | [], _, _ => exact parse_nil.1
    | k :: l, h, h0 =>
      by_cases h1 : (k :: l).length < needN k
      · exact (parse_short (by omega) h1).1
      · by_cases h2 : bytesL (readL k l) = k :: l
        · exact absurd (parse_ok (by omega) h1 h2).2 h
        · exact (parse_bad (by omega) h1 h2).1
set_option maxRecDepth 100000 in
set_option maxHeartbeats 4000000 in
/-- PackBack, of what is let go -/
theorem packBack_early (x : Mv) (ab : Option Addr) (lb cb : Nat) (c : Int) (w : World) (hx : x.len ≤ 9223372036854775807) (hb : lb ≤ 9223372036854775807) (hl : 300 < x.len ∨ 400 < lb) : Calls Try.prog 5 #[x.val, .slice ab lb cb, .int .i64 c] w fun e w' => e = .returned (.bool true) ∧ Kept [] w w' := by
  have hb0 : x.In (w.alloc (.cells #[.int .i64 x.k, .int .i64 x.i, .int .i64 x.o, .int .u64 (x.m : Int), .bool x.s, .slice x.sa x.len x.cap] 25)) w.heap.size := blk_new w 25 _
  have hk0 := kept_alloc [] w (.cells #[.int .i64 x.k, .int .i64 x.i, .int .i64 x.o, .int .u64 (x.m : Int), .bool x.s, .slice x.sa x.len x.cap] 25)
  obtain ⟨c0, c1, c2, c3, c4, c5⟩ := hb0.six
  clear hb0
  unfold Mv.val
  generalize x.len = len at *
  by_cases h1 : 300 < len
  · clear hl
    go_enter Try.func5, Try.ntmps5
    go_wp2_with (first
      | (go_at_call 7; refine (lives_any _).mono ?_; rintro e w1 ⟨rfl, hk1⟩))
    go_ret
    exact ⟨rfl, hk0.trans hk1⟩
  · have h2 : 400 < lb := by omega
    clear hl
    go_enter Try.func5, Try.ntmps5
    go_wp2_with (first
      | (go_at_call 7; refine (lives_any _).mono ?_; rintro e w1 ⟨rfl, hk1⟩))
    go_ret
    exact ⟨rfl, hk0.trans hk1⟩
set_option maxRecDepth 100000 in
set_option maxHeartbeats 4000000 in
/-- PackBack -/
theorem packBack (x : Mv) (ab : Option Addr) (lb cb : Nat) (bs : List Nat) (c : Int) (w : World) (h : x.At 0 w.heap.size w) (hb : ByteRow 0 w.heap.size w (.slice ab lb cb) bs) (hl : x.len ≤ 300) (hlb : lb ≤ 400) : Calls Try.prog 5 #[x.val, .slice ab lb cb, .int .i64 c] w fun e w' => e = .returned (.bool true) ∧ Kept [] w w' := by
  have hlbs := hb.len
  have hb0 : x.In (w.alloc (.cells #[.int .i64 x.k, .int .i64 x.i, .int .i64 x.o, .int .u64 (x.m : Int), .bool x.s, .slice x.sa x.len x.cap] 25)) w.heap.size := blk_new w 25 _
  have hk0 := kept_alloc [] w (.cells #[.int .i64 x.k, .int .i64 x.i, .int .i64 x.o, .int .u64 (x.m : Int), .bool x.s, .slice x.sa x.len x.cap] 25)
  obtain ⟨W, hW⟩ : ∃ W, w.alloc (.cells #[.int .i64 x.k, .int .i64 x.i, .int .i64 x.o, .int .u64 (x.m : Int), .bool x.s, .slice x.sa x.len x.cap] 25) = W := ⟨_, rfl⟩
  rw [hW] at hb0 hk0
  have hxA : ∀ A, Kept [] w A → x.At 0 w.heap.size A := fun A hA => h.kept (Nat.le_refl _) hA (by simp)
  have hIn : ∀ A, Kept [] W A → x.In A w.heap.size := fun A hA => hb0.kept hA (by simp)
  have q1 := bytes_any x _ _ W (hxA W hk0) hk0.size (by omega)
  have q2 : ∀ A, Kept [] w A → Calls Try.prog 14 #[.slice ab lb cb] A _ := fun A hA => parse_any (.slice ab lb cb) bs _ _ A (hb.kept (Nat.le_refl _) hA (by simp)) hA.size (by omega)
  have hCb : ∀ A, Kept [] w A → (convert 23 9 (.slice ab lb cb)).run Try.prog A = .ok (.string (txt bs)) A := fun A hA => conv_txt (hb.kept (Nat.le_refl _) hA (by simp))
  have ql := fun A : World => lives_any A
  have hxm := h.m
  have hpi : Hid (parseE bs = 0 → bytesL (parseM bs) = bs ∧ Fine (parseM bs)) := fun e => parse_is e
  have hmlen : Hid (∀ z : Mv, z.ms = parseM bs → z.d.length ≤ 200) := fun z hz => by
    have h1 : z.d = (parseM bs).d := congrArg Ms.d hz
    rw [h1]
    by_cases e : parseE bs = 0
    · have := fine_len (parse_is e).2
      omega
    · rw [parse_m0 e]
      exact Nat.zero_le _
  clear hb h hlbs
  obtain ⟨c0, c1, c2, c3, c4, c5⟩ := hb0.six
  generalize parseE bs = E at *
  generalize hMM : parseM bs = M at *
  clear hMM
  unfold Mv.val at *
  replace hk0 : Hid (Kept [] w W) := hk0
  have hbl := bytesL_len x.ms
  have hfo : Hid (¬ Fine x.ms → (bytesL x.ms).length = 0) := fun hf => by rw [bytesL_out hf]; rfl
  have hfi : Hid (Fine x.ms → 0 < (bytesL x.ms).length) := fun hf => bytesL_ne hf
  have hbk : Hid (Fine x.ms → parseM (bytesL x.ms) = x.ms ∧ parseE (bytesL x.ms) = 0) := fun hf => parse_back hf hxm
  have hct : Hid (∀ n, n < (bytesL x.ms).length → parseE ((bytesL x.ms).take n) = 0 → parseM ((bytesL x.ms).take n) ≠ x.ms) := fun n hn he => parse_cut n hn he
  have hLb : Hid ((bytesL x.ms).length = (bytesL x.ms).length) := rfl
  obtain ⟨L, hL⟩ : ∃ L, (bytesL x.ms).length = L := ⟨_, rfl⟩
  rw [hL] at q1 hbl hfo hfi
  replace hL : Hid ((bytesL x.ms).length = L) := hL
  clear hLb
  go_enter Try.func5, Try.ntmps5
  go_upto_if 28 with (first
    | (go_at_call 10; refine q1.mono ?_; rintro e w1 ⟨sa1, cap1, rfl, hR1, hk1⟩; clear q1))
  go_cut [] from 28 (fun A => Kept [] w A)
  case first =>
    by_cases hf : Fine x.ms
    · have hLp : 0 < L := hfi.out hf
      obtain ⟨hb1, hb2⟩ := hbk.out hf
      have qp := parse_any (.slice sa1 L cap1) (bytesL x.ms) _ _ w1 hR1.byteRow (Nat.le_refl _) (by rw [hL.out]; omega)
      rw [hb1, hb2] at qp
      clear hb1 hb2 hbk hfi hfo c0 c1 c2 c3 c4 c5
      by_cases hc0 : c < 0
      · go_wp2_with (first
        | (go_at_call 14; refine qp.mono ?_; rintro e w2 ⟨y, rfl, hyM, hyA, hk2⟩; have hk2a := kept_alloc [] w2 (.cells #[.int .i64 y.k, .int .i64 y.i, .int .i64 y.o, .int .u64 (y.m : Int), .bool y.s, .slice y.sa y.len y.cap] 25); have hY : y.In (w2.alloc (.cells #[.int .i64 y.k, .int .i64 y.i, .int .i64 y.o, .int .u64 (y.m : Int), .bool y.s, .slice y.sa y.len y.cap] 25)) w2.heap.size := blk_new w2 25 _; have hkn := (hk1.trans hk2).trans hk2a; have hXI := hIn _ hkn; replace hyA := hyA.kept (Nat.le_refl _) hk2a (by simp); have hle := hk2a.size; obtain ⟨c0, c1, c2, c3, c4, c5⟩ := hXI.six; obtain ⟨d0, d1, d2, d3, d4, d5⟩ := hY.six; have qs := same_any y x _ _ _ _ _ hyA hle (hxA _ (hk0.out.trans hkn)) (hk0.out.trans hkn).size; rw [hyM, sameB_refl] at qs; unfold Mv.val at qs; clear qp hk2a hk2)
        | (go_at_call 17; refine qs.mono ?_; rintro e w3 ⟨rfl, hk3⟩; replace hkn := hkn.trans hk3; replace hXI := hXI.kept hk3 (by simp); replace hY := hY.kept hk3 (by simp); replace hyA := hyA.kept hle hk3 (by simp); replace hle := Nat.le_trans hle hk3.size; obtain ⟨c0, c1, c2, c3, c4, c5⟩ := hXI.six; obtain ⟨d0, d1, d2, d3, d4, d5⟩ := hY.six; have qr := refSame_any y x _ _ _ _ _ hyA hle (hxA _ (hk0.out.trans hkn)) (hk0.out.trans hkn).size; rw [hyM, sameB_refl] at qr; unfold Mv.val at qr; clear qs hk3)
        | (go_at_call 16; refine qr.mono ?_; rintro e w4 ⟨rfl, hk4⟩; replace hkn := hkn.trans hk4; replace hXI := hXI.kept hk4 (by simp); obtain ⟨c0, c1, c2, c3, c4, c5⟩ := hXI.six; clear qr hk4))
        go_meet
        exact hk0.out.trans hkn
      · by_cases hc1 : (L : Int) ≤ c
        · go_wp2_with (first
          | (go_at_call 14; refine qp.mono ?_; rintro e w2 ⟨y, rfl, hyM, hyA, hk2⟩; have hk2a := kept_alloc [] w2 (.cells #[.int .i64 y.k, .int .i64 y.i, .int .i64 y.o, .int .u64 (y.m : Int), .bool y.s, .slice y.sa y.len y.cap] 25); have hY : y.In (w2.alloc (.cells #[.int .i64 y.k, .int .i64 y.i, .int .i64 y.o, .int .u64 (y.m : Int), .bool y.s, .slice y.sa y.len y.cap] 25)) w2.heap.size := blk_new w2 25 _; have hkn := (hk1.trans hk2).trans hk2a; have hXI := hIn _ hkn; replace hyA := hyA.kept (Nat.le_refl _) hk2a (by simp); have hle := hk2a.size; obtain ⟨c0, c1, c2, c3, c4, c5⟩ := hXI.six; obtain ⟨d0, d1, d2, d3, d4, d5⟩ := hY.six; have qs := same_any y x _ _ _ _ _ hyA hle (hxA _ (hk0.out.trans hkn)) (hk0.out.trans hkn).size; rw [hyM, sameB_refl] at qs; unfold Mv.val at qs; clear qp hk2a hk2)
          | (go_at_call 17; refine qs.mono ?_; rintro e w3 ⟨rfl, hk3⟩; replace hkn := hkn.trans hk3; replace hXI := hXI.kept hk3 (by simp); replace hY := hY.kept hk3 (by simp); replace hyA := hyA.kept hle hk3 (by simp); replace hle := Nat.le_trans hle hk3.size; obtain ⟨c0, c1, c2, c3, c4, c5⟩ := hXI.six; obtain ⟨d0, d1, d2, d3, d4, d5⟩ := hY.six; have qr := refSame_any y x _ _ _ _ _ hyA hle (hxA _ (hk0.out.trans hkn)) (hk0.out.trans hkn).size; rw [hyM, sameB_refl] at qr; unfold Mv.val at qr; clear qs hk3)
          | (go_at_call 16; refine qr.mono ?_; rintro e w4 ⟨rfl, hk4⟩; replace hkn := hkn.trans hk4; replace hXI := hXI.kept hk4 (by simp); obtain ⟨c0, c1, c2, c3, c4, c5⟩ := hXI.six; clear qr hk4))
          go_meet
          exact hk0.out.trans hkn
        · obtain ⟨n, rfl⟩ : ∃ n : Nat, c = n := ⟨c.toNat, by omega⟩
          have hnl : Hid (n < (bytesL x.ms).length) := by
            show _ < _
            rw [hL.out]
            omega
          have hl5 : Hid (((bytesL x.ms).take n).length ≤ 9223372036854775807) := by
            show _ ≤ _
            rw [List.length_take, hL.out]
            omega
          by_cases hg : parseE ((bytesL x.ms).take n) = 0
          · have hEg : Hid (parseE ((bytesL x.ms).take n) = 0) := hg
            have hzf : Hid (sameB (parseM ((bytesL x.ms).take n)) x.ms = false) := Bool.eq_false_iff.2 (fun e => hct.out n hnl.out hg (sameB_eq.1 e))
            clear hg
            go_wp2_with (first
              | (go_at_call 14; refine qp.mono ?_; rintro e w2 ⟨y, rfl, hyM, hyA, hk2⟩; have hk2a := kept_alloc [] w2 (.cells #[.int .i64 y.k, .int .i64 y.i, .int .i64 y.o, .int .u64 (y.m : Int), .bool y.s, .slice y.sa y.len y.cap] 25); have hY : y.In (w2.alloc (.cells #[.int .i64 y.k, .int .i64 y.i, .int .i64 y.o, .int .u64 (y.m : Int), .bool y.s, .slice y.sa y.len y.cap] 25)) w2.heap.size := blk_new w2 25 _; have hk14 := hk2.trans hk2a; have hkn := (hk1.trans hk2).trans hk2a; have hXI := hIn _ hkn; replace hyA := hyA.kept (Nat.le_refl _) hk2a (by simp); have hle := hk2a.size; obtain ⟨c0, c1, c2, c3, c4, c5⟩ := hXI.six; obtain ⟨d0, d1, d2, d3, d4, d5⟩ := hY.six; have qs := same_any y x _ _ _ _ _ hyA hle (hxA _ (hk0.out.trans hkn)) (hk0.out.trans hkn).size; rw [hyM, sameB_refl] at qs; unfold Mv.val at qs; clear qp hk2a hk2)
              | (go_at_call 17; refine qs.mono ?_; rintro e w3 ⟨rfl, hk3⟩; replace hkn := hkn.trans hk3; replace hk14 := hk14.trans hk3; replace hXI := hXI.kept hk3 (by simp); replace hY := hY.kept hk3 (by simp); replace hyA := hyA.kept hle hk3 (by simp); replace hle := Nat.le_trans hle hk3.size; obtain ⟨c0, c1, c2, c3, c4, c5⟩ := hXI.six; obtain ⟨d0, d1, d2, d3, d4, d5⟩ := hY.six; have qr := refSame_any y x _ _ _ _ _ hyA hle (hxA _ (hk0.out.trans hkn)) (hk0.out.trans hkn).size; rw [hyM, sameB_refl] at qr; unfold Mv.val at qr; clear qs hk3)
              | (go_at_call 16; refine qr.mono ?_; rintro e w4 ⟨rfl, hk4⟩; replace hkn := hkn.trans hk4; replace hk14 := hk14.trans hk4; replace hXI := hXI.kept hk4 (by simp); obtain ⟨c0, c1, c2, c3, c4, c5⟩ := hXI.six; clear qr hk4)
              | (refine wpList_take rfl _ _ rfl W.heap.size w1.heap.size w1 _ (bytesL x.ms) n rfl rfl hR1.byteRow hnl.out ?_; intro sa5 cap5 hr5)
              | (go_at_call 14; refine (parse_any _ _ _ _ _ (hr5.kept (Nat.le_refl _) hk14 (by simp)) hk14.size hl5.out).mono ?_; rintro e w5 ⟨z, rfl, hzM, hzA, hk5⟩; have hk5a := kept_alloc [] w5 (.cells #[.int .i64 z.k, .int .i64 z.i, .int .i64 z.o, .int .u64 (z.m : Int), .bool z.s, .slice z.sa z.len z.cap] 25); have hZ : z.In (w5.alloc (.cells #[.int .i64 z.k, .int .i64 z.i, .int .i64 z.o, .int .u64 (z.m : Int), .bool z.s, .slice z.sa z.len z.cap] 25)) w5.heap.size := blk_new w5 25 _; replace hkn := (hkn.trans hk5).trans hk5a; replace hXI := hIn _ hkn; replace hzA := hzA.kept (Nat.le_refl _) hk5a (by simp); have hle5 := hk5a.size; obtain ⟨c0, c1, c2, c3, c4, c5⟩ := hXI.six; obtain ⟨f0, f1, f2, f3, f4, f5⟩ := hZ.six; have qz := same_any z x _ _ _ _ _ hzA hle5 (hxA _ (hk0.out.trans hkn)) (hk0.out.trans hkn).size; rw [hzM, hzf.out] at qz; unfold Mv.val at qz; rw [hEg.out])
              | (go_at_call 17; refine qz.mono ?_; rintro e w6 ⟨rfl, hk6⟩; replace hkn := hkn.trans hk6; clear qz))
            go_meet
            exact hk0.out.trans hkn
          · obtain ⟨G, hG⟩ : ∃ G, parseE ((bytesL x.ms).take n) = G := ⟨_, rfl⟩
            rw [hG] at hg
            have hEg : Hid (parseE ((bytesL x.ms).take n) = G) := hG
            clear hG
            go_wp2_with (first
              | (go_at_call 14; refine qp.mono ?_; rintro e w2 ⟨y, rfl, hyM, hyA, hk2⟩; have hk2a := kept_alloc [] w2 (.cells #[.int .i64 y.k, .int .i64 y.i, .int .i64 y.o, .int .u64 (y.m : Int), .bool y.s, .slice y.sa y.len y.cap] 25); have hY : y.In (w2.alloc (.cells #[.int .i64 y.k, .int .i64 y.i, .int .i64 y.o, .int .u64 (y.m : Int), .bool y.s, .slice y.sa y.len y.cap] 25)) w2.heap.size := blk_new w2 25 _; have hk14 := hk2.trans hk2a; have hkn := (hk1.trans hk2).trans hk2a; have hXI := hIn _ hkn; replace hyA := hyA.kept (Nat.le_refl _) hk2a (by simp); have hle := hk2a.size; obtain ⟨c0, c1, c2, c3, c4, c5⟩ := hXI.six; obtain ⟨d0, d1, d2, d3, d4, d5⟩ := hY.six; have qs := same_any y x _ _ _ _ _ hyA hle (hxA _ (hk0.out.trans hkn)) (hk0.out.trans hkn).size; rw [hyM, sameB_refl] at qs; unfold Mv.val at qs; clear qp hk2a hk2)
              | (go_at_call 17; refine qs.mono ?_; rintro e w3 ⟨rfl, hk3⟩; replace hkn := hkn.trans hk3; replace hk14 := hk14.trans hk3; replace hXI := hXI.kept hk3 (by simp); replace hY := hY.kept hk3 (by simp); replace hyA := hyA.kept hle hk3 (by simp); replace hle := Nat.le_trans hle hk3.size; obtain ⟨c0, c1, c2, c3, c4, c5⟩ := hXI.six; obtain ⟨d0, d1, d2, d3, d4, d5⟩ := hY.six; have qr := refSame_any y x _ _ _ _ _ hyA hle (hxA _ (hk0.out.trans hkn)) (hk0.out.trans hkn).size; rw [hyM, sameB_refl] at qr; unfold Mv.val at qr; clear qs hk3)
              | (go_at_call 16; refine qr.mono ?_; rintro e w4 ⟨rfl, hk4⟩; replace hkn := hkn.trans hk4; replace hk14 := hk14.trans hk4; replace hXI := hXI.kept hk4 (by simp); obtain ⟨c0, c1, c2, c3, c4, c5⟩ := hXI.six; clear qr hk4)
              | (refine wpList_take rfl _ _ rfl W.heap.size w1.heap.size w1 _ (bytesL x.ms) n rfl rfl hR1.byteRow hnl.out ?_; intro sa5 cap5 hr5)
              | (go_at_call 14; refine (parse_any _ _ _ _ _ (hr5.kept (Nat.le_refl _) hk14 (by simp)) hk14.size hl5.out).mono ?_; rintro e w5 ⟨z, rfl, hzM, hzA, hk5⟩; have hk5a := kept_alloc [] w5 (.cells #[.int .i64 z.k, .int .i64 z.i, .int .i64 z.o, .int .u64 (z.m : Int), .bool z.s, .slice z.sa z.len z.cap] 25); have hZ : z.In (w5.alloc (.cells #[.int .i64 z.k, .int .i64 z.i, .int .i64 z.o, .int .u64 (z.m : Int), .bool z.s, .slice z.sa z.len z.cap] 25)) w5.heap.size := blk_new w5 25 _; replace hkn := (hkn.trans hk5).trans hk5a; replace hXI := hIn _ hkn; replace hzA := hzA.kept (Nat.le_refl _) hk5a (by simp); have hle5 := hk5a.size; obtain ⟨c0, c1, c2, c3, c4, c5⟩ := hXI.six; obtain ⟨f0, f1, f2, f3, f4, f5⟩ := hZ.six; have qz := same_any z x _ _ _ _ _ hzA hle5 (hxA _ (hk0.out.trans hkn)) (hk0.out.trans hkn).size; clear qz; rw [hEg.out]))
            go_meet
            exact hk0.out.trans hkn
    · have hL0 : L ≤ 0 := Nat.le_of_eq (hfo.out hf)
      go_wp2_with fail
      go_meet
      exact hk0.out.trans hk1
  case rest =>
    have hkc : Kept [] w wc := hcut
    clear hcut
    clear c0 c1 c2 c3 c4 c5
    go_wp2_with (first
      | (go_at_call 14; refine (q2 _ hkc).mono ?_; rintro e w2 ⟨z, rfl, hzM, hzA, hk2⟩))
    have hZ : z.In (w2.alloc (.cells #[.int .i64 z.k, .int .i64 z.i, .int .i64 z.o, .int .u64 (z.m : Int), .bool z.s, .slice z.sa z.len z.cap] 25)) w2.heap.size := blk_new w2 25 _
    have hk2a := kept_alloc [] w2 (.cells #[.int .i64 z.k, .int .i64 z.i, .int .i64 z.o, .int .u64 (z.m : Int), .bool z.s, .slice z.sa z.len z.cap] 25)
    obtain ⟨W0, hW0⟩ : ∃ W0, w2.alloc (.cells #[.int .i64 z.k, .int .i64 z.i, .int .i64 z.o, .int .u64 (z.m : Int), .bool z.s, .slice z.sa z.len z.cap] 25) = W0 := ⟨_, rfl⟩
    rw [hW0] at hZ hk2a
    try rw [hW0]
    have hkW : Kept [] w W0 := (hkc.trans hk2).trans hk2a
    have hcells : ∀ A, Kept [] W0 A → _ := fun A hA => (hZ.kept hA (by simp)).six
    have hzW : z.At wc.heap.size w2.heap.size W0 := hzA.kept (Nat.le_refl _) hk2a (by simp)
    have hzl : z.len ≤ 9223372036854775807 := by
      have h1 := hzA.len
      have h2 := hmlen.out z hzM
      omega
    by_cases hE : E = 0
    · subst hE
      obtain ⟨hp1, hp2⟩ := hpi.out rfl
      have qb : ∀ A : World, Kept [] W0 A → Calls Try.prog 10 #[.agg #[.int .i64 z.k, .int .i64 z.i, .int .i64 z.o, .int .u64 (z.m : Int), .bool z.s, .slice z.sa z.len z.cap]] A fun e w' => ∃ v, e = .returned v ∧ (∀ B, Kept [] w' B → (convert 23 9 v).run Try.prog B = .ok (.string (txt bs)) B) ∧ Kept [] A w' := fun A hA => by
        refine (bytes_any z _ _ A (hzW.kept hk2a.size hA (by simp)) (Nat.le_trans hk2a.size hA.size) hzl).mono ?_
        rintro e w' ⟨sa, cap, rfl, ho, hk⟩
        refine ⟨_, rfl, fun B hB => ?_, hk⟩
        have := conv_txt (ho.byteRow.kept (Nat.le_refl _) hB (by simp))
        rw [hzM, hp1] at this
        rw [hzM, hp1]
        exact this
      have qg : ∀ A : World, Calls Try.prog 8 #[.agg #[.int .i64 z.k, .int .i64 z.i, .int .i64 z.o, .int .u64 (z.m : Int), .bool z.s, .slice z.sa z.len z.cap]] A fun e w' => e = .returned (.bool true) ∧ Kept [] A w' := fun A => by
        have := good_any z hzA.len hzl A
        rw [hzM, good_in hp2] at this
        exact this
      generalize txt bs = T at *
      clear hp1 hp2 hzM hzA hzW hzl hZ q2 hpi hmlen hIn hxA hb0
      refine wp_region_held_drew (S := fun A => Kept [] W0 A) (by kernel_rfl) (kept_drew [] W0) (fun hP => ?_)
      have hH := hP
      clear hP
      refine wpAnyH_take (i := 0) (oi := { dst := some 80, op := Op.move (Operand.tmp 13), type := 30, pos := "law.go:52", after := #[], guard := none }) (v := (.int .i64 0)) rfl (by kernel_rfl) (by kernel_rfl) (by kernel_rfl) (fun _ _ _ h => h) (Or.inl ⟨by rfl, fun W hSw => by go_simp⟩) hH ?_
      try simp only [Act.put, List.setIfInBounds_toArray, List.set_cons_zero, List.set_cons_succ]
      refine wpAnyH_take (i := 1) (oi := { dst := some 81, op := Op.binOp BinOp.neq 30 (Operand.tmp 80) (Operand.const (Value.int IntKind.i64 0)) 30, type := 4, pos := "law.go:52", after := #[{ on := 0, ground := Ground.data }], guard := none }) (v := (.bool false)) rfl (by kernel_rfl) (by kernel_rfl) (by kernel_rfl) (fun _ _ _ h => h) (Or.inl ⟨by rfl, fun W hSw => by go_simp⟩) hH ?_
      try simp only [Act.put, List.setIfInBounds_toArray, List.set_cons_zero, List.set_cons_succ]
      refine wpAnyH_take (i := 2) (oi := { dst := some 82, op := Op.move (Operand.tmp 81), type := 4, pos := "law.go:52", after := #[{ on := 1, ground := Ground.data }], guard := none }) (v := (.bool false)) rfl (by kernel_rfl) (by kernel_rfl) (by kernel_rfl) (fun _ _ _ h => h) (Or.inl ⟨by rfl, fun W hSw => by go_simp⟩) hH ?_
      try simp only [Act.put, List.setIfInBounds_toArray, List.set_cons_zero, List.set_cons_succ]
      refine wpAnyH_take (i := 3) (oi := { dst := some 83, op := Op.load 25 (Operand.tmp 12), type := 25, pos := "law.go:52", after := #[{ on := 2, ground := Ground.guard }], guard := some (2, false) }) (v := (.agg #[.int .i64 z.k, .int .i64 z.i, .int .i64 z.o, .int .u64 (z.m : Int), .bool z.s, .slice z.sa z.len z.cap])) rfl (by kernel_rfl) (by kernel_rfl) (by kernel_rfl) (fun _ _ _ h => h) (Or.inl ⟨by rfl, fun W hSw => by obtain ⟨c0, c1, c2, c3, c4, c5⟩ := hcells W hSw; go_simp⟩) hH ?_
      try simp only [Act.put, List.setIfInBounds_toArray, List.set_cons_zero, List.set_cons_succ]
      refine wpAnyH_take (i := 6) (oi := { dst := some 86, op := Op.move (Operand.tmp 1), type := 23, pos := "law.go:52", after := #[{ on := 2, ground := Ground.guard }], guard := some (2, false) }) (v := (.slice ab lb cb)) rfl (by kernel_rfl) (by kernel_rfl) (by kernel_rfl) (fun _ _ _ h => h) (Or.inl ⟨by rfl, fun W hSw => by go_simp⟩) hH ?_
      try simp only [Act.put, List.setIfInBounds_toArray, List.set_cons_zero, List.set_cons_succ]
      refine wpAnyH_take (i := 7) (oi := { dst := some 87, op := Op.convert 23 9 (Operand.tmp 86), type := 9, pos := "law.go:52", after := #[{ on := 6, ground := Ground.data }, { on := 2, ground := Ground.guard }], guard := some (2, false) }) (v := (.string T)) rfl (by kernel_rfl) (by kernel_rfl) (by kernel_rfl) (fun _ _ _ h => h) (Or.inl ⟨by rfl, fun W hSw => by have cvb := hCb W (hkW.trans hSw); go_simp⟩) hH ?_
      try simp only [Act.put, List.setIfInBounds_toArray, List.set_cons_zero, List.set_cons_succ]
      refine wpAnyH_ready (rs := [4]) (by kernel_rfl) (by simp) ?_
      refine AllReadyH.cons (o := { dst := some 84, op := Op.call { callee := Callee.value (Operand.func 10), args := #[Operand.tmp 83], argTypes := #[25] }, type := 23, pos := "law.go:52", after := #[{ on := 3, ground := Ground.data }, { on := 2, ground := Ground.chain }, { on := 2, ground := Ground.guard }], guard := some (2, false) }) rfl (fun K hK => ?_) AllReadyH.nil
      go_simp
      refine (qb _ hH).mono ?_
      rintro e w4 ⟨v4, rfl, hC4, hk4⟩
      go_wp2_with fail
      refine hK.out _ _ (hH.trans hk4) (fun _ => ?_)
      clear hK K
      refine wpAnyH_stronger (S' := fun A => Kept [] W0 A ∧ Kept [] w4 A) (fun A h => h.1) _ _ _ _ ?_
      replace hH := (⟨hH.trans hk4, Kept.refl _ _⟩ : Kept [] W0 w4 ∧ Kept [] w4 w4)
      try simp only [Act.put, List.setIfInBounds_toArray, List.set_cons_zero, List.set_cons_succ]
      refine wpAnyH_take (i := 5) (oi := { dst := some 85, op := Op.convert 23 9 (Operand.tmp 84), type := 9, pos := "law.go:52", after := #[{ on := 4, ground := Ground.data }, { on := 2, ground := Ground.guard }], guard := some (2, false) }) (v := (.string T)) rfl (by kernel_rfl) (by kernel_rfl) (by kernel_rfl) (fun _ _ _ h => h) (Or.inl ⟨by rfl, fun W hSw => by have cv := hC4 W hSw.2; go_simp⟩) hH ?_
      try simp only [Act.put, List.setIfInBounds_toArray, List.set_cons_zero, List.set_cons_succ]
      refine wpAnyH_take (i := 8) (oi := { dst := some 88, op := Op.binOp BinOp.eql 9 (Operand.tmp 85) (Operand.tmp 87) 9, type := 4, pos := "law.go:52", after := #[{ on := 5, ground := Ground.data }, { on := 7, ground := Ground.data }, { on := 2, ground := Ground.guard }], guard := some (2, false) }) (v := (.bool true)) rfl (by kernel_rfl) (by kernel_rfl) (by kernel_rfl) (fun _ _ _ h => h) (Or.inl ⟨by rfl, fun W hSw => by go_simp⟩) hH ?_
      try simp only [Act.put, List.setIfInBounds_toArray, List.set_cons_zero, List.set_cons_succ]
      refine wpAnyH_take (i := 9) (oi := { dst := some 89, op := Op.move (Operand.tmp 88), type := 4, pos := "law.go:52", after := #[{ on := 8, ground := Ground.data }, { on := 4, ground := Ground.chain }, { on := 2, ground := Ground.guard }], guard := some (2, false) }) (v := (.bool true)) rfl (by kernel_rfl) (by kernel_rfl) (by kernel_rfl) (fun _ _ _ h => h) (Or.inl ⟨by rfl, fun W hSw => by go_simp⟩) hH ?_
      try simp only [Act.put, List.setIfInBounds_toArray, List.set_cons_zero, List.set_cons_succ]
      refine wpAnyH_take (i := 10) (oi := { dst := some 90, op := Op.load 25 (Operand.tmp 12), type := 25, pos := "law.go:52", after := #[{ on := 9, ground := Ground.guard }], guard := some (9, true) }) (v := (.agg #[.int .i64 z.k, .int .i64 z.i, .int .i64 z.o, .int .u64 (z.m : Int), .bool z.s, .slice z.sa z.len z.cap])) rfl (by kernel_rfl) (by kernel_rfl) (by kernel_rfl) (fun _ _ _ h => h) (Or.inl ⟨by rfl, fun W hSw => by obtain ⟨c0, c1, c2, c3, c4, c5⟩ := hcells W hSw.1; go_simp⟩) hH ?_
      try simp only [Act.put, List.setIfInBounds_toArray, List.set_cons_zero, List.set_cons_succ]
      refine wpAnyH_ready (rs := [11]) (by kernel_rfl) (by simp) ?_
      refine AllReadyH.cons (o := { dst := some 91, op := Op.call { callee := Callee.value (Operand.func 8), args := #[Operand.tmp 90], argTypes := #[25] }, type := 4, pos := "law.go:52", after := #[{ on := 10, ground := Ground.data }, { on := 9, ground := Ground.chain }, { on := 9, ground := Ground.guard }], guard := some (9, true) }) rfl (fun K hK => ?_) AllReadyH.nil
      go_simp
      refine (qg _).mono ?_
      rintro e w11 ⟨rfl, hk1⟩
      go_wp2_with fail
      have hH1 := (⟨hH.1.trans hk1, hH.2.trans hk1⟩ : Kept [] W0 w11 ∧ Kept [] w4 w11)
      refine hK.out _ _ hH1 (fun _ => ?_)
      replace hH := hH1
      clear hK K hH1
      try simp only [Act.put, List.setIfInBounds_toArray, List.set_cons_zero, List.set_cons_succ]
      refine wpAnyH_take (i := 12) (oi := { dst := some 92, op := Op.pick (Operand.tmp 89) (Operand.tmp 91) (Operand.const (Value.bool false)), type := 4, pos := "law.go:52", after := #[{ on := 9, ground := Ground.data }, { on := 11, ground := Ground.data }, { on := 2, ground := Ground.guard }], guard := some (2, false) }) (v := (.bool true)) rfl (by kernel_rfl) (by kernel_rfl) (by kernel_rfl) (fun _ _ _ h => h) (Or.inl ⟨by rfl, fun W hSw => by go_simp⟩) hH ?_
      try simp only [Act.put, List.setIfInBounds_toArray, List.set_cons_zero, List.set_cons_succ]
      refine wpAnyH_take (i := 13) (oi := { dst := some 93, op := Op.pick (Operand.tmp 82) (Operand.const (Value.bool true)) (Operand.tmp 92), type := 4, pos := "law.go:52", after := #[{ on := 2, ground := Ground.data }, { on := 12, ground := Ground.data }], guard := none }) (v := (.bool true)) rfl (by kernel_rfl) (by kernel_rfl) (by kernel_rfl) (fun _ _ _ h => h) (Or.inl ⟨by rfl, fun W hSw => by go_simp⟩) hH ?_
      try simp only [Act.put, List.setIfInBounds_toArray, List.set_cons_zero, List.set_cons_succ]
      refine wpAnyH_take (i := 14) (oi := { dst := some 94, op := Op.move (Operand.tmp 93), type := 4, pos := "law.go:52", after := #[{ on := 13, ground := Ground.data }, { on := 11, ground := Ground.chain }], guard := none }) (v := (.bool true)) rfl (by kernel_rfl) (by kernel_rfl) (by kernel_rfl) (fun _ _ _ h => h) (Or.inl ⟨by rfl, fun W hSw => by go_simp⟩) hH ?_
      try simp only [Act.put, List.setIfInBounds_toArray, List.set_cons_zero, List.set_cons_succ]
      refine wpAnyH_ready (rs := [15]) (by kernel_rfl) (by simp) ?_
      refine AllReadyH.cons (o := { dst := some 95, op := Op.call { callee := Callee.value (Operand.func 7), args := #[], argTypes := #[] }, type := 4, pos := "law.go:52", after := #[{ on := 14, ground := Ground.chain }, { on := 14, ground := Ground.guard }], guard := some (14, true) }) rfl (fun K hK => ?_) AllReadyH.nil
      go_simp
      refine (ql _).mono ?_
      rintro e w15 ⟨rfl, hk1⟩
      go_wp2_with fail
      have hH1 := (⟨hH.1.trans hk1, hH.2.trans hk1⟩ : Kept [] W0 w15 ∧ Kept [] w4 w15)
      refine hK.out _ _ hH1 (fun _ => ?_)
      replace hH := hH1
      clear hK K hH1
      try simp only [Act.put, List.setIfInBounds_toArray, List.set_cons_zero, List.set_cons_succ]
      refine wpAnyH_take (i := 16) (oi := { dst := some 96, op := Op.pick (Operand.tmp 94) (Operand.tmp 95) (Operand.const (Value.bool false)), type := 4, pos := "law.go:52", after := #[{ on := 14, ground := Ground.data }, { on := 15, ground := Ground.data }], guard := none }) (v := (.bool true)) rfl (by kernel_rfl) (by kernel_rfl) (by kernel_rfl) (fun _ _ _ h => h) (Or.inl ⟨by rfl, fun W hSw => by go_simp⟩) hH ?_
      try simp only [Act.put, List.setIfInBounds_toArray, List.set_cons_zero, List.set_cons_succ]
      refine wpAnyH_take (i := 17) (oi := { dst := some 6, op := Op.assign (Operand.tmp 96), type := 4, pos := "law.go:52", after := #[{ on := 16, ground := Ground.data }, { on := 15, ground := Ground.chain }, { on := 0, ground := Ground.phase }, { on := 1, ground := Ground.phase }, { on := 2, ground := Ground.phase }, { on := 3, ground := Ground.phase }, { on := 4, ground := Ground.phase }, { on := 5, ground := Ground.phase }, { on := 6, ground := Ground.phase }, { on := 7, ground := Ground.phase }, { on := 8, ground := Ground.phase }, { on := 9, ground := Ground.phase }, { on := 10, ground := Ground.phase }, { on := 11, ground := Ground.phase }, { on := 12, ground := Ground.phase }, { on := 13, ground := Ground.phase }, { on := 14, ground := Ground.phase }, { on := 15, ground := Ground.phase }, { on := 16, ground := Ground.phase }], guard := none }) (v := (.bool true)) rfl (by kernel_rfl) (by kernel_rfl) (by kernel_rfl) (fun _ _ _ h => h) (Or.inl ⟨by rfl, fun W hSw => by go_simp⟩) hH ?_
      try simp only [Act.put, List.setIfInBounds_toArray, List.set_cons_zero, List.set_cons_succ]
      refine wpAnyH_done (by kernel_rfl) ?_ _
      go_wp2_with fail
      go_ret
      exact ⟨rfl, hkW.trans hH.1⟩
    · have hne : (E != 0) = true := by simpa using hE
      clear hzM hzA hzW hzl hZ q2 hpi hmlen hIn hxA hb0
      refine wp_region_held_drew (S := fun A => Kept [] W0 A) (by kernel_rfl) (kept_drew [] W0) (fun hP => ?_)
      have hH := hP
      clear hP
      refine wpAnyH_take (i := 0) (oi := { dst := some 80, op := Op.move (Operand.tmp 13), type := 30, pos := "law.go:52", after := #[], guard := none }) (v := (.int .i64 E)) rfl (by kernel_rfl) (by kernel_rfl) (by kernel_rfl) (fun _ _ _ h => h) (Or.inl ⟨by rfl, fun W hSw => by go_simp⟩) hH ?_
      try simp only [Act.put, List.setIfInBounds_toArray, List.set_cons_zero, List.set_cons_succ]
      refine wpAnyH_take (i := 1) (oi := { dst := some 81, op := Op.binOp BinOp.neq 30 (Operand.tmp 80) (Operand.const (Value.int IntKind.i64 0)) 30, type := 4, pos := "law.go:52", after := #[{ on := 0, ground := Ground.data }], guard := none }) (v := (.bool true)) rfl (by kernel_rfl) (by kernel_rfl) (by kernel_rfl) (fun _ _ _ h => h) (Or.inl ⟨by rfl, fun W hSw => by go_simp⟩) hH ?_
      try simp only [Act.put, List.setIfInBounds_toArray, List.set_cons_zero, List.set_cons_succ]
      refine wpAnyH_take (i := 2) (oi := { dst := some 82, op := Op.move (Operand.tmp 81), type := 4, pos := "law.go:52", after := #[{ on := 1, ground := Ground.data }], guard := none }) (v := (.bool true)) rfl (by kernel_rfl) (by kernel_rfl) (by kernel_rfl) (fun _ _ _ h => h) (Or.inl ⟨by rfl, fun W hSw => by go_simp⟩) hH ?_
      try simp only [Act.put, List.setIfInBounds_toArray, List.set_cons_zero, List.set_cons_succ]
      refine wpAnyH_take (i := 3) (oi := { dst := some 83, op := Op.load 25 (Operand.tmp 12), type := 25, pos := "law.go:52", after := #[{ on := 2, ground := Ground.guard }], guard := some (2, false) }) (v := undef) rfl (by kernel_rfl) (by kernel_rfl) (by kernel_rfl) (fun _ _ _ h => h) (Or.inr ⟨by rfl, rfl⟩) hH ?_
      try simp only [Act.put, List.setIfInBounds_toArray, List.set_cons_zero, List.set_cons_succ]
      refine wpAnyH_take (i := 4) (oi := { dst := some 84, op := Op.call { callee := Callee.value (Operand.func 10), args := #[Operand.tmp 83], argTypes := #[25] }, type := 23, pos := "law.go:52", after := #[{ on := 3, ground := Ground.data }, { on := 2, ground := Ground.chain }, { on := 2, ground := Ground.guard }], guard := some (2, false) }) (v := undef) rfl (by kernel_rfl) (by kernel_rfl) (by kernel_rfl) (fun _ _ _ h => h) (Or.inr ⟨by rfl, rfl⟩) hH ?_
      try simp only [Act.put, List.setIfInBounds_toArray, List.set_cons_zero, List.set_cons_succ]
      refine wpAnyH_take (i := 5) (oi := { dst := some 85, op := Op.convert 23 9 (Operand.tmp 84), type := 9, pos := "law.go:52", after := #[{ on := 4, ground := Ground.data }, { on := 2, ground := Ground.guard }], guard := some (2, false) }) (v := undef) rfl (by kernel_rfl) (by kernel_rfl) (by kernel_rfl) (fun _ _ _ h => h) (Or.inr ⟨by rfl, rfl⟩) hH ?_
      try simp only [Act.put, List.setIfInBounds_toArray, List.set_cons_zero, List.set_cons_succ]
      refine wpAnyH_take (i := 6) (oi := { dst := some 86, op := Op.move (Operand.tmp 1), type := 23, pos := "law.go:52", after := #[{ on := 2, ground := Ground.guard }], guard := some (2, false) }) (v := undef) rfl (by kernel_rfl) (by kernel_rfl) (by kernel_rfl) (fun _ _ _ h => h) (Or.inr ⟨by rfl, rfl⟩) hH ?_
      try simp only [Act.put, List.setIfInBounds_toArray, List.set_cons_zero, List.set_cons_succ]
      refine wpAnyH_take (i := 7) (oi := { dst := some 87, op := Op.convert 23 9 (Operand.tmp 86), type := 9, pos := "law.go:52", after := #[{ on := 6, ground := Ground.data }, { on := 2, ground := Ground.guard }], guard := some (2, false) }) (v := undef) rfl (by kernel_rfl) (by kernel_rfl) (by kernel_rfl) (fun _ _ _ h => h) (Or.inr ⟨by rfl, rfl⟩) hH ?_
      try simp only [Act.put, List.setIfInBounds_toArray, List.set_cons_zero, List.set_cons_succ]
      refine wpAnyH_take (i := 8) (oi := { dst := some 88, op := Op.binOp BinOp.eql 9 (Operand.tmp 85) (Operand.tmp 87) 9, type := 4, pos := "law.go:52", after := #[{ on := 5, ground := Ground.data }, { on := 7, ground := Ground.data }, { on := 2, ground := Ground.guard }], guard := some (2, false) }) (v := undef) rfl (by kernel_rfl) (by kernel_rfl) (by kernel_rfl) (fun _ _ _ h => h) (Or.inr ⟨by rfl, rfl⟩) hH ?_
      try simp only [Act.put, List.setIfInBounds_toArray, List.set_cons_zero, List.set_cons_succ]
      refine wpAnyH_take (i := 9) (oi := { dst := some 89, op := Op.move (Operand.tmp 88), type := 4, pos := "law.go:52", after := #[{ on := 8, ground := Ground.data }, { on := 4, ground := Ground.chain }, { on := 2, ground := Ground.guard }], guard := some (2, false) }) (v := undef) rfl (by kernel_rfl) (by kernel_rfl) (by kernel_rfl) (fun _ _ _ h => h) (Or.inr ⟨by rfl, rfl⟩) hH ?_
      try simp only [Act.put, List.setIfInBounds_toArray, List.set_cons_zero, List.set_cons_succ]
      refine wpAnyH_take (i := 10) (oi := { dst := some 90, op := Op.load 25 (Operand.tmp 12), type := 25, pos := "law.go:52", after := #[{ on := 9, ground := Ground.guard }], guard := some (9, true) }) (v := undef) rfl (by kernel_rfl) (by kernel_rfl) (by kernel_rfl) (fun _ _ _ h => h) (Or.inr ⟨by rfl, rfl⟩) hH ?_
      try simp only [Act.put, List.setIfInBounds_toArray, List.set_cons_zero, List.set_cons_succ]
      refine wpAnyH_take (i := 11) (oi := { dst := some 91, op := Op.call { callee := Callee.value (Operand.func 8), args := #[Operand.tmp 90], argTypes := #[25] }, type := 4, pos := "law.go:52", after := #[{ on := 10, ground := Ground.data }, { on := 9, ground := Ground.chain }, { on := 9, ground := Ground.guard }], guard := some (9, true) }) (v := undef) rfl (by kernel_rfl) (by kernel_rfl) (by kernel_rfl) (fun _ _ _ h => h) (Or.inr ⟨by rfl, rfl⟩) hH ?_
      try simp only [Act.put, List.setIfInBounds_toArray, List.set_cons_zero, List.set_cons_succ]
      refine wpAnyH_take (i := 12) (oi := { dst := some 92, op := Op.pick (Operand.tmp 89) (Operand.tmp 91) (Operand.const (Value.bool false)), type := 4, pos := "law.go:52", after := #[{ on := 9, ground := Ground.data }, { on := 11, ground := Ground.data }, { on := 2, ground := Ground.guard }], guard := some (2, false) }) (v := undef) rfl (by kernel_rfl) (by kernel_rfl) (by kernel_rfl) (fun _ _ _ h => h) (Or.inr ⟨by rfl, rfl⟩) hH ?_
      try simp only [Act.put, List.setIfInBounds_toArray, List.set_cons_zero, List.set_cons_succ]
      refine wpAnyH_take (i := 13) (oi := { dst := some 93, op := Op.pick (Operand.tmp 82) (Operand.const (Value.bool true)) (Operand.tmp 92), type := 4, pos := "law.go:52", after := #[{ on := 2, ground := Ground.data }, { on := 12, ground := Ground.data }], guard := none }) (v := (.bool true)) rfl (by kernel_rfl) (by kernel_rfl) (by kernel_rfl) (fun _ _ _ h => h) (Or.inl ⟨by rfl, fun W hSw => by go_simp⟩) hH ?_
      try simp only [Act.put, List.setIfInBounds_toArray, List.set_cons_zero, List.set_cons_succ]
      refine wpAnyH_take (i := 14) (oi := { dst := some 94, op := Op.move (Operand.tmp 93), type := 4, pos := "law.go:52", after := #[{ on := 13, ground := Ground.data }, { on := 11, ground := Ground.chain }], guard := none }) (v := (.bool true)) rfl (by kernel_rfl) (by kernel_rfl) (by kernel_rfl) (fun _ _ _ h => h) (Or.inl ⟨by rfl, fun W hSw => by go_simp⟩) hH ?_
      try simp only [Act.put, List.setIfInBounds_toArray, List.set_cons_zero, List.set_cons_succ]
      refine wpAnyH_ready (rs := [15]) (by kernel_rfl) (by simp) ?_
      refine AllReadyH.cons (o := { dst := some 95, op := Op.call { callee := Callee.value (Operand.func 7), args := #[], argTypes := #[] }, type := 4, pos := "law.go:52", after := #[{ on := 14, ground := Ground.chain }, { on := 14, ground := Ground.guard }], guard := some (14, true) }) rfl (fun K hK => ?_) AllReadyH.nil
      go_simp
      refine (ql _).mono ?_
      rintro e w15 ⟨rfl, hk1⟩
      go_wp2_with fail
      have hH1 := hH.trans hk1
      refine hK.out _ _ hH1 (fun _ => ?_)
      replace hH := hH1
      clear hK K hH1
      try simp only [Act.put, List.setIfInBounds_toArray, List.set_cons_zero, List.set_cons_succ]
      refine wpAnyH_take (i := 16) (oi := { dst := some 96, op := Op.pick (Operand.tmp 94) (Operand.tmp 95) (Operand.const (Value.bool false)), type := 4, pos := "law.go:52", after := #[{ on := 14, ground := Ground.data }, { on := 15, ground := Ground.data }], guard := none }) (v := (.bool true)) rfl (by kernel_rfl) (by kernel_rfl) (by kernel_rfl) (fun _ _ _ h => h) (Or.inl ⟨by rfl, fun W hSw => by go_simp⟩) hH ?_
      try simp only [Act.put, List.setIfInBounds_toArray, List.set_cons_zero, List.set_cons_succ]
      refine wpAnyH_take (i := 17) (oi := { dst := some 6, op := Op.assign (Operand.tmp 96), type := 4, pos := "law.go:52", after := #[{ on := 16, ground := Ground.data }, { on := 15, ground := Ground.chain }, { on := 0, ground := Ground.phase }, { on := 1, ground := Ground.phase }, { on := 2, ground := Ground.phase }, { on := 3, ground := Ground.phase }, { on := 4, ground := Ground.phase }, { on := 5, ground := Ground.phase }, { on := 6, ground := Ground.phase }, { on := 7, ground := Ground.phase }, { on := 8, ground := Ground.phase }, { on := 9, ground := Ground.phase }, { on := 10, ground := Ground.phase }, { on := 11, ground := Ground.phase }, { on := 12, ground := Ground.phase }, { on := 13, ground := Ground.phase }, { on := 14, ground := Ground.phase }, { on := 15, ground := Ground.phase }, { on := 16, ground := Ground.phase }], guard := none }) (v := (.bool true)) rfl (by kernel_rfl) (by kernel_rfl) (by kernel_rfl) (fun _ _ _ h => h) (Or.inl ⟨by rfl, fun W hSw => by go_simp⟩) hH ?_
      try simp only [Act.put, List.setIfInBounds_toArray, List.set_cons_zero, List.set_cons_succ]
      refine wpAnyH_done (by kernel_rfl) ?_ _
      go_wp2_with fail
      go_ret
      exact ⟨rfl, hkW.trans hH⟩
end Go.Proofs.Ytlbgpnodpbjkoaa.Pack
