/-
  The walk of WireTurned.
-/
import Derived.Test.YtlbajnffbiaooaaWrJ
import Derived.Deep.Cut
import Derived.Deep.CutRange
import Derived.BigQuiet
import Derived.LoopTactic
import Derived.Laws.OwnMore
import Derived.Laws.BitsAllLaws
namespace Go.Proofs.Ytlbajnffbiaooaa.Wire
open Go.RowKit
open Seal (enc ret_bool ret_int)
open Seal.Math
open Seal.sealBack (turn turn_length turn_byte)

/-- The packet and what the play begins with, both in blocks. -/
theorem two_new (w : World) (x : Pv) (at0 : Int) (b : Nat) (c : Int) :
    x.In ((w.alloc (.cells #[.int .u32 (x.f : Int), .int .u32 (x.t : Int), .int .i64 x.k, .int .i64 x.s, .int .i64 x.a, .slice x.sa x.len x.cap] 25)).alloc (.cells #[.int .i64 at0, .int .u32 (b : Int), .int .i64 c] 39)) w.heap.size ∧ Blk ((w.alloc (.cells #[.int .u32 (x.f : Int), .int .u32 (x.t : Int), .int .i64 x.k, .int .i64 x.s, .int .i64 x.a, .slice x.sa x.len x.cap] 25)).alloc (.cells #[.int .i64 at0, .int .u32 (b : Int), .int .i64 c] 39)) (w.heap.size + 1) 39 #[.int .i64 at0, .int .u32 (b : Int), .int .i64 c] ∧ Kept [] w ((w.alloc (.cells #[.int .u32 (x.f : Int), .int .u32 (x.t : Int), .int .i64 x.k, .int .i64 x.s, .int .i64 x.a, .slice x.sa x.len x.cap] 25)).alloc (.cells #[.int .i64 at0, .int .u32 (b : Int), .int .i64 c] 39)) := by
  have h1 : x.In (w.alloc (.cells #[.int .u32 (x.f : Int), .int .u32 (x.t : Int), .int .i64 x.k, .int .i64 x.s, .int .i64 x.a, .slice x.sa x.len x.cap] 25)) w.heap.size := blk_new w 25 _
  have h2 := blk_new (w.alloc (.cells #[.int .u32 (x.f : Int), .int .u32 (x.t : Int), .int .i64 x.k, .int .i64 x.s, .int .i64 x.a, .slice x.sa x.len x.cap] 25)) 39 #[.int .i64 at0, .int .u32 (b : Int), .int .i64 c]
  rw [World.size_alloc] at h2
  exact ⟨h1.kept (kept_alloc [] _ _) (by simp), h2, (kept_alloc [] _ _).trans (kept_alloc [] _ _)⟩
set_option maxRecDepth 100000 in
set_option maxHeartbeats 4000000 in
/-- WireTurned, of what is no packet -/
theorem wireTurned_none (x : Pv) (at0 : Int) (b : Nat) (c : Int) (w : World) (h : x.At 0 w.heap.size w) (hlen : x.len ≤ 9223372036854775807) (hf : ¬ Fine x.ps) : Calls Try.prog 6 #[x.val, .agg #[.int .i64 at0, .int .u32 (b : Int), .int .i64 c]] w fun e w' => e = .returned (.bool true) ∧ Kept [] w w' := by
  obtain ⟨hb0, hb1, hk0⟩ := two_new w x at0 b c
  have q1 : ∀ A, Kept [] w A → Calls Try.prog 10 #[x.val] A fun e w' => ∃ sa cap, e = .returned (.slice sa 0 cap) ∧ Kept [] A w' := fun A hA => by
    have := bytes_any x _ _ A (h.kept (Nat.le_refl _) hA (by simp)) hA.size hlen
    rw [bytesL_out hf] at this
    exact this.mono fun _ _ ⟨sa, cap, e, _, hk⟩ => ⟨sa, cap, e, hk⟩
  have hIn : ∀ A, Kept [] ((w.alloc (.cells #[.int .u32 (x.f : Int), .int .u32 (x.t : Int), .int .i64 x.k, .int .i64 x.s, .int .i64 x.a, .slice x.sa x.len x.cap] 25)).alloc (.cells #[.int .i64 at0, .int .u32 (b : Int), .int .i64 c] 39)) A → x.In A w.heap.size := fun A hA => hb0.kept hA (by simp)
  have ql := fun A : World => lives_any A
  obtain ⟨W, hW⟩ : ∃ W, (w.alloc (.cells #[.int .u32 (x.f : Int), .int .u32 (x.t : Int), .int .i64 x.k, .int .i64 x.s, .int .i64 x.a, .slice x.sa x.len x.cap] 25)).alloc (.cells #[.int .i64 at0, .int .u32 (b : Int), .int .i64 c] 39) = W := ⟨_, rfl⟩
  rw [hW] at hb0 hb1 hk0 hIn
  have d0 : W.cell? ⟨w.heap.size + 1, 0, none⟩ = some (.int .i64 at0) := (Blk.cell hb1 0).trans rfl
  have d1 : W.cell? ⟨w.heap.size + 1, 1, none⟩ = some (.int .u32 (b : Int)) := (Blk.cell hb1 1).trans rfl
  have d2 : W.cell? ⟨w.heap.size + 1, 2, none⟩ = some (.int .i64 c) := (Blk.cell hb1 2).trans rfl
  clear h hf hb0 hb1
  unfold Pv.val at *
  go_enter Try.func6, Try.ntmps6
  go_wp2_with fail
  go_quiet (fail)
  have hkq : Kept [] W (W.drewN nq) := kept_drewN [] _ nq
  generalize W.drewN nq = W1 at *
  obtain ⟨c0, c1, c2, c3, c4, c5⟩ := (hIn _ hkq).six
  by_cases hl : 300 < x.len
  · go_wp2_with (first
      | (go_at_call 10; refine (q1 _ (hk0.trans hkq)).mono ?_; rintro e w1 ⟨sa1, cap1, rfl, hk1⟩; obtain ⟨c0, c1, c2, c3, c4, c5⟩ := (hIn _ (hkq.trans hk1)).six)
      | (go_at_call 7; refine (ql _).mono ?_; rintro e w2 ⟨rfl, hk2⟩))
    go_ret
    exact ⟨rfl, ((hk0.trans hkq).trans hk1).trans hk2⟩
  · have hl2 : x.len ≤ 300 := by omega
    clear hl
    go_wp2_with (first
      | (go_at_call 10; refine (q1 _ (hk0.trans hkq)).mono ?_; rintro e w1 ⟨sa1, cap1, rfl, hk1⟩; obtain ⟨c0, c1, c2, c3, c4, c5⟩ := (hIn _ (hkq.trans hk1)).six)
      | (go_at_call 7; refine (ql _).mono ?_; rintro e w2 ⟨rfl, hk2⟩))
    go_ret
    exact ⟨rfl, ((hk0.trans hkq).trans hk1).trans hk2⟩
/-- The place of a row of the call's own that has something. -/
theorem Own.place {A : World} {base : Nat} {sa : Option Addr} {n cap : Nat} {l : List Nat} (h : Own A base (.slice sa n cap) l) (hl : 0 < l.length) : ∃ g, sa = some ⟨g, 0, none⟩ ∧ base ≤ g ∧ n = l.length := by
  rcases h.row.2 with ⟨_, h0⟩ | ⟨g, cap', cur, e, hb, _⟩
  · omega
  · injection e with e1 e2 _
    exact ⟨g, e1, hb, e2⟩
set_option maxRecDepth 100000 in
set_option maxHeartbeats 4000000 in
/-- WireTurned -/
theorem wireTurned (x : Pv) (at0 : Int) (b : Nat) (c : Int) (w : World) (h : x.At 0 w.heap.size w) (hf : Fine x.ps) (hb : b < 4294967296) (ha0 : -9223372036854775808 ≤ at0) (ha1 : at0 ≤ 9223372036854775807) : Calls Try.prog 6 #[x.val, .agg #[.int .i64 at0, .int .u32 (b : Int), .int .i64 c]] w fun e w' => e = .returned (.bool true) ∧ Kept [] w w' := by
  obtain ⟨hb0, hb1, hk0⟩ := two_new w x at0 b c
  have hxl := h.len
  have hfl : x.d.length ≤ 200 := fine_len hf
  have hbl : (bytesL x.ps).length = 23 + x.d.length := bytesL_length hf
  have q1 : ∀ A, Kept [] w A → Calls Try.prog 10 #[x.val] A fun e w' => ∃ sa cap, e = .returned (.slice sa (bytesL x.ps).length cap) ∧ Own w' A.heap.size (.slice sa (bytesL x.ps).length cap) (bytesL x.ps) ∧ Kept [] A w' := fun A hA => bytes_any x _ _ A (h.kept (Nat.le_refl _) hA (by simp)) hA.size (by omega)
  have hIn : ∀ A, Kept [] ((w.alloc (.cells #[.int .u32 (x.f : Int), .int .u32 (x.t : Int), .int .i64 x.k, .int .i64 x.s, .int .i64 x.a, .slice x.sa x.len x.cap] 25)).alloc (.cells #[.int .i64 at0, .int .u32 (b : Int), .int .i64 c] 39)) A → x.In A w.heap.size := fun A hA => hb0.kept hA (by simp)
  have ql := fun A : World => lives_any A
  have hBy : Hid (∀ y ∈ bytesL x.ps, y < 256) := bytesL_byte x.ps h.row.1
  have hct : Hid (∀ n, n < (bytesL x.ps).length → parseE ((bytesL x.ps).take n) ≠ 0) := fun n hn => parse_cut hf n hn
  have htn : Hid (∀ p, p + 4 ≤ (bytesL x.ps).length → 0 < b → parseE (turn b p 4 (bytesL x.ps)) ≠ 0) := fun p hp h0 => parse_turned hf h.row.1 b p hp hb h0
  obtain ⟨W, hW⟩ : ∃ W, (w.alloc (.cells #[.int .u32 (x.f : Int), .int .u32 (x.t : Int), .int .i64 x.k, .int .i64 x.s, .int .i64 x.a, .slice x.sa x.len x.cap] 25)).alloc (.cells #[.int .i64 at0, .int .u32 (b : Int), .int .i64 c] 39) = W := ⟨_, rfl⟩
  rw [hW] at hb0 hb1 hk0 hIn
  have d0 : W.cell? ⟨w.heap.size + 1, 0, none⟩ = some (.int .i64 at0) := (Blk.cell hb1 0).trans rfl
  have d1 : W.cell? ⟨w.heap.size + 1, 1, none⟩ = some (.int .u32 (b : Int)) := (Blk.cell hb1 1).trans rfl
  have d2 : W.cell? ⟨w.heap.size + 1, 2, none⟩ = some (.int .i64 c) := (Blk.cell hb1 2).trans rfl
  have hl2 : x.len ≤ 300 := by omega
  obtain ⟨L, hL⟩ : ∃ L, (bytesL x.ps).length = L := ⟨_, rfl⟩
  rw [hL] at q1 hbl hct htn
  have hL1 : 23 ≤ L := by omega
  have hL2 : L ≤ 223 := by omega
  have hL0 : ((L : Int) == 0) = false := by simp; omega
  replace hL : Hid ((bytesL x.ps).length = L) := hL
  generalize bytesL x.ps = BL at *
  clear h hf hb0 hb1 hbl hfl hxl
  unfold Pv.val at *
  go_enter Try.func6, Try.ntmps6
  go_wp2_with fail
  go_quiet (fail)
  have hkq : Kept [] W (W.drewN nq) := kept_drewN [] _ nq
  generalize W.drewN nq = W1 at *
  obtain ⟨c0, c1, c2, c3, c4, c5⟩ := (hIn _ hkq).six
  go_upto_region 5 with (first
    | (go_at_call 10; refine (q1 _ (hk0.trans hkq)).mono ?_; rintro e w1 ⟨sa1, cap1, rfl, hR1, hk1⟩; obtain ⟨c0, c1, c2, c3, c4, c5⟩ := (hIn _ (hkq.trans hk1)).six; clear q1))
  have hk01 := ((hk0.trans hkq).trans hk1)
  replace hR1 := hR1.low (hk0.trans hkq).size
  clear c0 c1 c2 c3 c4 c5 hIn hk1 hkq hk0 d0 d1 d2
  go_cut [40] from 33 to 40 (fun v A => v = .bool (decide (0 ≤ c ∧ c < (L : Int))) ∧ Own A w.heap.size (.slice sa1 L cap1) BL ∧ Kept [] w A)
  case first =>
    by_cases hc0 : c < 0
    · have hd : Hid (decide (0 ≤ c ∧ c < (L : Int)) = false) := decide_eq_false (by omega)
      go_wp2_with fail
      go_meet
      exact ⟨by first | (rw [hd.out]; done) | (rw [hd.out]; simp; done) | (rw [hd.out]; simp; omega), hR1, hk01⟩
    · by_cases hc1 : (L : Int) ≤ c
      · have hd : Hid (decide (0 ≤ c ∧ c < (L : Int)) = false) := decide_eq_false (by omega)
        have hc2 : 0 ≤ c := by omega
        go_wp2_with fail
        go_meet
        exact ⟨by first | (rw [hd.out]; done) | (rw [hd.out]; simp; done) | (rw [hd.out]; simp; omega), hR1, hk01⟩
      · have hd : Hid (decide (0 ≤ c ∧ c < (L : Int)) = true) := decide_eq_true (by omega)
        have hc2 : 0 ≤ c := by omega
        have hc3 : c < (L : Int) := by omega
        go_wp2_with fail
        go_meet
        exact ⟨by first | (rw [hd.out]; done) | (rw [hd.out]; simp; done) | (rw [hd.out]; simp; omega), hR1, hk01⟩
  case rest =>
  obtain ⟨rfl, hR1, hk01⟩ := hcut
  obtain ⟨w1, hw1⟩ : ∃ w1, wc = w1 := ⟨_, rfl⟩
  rw [hw1] at hR1 hk01 ⊢
  go_upto_if 40 with fail
  go_cut [9, 10] from 40 (fun _ _ A => Own A w.heap.size (.slice sa1 L cap1) BL ∧ Kept [] w A)
  case first =>
    by_cases hc1 : 0 ≤ c ∧ c < (L : Int)
    · rw [decide_eq_true hc1]
      obtain ⟨n, rfl⟩ : ∃ n : Nat, c = n := ⟨c.toNat, by omega⟩
      have hnL : n < L := by omega
      have hnl : Hid (n < BL.length) := by
        show _ < _
        rw [hL.out]
        exact hnL
      have hl5 : Hid ((BL.take n).length ≤ 9223372036854775807) := by
        show _ ≤ _
        rw [List.length_take]
        omega
      have hg := hct.out n hnL
      obtain ⟨G, hG⟩ : ∃ G, parseE (BL.take n) = G := ⟨_, rfl⟩
      rw [hG] at hg
      have hEg : Hid (parseE (BL.take n) = G) := hG
      have hgb : (G == 0) = false := by simpa using hg
      clear hG hc1
      go_wp2_with (first
        | (refine wpList_take rfl _ _ rfl w.heap.size w1.heap.size w1 _ BL n rfl rfl hR1.byteRow hnl.out ?_; intro sa5 cap5 hr5)
        | (go_at_call 14; refine (parse_any _ _ _ _ _ hr5 (Nat.le_refl _) hl5.out).mono ?_; rw [hEg.out]; rintro e w5 ⟨z, rfl, hzM, hzA, hk5⟩))
      go_meet
      exact ⟨(hR1.kept hk5).alloc _, (hk01.trans hk5).trans (kept_alloc [] _ _)⟩
    · rw [decide_eq_false hc1]
      go_wp2_with fail
      go_meet
      exact ⟨hR1, hk01⟩
  case rest =>
    obtain ⟨hR, hkc⟩ := hcut
    clear hR1 hk01
    by_cases h1 : at0 < 0
    · go_wp2_with (first
        | (go_at_call 7; refine (ql _).mono ?_; rintro e w2 ⟨rfl, hk2⟩))
      go_ret
      exact ⟨rfl, hkc.trans hk2⟩
    · by_cases h2 : (L : Int) - 4 < at0
      · go_wp2_with (first
          | (go_at_call 7; refine (ql _).mono ?_; rintro e w2 ⟨rfl, hk2⟩))
        go_ret
        exact ⟨rfl, hkc.trans hk2⟩
      · by_cases h3 : b = 0
        · have hb0 : ((b : Int) == 0) = true := by simp [h3]
          clear h3
          go_wp2_with (first
            | (go_at_call 7; refine (ql _).mono ?_; rintro e w2 ⟨rfl, hk2⟩))
          go_ret
          exact ⟨rfl, hkc.trans hk2⟩
        · have hb0 : ((b : Int) == 0) = false := by simp; omega
          obtain ⟨p, rfl⟩ : ∃ p : Nat, at0 = p := ⟨at0.toNat, by omega⟩
          have hp4 : p + 4 ≤ L := by omega
          obtain ⟨g, rfl, hgb, -⟩ := hR.place (by rw [hL.out]; omega)
          have hg4 := htn.out p hp4 (by omega)
          have hown : wc.ownsRow w.heap.size 5 1 (.slice (some ⟨g, 0, none⟩) L cap1) L (BL.map enc) := by
            have := hR.row
            rw [hL.out] at this
            exact this
          go_wp2_with fail
          go_loopw [11, 12] (fun y i wr => ∃ j : Nat, j ≤ 4 ∧ i = .int .i64 j ∧ y = .int .u32 (b / 256 ^ j : Nat) ∧ wr.ownsRow w.heap.size 5 1 (.slice (some ⟨g, 0, none⟩) L cap1) L ((turn b p j BL).map enc) ∧ Kept [] w wr) (fun _ i _ => 4 - (intOf i).toNat)
          case atStart => exact ⟨0, by omega, rfl, by simp, hown, hkc⟩
          case round =>
            obtain ⟨j, hj, rfl, rfl, hO, hK⟩ := hrel
            clear hown hkc hR
            by_cases hlt : j < 4
            · have hLA : (turn b p j BL).length = L := by rw [turn_length, hL.out]
              have hBA := turn_byte b p j _ hBy.out
              have hpj : p + j < L := by omega
              have hcx := hO.cellAt (p + j) (by omega)
              rw [List.getElem?_map, List.getElem?_eq_getElem (by omega)] at hcx
              have hgd : (turn b p j BL)[p + j]?.getD 0 = (turn b p j BL)[p + j]'(by omega) := by rw [List.getElem?_eq_getElem (by omega)]; rfl
              simp only [Option.map_some, enc] at hcx
              rw [← hgd] at hcx
              clear hgd
              have hfx := hO.frozenAt (p + j)
              have hgA := getD_lt (turn b p j BL) (p + j) hBA
              have hy' : b / 256 ^ j < 4294967296 := Nat.lt_of_le_of_lt (Nat.div_le_self _ _) hb
              have HD : Hid (b / 256 ^ j / 256 = b / 256 ^ (j + 1)) := div_pow_succ _ _
              have hO2 := (hO.stored (p + j) (enc ((turn b p j BL)[p + j]?.getD 0 ^^^ (b / 256 ^ j % 256)))).1
              rw [← List.map_set] at hO2
              have hK2 : Kept [] w (wr.setCell ⟨g, p + j, none⟩ (enc ((turn b p j BL)[p + j]?.getD 0 ^^^ (b / 256 ^ j % 256)))) := hK.young (kept_set (by simp) _ _ _) hgb
              have HO : Hid ((wr.setCell ⟨g, p + j, none⟩ (.int .u8 (((turn b p j BL)[p + j]?.getD 0 ^^^ (b / 256 ^ j % 256) : Nat) : Int))).ownsRow w.heap.size 5 1 (.slice (some ⟨g, 0, none⟩) L cap1) L ((turn b p (j + 1) BL).map enc)) := hO2
              have HK : Hid (Kept [] w (wr.setCell ⟨g, p + j, none⟩ (.int .u8 (((turn b p j BL)[p + j]?.getD 0 ^^^ (b / 256 ^ j % 256) : Nat) : Int)))) := hK2
              clear hO hK hO2 hK2 hLA hBA
              generalize (turn b p j BL)[p + j]?.getD 0 = c8 at *
              generalize b / 256 ^ j = y' at *
              have o1 : bits .xor .u8 (c8 : Int) ((y' : Int) % 256) = ((c8 ^^^ y' % 256 : Nat) : Int) := u8_xor_nat c8 (y' % 256) hgA (Nat.mod_lt _ (by omega))
              generalize c8 ^^^ y' % 256 = c9 at *
              go_wp2
              go_roundw
              case rel => exact ⟨j + 1, by omega, by go_num, by rw [← HD.out]; first | rfl | go_num, HO.out, HK.out⟩
              case measure => simp [intOf]; omega
            · obtain rfl : j = 4 := by omega
              have hT4 := turn_byte b p 4 _ hBy.out
              have hLA : (turn b p 4 BL).length = L := by rw [turn_length, hL.out]
              have hO' : wr.ownsRow w.heap.size 5 1 (.slice (some ⟨g, 0, none⟩) L cap1) (turn b p 4 BL).length ((turn b p 4 BL).map enc) := by rw [hLA]; exact hO
              have qp := parse_any (.slice (some ⟨g, 0, none⟩) L cap1) _ _ _ wr (byteRow_owns hT4 hO') (Nat.le_refl _) (by omega)
              obtain ⟨G, hG⟩ : ∃ G, parseE (turn b p 4 BL) = G := ⟨_, rfl⟩
              rw [hG] at hg4 qp
              have hgn : (G != 0) = true := by simpa using hg4
              generalize parseM (turn b p 4 BL) = PM at *
              clear hO hO' hT4 hLA hG hg4
              go_wp2_with (first
                | (go_at_call 14; refine qp.mono ?_; rintro e w5 ⟨z, rfl, hzM, hzA, hk5⟩)
                | (go_at_call 7; refine (ql _).mono ?_; rintro e w6 ⟨rfl, hk6⟩))
              go_ret
              exact ⟨rfl, (hK.trans hk5).trans ((kept_alloc [] _ _).trans hk6)⟩
end Go.Proofs.Ytlbajnffbiaooaa.Wire
