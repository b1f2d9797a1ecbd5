/-
  The walk of SessionOrder.
-/
import Derived.Test.YtnbkbakbjllmcaaSsL3
namespace Go.Proofs.Ytnbkbakbjllmcaa.Session
open Go.RowKit
open Outbox (Ob nums OutAt Bv Byt NoByt RowAt NRow)
open Wire (Ps Pv bytesL parseM parseE)
set_option linter.unusedVariables false

set_option maxRecDepth 100000 in
set_option maxHeartbeats 16000000 in
/-- SessionOrder -/
theorem order_play (m : Nat) (h1 : 1 ≤ m) (h2 : m ≤ 64) (a0 : Option Addr) (len cap : Nat) (nets : List Nt) (hl : len ≤ 120) (w : World) (hn : NetsAt w.heap.size w a0 len cap nets) :
    Calls Try.prog 3 #[.int .i64 (m : Int), .slice a0 len cap] w fun e w' => e = .returned (.bool true) ∧ Kept [] w w' := by
  have i1 : ¬ ((m : Int) < 1) := by omega
  have i2 : ¬ ((64 : Int) < (m : Int)) := by omega
  have i3 : ¬ ((120 : Int) < (len : Int)) := by omega
  have kA := kept_alloc [] w (.cells #[.pointer none, .int .u32 0, .slice none 0 0, .slice none 0 0, .pointer none, .int .u32 0, .slice none 0 0, .slice none 0 0] 29)
  have hA := blk_new w 29 #[.pointer none, .int .u32 0, .slice none 0 0, .slice none 0 0, .pointer none, .int .u32 0, .slice none 0 0, .slice none 0 0]
  obtain ⟨W1, hW1⟩ : ∃ W1, w.alloc (.cells #[.pointer none, .int .u32 0, .slice none 0 0, .slice none 0 0, .pointer none, .int .u32 0, .slice none 0 0, .slice none 0 0] 29) = W1 := ⟨_, rfl⟩
  rw [hW1] at kA hA
  go_enter Try.func3, Try.ntmps3
  go_wp2_with fail
  clear hW1
  have hxl := hA.lt
  go_loopw [6] (fun i W => ∃ j : Nat, i = .int .i64 j ∧ (j = 0 ∧ W = W1 ∨ j = 1 ∧ (∃ F, SsAt W W1.heap.size F (made 1 m 5) ∧ Blk W w.heap.size 29 #[.pointer (some ⟨F.o, 0, none⟩), .int .u32 1, .slice none 0 0, .slice none 0 0, .pointer none, .int .u32 0, .slice none 0 0, .slice none 0 0] ∧ Kept [] w W ∧ W1.heap.size ≤ W.heap.size) ∨ j = 2 ∧ (∃ F F' n, SsAt W W1.heap.size F (made 1 m 5) ∧ SsAt W n F' (made 1 m 5) ∧ (∀ k ∈ F.l, k < n) ∧ W1.heap.size ≤ n ∧ Blk W w.heap.size 29 #[.pointer (some ⟨F.o, 0, none⟩), .int .u32 1, .slice none 0 0, .slice none 0 0, .pointer (some ⟨F'.o, 0, none⟩), .int .u32 1, .slice none 0 0, .slice none 0 0] ∧ Kept [] w W))) (fun i _ => 2 - (RowKit.intOf i).toNat)
  case atStart => exact ⟨0, rfl, .inl ⟨rfl, rfl⟩⟩
  case round =>
    obtain ⟨j, rfl, ⟨rfl, rfl⟩ | ⟨rfl, F, hS, hX, hk, hz⟩ | ⟨rfl, F, F', n, hS, hS', hlt, hnn, hX, hk⟩⟩ := hrel
    · have q1 := new_any 1 m 5 (by omega) (by omega) h1 h2 (by omega) (by omega) wr
      replace q1 : Calls Try.prog 6 #[.int .u32 1, .int .i64 (m : Int), .int .i64 5] wr fun e w' => ∃ F : Foot, e = .returned (.tuple #[.pointer (some ⟨F.o, 0, none⟩), .int .i64 0]) ∧ SsAt w' wr.heap.size F (made 1 m 5) ∧ Kept [] wr w' := q1
      go_wp2_with (first
        | (go_at_call 6; refine q1.mono ?_; rintro e w2 ⟨F, rfl, hS2, hk2⟩)
        | (refine wpList_store_part rfl 28 _ _ rfl w.heap.size 29 [] [.pointer none, .int .u32 0, .slice none 0 0, .slice none 0 0] [.pointer none, .int .u32 0, .slice none 0 0, .slice none 0 0] [.pointer (some ⟨F.o, 0, none⟩), .int .u32 1, .slice none 0 0, .slice none 0 0] 0 rfl rfl rfl (hA.kept hk2 (by simp)) rfl Try.sizeOne (by simp [Value.oneCell']) ?_; intro w3 hb3 hk3 hz3))
      go_roundw
      case rel =>
        refine ⟨1, by go_num, .inr (.inl ⟨rfl, F, hS2.kept hk3 (fun k hm e => ?_) (NoByt.cons (Outbox.noByt_nil _) (hA.kept hk2 (by simp)) (by decide)), hb3, (kA.trans hk2).young hk3 (Nat.le_refl _), Nat.le_trans hk2.size hk3.size⟩)⟩
        rw [List.mem_singleton] at e
        have := (hS2.lt k hm).1
        omega
      case measure => simp [RowKit.intOf]
    · have q1 := new_any 1 m 5 (by omega) (by omega) h1 h2 (by omega) (by omega) wr
      replace q1 : Calls Try.prog 6 #[.int .u32 1, .int .i64 (m : Int), .int .i64 5] wr fun e w' => ∃ F : Foot, e = .returned (.tuple #[.pointer (some ⟨F.o, 0, none⟩), .int .i64 0]) ∧ SsAt w' wr.heap.size F (made 1 m 5) ∧ Kept [] wr w' := q1
      go_wp2_with (first
        | (go_at_call 6; refine q1.mono ?_; rintro e w2 ⟨F', rfl, hS2, hk2⟩)
        | (refine wpList_store_part rfl 28 _ _ rfl w.heap.size 29 [.pointer (some ⟨F.o, 0, none⟩), .int .u32 1, .slice none 0 0, .slice none 0 0] [.pointer none, .int .u32 0, .slice none 0 0, .slice none 0 0] [] [.pointer (some ⟨F'.o, 0, none⟩), .int .u32 1, .slice none 0 0, .slice none 0 0] 4 rfl rfl rfl (hX.kept hk2 (by simp)) rfl Try.sizeOne (by simp [Value.oneCell']) ?_; intro w3 hb3 hk3 hz3))
      go_roundw
      case rel =>
        have nb : NoByt [w.heap.size] w2 := NoByt.cons (Outbox.noByt_nil _) (hX.kept hk2 (by simp)) (by decide)
        refine ⟨2, by go_num, .inr (.inr ⟨rfl, F, F', wr.heap.size, (hS.kept0 hk2).kept hk3 (fun k hm e => ?_) nb, hS2.kept hk3 (fun k hm e => ?_) nb, fun k hm => (hS.lt k hm).2, hz, hb3, (hk.trans hk2).young hk3 (Nat.le_refl _)⟩)⟩
        · rw [List.mem_singleton] at e
          have := (hS.lt k hm).1
          omega
        · rw [List.mem_singleton] at e
          have := (hS2.lt k hm).1
          omega
      case measure => simp [RowKit.intOf]
    · have kY := kept_alloc [] wr (.cells #[.slice none 0 0, .slice none 0 0] 33)
      have hY := blk_new wr 33 #[.slice none 0 0, .slice none 0 0]
      obtain ⟨W2, hW2⟩ : ∃ W2, wr.alloc (.cells #[.slice none 0 0, .slice none 0 0] 33) = W2 := ⟨_, rfl⟩
      rw [hW2] at kY hY
      have hst := st_start hS hS' hxl hlt hnn (Nat.le_refl _) hX hk rfl hY kY
      clear hS hS' hX hlt hA
      go_wp2_with fail
      clear hW2
      obtain ⟨yb, hyb⟩ : ∃ yb, wr.heap.size = yb := ⟨_, rfl⟩
      rw [hyb] at hst ⊢
      clear hyb kY hY hk
      go_loopw [50] (fun i W => ∃ (j : Nat) (a b : Sv) (A B : Sd) (wa wb : List (List Nat)), j ≤ len ∧ i = .int .i64 j ∧ St w w.heap.size w.heap.size yb a b A B wa wb W ∧ Far2 m j A B wa wb ∧ wa.length ≤ 400 ∧ wb.length ≤ 400) (fun i _ => len - (RowKit.intOf i).toNat)
      case atStart => exact ⟨0, _, _, _, _, _, _, by omega, rfl, hst, ⟨both_start m 5, ⟨Nat.le_refl _, Nat.le_refl _⟩, ⟨Nat.le_refl _, Nat.le_refl _⟩, ⟨rfl, rfl⟩, ⟨Nat.le_refl _, Nat.le_refl _⟩⟩, Nat.zero_le _, Nat.zero_le _⟩
      case round =>
        clear hst
        obtain ⟨j, a, b, A, B, wa, wb, hj, rfl, hst, hf, hwa, hwb⟩ := hrel
        by_cases hlt : j < len
        · obtain ⟨t, -, ⟨hrow, hxl0⟩, nb, off, rfl, hlc, n0, n1, n2, n3⟩ := (hn.kept (Nat.le_refl _) hst.kept).at j hlt
          have i4 : (j : Int) < (len : Int) := by omega
          have hm1 : Hid (len - (j + 1) < len - j) := by show _ < _; omega
          clear hn
          go_upto_block 3 with fail
          obtain ⟨r, hr, hrr⟩ : ∃ r : Nat, (r = 0 ∨ r = 1) ∧ (t.who.tmod 2 != 0) = decide (r = 1) := by
            by_cases h : t.who.tmod 2 = 0
            · exact ⟨0, .inl rfl, by simp [h]⟩
            · exact ⟨1, .inr rfl, by simp [h]⟩
          rcases hr with rfl | rfl
          · replace hrr : (t.who.tmod 2 != 0) = false := hrr
            refine wp_mono (rnd0_play h1 h2 hl hlt hst hf hwa hwb hrow hrr hlc n0 n1 n2 n3 rfl) ?_
            clear hst hf hrow n0 n1 n2 n3
            intro e f W hP
            cases e <;> try exact hP.elim
            · obtain ⟨⟨g, rfl⟩, a', b', A', B', wa', wb', hst2, hf2, z1, z2⟩ := hP
              go_wp2_with fail
              go_roundw
              case rel => exact ⟨j + 1, _, _, _, _, _, _, hlt, by go_num, hst2, hf2, z1, z2⟩
              case measure => simpa [RowKit.intOf] using hm1.out
            · obtain ⟨⟨g, rfl⟩, hk⟩ := hP
              unfold retFr
              dsimp only
              go_wp2_with fail
              go_ret
              exact ⟨rfl, hk⟩
          · replace hrr : (t.who.tmod 2 != 0) = true := hrr
            refine wp_mono (rnd1_play h1 h2 hl hlt hst hf hwa hwb hrow hrr hlc n0 n1 n2 n3 rfl) ?_
            clear hst hf hrow n0 n1 n2 n3
            intro e f W hP
            cases e <;> try exact hP.elim
            · obtain ⟨⟨g, rfl⟩, a', b', A', B', wa', wb', hst2, hf2, z1, z2⟩ := hP
              go_wp2_with fail
              go_roundw
              case rel => exact ⟨j + 1, _, _, _, _, _, _, hlt, by go_num, hst2, hf2, z1, z2⟩
              case measure => simpa [RowKit.intOf] using hm1.out
            · obtain ⟨⟨g, rfl⟩, hk⟩ := hP
              unfold retFr
              dsimp only
              go_wp2_with fail
              go_ret
              exact ⟨rfl, hk⟩
        · obtain rfl : j = len := by omega
          have i4 : ¬ ((j : Int) < (j : Int)) := by omega
          have ql := lives_any wr
          have hk := hst.kept
          clear hst hf hn
          go_wp2_with (go_at_call 5; refine ql.mono ?_; rintro e w4 ⟨rfl, hk4⟩)
          go_ret
          exact ⟨rfl, hk.trans hk4⟩
end Go.Proofs.Ytnbkbakbjllmcaa.Session
