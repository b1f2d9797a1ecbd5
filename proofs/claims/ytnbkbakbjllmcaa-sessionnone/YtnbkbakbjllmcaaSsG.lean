/-
  lives; SessionNone.
-/
import Derived.Test.YtnbkbakbjllmcaaSsF
namespace Go.Proofs.Ytnbkbakbjllmcaa.Session
open Go.RowKit
open Outbox (Ob nums OutAt Bv Byt NoByt RowAt NRow)
open Inbox (InAt)
open Keep (KpAt)
open Wire (Ps Pv bytesL parseM parseE)

/-- A hello of boot 1. -/
def p1 : Ps := ⟨1, 0, 1, 0, 0, []⟩
theorem p1_fine : Wire.Fine p1 := ⟨Nat.le_refl _, by simp [p1], by simp [p1], .inl ⟨rfl, rfl, rfl, rfl, rfl⟩⟩
theorem p1_parse : parseE (bytesL p1) = 0 ∧ parseM (bytesL p1) = p1 := by
  obtain ⟨e1, e2⟩ := Wire.parse_back p1_fine (by show 1 < _; decide) (by show 0 < _; decide)
  exact ⟨e2, e1⟩
theorem lives_plain : ((made 2 2 3).isNew (bytesL p1) = true ∧ (made 2 2 3).has (bytesL p1) = false) ∧ ((made 2 2 3).takeL (bytesL p1)).length = 1 ∧ ((made 2 2 3).taken (bytesL p1)).peer = 1 ∧ ((made 2 2 3).taken (bytesL p1)).my = 2 ∧ ((made 2 2 3).taken (bytesL p1)).age = 0 ∧ ((made 2 2 3).taken (bytesL p1)).pat = 3 := by
  obtain ⟨hE, hM⟩ := p1_parse
  have hd : (made 2 2 3).deaf (bytesL p1) = false := by
    unfold Ss.deaf
    rw [hE, hM]
    rfl
  have hn : (made 2 2 3).isNew (bytesL p1) = true := by
    unfold Ss.isNew
    rw [hd, hM]
    rfl
  have hm : (made 2 2 3).mine (bytesL p1) = false := by
    unfold Ss.mine
    rw [hd, hM]
    rfl
  have hh : (made 2 2 3).has (bytesL p1) = false := by
    unfold Ss.has
    rw [hm]
    rfl
  have ht : (made 2 2 3).taken (bytesL p1) = { (made 2 2 3) with peer := 1, ob := Outbox.made (made 2 2 3).ob.w, last := 0, age := 0 } := by
    unfold Ss.taken Ss.acked Ss.turned
    rw [hh, hm, hn, hM]
    rfl
  have hL : ((made 2 2 3).takeL (bytesL p1)).length = 1 := by
    unfold Ss.takeL
    rw [hd, hm]
    rfl
  rw [ht]
  exact ⟨⟨hn, hh⟩, hL, rfl, rfl, rfl, rfl⟩
set_option maxRecDepth 100000 in
set_option maxHeartbeats 1000000 in
theorem lives_any (w : World) : Calls Try.prog 5 #[] w fun e w' => e = .returned (.bool true) ∧ Kept [] w w' := by
  have q1 := new_any 2 2 3 (by omega) (by omega) (by omega) (by omega) (by omega) (by omega) w
  have q2 := fun W => Wire.refBytes_any ⟨1, 0, 1, 0, 0, none, 0, 0, []⟩ 0 0 W ⟨Wire.byteRow_nil _ _ _, by show 1 < _; decide, by show 0 < _; decide⟩ (Nat.zero_le _) (by show 0 ≤ _; omega)
  have hs : (made 2 2 3).ob.n + (made 2 2 3).ob.l.length ≤ 1000000 := by show 1 + 0 ≤ _; omega
  have hb : ∀ b ∈ (made 2 2 3).ob.l, b.length ≤ 1000 := by intro b hm; cases hm
  have hlen := Wire.bytesL_len p1
  obtain ⟨⟨e1, e2⟩, e3, e4, e5, e6, e7⟩ := lives_plain
  have q3 := fun W F v (h : SsAt W w.heap.size F (made 2 2 3)) (hv : Wire.Own W w.heap.size v (bytesL p1)) (hw : w.heap.size ≤ W.heap.size) => take_any W h v (bytesL p1) w.heap.size W.heap.size hv.byteRow (Nat.le_refl _) (by omega) hs hb hw
  rw [e1, e2] at q3
  replace q2 : ∀ W, Calls Try.prog 12 #[.agg #[.int .u32 1, .int .u32 0, .int .i64 1, .int .i64 0, .int .i64 0, .slice none 0 0]] W fun e w' => ∃ v, e = .returned v ∧ Wire.Own w' W.heap.size v (bytesL p1) ∧ Kept [] W w' := q2
  replace q1 : Calls Try.prog 6 #[.int .u32 2, .int .i64 2, .int .i64 3] w fun e w' => ∃ F : Foot, e = .returned (.tuple #[.pointer (some ⟨F.o, 0, none⟩), .int .i64 0]) ∧ SsAt w' w.heap.size F (made 2 2 3) ∧ Kept [] w w' := q1
  generalize bytesL p1 = BL at *
  generalize (made 2 2 3).takeL BL = TL at *
  generalize (made 2 2 3).taken BL = T at *
  generalize (made 2 2 3).gotB BL = GB at *
  generalize made 2 2 3 = M at *
  clear e1 e2 hs hb hlen
  go_enter Try.func5, Try.ntmps5
  go_wp2_with (first
    | (go_at_call 6; refine q1.mono ?_; rintro e w1 ⟨F, rfl, hS1, hk1⟩)
    | (go_at_call 12; refine (q2 _).mono ?_; rintro e w2 ⟨v2, rfl, hO2, hk2⟩)
    | (go_at_call 10; refine (q3 _ F _ (hS1.kept0 hk2) (hO2.low hk1.size) (Nat.le_trans hk1.size hk2.size)).mono ?_; rintro e w3 ⟨v3, P3, F3, sb, lb, cb, rfl, hF3, hT3, hA3⟩; obtain ⟨sl3, cl3, rfl⟩ := hT3.row.form; have hl3 := hT3.len; rw [e3] at hl3; rw [hl3])
    | (refine wpList_store_blk rfl 41 _ _ rfl w3.heap.size 41 _ [.bool true, .bool false, .slice sb lb cb] rfl rfl (blk_new w3 41 #[.bool false, .bool false, .slice none 0 0]) rfl Try.sizeGot (by simp [Value.oneCell']) ?_; intro w4 hb4 hk4 hz4; have hS4 := (hA3.at'.kept0 (kept_alloc [] w3 (.cells #[.bool false, .bool false, .slice none 0 0] 41))).kept hk4 (fun k hm e => by rw [List.mem_singleton] at e; have := (hA3.at'.lt k hm).2; omega) (NoByt.cons (Outbox.noByt_nil _) (blk_new w3 41 #[.bool false, .bool false, .slice none 0 0]) (by decide)); have g0 : w4.cell? ⟨w3.heap.size, 0, none⟩ = some (.bool true) := (hb4.cell 0).trans rfl; have g1 : w4.cell? ⟨w3.heap.size, 1, none⟩ = some (.bool false) := (hb4.cell 1).trans rfl; have q4 := peer_any w4 hS4; have q5 := my_any w4 hS4; have q6 := alive_any w4 hS4; rw [e4] at q4; rw [e5] at q5; rw [e6, e7] at q6; rw [hA3.same] at q4 q5 q6)
    | (go_at_call 7; refine q4.mono ?_; rintro e w4 ⟨rfl, rfl⟩)
    | (go_at_call 13; refine q5.mono ?_; rintro e w4 ⟨rfl, rfl⟩)
    | (go_at_call 14; refine q6.mono ?_; rintro e w5 ⟨rfl, hk5⟩))
  go_ret
  refine ⟨rfl, ?_⟩
  have k3 : Kept [] w w3 := Kept.more (hk1.trans hk2) hA3.kept (fun k hm => .inr ((hS1.lt k hm).1))
  exact ((k3.trans (kept_alloc [] w3 _)).young hk4 k3.size).trans hk5
/-- An act in its block. -/
def AIn (W : World) (b : Nat) (k : Int) (sa : Option Addr) (len cap : Nat) (x : Pv) : Prop := Blk W b 49 #[.int .i64 k, .slice sa len cap, .int .u32 (x.f : Int), .int .u32 (x.t : Int), .int .i64 x.k, .int .i64 x.s, .int .i64 x.a, .slice x.sa x.len x.cap]
theorem AIn.kept {K : List Nat} {A B : World} {b : Nat} {k : Int} {sa : Option Addr} {len cap : Nat} {x : Pv} (h : AIn A b k sa len cap x) (hk : Kept K A B) (hb : b ∉ K) : AIn B b k sa len cap x := Blk.kept h hk hb
theorem AIn.eight {W : World} {b : Nat} {k : Int} {sa : Option Addr} {len cap : Nat} {x : Pv} (h : AIn W b k sa len cap x) : W.cell? ⟨b, 0, none⟩ = some (.int .i64 k) ∧ W.cell? ⟨b, 1, none⟩ = some (.slice sa len cap) ∧ W.cell? ⟨b, 2, none⟩ = some (.int .u32 (x.f : Int)) ∧ W.cell? ⟨b, 3, none⟩ = some (.int .u32 (x.t : Int)) ∧ W.cell? ⟨b, 4, none⟩ = some (.int .i64 x.k) ∧ W.cell? ⟨b, 5, none⟩ = some (.int .i64 x.s) ∧ W.cell? ⟨b, 6, none⟩ = some (.int .i64 x.a) ∧ W.cell? ⟨b, 7, none⟩ = some (.slice x.sa x.len x.cap) :=
  ⟨(Blk.cell h 0).trans rfl, (Blk.cell h 1).trans rfl, (Blk.cell h 2).trans rfl, (Blk.cell h 3).trans rfl, (Blk.cell h 4).trans rfl, (Blk.cell h 5).trans rfl, (Blk.cell h 6).trans rfl, (Blk.cell h 7).trans rfl⟩
set_option maxRecDepth 100000 in
/-- SessionNone, of what is let go -/
theorem none_early (k : Int) (sa : Option Addr) (len cap : Nat) (x : Pv) (w : World) (h : 300 < len ∨ 300 < x.len) :
    Calls Try.prog 4 #[.agg #[.int .i64 k, .slice sa len cap, .int .u32 (x.f : Int), .int .u32 (x.t : Int), .int .i64 x.k, .int .i64 x.s, .int .i64 x.a, .slice x.sa x.len x.cap]] w fun e w' => e = .returned (.bool true) ∧ Kept [] w w' := by
  have kA := kept_alloc [] w (.cells #[.int .i64 k, .slice sa len cap, .int .u32 (x.f : Int), .int .u32 (x.t : Int), .int .i64 x.k, .int .i64 x.s, .int .i64 x.a, .slice x.sa x.len x.cap] 49)
  have hA : AIn _ w.heap.size k sa len cap x := blk_new w 49 #[.int .i64 k, .slice sa len cap, .int .u32 (x.f : Int), .int .u32 (x.t : Int), .int .i64 x.k, .int .i64 x.s, .int .i64 x.a, .slice x.sa x.len x.cap]
  obtain ⟨W1, hW1⟩ : ∃ W1, w.alloc (.cells #[.int .i64 k, .slice sa len cap, .int .u32 (x.f : Int), .int .u32 (x.t : Int), .int .i64 x.k, .int .i64 x.s, .int .i64 x.a, .slice x.sa x.len x.cap] 49) = W1 := ⟨_, rfl⟩
  rw [hW1] at kA hA
  obtain ⟨c0, c1, c2, c3, c4, c5, c6, c7⟩ := hA.eight
  have q := lives_any W1
  by_cases h1 : 300 < len
  · have i1 : (300 : Int) < (len : Int) := by omega
    go_enter Try.func4, Try.ntmps4
    go_wp2_with (go_at_call 5; refine q.mono ?_; rintro e w1 ⟨rfl, hk1⟩)
    go_ret
    exact ⟨rfl, kA.trans hk1⟩
  · have i1 : ¬ ((300 : Int) < (len : Int)) := by omega
    have i2 : (300 : Int) < (x.len : Int) := by omega
    go_enter Try.func4, Try.ntmps4
    go_wp2_with (go_at_call 5; refine q.mono ?_; rintro e w1 ⟨rfl, hk1⟩)
    go_ret
    exact ⟨rfl, kA.trans hk1⟩
set_option maxRecDepth 100000 in
set_option maxHeartbeats 4000000 in
/-- SessionNone -/
theorem none_play (k : Int) (sa : Option Addr) (len cap : Nat) (x : Pv) (w : World) (h1 : len ≤ 300) (h2 : x.len ≤ 300) (hx : x.At 0 w.heap.size w) :
    Calls Try.prog 4 #[.agg #[.int .i64 k, .slice sa len cap, .int .u32 (x.f : Int), .int .u32 (x.t : Int), .int .i64 x.k, .int .i64 x.s, .int .i64 x.a, .slice x.sa x.len x.cap]] w fun e w' => e = .returned (.bool true) ∧ Kept [] w w' := by
  have kA := kept_alloc [] w (.cells #[.int .i64 k, .slice sa len cap, .int .u32 (x.f : Int), .int .u32 (x.t : Int), .int .i64 x.k, .int .i64 x.s, .int .i64 x.a, .slice x.sa x.len x.cap] 49)
  have hA : AIn _ w.heap.size k sa len cap x := blk_new w 49 #[.int .i64 k, .slice sa len cap, .int .u32 (x.f : Int), .int .u32 (x.t : Int), .int .i64 x.k, .int .i64 x.s, .int .i64 x.a, .slice x.sa x.len x.cap]
  obtain ⟨W1, hW1⟩ : ∃ W1, w.alloc (.cells #[.int .i64 k, .slice sa len cap, .int .u32 (x.f : Int), .int .u32 (x.t : Int), .int .i64 x.k, .int .i64 x.s, .int .i64 x.a, .slice x.sa x.len x.cap] 49) = W1 := ⟨_, rfl⟩
  rw [hW1] at kA hA
  obtain ⟨c0, c1, c2, c3, c4, c5, c6, c7⟩ := hA.eight
  have i1 : ¬ ((300 : Int) < (len : Int)) := by omega
  have i2 : ¬ ((300 : Int) < (x.len : Int)) := by omega
  have kB := kept_alloc [] W1 (.cells #[.int .i64 0, .int .u32 0, .int .u32 0, .pointer none, .pointer none, .pointer none] 56)
  have hB := blk_new W1 56 #[.int .i64 0, .int .u32 0, .int .u32 0, .pointer none, .pointer none, .pointer none]
  replace hA := hA.kept kB (by simp)
  obtain ⟨W2, hW2⟩ : ∃ W2, W1.alloc (.cells #[.int .i64 0, .int .u32 0, .int .u32 0, .pointer none, .pointer none, .pointer none] 56) = W2 := ⟨_, rfl⟩
  rw [hW2] at kB hB hA
  have kC := kept_alloc [] W2 (.cells #[.pointer none, .pointer (some ⟨W1.heap.size, 0, none⟩)] 24)
  have hC := blk_new W2 24 #[.pointer none, .pointer (some ⟨W1.heap.size, 0, none⟩)]
  replace hA := hA.kept kC (by simp)
  replace hB := hB.kept kC (by simp)
  obtain ⟨W3, hW3⟩ : ∃ W3, W2.alloc (.cells #[.pointer none, .pointer (some ⟨W1.heap.size, 0, none⟩)] 24) = W3 := ⟨_, rfl⟩
  rw [hW3] at kC hA hB hC
  have k0 : Kept [] w W3 := (kA.trans kB).trans kC
  go_enter Try.func4, Try.ntmps4
  go_wp2_with fail
  clear hW1 hW2 hW3 kA kB kC c0 c1 c2 c3 c4 c5 c6 c7
  go_loopw [25] (fun i wr => ∃ j : Nat, j ≤ 2 ∧ i = .int .i64 j ∧ Kept [] W3 wr) (fun i _ => 2 - (RowKit.intOf i).toNat)
  case atStart => exact ⟨0, by omega, rfl, Kept.refl _ _⟩
  case round =>
    obtain ⟨j, hj, rfl, hk⟩ := hrel
    by_cases hlt : j < 2
    · obtain ⟨p, hp, hN⟩ : ∃ p, wr.cell? ⟨W2.heap.size, j, none⟩ = some (.pointer p) ∧ NoSs wr p := by
        have hc := (hC.kept hk (by simp)).cell j
        rcases (by omega : j = 0 ∨ j = 1) with rfl | rfl
        · exact ⟨none, hc, .inl rfl⟩
        · exact ⟨_, hc, .inr ⟨_, rfl, hB.kept hk (by simp)⟩⟩
      have i3 : (j : Int) < 2 := by omega
      have hm1 : Hid (2 - (j + 1) < 2 - j) := by show _ < _; omega
      have hA1 := hA.kept hk (by simp)
      obtain ⟨c0, c1, c2, c3, c4, c5, c6, c7⟩ := hA1.eight
      have q1 := Wire.refBytes_any x 0 w.heap.size wr (hx.kept (Nat.le_refl _) (k0.trans hk) (by simp)) (k0.trans hk).size (by omega)
      unfold Pv.val at q1
      have hNA : ∀ A, Kept [] wr A → NoSs A p := fun A hkA => hN.kept hkA
      clear hN
      go_wp2_with (first
        | (go_at_call 12; refine q1.mono ?_; rintro e w2 ⟨v2, rfl, hO2, hk2⟩; have q2 := take_none p v2 w2 (hNA _ hk2))
        | (go_at_call 10; refine q2.mono ?_; rintro e w3 ⟨rfl, hk3⟩)
        | (refine wpList_store_blk rfl 41 _ _ rfl w3.heap.size 41 _ [.bool false, .bool false, .slice none 0 0] rfl rfl (blk_new w3 41 #[.bool false, .bool false, .slice none 0 0]) rfl Try.sizeGot (by simp [Value.oneCell']) ?_; intro w4 hb4 hk4 hz4))
      have k4 : Kept [] wr w4 := ((hk2.trans hk3).trans (kept_alloc [] w3 _)).young hk4 (hk2.trans hk3).size
      have hA4 := hA1.kept k4 (by simp)
      clear c0 c1 c2 c3 c4 c5 c6 c7 q1 q2 hp
      have c := fun n => (hA4.kept (kept_drewN [] w4 n) (by simp)).eight
      have g0 : ∀ n, (w4.drewN n).cell? ⟨w3.heap.size, 0, none⟩ = some (.bool false) := fun n => ((hb4.kept (kept_drewN [] w4 n) (by simp)).cell 0).trans rfl
      have g1 : ∀ n, (w4.drewN n).cell? ⟨w3.heap.size, 1, none⟩ = some (.bool false) := fun n => ((hb4.kept (kept_drewN [] w4 n) (by simp)).cell 1).trans rfl
      have g2 : ∀ n, (w4.drewN n).cell? ⟨w3.heap.size, 2, none⟩ = some (.slice none 0 0) := fun n => ((hb4.kept (kept_drewN [] w4 n) (by simp)).cell 2).trans rfl
      have hN4 := fun n => hNA _ (k4.trans (kept_drewN [] w4 n))
      have r1 := fun n => send_none p (.slice sa len cap) _ (hN4 n)
      have r2 := fun n => tick_none p _ (hN4 n)
      have r3 := fun n => my_none p _ (hN4 n)
      have r4 := fun n => peer_none p _ (hN4 n)
      have r5 := fun n => alive_none p _ (hN4 n)
      have r6 := fun n => full_none p _ (hN4 n)
      have r7 := fun n => len_none p _ (hN4 n)
      go_quiet (first
        | (go_at_call 8; exact Calls.quiet_of_same (r1 _))
        | (go_at_call 9; exact Calls.quiet_of_same (r2 _))
        | (go_at_call 13; exact Calls.quiet_of_same (r3 _))
        | (go_at_call 7; exact Calls.quiet_of_same (r4 _))
        | (go_at_call 14; exact Calls.quiet_of_same (r5 _))
        | (go_at_call 15; exact Calls.quiet_of_same (r6 _))
        | (go_at_call 16; exact Calls.quiet_of_same (r7 _)))
      go_wp2_with fail
      go_roundw
      case rel => exact ⟨j + 1, by omega, by go_num, (hk.trans k4).trans (kept_drewN [] _ _)⟩
      case measure => simpa [RowKit.intOf] using hm1.out
    · obtain rfl : j = 2 := by omega
      have q := lives_any wr
      go_wp2_with (go_at_call 5; refine q.mono ?_; rintro e w1 ⟨rfl, hk1⟩)
      go_ret
      exact ⟨rfl, (k0.trans hk).trans hk1⟩
end Go.Proofs.Ytnbkbakbjllmcaa.Session
