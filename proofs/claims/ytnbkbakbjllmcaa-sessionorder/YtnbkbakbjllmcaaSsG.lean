/-
  lives; SessionNone.
-/
import Derived.Test.YtnbkbakbjllmcaaSsF
namespace Go.Proofs.Ytnbkbakbjllmcaa.Session
open Go.RowKit
open Outbox (Ob nums OutAt Bv Byt NoByt RowAt NRow)
open Inbox (InAt)
open Keep (KpAt)
open Wire (Ps Pv bytesL parseM parseE)

/-- A hello of boot 1. -/
def p1 : Ps := ⟨1, 0, 1, 0, 0, []⟩
theorem p1_fine : Wire.Fine p1 := ⟨Nat.le_refl _, by simp [p1], by simp [p1], .inl ⟨rfl, rfl, rfl, rfl, rfl⟩⟩
theorem p1_parse : parseE (bytesL p1) = 0 ∧ parseM (bytesL p1) = p1 := by
  obtain ⟨e1, e2⟩ := Wire.parse_back p1_fine (by show 1 < _; decide) (by show 0 < _; decide)
  exact ⟨e2, e1⟩
theorem lives_plain : ((made 2 2 3).isNew (bytesL p1) = true ∧ (made 2 2 3).has (bytesL p1) = false) ∧ ((made 2 2 3).takeL (bytesL p1)).length = 1 ∧ ((made 2 2 3).taken (bytesL p1)).peer = 1 ∧ ((made 2 2 3).taken (bytesL p1)).my = 2 ∧ ((made 2 2 3).taken (bytesL p1)).age = 0 ∧ ((made 2 2 3).taken (bytesL p1)).pat = 3 := by
  obtain ⟨hE, hM⟩ := p1_parse
  have hd : (made 2 2 3).deaf (bytesL p1) = false := by
    unfold Ss.deaf
    rw [hE, hM]
    rfl
  have hn : (made 2 2 3).isNew (bytesL p1) = true := by
    unfold Ss.isNew
    rw [hd, hM]
    rfl
  have hm : (made 2 2 3).mine (bytesL p1) = false := by
    unfold Ss.mine
    rw [hd, hM]
    rfl
  have hh : (made 2 2 3).has (bytesL p1) = false := by
    unfold Ss.has
    rw [hm]
    rfl
  have ht : (made 2 2 3).taken (bytesL p1) = { (made 2 2 3) with peer := 1, ob := Outbox.made (made 2 2 3).ob.w, last := 0, age := 0 } := by
    unfold Ss.taken Ss.acked Ss.turned
    rw [hh, hm, hn, hM]
    rfl
  have hL : ((made 2 2 3).takeL (bytesL p1)).length = 1 := by
    unfold Ss.takeL
    rw [hd, hm]
    rfl
  rw [ht]
  exact ⟨⟨hn, hh⟩, hL, rfl, rfl, rfl, rfl⟩
set_option maxRecDepth 100000 in
set_option maxHeartbeats 1000000 in
theorem lives_any (w : World) : Calls Try.prog 5 #[] w fun e w' => e = .returned (.bool true) ∧ Kept [] w w' := by
  have q1 := new_any 2 2 3 (by omega) (by omega) (by omega) (by omega) (by omega) (by omega) w
  have q2 := fun W => Wire.refBytes_any ⟨1, 0, 1, 0, 0, none, 0, 0, []⟩ 0 0 W ⟨Wire.byteRow_nil _ _ _, by show 1 < _; decide, by show 0 < _; decide⟩ (Nat.zero_le _) (by show 0 ≤ _; omega)
  have hs : (made 2 2 3).ob.n + (made 2 2 3).ob.l.length ≤ 1000000 := by show 1 + 0 ≤ _; omega
  have hb : ∀ b ∈ (made 2 2 3).ob.l, b.length ≤ 1000 := by intro b hm; cases hm
  have hlen := Wire.bytesL_len p1
  obtain ⟨⟨e1, e2⟩, e3, e4, e5, e6, e7⟩ := lives_plain
  have q3 := fun W F v (h : SsAt W w.heap.size F (made 2 2 3)) (hv : Wire.Own W w.heap.size v (bytesL p1)) (hw : w.heap.size ≤ W.heap.size) => take_any W h v (bytesL p1) w.heap.size W.heap.size hv.byteRow (Nat.le_refl _) (by omega) hs hb hw
  rw [e1, e2] at q3
  replace q2 : ∀ W, Calls Try.prog 12 #[.agg #[.int .u32 1, .int .u32 0, .int .i64 1, .int .i64 0, .int .i64 0, .slice none 0 0]] W fun e w' => ∃ v, e = .returned v ∧ Wire.Own w' W.heap.size v (bytesL p1) ∧ Kept [] W w' := q2
  replace q1 : Calls Try.prog 6 #[.int .u32 2, .int .i64 2, .int .i64 3] w fun e w' => ∃ F : Foot, e = .returned (.tuple #[.pointer (some ⟨F.o, 0, none⟩), .int .i64 0]) ∧ SsAt w' w.heap.size F (made 2 2 3) ∧ Kept [] w w' := q1
  generalize bytesL p1 = BL at *
  generalize (made 2 2 3).takeL BL = TL at *
  generalize (made 2 2 3).taken BL = T at *
  generalize (made 2 2 3).gotB BL = GB at *
  generalize made 2 2 3 = M at *
  clear e1 e2 hs hb hlen
  go_enter Try.func5, Try.ntmps5
  go_wp2_with (first
    | (go_at_call 6; refine q1.mono ?_; rintro e w1 ⟨F, rfl, hS1, hk1⟩)
    | (go_at_call 12; refine (q2 _).mono ?_; rintro e w2 ⟨v2, rfl, hO2, hk2⟩)
    | (go_at_call 10; refine (q3 _ F _ (hS1.kept0 hk2) (hO2.low hk1.size) (Nat.le_trans hk1.size hk2.size)).mono ?_; rintro e w3 ⟨v3, P3, F3, sb, lb, cb, rfl, hF3, hT3, hA3⟩; obtain ⟨sl3, cl3, rfl⟩ := hT3.row.form; have hl3 := hT3.len; rw [e3] at hl3; rw [hl3])
    | (refine wpList_store_blk rfl 41 _ _ rfl w3.heap.size 41 _ [.bool true, .bool false, .slice sb lb cb] rfl rfl (blk_new w3 41 #[.bool false, .bool false, .slice none 0 0]) rfl Try.sizeGot (by simp [Value.oneCell']) ?_; intro w4 hb4 hk4 hz4; have hS4 := (hA3.at'.kept0 (kept_alloc [] w3 (.cells #[.bool false, .bool false, .slice none 0 0] 41))).kept hk4 (fun k hm e => by rw [List.mem_singleton] at e; have := (hA3.at'.lt k hm).2; omega) (NoByt.cons (Outbox.noByt_nil _) (blk_new w3 41 #[.bool false, .bool false, .slice none 0 0]) (by decide)); have g0 : w4.cell? ⟨w3.heap.size, 0, none⟩ = some (.bool true) := (hb4.cell 0).trans rfl; have g1 : w4.cell? ⟨w3.heap.size, 1, none⟩ = some (.bool false) := (hb4.cell 1).trans rfl; have q4 := peer_any w4 hS4; have q5 := my_any w4 hS4; have q6 := alive_any w4 hS4; rw [e4] at q4; rw [e5] at q5; rw [e6, e7] at q6; rw [hA3.same] at q4 q5 q6)
    | (go_at_call 7; refine q4.mono ?_; rintro e w4 ⟨rfl, rfl⟩)
    | (go_at_call 13; refine q5.mono ?_; rintro e w4 ⟨rfl, rfl⟩)
    | (go_at_call 14; refine q6.mono ?_; rintro e w5 ⟨rfl, hk5⟩))
  go_ret
  refine ⟨rfl, ?_⟩
  have k3 : Kept [] w w3 := Kept.more (hk1.trans hk2) hA3.kept (fun k hm => .inr ((hS1.lt k hm).1))
  exact ((k3.trans (kept_alloc [] w3 _)).young hk4 k3.size).trans hk5
/-- An act in its block. -/
def AIn (W : World) (b : Nat) (k : Int) (sa : Option Addr) (len cap : Nat) (x : Pv) : Prop := Blk W b 49 #[.int .i64 k, .slice sa len cap, .int .u32 (x.f : Int), .int .u32 (x.t : Int), .int .i64 x.k, .int .i64 x.s, .int .i64 x.a, .slice x.sa x.len x.cap]
theorem AIn.kept {K : List Nat} {A B : World} {b : Nat} {k : Int} {sa : Option Addr} {len cap : Nat} {x : Pv} (h : AIn A b k sa len cap x) (hk : Kept K A B) (hb : b ∉ K) : AIn B b k sa len cap x := Blk.kept h hk hb
theorem AIn.eight {W : World} {b : Nat} {k : Int} {sa : Option Addr} {len cap : Nat} {x : Pv} (h : AIn W b k sa len cap x) : W.cell? ⟨b, 0, none⟩ = some (.int .i64 k) ∧ W.cell? ⟨b, 1, none⟩ = some (.slice sa len cap) ∧ W.cell? ⟨b, 2, none⟩ = some (.int .u32 (x.f : Int)) ∧ W.cell? ⟨b, 3, none⟩ = some (.int .u32 (x.t : Int)) ∧ W.cell? ⟨b, 4, none⟩ = some (.int .i64 x.k) ∧ W.cell? ⟨b, 5, none⟩ = some (.int .i64 x.s) ∧ W.cell? ⟨b, 6, none⟩ = some (.int .i64 x.a) ∧ W.cell? ⟨b, 7, none⟩ = some (.slice x.sa x.len x.cap) :=
  ⟨(Blk.cell h 0).trans rfl, (Blk.cell h 1).trans rfl, (Blk.cell h 2).trans rfl, (Blk.cell h 3).trans rfl, (Blk.cell h 4).trans rfl, (Blk.cell h 5).trans rfl, (Blk.cell h 6).trans rfl, (Blk.cell h 7).trans rfl⟩
end Go.Proofs.Ytnbkbakbjllmcaa.Session
