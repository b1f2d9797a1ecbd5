import Derived.Test.YthlnhmdeoapoeaaClA
import Derived.Maps.AppendAt
import Derived.Lib.AppendZeros
/-
  some with each rule; Verdict, Name; the document's; Owns; lives.
-/
namespace Go.Proofs.Ythlnhmdeoapoeaa.Clash
open Go.RowKit

set_option maxRecDepth 100000 in
set_option maxHeartbeats 1000000 in
/-- some's closure, with holds -/
theorem some1_holds (x : Ow) (p m : Int) (bR bI : Nat) (w : World) (hE : Env w 29 bR bI p m) :
    Calls Try.prog 36 #[.agg #[.int .i64 x.o, .int .i64 x.l, .bool x.s], .pointer (some ⟨bR, 0, none⟩), .pointer (some ⟨bI, 0, none⟩)] w fun e w' => e = .returned (.bool (ph p m x)) ∧ Kept [] w w' := by
  obtain ⟨o, l, s⟩ := x
  simp only
  have kA := kept_alloc [] w (.cells #[.int .i64 o, .int .i64 l, .bool s] 54)
  have hE' := hE.kept kA
  have c0 := (hE'.rule.cell 0).trans (show _ = some (Value.func (.func 29) #[] #[]) from rfl)
  have c1 := (hE'.span.cell 0).trans (show _ = some (Value.int .i64 p) from rfl)
  have c2 := (hE'.span.cell 1).trans (show _ = some (Value.int .i64 m) from rfl)
  have q := fun V => cholds_any ⟨o, l, s⟩ p m V
  simp only at q
  clear hE hE'
  generalize ph p m ⟨o, l, s⟩ = r at *
  go_enter Try.func36, Try.ntmps36
  go_wp2_with (go_at_call 29; refine (q _).mono ?_; rintro e w1 ⟨rfl, hB⟩)
  go_ret
  exact ⟨rfl, kA.trans hB⟩
set_option maxRecDepth 100000 in
set_option maxHeartbeats 1000000 in
/-- some, with holds -/
theorem some_holds (p m : Int) (a : Option Addr) (len cap : Nat) (L : List Ow) (hl : len ≤ 9223372036854775807) (w : World) (hL : OwsAt w a len cap L) :
    Calls Try.prog 28 #[.slice a len cap, .agg #[.int .i64 p, .int .i64 m], .func (.func 29) #[] #[]] w fun e w' => e = .returned (.bool (L.any (ph p m))) ∧ Kept [] w w' := by
  have k1 := kept_alloc [] w (.cells #[.int .i64 p, .int .i64 m] 24)
  have b1 := blk_new w 24 #[.int .i64 p, .int .i64 m]
  obtain ⟨W1, hW1⟩ : ∃ W1, w.alloc (.cells #[.int .i64 p, .int .i64 m] 24) = W1 := ⟨_, rfl⟩
  rw [hW1] at k1 b1
  have k2 := kept_alloc [] W1 (.cells #[.func (.func 29) #[] #[]] 72)
  have b2 := blk_new W1 72 #[.func (.func 29) #[] #[]]
  have hs : W1.heap.size = w.heap.size + 1 := by rw [← hW1]; simp
  rw [hs] at b2
  have hE : Env (W1.alloc (.cells #[.func (.func 29) #[] #[]] 72)) 29 (w.heap.size + 1) w.heap.size p m := ⟨b2, b1.kept k2 (by simp)⟩
  have q := contains_some (ph p m) (w.heap.size + 1) w.heap.size a len cap L hl _ (hL.kept (k1.trans k2)) (fun W x hk => some1_holds x p m (w.heap.size + 1) w.heap.size W (hE.kept hk))
  have hk := k1.trans k2
  subst hW1
  clear b1 b2 hE hL hs k1 k2
  go_enter Try.func28, Try.ntmps28
  go_wp2_with (go_at_call 35; refine q.mono ?_; rintro e w1 ⟨rfl, hB⟩)
  go_ret
  exact ⟨rfl, hk.trans hB⟩
set_option maxRecDepth 100000 in
set_option maxHeartbeats 1000000 in
/-- some's closure, with overlaps -/
theorem some1_overlaps (x : Ow) (p m : Int) (bR bI : Nat) (w : World) (hE : Env w 30 bR bI p m) :
    Calls Try.prog 36 #[.agg #[.int .i64 x.o, .int .i64 x.l, .bool x.s], .pointer (some ⟨bR, 0, none⟩), .pointer (some ⟨bI, 0, none⟩)] w fun e w' => e = .returned (.bool (po p m x)) ∧ Kept [] w w' := by
  obtain ⟨o, l, s⟩ := x
  simp only
  have kA := kept_alloc [] w (.cells #[.int .i64 o, .int .i64 l, .bool s] 54)
  have hE' := hE.kept kA
  have c0 := (hE'.rule.cell 0).trans (show _ = some (Value.func (.func 30) #[] #[]) from rfl)
  have c1 := (hE'.span.cell 0).trans (show _ = some (Value.int .i64 p) from rfl)
  have c2 := (hE'.span.cell 1).trans (show _ = some (Value.int .i64 m) from rfl)
  have q := fun V => coverlaps_any ⟨o, l, s⟩ p m V
  simp only at q
  clear hE hE'
  generalize po p m ⟨o, l, s⟩ = r at *
  go_enter Try.func36, Try.ntmps36
  go_wp2_with (go_at_call 30; refine (q _).mono ?_; rintro e w1 ⟨rfl, hB⟩)
  go_ret
  exact ⟨rfl, kA.trans hB⟩
set_option maxRecDepth 100000 in
set_option maxHeartbeats 1000000 in
/-- some, with overlaps -/
theorem some_overlaps (p m : Int) (a : Option Addr) (len cap : Nat) (L : List Ow) (hl : len ≤ 9223372036854775807) (w : World) (hL : OwsAt w a len cap L) :
    Calls Try.prog 28 #[.slice a len cap, .agg #[.int .i64 p, .int .i64 m], .func (.func 30) #[] #[]] w fun e w' => e = .returned (.bool (L.any (po p m))) ∧ Kept [] w w' := by
  have k1 := kept_alloc [] w (.cells #[.int .i64 p, .int .i64 m] 24)
  have b1 := blk_new w 24 #[.int .i64 p, .int .i64 m]
  obtain ⟨W1, hW1⟩ : ∃ W1, w.alloc (.cells #[.int .i64 p, .int .i64 m] 24) = W1 := ⟨_, rfl⟩
  rw [hW1] at k1 b1
  have k2 := kept_alloc [] W1 (.cells #[.func (.func 30) #[] #[]] 72)
  have b2 := blk_new W1 72 #[.func (.func 30) #[] #[]]
  have hs : W1.heap.size = w.heap.size + 1 := by rw [← hW1]; simp
  rw [hs] at b2
  have hE : Env (W1.alloc (.cells #[.func (.func 30) #[] #[]] 72)) 30 (w.heap.size + 1) w.heap.size p m := ⟨b2, b1.kept k2 (by simp)⟩
  have q := contains_some (po p m) (w.heap.size + 1) w.heap.size a len cap L hl _ (hL.kept (k1.trans k2)) (fun W x hk => some1_overlaps x p m (w.heap.size + 1) w.heap.size W (hE.kept hk))
  have hk := k1.trans k2
  subst hW1
  clear b1 b2 hE hL hs k1 k2
  go_enter Try.func28, Try.ntmps28
  go_wp2_with (go_at_call 35; refine q.mono ?_; rintro e w1 ⟨rfl, hB⟩)
  go_ret
  exact ⟨rfl, hk.trans hB⟩
set_option maxRecDepth 100000 in
set_option maxHeartbeats 1000000 in
/-- some's closure, with overlapsSent -/
theorem some1_overlapsSent (x : Ow) (p m : Int) (bR bI : Nat) (w : World) (hE : Env w 31 bR bI p m) :
    Calls Try.prog 36 #[.agg #[.int .i64 x.o, .int .i64 x.l, .bool x.s], .pointer (some ⟨bR, 0, none⟩), .pointer (some ⟨bI, 0, none⟩)] w fun e w' => e = .returned (.bool (ps p m x)) ∧ Kept [] w w' := by
  obtain ⟨o, l, s⟩ := x
  simp only
  have kA := kept_alloc [] w (.cells #[.int .i64 o, .int .i64 l, .bool s] 54)
  have hE' := hE.kept kA
  have c0 := (hE'.rule.cell 0).trans (show _ = some (Value.func (.func 31) #[] #[]) from rfl)
  have c1 := (hE'.span.cell 0).trans (show _ = some (Value.int .i64 p) from rfl)
  have c2 := (hE'.span.cell 1).trans (show _ = some (Value.int .i64 m) from rfl)
  have q := fun V => coverlapsSent_any ⟨o, l, s⟩ p m V
  simp only at q
  clear hE hE'
  generalize ps p m ⟨o, l, s⟩ = r at *
  go_enter Try.func36, Try.ntmps36
  go_wp2_with (go_at_call 31; refine (q _).mono ?_; rintro e w1 ⟨rfl, hB⟩)
  go_ret
  exact ⟨rfl, kA.trans hB⟩
set_option maxRecDepth 100000 in
set_option maxHeartbeats 1000000 in
/-- some, with overlapsSent -/
theorem some_overlapsSent (p m : Int) (a : Option Addr) (len cap : Nat) (L : List Ow) (hl : len ≤ 9223372036854775807) (w : World) (hL : OwsAt w a len cap L) :
    Calls Try.prog 28 #[.slice a len cap, .agg #[.int .i64 p, .int .i64 m], .func (.func 31) #[] #[]] w fun e w' => e = .returned (.bool (L.any (ps p m))) ∧ Kept [] w w' := by
  have k1 := kept_alloc [] w (.cells #[.int .i64 p, .int .i64 m] 24)
  have b1 := blk_new w 24 #[.int .i64 p, .int .i64 m]
  obtain ⟨W1, hW1⟩ : ∃ W1, w.alloc (.cells #[.int .i64 p, .int .i64 m] 24) = W1 := ⟨_, rfl⟩
  rw [hW1] at k1 b1
  have k2 := kept_alloc [] W1 (.cells #[.func (.func 31) #[] #[]] 72)
  have b2 := blk_new W1 72 #[.func (.func 31) #[] #[]]
  have hs : W1.heap.size = w.heap.size + 1 := by rw [← hW1]; simp
  rw [hs] at b2
  have hE : Env (W1.alloc (.cells #[.func (.func 31) #[] #[]] 72)) 31 (w.heap.size + 1) w.heap.size p m := ⟨b2, b1.kept k2 (by simp)⟩
  have q := contains_some (ps p m) (w.heap.size + 1) w.heap.size a len cap L hl _ (hL.kept (k1.trans k2)) (fun W x hk => some1_overlapsSent x p m (w.heap.size + 1) w.heap.size W (hE.kept hk))
  have hk := k1.trans k2
  subst hW1
  clear b1 b2 hE hL hs k1 k2
  go_enter Try.func28, Try.ntmps28
  go_wp2_with (go_at_call 35; refine q.mono ?_; rintro e w1 ⟨rfl, hB⟩)
  go_ret
  exact ⟨rfl, hk.trans hB⟩
set_option maxRecDepth 100000 in
set_option maxHeartbeats 2000000 in
/-- clash.Verdict -/
theorem verdict_any (arb : Bool) (p m : Int) (a : Option Addr) (len cap : Nat) (L : List Ow) (hl : len ≤ 9223372036854775807) (w : World) (hL : OwsAt w a len cap L) :
    Calls Try.prog 20 #[.bool arb, .slice a len cap, .agg #[.int .i64 p, .int .i64 m]] w fun e w' => e = .returned (.int .i64 (verd arb L p m)) ∧ Kept [] w w' := by
  have k1 := kept_alloc [] w (.cells #[.int .i64 p, .int .i64 m] 24)
  have b1 := blk_new w 24 #[.int .i64 p, .int .i64 m]
  obtain ⟨W1, hW1⟩ : ∃ W1, w.alloc (.cells #[.int .i64 p, .int .i64 m] 24) = W1 := ⟨_, rfl⟩
  rw [hW1] at k1 b1
  have cs : ∀ V, Kept [] W1 V → V.cell? ⟨w.heap.size, 0, none⟩ = some (.int .i64 p) ∧ V.cell? ⟨w.heap.size, 1, none⟩ = some (.int .i64 m) := fun V hk => ⟨((b1.kept hk (by simp)).cell 0).trans rfl, ((b1.kept hk (by simp)).cell 1).trans rfl⟩
  have hL1 := hL.kept k1
  obtain ⟨c0, c1⟩ := cs W1 (Kept.refl _ _)
  cases arb with
  | true =>
    have q1 := some_holds p m a len cap L hl W1 hL1
    have q2 := fun V (k : Kept [] W1 V) => some_overlaps p m a len cap L hl V (hL1.kept k)
    unfold verd
    simp only
    clear hL1 hL b1
    subst hW1
    generalize L.any (ph p m) = r1 at *
    generalize L.any (po p m) = r2 at *
    cases r1 with
    | true =>
      go_enter Try.func20, Try.ntmps20
      go_wp2_with (go_at_call 28; refine q1.mono ?_; rintro e w1 ⟨rfl, hk1⟩)
      go_ret
      exact ⟨by simp, k1.trans hk1⟩
    | false =>
      cases r2 with
      | true =>
        go_enter Try.func20, Try.ntmps20
        go_wp2_with (first
          | (go_at_call 28; refine q1.mono ?_; rintro e w1 ⟨rfl, hk1⟩; obtain ⟨d0, d1⟩ := cs w1 hk1; clear q1)
          | (go_at_call 28; refine (q2 _ hk1).mono ?_; rintro e w2 ⟨rfl, hk2⟩))
        go_ret
        exact ⟨by simp, (k1.trans hk1).trans hk2⟩
      | false =>
        go_enter Try.func20, Try.ntmps20
        go_wp2_with (first
          | (go_at_call 28; refine q1.mono ?_; rintro e w1 ⟨rfl, hk1⟩; obtain ⟨d0, d1⟩ := cs w1 hk1; clear q1)
          | (go_at_call 28; refine (q2 _ hk1).mono ?_; rintro e w2 ⟨rfl, hk2⟩))
        go_ret
        exact ⟨by simp, (k1.trans hk1).trans hk2⟩
  | false =>
    have q1 := some_overlapsSent p m a len cap L hl W1 hL1
    unfold verd
    simp only
    clear hL1 hL b1
    subst hW1
    generalize L.any (ps p m) = r1 at *
    cases r1 with
    | true =>
      go_enter Try.func20, Try.ntmps20
      go_wp2_with (go_at_call 28; refine q1.mono ?_; rintro e w1 ⟨rfl, hk1⟩)
      go_ret
      exact ⟨by simp, k1.trans hk1⟩
    | false =>
      go_enter Try.func20, Try.ntmps20
      go_wp2_with (go_at_call 28; refine q1.mono ?_; rintro e w1 ⟨rfl, hk1⟩)
      go_ret
      exact ⟨by simp, k1.trans hk1⟩
end Go.Proofs.Ythlnhmdeoapoeaa.Clash

