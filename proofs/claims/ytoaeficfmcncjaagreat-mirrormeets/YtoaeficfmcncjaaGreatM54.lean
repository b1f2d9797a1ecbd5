/-
 The walk of MirrorMeets.
-/
import Derived.Test.YtoaeficfmcncjaaGreatM52
import Derived.Test.YtoaeficfmcncjaaGreatM53
namespace Go.Proofs.YtoaeficfmcncjaaGreat.Mirror
open Go.RowKit
open Math
open Later (Lw)
open Pack (Ms Mv)
theorem wpAnyH_stronger {P : Program} {ops : Array Oper} {Q : Exit → Act → World → Prop} {md : Region.Mode} {S S' : World → Prop} (hS : ∀ w, S' w → S w) :
  ∀ (fuel : Nat) (listed : Array Bool) (a : Act) (w : World), wpAnyH P md ops Q S' fuel listed a w → wpAnyH P md ops Q S fuel listed a w
 | 0, _, _, _, h => h
 | fuel + 1, _, _, _, h => ⟨h.1, fun i hi => wpOp_mono (fun _ _ h' => ⟨hS _ h'.1, wpAnyH_stronger hS fuel _ _ _ h'.2⟩) (h.2 i hi)⟩
theorem Gm.one (a : Gm) : ∀ v ∈ a.cells, v.oneCell' = true := by
 intro v hv
 simp only [Gm.cells, List.mem_cons, List.not_mem_nil, or_false] at hv
 rcases hv with rfl | rfl | rfl | rfl | rfl <;> rfl
set_option maxRecDepth 100000 in
theorem Tryz.sizeGame : (Tryz.prog.info? 81).map (·.size) = some 5 := by kernel_rfl
def Gm.In (a : Gm) (W : World) (g : Nat) : Prop := Blk W g 81 #[.int .i64 a.k, .int .i64 a.who, .int .i64 a.o, .int .i64 a.l, .slice a.ba a.bn a.bc]
theorem Gm.In.kept {L : List Nat} {A B : World} {g : Nat} {a : Gm} (h : a.In A g) (hK : Kept L A B) (hg : g ∉ L) : a.In B g := Blk.kept h hK hg
theorem Gm.In.all {a : Gm} {W : World} {g : Nat} (h : a.In W g) : W.cell? ⟨g, 0, none⟩ = some (.int .i64 a.k) ∧ W.cell? ⟨g, 1, none⟩ = some (.int .i64 a.who) ∧ W.cell? ⟨g, 2, none⟩ = some (.int .i64 a.o) ∧ W.cell? ⟨g, 3, none⟩ = some (.int .i64 a.l) ∧ W.cell? ⟨g, 4, none⟩ = some (.slice a.ba a.bn a.bc) :=
 ⟨(Blk.cell h 0).trans rfl, (Blk.cell h 1).trans rfl, (Blk.cell h 2).trans rfl, (Blk.cell h 3).trans rfl, (Blk.cell h 4).trans rfl⟩
set_option maxRecDepth 100000 in
set_option maxHeartbeats 4000000 in
theorem meets_early (most : Int) (a0 : Option Addr) (len cap : Nat) (hlen : len ≤ 9223372036854775807) (w : World) (hno : most < 3 ∨ 16 < most ∨ 60 < len) :
  Calls Tryz.prog 4 #[.int .i64 most, .slice a0 len cap] w fun e w' => e = .returned (.bool true) ∧ Kept [] w w' := by
 have q := lives_any w
 by_cases h1 : most < 3
 ·go_enter Tryz.func4, Tryz.ntmps4
  go_wp2_with (go_at_call 7; refine q.mono ?_; rintro e w1 ⟨rfl, hk1⟩)
  go_ret
  exact ⟨rfl, hk1⟩
 by_cases h2 : 16 < most
 ·go_enter Tryz.func4, Tryz.ntmps4
  go_wp2_with (go_at_call 7; refine q.mono ?_; rintro e w1 ⟨rfl, hk1⟩)
  go_ret
  exact ⟨rfl, hk1⟩
 have h3 : (60 : Int) < (len : Int) := by omega
 go_enter Tryz.func4, Tryz.ntmps4
 go_wp2_with (go_at_call 7; refine q.mono ?_; rintro e w1 ⟨rfl, hk1⟩)
 go_ret
 exact ⟨rfl, hk1⟩
theorem PairIn.cells {W : World} {base g : Nat} {x y : Ad} {K L : List Nat} {vo vt : Value} {M N : Mr} {wo wt : List Ms} {P Q : List Mv} (h : PairIn W base g 0 x y K L vo vt M N wo wt P Q) : W.cell? ⟨g, 0, none⟩ = some (.pointer (some ⟨x.m, 0, none⟩)) ∧ W.cell? ⟨g, 1, none⟩ = some (.pointer (some ⟨y.m, 0, none⟩)) ∧ W.cell? ⟨g, 2, none⟩ = some (.pointer (some ⟨x.d, 0, none⟩)) ∧ W.cell? ⟨g, 3, none⟩ = some (.pointer (some ⟨y.d, 0, none⟩)) ∧ W.cell? ⟨g, 4, none⟩ = some vo ∧ W.cell? ⟨g, 5, none⟩ = some vt ∧ W.cell? ⟨g, 6, none⟩ = some (.bool false) :=
 ⟨(h.box.cell 0).trans rfl, (h.box.cell 1).trans rfl, (h.box.cell 2).trans rfl, (h.box.cell 3).trans rfl, (h.box.cell 4).trans rfl, (h.box.cell 5).trans rfl, (h.box.cell 6).trans rfl⟩
section
set_option maxRecDepth 100000
theorem flights_nil {lo m d b1 b2 : Nat} {K : List Nat} {M : Mr} (w : World) (H : MiAt w lo m d b1 b2 K M) (hF : M.fly = []) : Calls Tryz.prog 21 #[.pointer (some ⟨m, 0, none⟩)] w fun e w' => ∃ a cap, e = .returned (.slice a 0 cap) ∧ Kept [] w w' := by
 refine (flights_any w H (by rw [hF]; simp)).mono ?_
 rintro e w' ⟨v, rfl, ⟨xs, hx, _, hw⟩, hk⟩
 rw [hF] at hx
 have h0 : xs = [] := by simpa using hx
 subst h0
 obtain ⟨a, cap, rfl, _⟩ := hw.open
 exact ⟨a, cap, rfl, hk⟩
theorem later_nil {lo m d b1 b2 : Nat} {K : List Nat} {M : Mr} (w : World) (H : MiAt w lo m d b1 b2 K M) (hL : M.lat = []) : Calls Tryz.prog 24 #[.pointer (some ⟨m, 0, none⟩)] w fun e w' => ∃ a cap, e = .returned (.slice a 0 cap) ∧ Kept [] w w' := by
 refine (later_any w H (by rw [hL]; simp)).mono ?_
 rintro e w' ⟨v, rfl, h, hk⟩
 rw [hL] at h
 obtain ⟨a, cap, rfl, _⟩ := h
 exact ⟨a, cap, rfl, hk⟩
theorem cached_nil (d b1 b2 : Nat) (s : Dk) (hs : keys s = []) (w : World) (h : DiskAt w d b1 b2 s) : Calls Tryz.prog 33 #[.pointer (some ⟨d, 0, none⟩)] w fun e w' => ∃ a cap, e = .returned (.slice a 0 cap) ∧ Kept [] w w' := by
 refine (cached_any d b1 b2 s w h).mono ?_
 rintro e w' ⟨v, rfl, hN, hk⟩
 rw [hs] at hN
 obtain ⟨_, ⟨rfl, _⟩ | ⟨q, cap, cur, rfl, _⟩⟩ := hN
 ·exact ⟨_, _, rfl, hk⟩
 ·exact ⟨_, _, rfl, hk⟩
end
theorem Runs.k {n : Net} {j k k' : Nat} (h : Runs n j k) (hk : k ≤ k') : Runs n j k' := ⟨h.inv, h.stable, h.fly, h.few, by have := h.opsA; omega, by have := h.opsB; omega⟩
theorem wr_none {M : Mr} {v : Lw} (h : ¬ wrE M v = 0) : wrO M v = [] := by simp [wrO, wrB, h]
theorem wrap_one (j : Nat) (h : j ≤ 1000) : IntKind.i64.wrap ((j : Int) + 1) = (j : Int) + 1 := by
 rw [IntKind.wrap_i64]
 omega
theorem wr_few (M : Mr) (v : Lw) : (wrO M v).length ≤ 1 := by
 unfold wrO
 split <;> simp
theorem tmod_two (i : Nat) : ((i : Int).tmod 2) = ((i % 2 : Nat) : Int) := by rw [Int.tmod_eq_emod_of_nonneg (by omega)]; omega
def Built (w W : World) (g most : Nat) (c : Nat) : Prop := match c with
 | 0 => Blk W g 79 #[.pointer none, .pointer none, .pointer none, .pointer none, .slice none 0 0, .slice none 0 0, .bool false] ∧ Past w.heap.size w W ∧ w.heap.size ≤ g
 | 1 => ∃ (x : Ad) (K : List Nat), Blk W g 79 #[.pointer (some ⟨x.m, 0, none⟩), .pointer none, .pointer (some ⟨x.d, 0, none⟩), .pointer none, .slice none 0 0, .slice none 0 0, .bool false] ∧ x.At W K (mr0 0 most) ∧ g ∉ K ++ x.ds ∧ (∀ k ∈ K ++ x.ds, w.heap.size ≤ k) ∧ Past w.heap.size w W ∧ w.heap.size ≤ g
 | _ => ∃ (x y : Ad), NetAt w W g x y ⟨mr0 0 most, mr0 1 most, [], []⟩
theorem built_one {w A B C V U : World} {g most m d b1 b2 : Nat} {K : List Nat} (h : Built w A g most 0) (hk : Kept [] A B) (hl : A.heap.size ≤ d ∧ A.heap.size ≤ b1 ∧ A.heap.size ≤ b2) (hk2 : Kept [] B C) (H : MiAt C B.heap.size m d b1 b2 K (mr0 0 most))
  (kV : Kept [g] C V) (kU : Kept [g] V U) (hU : Blk U g 79 #[.pointer (some ⟨m, 0, none⟩), .pointer none, .pointer (some ⟨d, 0, none⟩), .pointer none, .slice none 0 0, .slice none 0 0, .bool false]) (hC : ∃ c, Blk C g 79 c) (hV : ∃ c, Blk V g 79 c) : Built w U g most 1 := by
 obtain ⟨hb, hp, hg⟩ := h
 obtain ⟨_, hC⟩ := hC
 obtain ⟨_, hV⟩ := hV
 have s1 := hk.size
 have hlt := hb.lt
 have hn : g ∉ K ++ [d, b1, b2] := fun hm => by
  rcases List.mem_append.1 hm with e | e
  ·have := (H.low.1 g e).1
   omega
  ·simp at e
   omega
 have hall : ∀ k ∈ K ++ [d, b1, b2], A.heap.size ≤ k := fun k hm => by
  rcases List.mem_append.1 hm with e | e
  ·have := (H.low.1 k e).1
   omega
  ·simp at e
   omega
 have hps := hp.size
 refine ⟨⟨B.heap.size, m, d, b1, b2⟩, K, hU, (H.kept kV (fun k hk1 hm => hn (List.mem_singleton.1 hm ▸ hk1)) (box_clean hC)).kept kU (fun k hk1 hm => hn (List.mem_singleton.1 hm ▸ hk1)) (box_clean hV), hn, fun k hm => Nat.le_trans hps (hall k hm), ((hp.trans (Past.of (hk.trans hk2) (by simp))).trans (Past.of kV (by simpa using hg))).trans (Past.of kU (by simpa using hg)), hg⟩
theorem built_two {w A B C V U : World} {g most m d b1 b2 : Nat} {K : List Nat} {x : Ad} {L : List Nat} (hA : x.At A L (mr0 0 most)) (hgL : g ∉ L ++ x.ds) (hL : ∀ k ∈ L ++ x.ds, w.heap.size ≤ k) (hp : Past w.heap.size w A) (hg : w.heap.size ≤ g) (hb : g < A.heap.size) (hk : Kept [] A B) (hl : A.heap.size ≤ d ∧ A.heap.size ≤ b1 ∧ A.heap.size ≤ b2) (hk2 : Kept [] B C) (H : MiAt C B.heap.size m d b1 b2 K (mr0 1 most))
  (kV : Kept [g] C V) (kU : Kept [g] V U) (hU : Blk U g 79 #[.pointer (some ⟨x.m, 0, none⟩), .pointer (some ⟨m, 0, none⟩), .pointer (some ⟨x.d, 0, none⟩), .pointer (some ⟨d, 0, none⟩), .slice none 0 0, .slice none 0 0, .bool false]) (hC : ∃ c, Blk C g 79 c) (hV : ∃ c, Blk V g 79 c) : Built w U g most 2 := by
 obtain ⟨_, hC⟩ := hC
 obtain ⟨_, hV⟩ := hV
 have s1 := hk.size
 have hn : g ∉ K ++ [d, b1, b2] := fun hm => by
  rcases List.mem_append.1 hm with e | e
  ·have := (H.low.1 g e).1
   omega
  ·simp at e
   omega
 have hall : ∀ k ∈ K ++ [d, b1, b2], A.heap.size ≤ k := fun k hm => by
  rcases List.mem_append.1 hm with e | e
  ·have := (H.low.1 k e).1
   omega
  ·simp at e
   omega
 have hps := hp.size
 have m1 : ∀ k ∈ K ++ [d, b1, b2], k ∉ [g] := fun k hk1 hm => hn (List.mem_singleton.1 hm ▸ hk1)
 have m2 : ∀ k ∈ L ++ [x.d, x.b1, x.b2], k ∉ [g] := fun k hk1 hm => hgL (List.mem_singleton.1 hm ▸ hk1)
 refine ⟨x, ⟨B.heap.size, m, d, b1, b2⟩, L, K, .slice none 0 0, .slice none 0 0, [], [], ⟨hU, (((hA.kept0 hk).kept0 hk2).kept kV m2 (box_clean hC)).kept kU m2 (box_clean hV), (H.kept kV m1 (box_clean hC)).kept kU m1 (box_clean hV), Told.nil _ _, Told.nil _ _, ⟨hg, hL, fun k hm => Nat.le_trans hps (hall k hm)⟩, fun k h1 h2 => ?_, ⟨hgL, hn⟩, fun k hk => by simp [Value.ownBlock] at hk, fun k hk => by simp [Value.ownBlock] at hk⟩, ((hp.trans (Past.of (hk.trans hk2) (by simp))).trans (Past.of kV (by simpa using hg))).trans (Past.of kU (by simpa using hg))⟩
 have h3 := hA.lt k h1
 have h4 := hall k h2
 omega
set_option maxRecDepth 100000 in
set_option maxHeartbeats 16000000 in
theorem meets_play (most : Nat) (hm3 : 3 ≤ most) (hm16 : most ≤ 16) (a0 : Option Addr) (len cap0 : Nat) (acts : List Gm) (hlen : len ≤ 60) (w : World) (hacts : GmsAt w.heap.size w a0 len cap0 acts) :
  Calls Tryz.prog 4 #[.int .i64 (most : Int), .slice a0 len cap0] w fun e w' => e = .returned (.bool true) ∧ Kept [] w w' := by
 have q7 := lives_any
 have q8 : ∀ W, Calls Tryz.prog 8 #[.int .i64 40] W fun e w' => e = .returned (.tuple #[.pointer (some ⟨W.heap.size + 2, 0, none⟩), .int .i64 0]) ∧ DiskAt w' (W.heap.size + 2) W.heap.size (W.heap.size + 1) (made 40) ∧ Kept [] W w' := fun W => new_any 40 (by omega) (by omega) W
 have q9 : ∀ (c : Nat), c < 2 → ∀ W d b1 b2, DiskAt W d b1 b2 (made 40) → Calls Tryz.prog 10 #[.pointer (some ⟨d, 0, none⟩), .int .i64 (most : Int), .int .i64 (c : Int), .int .u64 0] W fun e w' => ∃ m K, e = .returned (.tuple #[.pointer (some ⟨m, 0, none⟩), .int .i64 0]) ∧ MiAt w' W.heap.size m d b1 b2 K (mr0 c most) ∧ Kept [] W w' := fun c hc W d b1 b2 h => new_ok most 0 c (by omega) (by omega) hm16 (by omega) W h
 have g0 : ¬ ((most : Int) < 3) := by omega
 have g1 : ¬ (16 < (most : Int)) := by omega
 have g2 : ¬ ((60 : Int) < (len : Int)) := by omega
 have hz := blk_new w 79 #[.pointer none, .pointer none, .pointer none, .pointer none, .slice none 0 0, .slice none 0 0, .bool false]
 have hkz := kept_alloc [] w (.cells #[.pointer none, .pointer none, .pointer none, .pointer none, .slice none 0 0, .slice none 0 0, .bool false] 79)
 obtain ⟨W1, hW1⟩ : ∃ W1, w.alloc (.cells #[.pointer none, .pointer none, .pointer none, .pointer none, .slice none 0 0, .slice none 0 0, .bool false] 79) = W1 := ⟨_, rfl⟩
 rw [hW1] at hz hkz
 go_enter Tryz.func4, Tryz.ntmps4
 go_wp2_with fail
 have hB0 : Built w W1 w.heap.size most 0 := ⟨hz, Past.of hkz (by simp), Nat.le_refl _⟩
 clear hW1 hz hkz g0 g1 g2
 obtain ⟨g, hg⟩ : ∃ g, w.heap.size = g := ⟨_, rfl⟩
 rw [hg] at hB0 ⊢
 replace hg : Hid (w.heap.size = g) := hg
 go_loopw [6] (fun i wr => ∃ c : Nat, c ≤ 2 ∧ i = .int .i64 c ∧ Built w wr g most c) (fun i _ => 2 - (RowKit.intOf i).toNat)
 case atStart => exact ⟨0, by omega, rfl, hB0⟩
 case round =>
  clear hB0
  obtain ⟨c, hc, rfl, hB⟩ := hrel
  rcases (by omega : c = 0 ∨ c = 1 ∨ c = 2) with hc0 | hc0 | hc0
  ·have hci : (c : Int) = 0 := by omega
   rw [hci]
   clear hci
   subst hc0
   have hb := hB.1
   go_wp2_with (first
    | (go_at_call 8; refine (q8 wr).mono ?_; rintro e w4 ⟨rfl, hD, hk4⟩)
    | (go_at_call 10; refine (q9 0 (by omega) _ _ _ _ hD).mono ?_; rintro e w5 ⟨m, K, rfl, hM, hk5⟩; have hb5 := (hb.kept hk4 (by simp)).kept hk5 (by simp); have f5 := hb5.frozen 0; have c5 := (hb5.cell 0).trans (show _ = some (Value.pointer none) from rfl); obtain ⟨w6, e6, k6, hb6⟩ : ∃ V, w5.setCell ⟨g, 0, none⟩ (.pointer (some ⟨m, 0, none⟩)) = V ∧ Kept [g] w5 V ∧ Blk V g 79 #[.pointer (some ⟨m, 0, none⟩), .pointer none, .pointer none, .pointer none, .slice none 0 0, .slice none 0 0, .bool false] := ⟨_, rfl, kept_set (by simp) _ _ _, hb5.set 0 _⟩; have f6 := hb6.frozen 2; have c6 := (hb6.cell 2).trans (show _ = some (Value.pointer none) from rfl); obtain ⟨w7, e7, k7, hb7⟩ : ∃ V, w6.setCell ⟨g, 2, none⟩ (.pointer (some ⟨wr.heap.size + 2, 0, none⟩)) = V ∧ Kept [g] w6 V ∧ Blk V g 79 #[.pointer (some ⟨m, 0, none⟩), .pointer none, .pointer (some ⟨wr.heap.size + 2, 0, none⟩), .pointer none, .slice none 0 0, .slice none 0 0, .bool false] := ⟨_, rfl, kept_set (by simp) _ _ _, hb6.set 2 _⟩))
   go_roundw
   case rel => exact ⟨1, by omega, rfl, built_one hB hk4 ⟨by omega, by omega, by omega⟩ hk5 hM k6 k7 hb7 ⟨_, hb5⟩ ⟨_, hb6⟩⟩
   case measure => simp [RowKit.intOf]
  ·have hci : (c : Int) = 1 := by omega
   rw [hci]
   clear hci
   subst hc0
   obtain ⟨x, L, hb, hA, hgL, hL, hp, hgl⟩ := hB
   go_wp2_with (first
    | (go_at_call 8; refine (q8 wr).mono ?_; rintro e w4 ⟨rfl, hD, hk4⟩)
    | (go_at_call 10; refine (q9 1 (by omega) _ _ _ _ hD).mono ?_; rintro e w5 ⟨m, K, rfl, hM, hk5⟩; have hb5 := (hb.kept hk4 (by simp)).kept hk5 (by simp); have f5 := hb5.frozen 1; have c5 := (hb5.cell 1).trans (show _ = some (Value.pointer none) from rfl); obtain ⟨w6, e6, k6, hb6⟩ : ∃ V, w5.setCell ⟨g, 1, none⟩ (.pointer (some ⟨m, 0, none⟩)) = V ∧ Kept [g] w5 V ∧ Blk V g 79 #[.pointer (some ⟨x.m, 0, none⟩), .pointer (some ⟨m, 0, none⟩), .pointer (some ⟨x.d, 0, none⟩), .pointer none, .slice none 0 0, .slice none 0 0, .bool false] := ⟨_, rfl, kept_set (by simp) _ _ _, hb5.set 1 _⟩; have f6 := hb6.frozen 3; have c6 := (hb6.cell 3).trans (show _ = some (Value.pointer none) from rfl); obtain ⟨w7, e7, k7, hb7⟩ : ∃ V, w6.setCell ⟨g, 3, none⟩ (.pointer (some ⟨wr.heap.size + 2, 0, none⟩)) = V ∧ Kept [g] w6 V ∧ Blk V g 79 #[.pointer (some ⟨x.m, 0, none⟩), .pointer (some ⟨m, 0, none⟩), .pointer (some ⟨x.d, 0, none⟩), .pointer (some ⟨wr.heap.size + 2, 0, none⟩), .slice none 0 0, .slice none 0 0, .bool false] := ⟨_, rfl, kept_set (by simp) _ _ _, hb6.set 3 _⟩))
   go_roundw
   case rel => exact ⟨2, by omega, rfl, built_two hA hgL hL hp hgl hb.lt hk4 ⟨by omega, by omega, by omega⟩ hk5 hM k6 k7 hb7 ⟨_, hb5⟩ ⟨_, hb6⟩⟩
   case measure => simp [RowKit.intOf]
  ·have hci : (c : Int) = 2 := by omega
   rw [hci]
   clear hci
   subst hc0
   obtain ⟨x, y, hN⟩ := hB
   clear q8 q9
   go_wp2_with fail
   have hR0 : Runs ⟨mr0 0 most, mr0 1 most, [], []⟩ 0 0 := ⟨ninv_start most, stable_start most, Nat.zero_le _, by omega, Nat.zero_le _, Nat.zero_le _⟩
   generalize (⟨mr0 0 most, mr0 1 most, [], []⟩ : Net) = n0 at *
   clear hg
   go_loopw [63] (fun i wr => ∃ (j : Nat) (n : Net), j ≤ len ∧ i = .int .i64 j ∧ Runs n j j ∧ NetAt w wr g x y n) (fun i _ => len - (RowKit.intOf i).toNat)
   case atStart => exact ⟨0, n0, by omega, rfl, hR0, hN⟩
   case round =>
    clear hR0 hN
    obtain ⟨j, n, hj, rfl, hR, hN⟩ := hrel
    by_cases hlt : j < len
    ·obtain ⟨a, blk, off, ha, hok, rfl, hblk, hcs⟩ := (hacts.kept (Nat.le_refl _) hN.kept (by simp)).at hlt
     have hr : Hid (wr.rangeAt blk (off + j * 5) a.cells) := hcs
     have kk4 : (j : Int) < (len : Int) := by omega
     have hm1 : Hid (len - (j + 1) < len - j) := by show _ < _; omega
     have hz0 : Blk (wr.alloc (.cells #[.int .i64 0, .int .i64 0, .int .i64 0, .int .i64 0, .slice none 0 0] 81)) wr.heap.size 81 #[.int .i64 0, .int .i64 0, .int .i64 0, .int .i64 0, .slice none 0 0] := blk_new wr 81 _
     have hsz : Hid (a.cells.length = 5) := rfl
     have hj60 : j < 60 := by omega
     have hbl := row_len hok.row
     clear hcs hacts ha
     by_cases hodd : a.who.tmod 2 = 0
     ·by_cases hbig : 200 < a.bn
      ·as_aux_lemma =>
        have kb : (200 : Int) < (a.bn : Int) := by omega
        go_wp2_with (first
       | refine wpList_load_mid rfl 81 _ rfl blk (off + j * 5) rfl a.cells _ hr.out Tryz.underlying81 rfl (by rw [hsz.out]; exact Tryz.sizeGame) ?_
       | (refine wpList_store_blk rfl 81 _ _ rfl wr.heap.size 81 _ a.cells rfl rfl hz0 hsz.out (by rw [hsz.out]; exact Tryz.sizeGame) a.one ?_; intro w7 hB7 hk7 hz7; have hk07 : Kept [] wr w7 := (kept_alloc [] wr _).young hk7 (Nat.le_refl _); have hB7' : a.In w7 wr.heap.size := hB7; obtain ⟨c0, c1, c2, c3, c4⟩ := hB7'.all; have hN7 := hN.kept0 hk07)
       | (go_at_call 7; refine (q7 _).mono ?_; rintro e w8 ⟨rfl, hk8⟩))
        go_ret
        exact ⟨rfl, hN7.kept.trans hk8⟩
      have kb : ¬ ((200 : Int) < (a.bn : Int)) := by omega
      by_cases hkd : a.k = 0
      ·by_cases hcond : (0 < a.bn ∧ a.bn ≤ 128) ∧ a.bn % 16 = 0
       ·obtain ⟨⟨hc1, hc2⟩, hc3⟩ := hcond
        have e1 : (0 : Int) < (a.bn : Int) := by omega
        have e2 : (a.bn : Int) ≤ 128 := by omega
        have e3 : (a.bn : Int).tmod 16 = 0 := by rw [Int.tmod_eq_emod_of_nonneg (by omega)]; omega
        go_wp2_with (first
      | refine wpList_load_mid rfl 81 _ rfl blk (off + j * 5) rfl a.cells _ hr.out Tryz.underlying81 rfl (by rw [hsz.out]; exact Tryz.sizeGame) ?_
      | (refine wpList_store_blk rfl 81 _ _ rfl wr.heap.size 81 _ a.cells rfl rfl hz0 hsz.out (by rw [hsz.out]; exact Tryz.sizeGame) a.one ?_; intro w7 hB7 hk7 hz7; have hk07 : Kept [] wr w7 := (kept_alloc [] wr _).young hk7 (Nat.le_refl _); have hB7' : a.In w7 wr.heap.size := hB7; obtain ⟨c0, c1, c2, c3, c4⟩ := hB7'.all; have hN7 := hN.kept0 hk07))
        have hK7 := hN.kept.trans hk07
        have hrow := hok.row.kept hN.kept.size hk07 (by simp)
        obtain ⟨K, L, vo, vt, P, Q, Hw, hpw⟩ := hN
        have H0 := Hw.kept0 hk07
        have hp := hpw.trans (Past.of hk07 (by simp))
        have hga : wr.heap.size ∉ K ++ [x.d, x.b1, x.b2] := fun hm => by have := Hw.own.lt _ hm; omega
        obtain ⟨X, hX⟩ : ∃ X, x = X := ⟨_, rfl⟩
        obtain ⟨Y, hY⟩ : ∃ Y, y = Y := ⟨_, rfl⟩
        have HW : PairIn w7 w.heap.size g 0 x y K L vo vt n.a n.b n.wa n.wb P Q := H0
        rw [hX, hY] at HW
        obtain ⟨va, hva⟩ : ∃ u, vo = u := ⟨_, rfl⟩
        obtain ⟨vb, hvb⟩ : ∃ u, vt = u := ⟨_, rfl⟩
        rw [hva, hvb] at HW
        obtain ⟨ga, hgae⟩ : ∃ ga, wr.heap.size = ga := ⟨_, rfl⟩
        have hlt7 := HW.own.lt
        rw [hgae] at hB7'
        have hIa : a.In w7 ga := hB7'
        rw [hgae, hX] at hga
        replace hga : Hid (ga ∉ K ++ [X.d, X.b1, X.b2]) := hga
        have hgs : Hid (g ∉ K ++ [X.d, X.b1, X.b2]) := HW.gs.1
        obtain ⟨W0, hW0⟩ : ∃ W0 : Lw, (⟨(j : Int) + 1, a.o, a.l, a.bs⟩ : Lw) = W0 := ⟨_, rfl⟩
        have hAsk : Asks W0 := by rw [← hW0]; exact ⟨by show (j : Int) + 1 ≤ _; omega, by show a.bs.length ≤ 128; omega, hrow.1⟩
        obtain ⟨l1, l2, l3⟩ := hR.inv.len
        have hph := hR.phi
        have hfl := hR.fly
        have hla := hR.inv.latA
        have hoA := hR.opsA
        have hoB := hR.opsB
        have qW := write_any ((j : Int) + 1) a.o a.l a.ba a.bn a.bc a.bs (by omega) (by omega) w7.drew (HW.kept0 (kept_drew [] w7)).own (bts_in (hrow.kept hK7.size (kept_drew [] w7) (by simp)) (Nat.le_trans hK7.size (kept_drew [] w7).size) HW.low.2.1) (by omega) (by omega) (by rw [hla]; simp) (by omega)
        rw [hW0] at qW
        have hwr : IntKind.i64.wrap ((j : Int) + 1) = (j : Int) + 1 := wrap_one j (by omega)
        obtain ⟨EE, hEE⟩ : ∃ E, wrE n.a W0 = E := ⟨_, rfl⟩
        obtain ⟨okB, hokB⟩ : ∃ b, wrB n.a W0 = b := ⟨_, rfl⟩
        rw [hEE, hokB] at qW
        have hRn := hR.writeA (by omega) hAsk
        have hlo : (n.wb).length + (wrO n.a W0).length ≤ 1000000 := by have h9 := hRn.inv.len; have h8 := hRn.phi; have h7 := wr_few n.a W0; omega
        have hbw := hp.size
        clear hokB l1 l2 l3 hoA hoB hla hfl hph
        refine wp_region_held_drew (S := fun W => Blk W g 79 (cells7 0 X.m Y.m X.d Y.d va vb) ∧ a.In W ga) (by kernel_rfl) ⟨HW.box.kept (kept_drew [] _) (by simp), hIa.kept (kept_drew [] _) (by simp)⟩ (fun hP => ?_)
        have hH := hP
        clear hP
        refine tJ 0 ⟨some 101, _, _, _, _, _⟩ (.pointer (some ⟨g, 0, none⟩)) rfl hH ?_
        refine tJ 1 ⟨some 102, _, _, _, _, _⟩ (.int .i64 0) rfl hH ?_
        refine tJ 2 ⟨some 103, _, _, _, _, _⟩ (.pointer (some ⟨g, 0, none⟩)) rfl hH ?_
        refine tJ 3 ⟨some 104, _, _, _, _, _⟩ (.pointer (some ⟨g, 0, none⟩)) rfl hH ?_
        refine tJ 4 ⟨some 105, _, _, _, _, _⟩ (.pointer (some ⟨g, 0, none⟩)) rfl hH ?_
        refine tI 5 ⟨some 106, _, _, _, _, _⟩ (.pointer (some ⟨X.m, 0, none⟩)) rfl (fun W hSw => by have s0 := (hSw.1.cell 0).trans (show _ = some (Value.pointer (some ⟨X.m, 0, none⟩)) from rfl); go_simp) hH ?_
        refine tJ 6 ⟨some 107, _, _, _, _, _⟩ (.int .i64 (j : Int)) rfl hH ?_
        refine tJ 7 ⟨some 108, _, _, _, _, _⟩ (.int .i64 ((j : Int) + 1)) rfl hH ?_
        refine tJ 8 ⟨some 109, _, _, _, _, _⟩ (.pointer (some ⟨ga, 2, none⟩)) rfl hH ?_
        refine tI 9 ⟨some 110, _, _, _, _, _⟩ (.agg #[.int .i64 a.o, .int .i64 a.l]) rfl (fun W hSw => by obtain ⟨s0, s1, s2, s3, s4⟩ := hSw.2.all; go_simp) hH ?_
        refine tJ 10 ⟨some 111, _, _, _, _, _⟩ (.pointer (some ⟨ga, 4, none⟩)) rfl hH ?_
        refine tI 11 ⟨some 112, _, _, _, _, _⟩ (.slice a.ba a.bn a.bc) rfl (fun W hSw => by obtain ⟨s0, s1, s2, s3, s4⟩ := hSw.2.all; go_simp) hH ?_
        refine tC 12 (o := ⟨some 113, _, _, _, _, _⟩) rfl (fun K hK => ?_)
        go_simp
        refine (qW).mono ?_
        rintro e w8 ⟨v8, Q8, K8, rfl, hT8, hG8⟩
        go_wp2_with fail
        have hH1 := (And.intro (hH.1.kept hG8.kept hgs.out) (hH.2.kept hG8.kept hga.out))
        refine hK.out _ _ hH1 (fun hH => ?_)
        clear hH1
        clear hK K
        refine tJ 13 ⟨some 100, _, _, _, _, _⟩ (.tuple #[.bool okB, v8, .int .i64 (EE : Nat)]) rfl hH ?_
        refine tJ 14 ⟨some 114, _, _, _, _, _⟩ (.bool okB) rfl hH ?_
        refine tJ 15 ⟨some 115, _, _, _, _, _⟩ v8 rfl hH ?_
        refine tJ 16 ⟨some 116, _, _, _, _, _⟩ (.int .i64 (EE : Nat)) rfl hH ?_
        refine tJ 17 ⟨some 14, _, _, _, _, _⟩ (.bool okB) rfl hH ?_
        refine tJ 18 ⟨some 15, _, _, _, _, _⟩ v8 rfl hH ?_
        refine tJ 19 ⟨some 16, _, _, _, _, _⟩ (.int .i64 (EE : Nat)) rfl hH ?_
        refine wpAnyH_done (by kernel_rfl) ?_ _
        have HD := HW.kept0 (kept_drew [] w7)
        have hbD : w.heap.size ≤ w7.drew.heap.size := Nat.le_trans hbw (kept_drew [] w7).size
        have H8 := HD.goes hbD hG8
        have hp8 := (hp.trans (Past.of (kept_drew [] w7) (by simp))).trans (Past.of hG8.kept (fun k hk => HW.low.2.1 k hk))
        by_cases hE : EE = 0
        ·as_aux_lemma =>
          obtain rfl : EE = 0 := hE
          have qv := went0 v8 _ Q8 _ w8 H8 hT8 (fun k hk e => by have h1 := (hT8.row.lt k hk).1; have h2 := HD.box.lt; omega) (Nat.le_trans hbw (Nat.le_trans (kept_drew [] w7).size hG8.kept.size)) hlo
          go_wp2_with (go_at_call 32; refine qv.mono ?_; clear qv; rintro e w9 ⟨rfl, v9, H9, hk9, hn9⟩)
          have hp9 := hp8.trans (Past.of (n := w.heap.size) hk9 (fun k hk => by rcases List.mem_cons.1 hk with h | h; exact h ▸ H8.low.1; exact (H8.rt.row.lt k (by simpa using h)).1))
          go_roundw
          case rel =>
           subst hX hY hva hvb
           exact ⟨j + 1, _, by omega, by go_num, hRn, ⟨K8, L, vo, v9, P, _, H9, hp9⟩⟩
          case measure => simpa [RowKit.intOf] using hm1.out
        ·as_aux_lemma =>
          have hE2 : ¬ ((EE : Int) = 0) := by omega
          have hno : wrO n.a W0 = [] := wr_none (by rw [hEE]; exact hE)
          rw [hno, List.append_nil] at hRn
          go_wp2_with fail
          go_roundw
          case rel =>
           subst hX hY hva hvb
           exact ⟨j + 1, _, by omega, by go_num, hRn, ⟨K8, L, vo, vt, P, Q, H8, hp8⟩⟩
          case measure => simpa [RowKit.intOf] using hm1.out
       ·have hcz : ¬ ((0 : Int) < (a.bn : Int)) ∨ ((0 : Int) < (a.bn : Int) ∧ ¬ ((a.bn : Int) ≤ 128)) ∨ ((0 : Int) < (a.bn : Int) ∧ (a.bn : Int) ≤ 128 ∧ ¬ ((a.bn : Int).tmod 16 = 0)) := by
         rw [Int.tmod_eq_emod_of_nonneg (by omega)]
         omega
        rcases hcz with hz1 | ⟨hq0, hz1⟩ | ⟨hq0, hz2, hz1⟩
        all_goals
         as_aux_lemma =>
          go_wp2_with (first
       | refine wpList_load_mid rfl 81 _ rfl blk (off + j * 5) rfl a.cells _ hr.out Tryz.underlying81 rfl (by rw [hsz.out]; exact Tryz.sizeGame) ?_
       | (refine wpList_store_blk rfl 81 _ _ rfl wr.heap.size 81 _ a.cells rfl rfl hz0 hsz.out (by rw [hsz.out]; exact Tryz.sizeGame) a.one ?_; intro w7 hB7 hk7 hz7; have hk07 : Kept [] wr w7 := (kept_alloc [] wr _).young hk7 (Nat.le_refl _); have hB7' : a.In w7 wr.heap.size := hB7; obtain ⟨c0, c1, c2, c3, c4⟩ := hB7'.all; have hN7 := hN.kept0 hk07))
          go_roundw
          case rel => exact ⟨j + 1, n, by omega, by go_num, hR.more hj60, hN7⟩
          case measure => simpa [RowKit.intOf] using hm1.out
      ·as_aux_lemma =>
        go_wp2_with (first
       | refine wpList_load_mid rfl 81 _ rfl blk (off + j * 5) rfl a.cells _ hr.out Tryz.underlying81 rfl (by rw [hsz.out]; exact Tryz.sizeGame) ?_
       | (refine wpList_store_blk rfl 81 _ _ rfl wr.heap.size 81 _ a.cells rfl rfl hz0 hsz.out (by rw [hsz.out]; exact Tryz.sizeGame) a.one ?_; intro w7 hB7 hk7 hz7; have hk07 : Kept [] wr w7 := (kept_alloc [] wr _).young hk7 (Nat.le_refl _); have hB7' : a.In w7 wr.heap.size := hB7; obtain ⟨c0, c1, c2, c3, c4⟩ := hB7'.all; have hN7 := hN.kept0 hk07)
       | (go_at_call 30; refine (net_a hN7 hR (by omega)).mono ?_; rintro e w8 ⟨rfl, hN8⟩))
        go_roundw
        case rel => exact ⟨j + 1, _, by omega, by go_num, (hR.stepA.1).j (by omega) (by omega), hN8⟩
        case measure => simpa [RowKit.intOf] using hm1.out
     ·by_cases hbig : 200 < a.bn
      ·as_aux_lemma =>
        have kb : (200 : Int) < (a.bn : Int) := by omega
        go_wp2_with (first
       | refine wpList_load_mid rfl 81 _ rfl blk (off + j * 5) rfl a.cells _ hr.out Tryz.underlying81 rfl (by rw [hsz.out]; exact Tryz.sizeGame) ?_
       | (refine wpList_store_blk rfl 81 _ _ rfl wr.heap.size 81 _ a.cells rfl rfl hz0 hsz.out (by rw [hsz.out]; exact Tryz.sizeGame) a.one ?_; intro w7 hB7 hk7 hz7; have hk07 : Kept [] wr w7 := (kept_alloc [] wr _).young hk7 (Nat.le_refl _); have hB7' : a.In w7 wr.heap.size := hB7; obtain ⟨c0, c1, c2, c3, c4⟩ := hB7'.all; have hN7 := hN.kept0 hk07)
       | (go_at_call 7; refine (q7 _).mono ?_; rintro e w8 ⟨rfl, hk8⟩))
        go_ret
        exact ⟨rfl, hN7.kept.trans hk8⟩
      have kb : ¬ ((200 : Int) < (a.bn : Int)) := by omega
      by_cases hkd : a.k = 0
      ·by_cases hcond : (0 < a.bn ∧ a.bn ≤ 128) ∧ a.bn % 16 = 0
       ·obtain ⟨⟨hc1, hc2⟩, hc3⟩ := hcond
        have e1 : (0 : Int) < (a.bn : Int) := by omega
        have e2 : (a.bn : Int) ≤ 128 := by omega
        have e3 : (a.bn : Int).tmod 16 = 0 := by rw [Int.tmod_eq_emod_of_nonneg (by omega)]; omega
        go_wp2_with (first
      | refine wpList_load_mid rfl 81 _ rfl blk (off + j * 5) rfl a.cells _ hr.out Tryz.underlying81 rfl (by rw [hsz.out]; exact Tryz.sizeGame) ?_
      | (refine wpList_store_blk rfl 81 _ _ rfl wr.heap.size 81 _ a.cells rfl rfl hz0 hsz.out (by rw [hsz.out]; exact Tryz.sizeGame) a.one ?_; intro w7 hB7 hk7 hz7; have hk07 : Kept [] wr w7 := (kept_alloc [] wr _).young hk7 (Nat.le_refl _); have hB7' : a.In w7 wr.heap.size := hB7; obtain ⟨c0, c1, c2, c3, c4⟩ := hB7'.all; have hN7 := hN.kept0 hk07))
        have hK7 := hN.kept.trans hk07
        have hrow := hok.row.kept hN.kept.size hk07 (by simp)
        obtain ⟨K, L, vo, vt, P, Q, Hw, hpw⟩ := hN
        have H0 := Hw.kept0 hk07
        have hp := hpw.trans (Past.of hk07 (by simp))
        have hga : wr.heap.size ∉ L ++ [y.d, y.b1, y.b2] := fun hm => by have := Hw.oth.lt _ hm; omega
        obtain ⟨X, hX⟩ : ∃ X, y = X := ⟨_, rfl⟩
        obtain ⟨Y, hY⟩ : ∃ Y, x = Y := ⟨_, rfl⟩
        have HW : PairIn w7 w.heap.size g 1 y x L K vt vo n.b n.a n.wb n.wa Q P := H0.swap (.inl rfl)
        rw [hX, hY] at HW
        obtain ⟨va, hva⟩ : ∃ u, vt = u := ⟨_, rfl⟩
        obtain ⟨vb, hvb⟩ : ∃ u, vo = u := ⟨_, rfl⟩
        rw [hva, hvb] at HW
        obtain ⟨ga, hgae⟩ : ∃ ga, wr.heap.size = ga := ⟨_, rfl⟩
        have hlt7 := HW.own.lt
        rw [hgae] at hB7'
        have hIa : a.In w7 ga := hB7'
        rw [hgae, hX] at hga
        replace hga : Hid (ga ∉ L ++ [X.d, X.b1, X.b2]) := hga
        have hgs : Hid (g ∉ L ++ [X.d, X.b1, X.b2]) := HW.gs.1
        obtain ⟨W0, hW0⟩ : ∃ W0 : Lw, (⟨(j : Int) + 1, a.o, a.l, a.bs⟩ : Lw) = W0 := ⟨_, rfl⟩
        have hAsk : Asks W0 := by rw [← hW0]; exact ⟨by show (j : Int) + 1 ≤ _; omega, by show a.bs.length ≤ 128; omega, hrow.1⟩
        obtain ⟨l1, l2, l3⟩ := hR.inv.len
        have hph := hR.phi
        have hfl := hR.fly
        have hla := hR.inv.latA
        have hoA := hR.opsA
        have hoB := hR.opsB
        have qW := write_any ((j : Int) + 1) a.o a.l a.ba a.bn a.bc a.bs (by omega) (by omega) w7.drew (HW.kept0 (kept_drew [] w7)).own (bts_in (hrow.kept hK7.size (kept_drew [] w7) (by simp)) (Nat.le_trans hK7.size (kept_drew [] w7).size) HW.low.2.1) (by omega) (by omega) (by omega) (by omega)
        rw [hW0] at qW
        have hwr : IntKind.i64.wrap ((j : Int) + 1) = (j : Int) + 1 := wrap_one j (by omega)
        obtain ⟨EE, hEE⟩ : ∃ E, wrE n.b W0 = E := ⟨_, rfl⟩
        obtain ⟨okB, hokB⟩ : ∃ b, wrB n.b W0 = b := ⟨_, rfl⟩
        rw [hEE, hokB] at qW
        have hRn := hR.writeB (by omega) hAsk
        have hlo : (n.wa).length + (wrO n.b W0).length ≤ 1000000 := by have h9 := hRn.inv.len; have h8 := hRn.phi; have h7 := wr_few n.b W0; omega
        have hbw := hp.size
        clear hokB l1 l2 l3 hoA hoB hla hfl hph
        refine wp_region_held_drew (S := fun W => Blk W g 79 (cells7 1 X.m Y.m X.d Y.d va vb) ∧ a.In W ga) (by kernel_rfl) ⟨HW.box.kept (kept_drew [] _) (by simp), hIa.kept (kept_drew [] _) (by simp)⟩ (fun hP => ?_)
        have hH := hP
        clear hP
        refine tJ 0 ⟨some 101, _, _, _, _, _⟩ (.pointer (some ⟨g, 0, none⟩)) rfl hH ?_
        refine tJ 1 ⟨some 102, _, _, _, _, _⟩ (.int .i64 1) rfl hH ?_
        refine tJ 2 ⟨some 103, _, _, _, _, _⟩ (.pointer (some ⟨g, 0, none⟩)) rfl hH ?_
        refine tJ 3 ⟨some 104, _, _, _, _, _⟩ (.pointer (some ⟨g, 0, none⟩)) rfl hH ?_
        refine tJ 4 ⟨some 105, _, _, _, _, _⟩ (.pointer (some ⟨g, 1, none⟩)) rfl hH ?_
        refine tI 5 ⟨some 106, _, _, _, _, _⟩ (.pointer (some ⟨X.m, 0, none⟩)) rfl (fun W hSw => by have s0 := (hSw.1.cell 1).trans (show _ = some (Value.pointer (some ⟨X.m, 0, none⟩)) from rfl); go_simp) hH ?_
        refine tJ 6 ⟨some 107, _, _, _, _, _⟩ (.int .i64 (j : Int)) rfl hH ?_
        refine tJ 7 ⟨some 108, _, _, _, _, _⟩ (.int .i64 ((j : Int) + 1)) rfl hH ?_
        refine tJ 8 ⟨some 109, _, _, _, _, _⟩ (.pointer (some ⟨ga, 2, none⟩)) rfl hH ?_
        refine tI 9 ⟨some 110, _, _, _, _, _⟩ (.agg #[.int .i64 a.o, .int .i64 a.l]) rfl (fun W hSw => by obtain ⟨s0, s1, s2, s3, s4⟩ := hSw.2.all; go_simp) hH ?_
        refine tJ 10 ⟨some 111, _, _, _, _, _⟩ (.pointer (some ⟨ga, 4, none⟩)) rfl hH ?_
        refine tI 11 ⟨some 112, _, _, _, _, _⟩ (.slice a.ba a.bn a.bc) rfl (fun W hSw => by obtain ⟨s0, s1, s2, s3, s4⟩ := hSw.2.all; go_simp) hH ?_
        refine tC 12 (o := ⟨some 113, _, _, _, _, _⟩) rfl (fun K hK => ?_)
        go_simp
        refine (qW).mono ?_
        rintro e w8 ⟨v8, Q8, K8, rfl, hT8, hG8⟩
        go_wp2_with fail
        have hH1 := (And.intro (hH.1.kept hG8.kept hgs.out) (hH.2.kept hG8.kept hga.out))
        refine hK.out _ _ hH1 (fun hH => ?_)
        clear hH1
        clear hK K
        refine tJ 13 ⟨some 100, _, _, _, _, _⟩ (.tuple #[.bool okB, v8, .int .i64 (EE : Nat)]) rfl hH ?_
        refine tJ 14 ⟨some 114, _, _, _, _, _⟩ (.bool okB) rfl hH ?_
        refine tJ 15 ⟨some 115, _, _, _, _, _⟩ v8 rfl hH ?_
        refine tJ 16 ⟨some 116, _, _, _, _, _⟩ (.int .i64 (EE : Nat)) rfl hH ?_
        refine tJ 17 ⟨some 14, _, _, _, _, _⟩ (.bool okB) rfl hH ?_
        refine tJ 18 ⟨some 15, _, _, _, _, _⟩ v8 rfl hH ?_
        refine tJ 19 ⟨some 16, _, _, _, _, _⟩ (.int .i64 (EE : Nat)) rfl hH ?_
        refine wpAnyH_done (by kernel_rfl) ?_ _
        have HD := HW.kept0 (kept_drew [] w7)
        have hbD : w.heap.size ≤ w7.drew.heap.size := Nat.le_trans hbw (kept_drew [] w7).size
        have H8 := HD.goes hbD hG8
        have hp8 := (hp.trans (Past.of (kept_drew [] w7) (by simp))).trans (Past.of hG8.kept (fun k hk => HW.low.2.1 k hk))
        by_cases hE : EE = 0
        ·as_aux_lemma =>
          obtain rfl : EE = 0 := hE
          have qv := went1 v8 _ Q8 _ w8 H8 hT8 (fun k hk e => by have h1 := (hT8.row.lt k hk).1; have h2 := HD.box.lt; omega) (Nat.le_trans hbw (Nat.le_trans (kept_drew [] w7).size hG8.kept.size)) hlo
          go_wp2_with (go_at_call 32; refine qv.mono ?_; clear qv; rintro e w9 ⟨rfl, v9, H9, hk9, hn9⟩)
          have hp9 := hp8.trans (Past.of (n := w.heap.size) hk9 (fun k hk => by rcases List.mem_cons.1 hk with h | h; exact h ▸ H8.low.1; exact (H8.rt.row.lt k (by simpa using h)).1))
          go_roundw
          case rel =>
           subst hX hY hva hvb
           exact ⟨j + 1, _, by omega, by go_num, hRn, ⟨K, K8, v9, vt, _, Q, H9.swap (.inr rfl), hp9⟩⟩
          case measure => simpa [RowKit.intOf] using hm1.out
        ·as_aux_lemma =>
          have hE2 : ¬ ((EE : Int) = 0) := by omega
          have hno : wrO n.b W0 = [] := wr_none (by rw [hEE]; exact hE)
          rw [hno, List.append_nil] at hRn
          go_wp2_with fail
          go_roundw
          case rel =>
           subst hX hY hva hvb
           exact ⟨j + 1, _, by omega, by go_num, hRn, ⟨K, K8, vo, vt, P, Q, H8.swap (.inr rfl), hp8⟩⟩
          case measure => simpa [RowKit.intOf] using hm1.out
       ·have hcz : ¬ ((0 : Int) < (a.bn : Int)) ∨ ((0 : Int) < (a.bn : Int) ∧ ¬ ((a.bn : Int) ≤ 128)) ∨ ((0 : Int) < (a.bn : Int) ∧ (a.bn : Int) ≤ 128 ∧ ¬ ((a.bn : Int).tmod 16 = 0)) := by
         rw [Int.tmod_eq_emod_of_nonneg (by omega)]
         omega
        rcases hcz with hz1 | ⟨hq0, hz1⟩ | ⟨hq0, hz2, hz1⟩
        all_goals
         as_aux_lemma =>
          go_wp2_with (first
       | refine wpList_load_mid rfl 81 _ rfl blk (off + j * 5) rfl a.cells _ hr.out Tryz.underlying81 rfl (by rw [hsz.out]; exact Tryz.sizeGame) ?_
       | (refine wpList_store_blk rfl 81 _ _ rfl wr.heap.size 81 _ a.cells rfl rfl hz0 hsz.out (by rw [hsz.out]; exact Tryz.sizeGame) a.one ?_; intro w7 hB7 hk7 hz7; have hk07 : Kept [] wr w7 := (kept_alloc [] wr _).young hk7 (Nat.le_refl _); have hB7' : a.In w7 wr.heap.size := hB7; obtain ⟨c0, c1, c2, c3, c4⟩ := hB7'.all; have hN7 := hN.kept0 hk07))
          go_roundw
          case rel => exact ⟨j + 1, n, by omega, by go_num, hR.more hj60, hN7⟩
          case measure => simpa [RowKit.intOf] using hm1.out
      ·as_aux_lemma =>
        go_wp2_with (first
       | refine wpList_load_mid rfl 81 _ rfl blk (off + j * 5) rfl a.cells _ hr.out Tryz.underlying81 rfl (by rw [hsz.out]; exact Tryz.sizeGame) ?_
       | (refine wpList_store_blk rfl 81 _ _ rfl wr.heap.size 81 _ a.cells rfl rfl hz0 hsz.out (by rw [hsz.out]; exact Tryz.sizeGame) a.one ?_; intro w7 hB7 hk7 hz7; have hk07 : Kept [] wr w7 := (kept_alloc [] wr _).young hk7 (Nat.le_refl _); have hB7' : a.In w7 wr.heap.size := hB7; obtain ⟨c0, c1, c2, c3, c4⟩ := hB7'.all; have hN7 := hN.kept0 hk07)
       | (go_at_call 30; refine (net_b hN7 hR (by omega)).mono ?_; rintro e w8 ⟨rfl, hN8⟩))
        go_roundw
        case rel => exact ⟨j + 1, _, by omega, by go_num, (hR.stepB.1).j (by omega) (by omega), hN8⟩
        case measure => simpa [RowKit.intOf] using hm1.out
    ·obtain rfl : j = len := by omega
     have hR1 : Runs n 60 60 := (hR.j hlen (by omega)).k (by omega)
     have hmu0 := hR1.most
     clear hacts hR
     go_wp2_with fail
     go_loopw [17] (fun i wr => ∃ (c : Nat) (n : Net), i = .int .i64 c ∧ Runs n 60 (60 + c) ∧ NetAt w wr g x y n ∧ mu c n + c ≤ 8001) (fun i _ => 20000 - (RowKit.intOf i).toNat)
     case atStart => exact ⟨0, n, rfl, hR1, hN, by omega⟩
     case round =>
      clear hR1 hN hmu0
      obtain ⟨c, n, rfl, hR, hN, hmu⟩ := hrel
      have hc8 : c ≤ 8001 := by omega
      have hm1 : Hid (20000 - (c + 1) < 20000 - c) := by show _ < _; omega
      have hN' := hN
      obtain ⟨K, L, vo, vt, P, Q, H, hp⟩ := hN'
      obtain ⟨oa, oc, rfl⟩ := H.ro.row.form
      obtain ⟨ta, tc, rfl⟩ := H.rt.row.form
      have hoP : P.length = n.wa.length := told_len H.ro
      have htQ : Q.length = n.wb.length := told_len H.rt
      obtain ⟨l1, l2, -⟩ := hR.inv.len
      have hph := hR.phi
      obtain ⟨np, hnp⟩ : ∃ np, P.length = np := ⟨_, rfl⟩
      obtain ⟨nq, hnq⟩ : ∃ nq, Q.length = nq := ⟨_, rfl⟩
      rw [hnp] at hoP H
      rw [hnq] at htQ H
      have kc : (c : Int) < 20000 := by omega
      have hws : IntKind.i64.wrap ((np : Int) + (nq : Int)) = (np : Int) + (nq : Int) := by rw [IntKind.wrap_i64]; omega
      by_cases hne : np + nq = 0
      ·obtain rfl : np = 0 := by omega
       obtain rfl : nq = 0 := by omega
       have ha0 : n.wa = [] := List.eq_nil_of_length_eq_zero hoP.symm
       have hb0 : n.wb = [] := List.eq_nil_of_length_eq_zero htQ.symm
       obtain ⟨z1, z2, z3, z4, z5, z6, z7, z8, z9⟩ := hR.still ha0 hb0
       have qa := fun W (h : NetAt w W g x y n) => net_a h hR (by omega)
       have qb := fun W (h : NetAt w W g x y n) => net_b h hR (by omega)
       rw [z1] at qa
       rw [z2] at qb
       have hw0 : IntKind.i64.wrap 0 = 0 := rfl
       clear l1 l2 hph hmu hm1 hoP htQ hws hnp hnq
       go_wp2_with fail
       refine wp_region_held_drew (S := fun W => Blk W g 79 (cells7 0 x.m y.m x.d y.d (.slice oa 0 oc) (.slice ta 0 tc))) (by kernel_rfl) (H.box.kept (kept_drew [] _) (by simp)) (fun hP => ?_)
       have hH := hP
       clear hP
       refine tJ 0 ⟨some 125, _, _, _, _, _⟩ (.int .i64 (c : Int)) rfl hH ?_
       refine tJ 1 ⟨some 126, _, _, _, _, _⟩ (.bool true) rfl hH ?_
       refine tJ 2 ⟨some 127, _, _, _, _, _⟩ (.bool true) rfl hH ?_
       refine tJ 3 ⟨some 128, _, _, _, _, _⟩ (.pointer (some ⟨g, 0, none⟩)) rfl hH ?_
       refine tJ 4 ⟨some 129, _, _, _, _, _⟩ (.pointer (some ⟨g, 0, none⟩)) rfl hH ?_
       refine tJ 5 ⟨some 130, _, _, _, _, _⟩ (.pointer (some ⟨g, 4, none⟩)) rfl hH ?_
       refine tJ 6 ⟨some 131, _, _, _, _, _⟩ (.pointer (some ⟨g, 4, none⟩)) rfl hH ?_
       refine tI 7 ⟨some 132, _, _, _, _, _⟩ (.slice oa 0 oc) rfl (fun W hSw => by have s0 := (hSw.cell 4).trans (show _ = some (Value.slice oa 0 oc) from rfl); go_simp) hH ?_
       refine tJ 8 ⟨some 133, _, _, _, _, _⟩ (.int .i64 0) rfl hH ?_
       refine tJ 9 ⟨some 134, _, _, _, _, _⟩ (.pointer (some ⟨g, 0, none⟩)) rfl hH ?_
       refine tJ 10 ⟨some 135, _, _, _, _, _⟩ (.pointer (some ⟨g, 0, none⟩)) rfl hH ?_
       refine tJ 11 ⟨some 136, _, _, _, _, _⟩ (.pointer (some ⟨g, 4, none⟩)) rfl hH ?_
       refine tJ 12 ⟨some 137, _, _, _, _, _⟩ (.pointer (some ⟨g, 5, none⟩)) rfl hH ?_
       refine tI 13 ⟨some 138, _, _, _, _, _⟩ (.slice ta 0 tc) rfl (fun W hSw => by have s0 := (hSw.cell 5).trans (show _ = some (Value.slice ta 0 tc) from rfl); go_simp) hH ?_
       refine tJ 14 ⟨some 139, _, _, _, _, _⟩ (.int .i64 0) rfl hH ?_
       refine tJ 15 ⟨some 140, _, _, _, _, _⟩ (.int .i64 0) rfl hH ?_
       refine tJ 16 ⟨some 141, _, _, _, _, _⟩ (.bool false) rfl hH ?_
       refine tJ 17 ⟨some 142, _, _, _, _, _⟩ (.bool false) rfl hH ?_
       refine wpAnyH_done (by kernel_rfl) ?_ _
       go_wp2_with (first
        | (go_at_call 30; refine (qa _ (hN.kept0 (kept_drew [] _))).mono ?_; clear qa; rintro e w2 ⟨rfl, hN2⟩)
        | (go_at_call 30; refine (qb _ hN2).mono ?_; clear qb; rintro e w3 ⟨rfl, K3, L3, v3, u3, P3, Q3, H3, hp3⟩; have hP3 : P3 = [] := (by have := told_len H3.ro; rw [ha0] at this; exact List.eq_nil_of_length_eq_zero this); have hQ3 : Q3 = [] := (by have := told_len H3.rt; rw [hb0] at this; exact List.eq_nil_of_length_eq_zero this); subst hP3 hQ3; obtain ⟨oa3, oc3, rfl⟩ := H3.ro.row.form; obtain ⟨ta3, tc3, rfl⟩ := H3.rt.row.form; obtain ⟨c0, c1, c2, c3, c4, c5, c6⟩ := H3.cells; have qf1 := fun W (h : x.At W K3 n.a) => flights_nil W h z3; have qf2 := fun W (h : y.At W L3 n.b) => flights_nil W h z4; have ql1 := fun W (h : x.At W K3 n.a) => later_nil W h z6; have ql2 := fun W (h : y.At W L3 n.b) => later_nil W h z5; have qc1 := fun W (h : DiskAt W x.d x.b1 x.b2 n.a.d) => cached_nil x.d x.b1 x.b2 n.a.d z8 W h; have qc2 := fun W (h : DiskAt W y.d y.b1 y.b2 n.b.d) => cached_nil y.d y.b1 y.b2 n.b.d z9 W h; have qi1 := fun W (h : DiskAt W x.d x.b1 x.b2 n.a.d) => dImage_any x.d x.b1 x.b2 n.a.d W h; have qi2 := fun W (h : DiskAt W y.d y.b1 y.b2 n.b.d) => dImage_any y.d y.b1 y.b2 n.b.d W h; rw [← z7] at qi2))
       have HZ0 : PairIn w3.drew w.heap.size g 0 x y K3 L3 (.slice oa3 0 oc3) (.slice ta3 0 tc3) n.a n.b n.wa n.wb [] [] := H3.kept0 (kept_drew [] w3)
       have hk03 : Kept [] w w3 := hp3.kept
       clear c0 c1 c2 c3 c4 c5 c6 H hN hp hp3 H3
       as_aux_lemma =>
        refine wp_region_held_drew (S := fun W => Kept [] w3.drew W) (by kernel_rfl) (Kept.refl _ _) (fun hP => ?_)
        have hH := hP
        clear hP
        refine tJ 0 ⟨some 153, _, _, _, _, _⟩ (.pointer (some ⟨g, 0, none⟩)) rfl hH ?_
        refine tJ 1 ⟨some 154, _, _, _, _, _⟩ (.pointer (some ⟨g, 0, none⟩)) rfl hH ?_
        refine tJ 2 ⟨some 155, _, _, _, _, _⟩ (.pointer (some ⟨g, 6, none⟩)) rfl hH ?_
        refine tI 3 ⟨some 156, _, _, _, _, _⟩ (.bool false) rfl (fun W hSw => by have s0 := (HZ0.kept0 hSw).cells.2.2.2.2.2.2; go_simp) hH ?_
        refine tJ 4 ⟨some 157, _, _, _, _, _⟩ (.bool true) rfl hH ?_
        refine tJ 5 ⟨some 158, _, _, _, _, _⟩ (.bool true) rfl hH ?_
        refine tJ 6 ⟨some 159, _, _, _, _, _⟩ (.pointer (some ⟨g, 0, none⟩)) rfl hH ?_
        refine tJ 7 ⟨some 160, _, _, _, _, _⟩ (.pointer (some ⟨g, 0, none⟩)) rfl hH ?_
        refine tJ 8 ⟨some 161, _, _, _, _, _⟩ (.pointer (some ⟨g, 4, none⟩)) rfl hH ?_
        refine tJ 9 ⟨some 162, _, _, _, _, _⟩ (.pointer (some ⟨g, 4, none⟩)) rfl hH ?_
        refine tI 10 ⟨some 163, _, _, _, _, _⟩ (.slice oa3 0 oc3) rfl (fun W hSw => by have s0 := (HZ0.kept0 hSw).cells.2.2.2.2.1; go_simp) hH ?_
        refine tJ 11 ⟨some 164, _, _, _, _, _⟩ (.int .i64 0) rfl hH ?_
        refine tJ 12 ⟨some 165, _, _, _, _, _⟩ (.pointer (some ⟨g, 0, none⟩)) rfl hH ?_
        refine tJ 13 ⟨some 166, _, _, _, _, _⟩ (.pointer (some ⟨g, 0, none⟩)) rfl hH ?_
        refine tJ 14 ⟨some 167, _, _, _, _, _⟩ (.pointer (some ⟨g, 4, none⟩)) rfl hH ?_
        refine tJ 15 ⟨some 168, _, _, _, _, _⟩ (.pointer (some ⟨g, 5, none⟩)) rfl hH ?_
        refine tI 16 ⟨some 169, _, _, _, _, _⟩ (.slice ta3 0 tc3) rfl (fun W hSw => by have s0 := (HZ0.kept0 hSw).cells.2.2.2.2.2.1; go_simp) hH ?_
        refine tJ 17 ⟨some 170, _, _, _, _, _⟩ (.int .i64 0) rfl hH ?_
        refine tJ 18 ⟨some 171, _, _, _, _, _⟩ (.int .i64 0) rfl hH ?_
        refine tJ 19 ⟨some 172, _, _, _, _, _⟩ (.pointer (some ⟨g, 0, none⟩)) rfl hH ?_
        refine tJ 20 ⟨some 173, _, _, _, _, _⟩ (.pointer (some ⟨g, 0, none⟩)) rfl hH ?_
        refine tJ 21 ⟨some 174, _, _, _, _, _⟩ (.pointer (some ⟨g, 0, none⟩)) rfl hH ?_
        refine tJ 22 ⟨some 175, _, _, _, _, _⟩ (.pointer (some ⟨g, 0, none⟩)) rfl hH ?_
        refine tI 23 ⟨some 176, _, _, _, _, _⟩ (.pointer (some ⟨x.m, 0, none⟩)) rfl (fun W hSw => by have s0 := (HZ0.kept0 hSw).cells.1; go_simp) hH ?_
        refine tJ 27 ⟨some 180, _, _, _, _, _⟩ (.pointer (some ⟨g, 0, none⟩)) rfl hH ?_
        refine tJ 28 ⟨some 181, _, _, _, _, _⟩ (.pointer (some ⟨g, 0, none⟩)) rfl hH ?_
        refine tJ 29 ⟨some 182, _, _, _, _, _⟩ (.pointer (some ⟨g, 0, none⟩)) rfl hH ?_
        refine tJ 30 ⟨some 183, _, _, _, _, _⟩ (.pointer (some ⟨g, 1, none⟩)) rfl hH ?_
        refine tI 31 ⟨some 184, _, _, _, _, _⟩ (.pointer (some ⟨y.m, 0, none⟩)) rfl (fun W hSw => by have s0 := (HZ0.kept0 hSw).cells.2.1; go_simp) hH ?_
        refine tJ 35 ⟨some 188, _, _, _, _, _⟩ (.pointer (some ⟨g, 0, none⟩)) rfl hH ?_
        refine tJ 36 ⟨some 189, _, _, _, _, _⟩ (.pointer (some ⟨g, 0, none⟩)) rfl hH ?_
        refine tJ 37 ⟨some 190, _, _, _, _, _⟩ (.pointer (some ⟨g, 0, none⟩)) rfl hH ?_
        refine tJ 38 ⟨some 191, _, _, _, _, _⟩ (.pointer (some ⟨g, 0, none⟩)) rfl hH ?_
        refine tI 39 ⟨some 192, _, _, _, _, _⟩ (.pointer (some ⟨x.m, 0, none⟩)) rfl (fun W hSw => by have s0 := (HZ0.kept0 hSw).cells.1; go_simp) hH ?_
        refine tJ 43 ⟨some 196, _, _, _, _, _⟩ (.pointer (some ⟨g, 0, none⟩)) rfl hH ?_
        refine tJ 44 ⟨some 197, _, _, _, _, _⟩ (.pointer (some ⟨g, 0, none⟩)) rfl hH ?_
        refine tJ 45 ⟨some 198, _, _, _, _, _⟩ (.pointer (some ⟨g, 0, none⟩)) rfl hH ?_
        refine tJ 46 ⟨some 199, _, _, _, _, _⟩ (.pointer (some ⟨g, 1, none⟩)) rfl hH ?_
        refine tI 47 ⟨some 200, _, _, _, _, _⟩ (.pointer (some ⟨y.m, 0, none⟩)) rfl (fun W hSw => by have s0 := (HZ0.kept0 hSw).cells.2.1; go_simp) hH ?_
        as_aux_lemma =>
         refine tC 24 (o := ⟨some 177, _, _, _, _, _⟩) rfl (fun K hK => ?_)
         go_simp
         refine (qf1 _ HZ0.own).mono ?_
         rintro e w4 ⟨a4, p4, rfl, k4⟩
         go_wp2_with fail
         refine hK.out _ _ (hH.trans k4) (fun _ => ?_)
         clear hK K
         refine wpAnyH_stronger (S' := fun W => Kept [] w4 W) (fun W h => (hH.trans k4).trans h) _ _ _ _ ?_
         replace hH := (Kept.refl [] w4)
         have HZ1 := HZ0.kept0 k4
         refine tJ 25 ⟨some 178, _, _, _, _, _⟩ (.int .i64 0) rfl hH ?_
         refine tJ 26 ⟨some 179, _, _, _, _, _⟩ (.int .i64 0) rfl hH ?_
         refine tC 32 (o := ⟨some 185, _, _, _, _, _⟩) rfl (fun K hK => ?_)
         go_simp
         refine (qf2 _ HZ1.oth).mono ?_
         rintro e w5 ⟨a5, p5, rfl, k5⟩
         go_wp2_with fail
         refine hK.out _ _ (hH.trans k5) (fun _ => ?_)
         clear hK K
         refine wpAnyH_stronger (S' := fun W => Kept [] w5 W) (fun W h => (hH.trans k5).trans h) _ _ _ _ ?_
         replace hH := (Kept.refl [] w5)
         have HZ2 := HZ1.kept0 k5
         refine tJ 33 ⟨some 186, _, _, _, _, _⟩ (.int .i64 0) rfl hH ?_
         refine tJ 34 ⟨some 187, _, _, _, _, _⟩ (.int .i64 0) rfl hH ?_
         as_aux_lemma =>
          refine tC 40 (o := ⟨some 193, _, _, _, _, _⟩) rfl (fun K hK => ?_)
          go_simp
          refine (ql1 _ HZ2.own).mono ?_
          rintro e w6 ⟨a6, p6, rfl, k6⟩
          go_wp2_with fail
          refine hK.out _ _ (hH.trans k6) (fun _ => ?_)
          clear hK K
          refine wpAnyH_stronger (S' := fun W => Kept [] w6 W) (fun W h => (hH.trans k6).trans h) _ _ _ _ ?_
          replace hH := (Kept.refl [] w6)
          have HZ3 := HZ2.kept0 k6
          refine tJ 41 ⟨some 194, _, _, _, _, _⟩ (.int .i64 0) rfl hH ?_
          refine tJ 42 ⟨some 195, _, _, _, _, _⟩ (.int .i64 0) rfl hH ?_
          refine tC 48 (o := ⟨some 201, _, _, _, _, _⟩) rfl (fun K hK => ?_)
          go_simp
          refine (ql2 _ HZ3.oth).mono ?_
          rintro e w7 ⟨a7, p7, rfl, k7⟩
          go_wp2_with fail
          refine hK.out _ _ (hH.trans k7) (fun _ => ?_)
          clear hK K
          refine wpAnyH_stronger (S' := fun W => Kept [] w7 W) (fun W h => (hH.trans k7).trans h) _ _ _ _ ?_
          replace hH := (Kept.refl [] w7)
          have HZ4 := HZ3.kept0 k7
          refine tJ 49 ⟨some 202, _, _, _, _, _⟩ (.int .i64 0) rfl hH ?_
          refine tJ 50 ⟨some 203, _, _, _, _, _⟩ (.int .i64 0) rfl hH ?_
          refine tJ 51 ⟨some 204, _, _, _, _, _⟩ (.bool true) rfl hH ?_
          refine tJ 52 ⟨some 205, _, _, _, _, _⟩ (.bool true) rfl hH ?_
          refine tJ 53 ⟨some 206, _, _, _, _, _⟩ (.bool true) rfl hH ?_
          refine tJ 54 ⟨some 207, _, _, _, _, _⟩ (.pointer (some ⟨g, 0, none⟩)) rfl hH ?_
          refine tJ 55 ⟨some 208, _, _, _, _, _⟩ (.pointer (some ⟨g, 0, none⟩)) rfl hH ?_
          refine tJ 56 ⟨some 209, _, _, _, _, _⟩ (.pointer (some ⟨g, 2, none⟩)) rfl hH ?_
          refine tJ 57 ⟨some 210, _, _, _, _, _⟩ (.pointer (some ⟨g, 2, none⟩)) rfl hH ?_
          refine tI 58 ⟨some 211, _, _, _, _, _⟩ (.pointer (some ⟨x.d, 0, none⟩)) rfl (fun W hSw => by have s0 := (HZ4.kept0 hSw).cells.2.2.1; go_simp) hH ?_
          refine tJ 61 ⟨some 214, _, _, _, _, _⟩ (.pointer (some ⟨g, 0, none⟩)) rfl hH ?_
          refine tJ 62 ⟨some 215, _, _, _, _, _⟩ (.pointer (some ⟨g, 0, none⟩)) rfl hH ?_
          refine tJ 63 ⟨some 216, _, _, _, _, _⟩ (.pointer (some ⟨g, 2, none⟩)) rfl hH ?_
          refine tJ 64 ⟨some 217, _, _, _, _, _⟩ (.pointer (some ⟨g, 3, none⟩)) rfl hH ?_
          refine tI 65 ⟨some 218, _, _, _, _, _⟩ (.pointer (some ⟨y.d, 0, none⟩)) rfl (fun W hSw => by have s0 := (HZ4.kept0 hSw).cells.2.2.2.1; go_simp) hH ?_
          as_aux_lemma =>
           refine tC 59 (o := ⟨some 212, _, _, _, _, _⟩) rfl (fun K hK => ?_)
           go_simp
           refine (qi1 _ HZ4.own.disk).mono ?_
           rintro e w8 ⟨v8, rfl, hr8, k8⟩
           go_wp2_with fail
           refine hK.out _ _ (hH.trans k8) (fun _ => ?_)
           clear hK K
           refine wpAnyH_stronger (S' := fun W => Kept [] w8 W) (fun W h => (hH.trans k8).trans h) _ _ _ _ ?_
           replace hH := (Kept.refl [] w8)
           have HZ5 := HZ4.kept0 k8
           refine tI 60 ⟨some 213, _, _, _, _, _⟩ (.string (txt (imgL n.a.d))) rfl (fun W hSw => by have s0 := conv_txt (hr8.kept (Nat.le_refl _) hSw (by simp)); go_simp) hH ?_
           as_aux_lemma =>
            refine tC 66 (o := ⟨some 219, _, _, _, _, _⟩) rfl (fun K hK => ?_)
            go_simp
            refine (qi2 _ HZ5.oth.disk).mono ?_
            rintro e w9 ⟨v9, rfl, hr9, k9⟩
            go_wp2_with fail
            refine hK.out _ _ (hH.trans k9) (fun _ => ?_)
            clear hK K
            refine wpAnyH_stronger (S' := fun W => Kept [] w9 W) (fun W h => (hH.trans k9).trans h) _ _ _ _ ?_
            replace hH := (Kept.refl [] w9)
            have HZ6 := HZ5.kept0 k9
            refine tI 67 ⟨some 220, _, _, _, _, _⟩ (.string (txt (imgL n.a.d))) rfl (fun W hSw => by have s0 := conv_txt (hr9.kept (Nat.le_refl _) hSw (by simp)); go_simp) hH ?_
            refine tJ 68 ⟨some 221, _, _, _, _, _⟩ (.bool true) rfl hH ?_
            refine tJ 69 ⟨some 222, _, _, _, _, _⟩ (.bool true) rfl hH ?_
            refine tJ 70 ⟨some 223, _, _, _, _, _⟩ (.bool true) rfl hH ?_
            refine tJ 71 ⟨some 224, _, _, _, _, _⟩ (.pointer (some ⟨g, 0, none⟩)) rfl hH ?_
            refine tJ 72 ⟨some 225, _, _, _, _, _⟩ (.pointer (some ⟨g, 0, none⟩)) rfl hH ?_
            refine tJ 73 ⟨some 226, _, _, _, _, _⟩ (.pointer (some ⟨g, 2, none⟩)) rfl hH ?_
            refine tJ 74 ⟨some 227, _, _, _, _, _⟩ (.pointer (some ⟨g, 2, none⟩)) rfl hH ?_
            refine tI 75 ⟨some 228, _, _, _, _, _⟩ (.pointer (some ⟨x.d, 0, none⟩)) rfl (fun W hSw => by have s0 := (HZ6.kept0 hSw).cells.2.2.1; go_simp) hH ?_
            refine tJ 78 ⟨some 231, _, _, _, _, _⟩ (.pointer (some ⟨g, 0, none⟩)) rfl hH ?_
            refine tJ 79 ⟨some 232, _, _, _, _, _⟩ (.pointer (some ⟨g, 0, none⟩)) rfl hH ?_
            refine tJ 80 ⟨some 233, _, _, _, _, _⟩ (.pointer (some ⟨g, 2, none⟩)) rfl hH ?_
            refine tJ 81 ⟨some 234, _, _, _, _, _⟩ (.pointer (some ⟨g, 3, none⟩)) rfl hH ?_
            refine tI 82 ⟨some 235, _, _, _, _, _⟩ (.pointer (some ⟨y.d, 0, none⟩)) rfl (fun W hSw => by have s0 := (HZ6.kept0 hSw).cells.2.2.2.1; go_simp) hH ?_
            as_aux_lemma =>
             refine tC 76 (o := ⟨some 229, _, _, _, _, _⟩) rfl (fun K hK => ?_)
             go_simp
             refine (qc1 _ HZ6.own.disk).mono ?_
             rintro e w10 ⟨a10, p10, rfl, k10⟩
             go_wp2_with fail
             refine hK.out _ _ (hH.trans k10) (fun _ => ?_)
             clear hK K
             refine wpAnyH_stronger (S' := fun W => Kept [] w10 W) (fun W h => (hH.trans k10).trans h) _ _ _ _ ?_
             replace hH := (Kept.refl [] w10)
             have HZ7 := HZ6.kept0 k10
             refine tJ 77 ⟨some 230, _, _, _, _, _⟩ (.int .i64 0) rfl hH ?_
             refine tC 83 (o := ⟨some 236, _, _, _, _, _⟩) rfl (fun K hK => ?_)
             go_simp
             refine (qc2 _ HZ7.oth.disk).mono ?_
             rintro e w11 ⟨a11, p11, rfl, k11⟩
             go_wp2_with fail
             refine hK.out _ _ (hH.trans k11) (fun _ => ?_)
             clear hK K
             refine wpAnyH_stronger (S' := fun W => Kept [] w11 W) (fun W h => (hH.trans k11).trans h) _ _ _ _ ?_
             replace hH := (Kept.refl [] w11)
             have HZ8 := HZ7.kept0 k11
             refine tJ 84 ⟨some 237, _, _, _, _, _⟩ (.int .i64 0) rfl hH ?_
             refine tJ 85 ⟨some 238, _, _, _, _, _⟩ (.int .i64 0) rfl hH ?_
             refine tJ 86 ⟨some 239, _, _, _, _, _⟩ (.bool true) rfl hH ?_
             refine tJ 87 ⟨some 240, _, _, _, _, _⟩ (.bool true) rfl hH ?_
             refine tJ 88 ⟨some 241, _, _, _, _, _⟩ (.bool true) rfl hH ?_
             as_aux_lemma =>
              refine tC 89 (o := ⟨some 242, _, _, _, _, _⟩) rfl (fun K hK => ?_)
              go_simp
              refine (q7 _).mono ?_
              rintro e w12 ⟨rfl, k12⟩
              go_wp2_with fail
              have hH1 := (hH.trans k12)
              refine hK.out _ _ hH1 (fun hH => ?_)
              clear hH1
              clear hK K
              refine tJ 90 ⟨some 243, _, _, _, _, _⟩ (.bool true) rfl hH ?_
              refine tJ 91 ⟨some 4, _, _, _, _, _⟩ (.bool true) rfl hH ?_
              refine wpAnyH_done (by kernel_rfl) ?_ _
              go_wp2_with fail
              go_ret
              exact ⟨rfl, ((((((((((hk03.trans (kept_drew [] w3)).trans k4).trans k5).trans k6).trans k7).trans k8).trans k9).trans k10).trans k11)).trans k12⟩
      ·have hgt : (0 : Int) < (np : Int) + (nq : Int) := by omega
       have hne2 : ¬ (n.wa = [] ∧ n.wb = []) := fun h => by rw [h.1] at hoP; rw [h.2] at htQ; simp at hoP htQ; omega
       have hless := hR.less c hne2
       have hRs := hR.step c
       have htm := tmod_two c
       replace hoP : Hid (np = n.wa.length) := hoP
       replace htQ : Hid (nq = n.wb.length) := htQ
       clear l1 l2 hph hnp hnq
       by_cases hpar : c % 2 = 0
       ·rw [hpar] at htm
        have htm' : (c : Int).tmod 2 = 0 := htm
        have hst : stepN c n = stpA n := by unfold stepN; rw [if_pos hpar]
        rw [hst] at hless hRs
        as_aux_lemma =>
         have qa := fun W (h : NetAt w W g x y n) => net_a h hR (by omega)
         go_wp2_with fail
         refine wp_region_held_drew (S := fun W => Blk W g 79 (cells7 0 x.m y.m x.d y.d (.slice oa np oc) (.slice ta nq tc))) (by kernel_rfl) (H.box.kept (kept_drew [] _) (by simp)) (fun hP => ?_)
         have hH := hP
         clear hP
         refine tJ 0 ⟨some 125, _, _, _, _, _⟩ (.int .i64 (c : Int)) rfl hH ?_
         refine tJ 1 ⟨some 126, _, _, _, _, _⟩ (.bool true) rfl hH ?_
         refine tJ 2 ⟨some 127, _, _, _, _, _⟩ (.bool true) rfl hH ?_
         refine tJ 3 ⟨some 128, _, _, _, _, _⟩ (.pointer (some ⟨g, 0, none⟩)) rfl hH ?_
         refine tJ 4 ⟨some 129, _, _, _, _, _⟩ (.pointer (some ⟨g, 0, none⟩)) rfl hH ?_
         refine tJ 5 ⟨some 130, _, _, _, _, _⟩ (.pointer (some ⟨g, 4, none⟩)) rfl hH ?_
         refine tJ 6 ⟨some 131, _, _, _, _, _⟩ (.pointer (some ⟨g, 4, none⟩)) rfl hH ?_
         refine tI 7 ⟨some 132, _, _, _, _, _⟩ (.slice oa np oc) rfl (fun W hSw => by have s0 := (hSw.cell 4).trans (show _ = some (Value.slice oa np oc) from rfl); go_simp) hH ?_
         refine tJ 8 ⟨some 133, _, _, _, _, _⟩ (.int .i64 (np : Int)) rfl hH ?_
         refine tJ 9 ⟨some 134, _, _, _, _, _⟩ (.pointer (some ⟨g, 0, none⟩)) rfl hH ?_
         refine tJ 10 ⟨some 135, _, _, _, _, _⟩ (.pointer (some ⟨g, 0, none⟩)) rfl hH ?_
         refine tJ 11 ⟨some 136, _, _, _, _, _⟩ (.pointer (some ⟨g, 4, none⟩)) rfl hH ?_
         refine tJ 12 ⟨some 137, _, _, _, _, _⟩ (.pointer (some ⟨g, 5, none⟩)) rfl hH ?_
         refine tI 13 ⟨some 138, _, _, _, _, _⟩ (.slice ta nq tc) rfl (fun W hSw => by have s0 := (hSw.cell 5).trans (show _ = some (Value.slice ta nq tc) from rfl); go_simp) hH ?_
         refine tJ 14 ⟨some 139, _, _, _, _, _⟩ (.int .i64 (nq : Int)) rfl hH ?_
         refine tJ 15 ⟨some 140, _, _, _, _, _⟩ (.int .i64 ((np : Int) + (nq : Int))) rfl hH ?_
         refine tJ 16 ⟨some 141, _, _, _, _, _⟩ (.bool true) rfl hH ?_
         refine tJ 17 ⟨some 142, _, _, _, _, _⟩ (.bool true) rfl hH ?_
         refine wpAnyH_done (by kernel_rfl) ?_ _
         go_wp2_with (go_at_call 30; refine (qa _ (hN.kept0 (kept_drew [] _))).mono ?_; clear qa; rintro e w2 ⟨rfl, hN2⟩)
         go_roundw
         case rel => exact ⟨c + 1, _, by go_num, by rw [show 60 + (c + 1) = 60 + c + 1 by omega]; exact hRs, hN2, by omega⟩
         case measure => simpa [RowKit.intOf] using hm1.out
       ·rw [show c % 2 = 1 by omega] at htm
        have htm' : (c : Int).tmod 2 = 1 := htm
        have hst : stepN c n = goesB (stpB n) := by unfold stepN; rw [if_neg hpar]
        rw [hst] at hless hRs
        as_aux_lemma =>
         have qa := fun W (h : NetAt w W g x y n) => net_b h hR (by omega)
         go_wp2_with fail
         refine wp_region_held_drew (S := fun W => Blk W g 79 (cells7 0 x.m y.m x.d y.d (.slice oa np oc) (.slice ta nq tc))) (by kernel_rfl) (H.box.kept (kept_drew [] _) (by simp)) (fun hP => ?_)
         have hH := hP
         clear hP
         refine tJ 0 ⟨some 125, _, _, _, _, _⟩ (.int .i64 (c : Int)) rfl hH ?_
         refine tJ 1 ⟨some 126, _, _, _, _, _⟩ (.bool true) rfl hH ?_
         refine tJ 2 ⟨some 127, _, _, _, _, _⟩ (.bool true) rfl hH ?_
         refine tJ 3 ⟨some 128, _, _, _, _, _⟩ (.pointer (some ⟨g, 0, none⟩)) rfl hH ?_
         refine tJ 4 ⟨some 129, _, _, _, _, _⟩ (.pointer (some ⟨g, 0, none⟩)) rfl hH ?_
         refine tJ 5 ⟨some 130, _, _, _, _, _⟩ (.pointer (some ⟨g, 4, none⟩)) rfl hH ?_
         refine tJ 6 ⟨some 131, _, _, _, _, _⟩ (.pointer (some ⟨g, 4, none⟩)) rfl hH ?_
         refine tI 7 ⟨some 132, _, _, _, _, _⟩ (.slice oa np oc) rfl (fun W hSw => by have s0 := (hSw.cell 4).trans (show _ = some (Value.slice oa np oc) from rfl); go_simp) hH ?_
         refine tJ 8 ⟨some 133, _, _, _, _, _⟩ (.int .i64 (np : Int)) rfl hH ?_
         refine tJ 9 ⟨some 134, _, _, _, _, _⟩ (.pointer (some ⟨g, 0, none⟩)) rfl hH ?_
         refine tJ 10 ⟨some 135, _, _, _, _, _⟩ (.pointer (some ⟨g, 0, none⟩)) rfl hH ?_
         refine tJ 11 ⟨some 136, _, _, _, _, _⟩ (.pointer (some ⟨g, 4, none⟩)) rfl hH ?_
         refine tJ 12 ⟨some 137, _, _, _, _, _⟩ (.pointer (some ⟨g, 5, none⟩)) rfl hH ?_
         refine tI 13 ⟨some 138, _, _, _, _, _⟩ (.slice ta nq tc) rfl (fun W hSw => by have s0 := (hSw.cell 5).trans (show _ = some (Value.slice ta nq tc) from rfl); go_simp) hH ?_
         refine tJ 14 ⟨some 139, _, _, _, _, _⟩ (.int .i64 (nq : Int)) rfl hH ?_
         refine tJ 15 ⟨some 140, _, _, _, _, _⟩ (.int .i64 ((np : Int) + (nq : Int))) rfl hH ?_
         refine tJ 16 ⟨some 141, _, _, _, _, _⟩ (.bool true) rfl hH ?_
         refine tJ 17 ⟨some 142, _, _, _, _, _⟩ (.bool true) rfl hH ?_
         refine wpAnyH_done (by kernel_rfl) ?_ _
         go_wp2_with (go_at_call 30; refine (qa _ (hN.kept0 (kept_drew [] _))).mono ?_; clear qa; rintro e w2 ⟨rfl, hN2⟩)
         go_roundw
         case rel => exact ⟨c + 1, _, by go_num, by rw [show 60 + (c + 1) = 60 + c + 1 by omega]; exact hRs, hN2, by omega⟩
         case measure => simpa [RowKit.intOf] using hm1.out
end Go.Proofs.YtoaeficfmcncjaaGreat.Mirror
