/-
  lives; the walk of ResyncNone.
-/
import Derived.Test.YtfiofdmefgkloaaGreatReF
import Derived.Test.YtfiofdmefgkloaaGreatDataK
import Derived.Test.YtfiofdmefgkloaaGreatReD
import Derived.Test.YtfiofdmefgkloaaGreatReO
import Derived.Deep.CutBlock
import Derived.Test.YtfiofdmefgkloaaGreatPkR
namespace Go.Proofs.YtfiofdmefgkloaaGreat.Resync
open Go.RowKit
open Math Copying
open Pack (Mv Ms mv0 good)
open Bits.Math (has without elems)

/-- A Greet in memory. -/
def greetV (m : Nat) (s : Bool) : Mv := ⟨1, 0, 0, m, s, none, 0, 0, []⟩
theorem greet_ok (m : Nat) (s : Bool) : greetB (greetV m s).ms = true := by
  have hf : Pack.Fine (greetV m s).ms := by
    unfold Pack.Fine greetV Mv.ms
    simp
  show (decide ((1 : Int) = 1) && good (greetV m s).ms) = true
  rw [Pack.good_in hf]
  rfl
theorem greet_at (m : Nat) (s : Bool) (hm : m < 18446744073709551616) (lo hi : Nat) (W : World) : (greetV m s).At lo hi W := ⟨Pack.byteRow_nil lo hi W, hm, (by show _ ≤ (0 : Int); decide), (by show (0 : Int) ≤ _; decide)⟩
set_option maxRecDepth 100000 in
theorem lives_ret : retE (made 16) 0 = 0 := by kernel_rfl
theorem map_one {P : List Mv} {m : Ms} (h : P.map Mv.ms = [m]) : ∃ v, P = [v] ∧ v.ms = m := by
  match P, h with
  | [v], h => exact ⟨v, rfl, by simpa using h⟩
set_option maxRecDepth 100000 in
set_option maxHeartbeats 4000000 in
/-- lives -/
theorem lives_any (w : World) : Calls Tryz.prog 7 #[] w fun e w' => e = .returned (.bool true) ∧ Kept [] w w' := by
  have qa := new_ex 16 (by omega) (by omega) w
  have qb : ∀ (d b1 b2 : Nat) (W : World), DiskAt W d b1 b2 (made 16) → Calls Tryz.prog 10 #[.pointer (some ⟨d, 0, none⟩), .int .i64 0, .int .i64 8, .agg #[.int .i64 1, .int .i64 0, .int .i64 0, .int .u64 0, .bool false, .slice none 0 0], .agg #[.int .i64 1, .int .i64 0, .int .i64 0, .int .u64 0, .bool false, .slice none 0 0]] W fun e w' => ∃ o pl sa n cap P lo, e = .returned (.tuple #[.pointer (some ⟨o, 0, none⟩), .slice sa n cap, .int .i64 0]) ∧ ReAt w' o pl d b1 b2 ⟨retS (made 16) 0, true, 0, true⟩ ∧ (W.heap.size ≤ o ∧ W.heap.size ≤ pl ∧ o < lo ∧ pl < lo ∧ W.heap.size ≤ lo ∧ lo ≤ w'.heap.size) ∧ MRow lo w' (.slice sa n cap) P ∧ P.map Mv.ms = [endM] ∧ (∀ v ∈ P, v.At lo w'.heap.size w') ∧ Kept [d, b1, b2] W w' :=
    fun d b1 b2 W hD => begin_go d b1 b2 (made 16) 0 8 (greetV 0 false) (greetV 0 false) rfl (by show (0 : Nat) ≤ _; omega) rfl (by show (0 : Nat) ≤ _; omega) (by show (0 : Nat) < _; omega) (by show (0 : Nat) < _; omega) (by omega) (by omega) (greet_ok 0 false) (greet_ok 0 false) (.inl rfl) (by decide) lives_ret (fun _ e he => absurd (mem_elems (z := 0).1 he).2 (by rw [Nat.zero_testBit]; decide)) W hD
  generalize retS (made 16) 0 = t at *
  generalize made 16 = s0 at *
  have qs := source_any
  have qo := over_any
  generalize retS (made 16) 0 = t at *
  generalize made 16 = s0 at *
  go_enter Tryz.func7, Tryz.ntmps7
  go_wp2_with (first
    | (go_at_call 8; refine qa.mono ?_; clear qa; rintro e w1 ⟨d, b1, b2, rfl, hD1, hdl, hk1⟩; have hz1 := zero_new w1)
    | (refine wpList_store_blk rfl 26 _ _ rfl w1.heap.size 26 _ [.int .i64 1, .int .i64 0, .int .i64 0, .int .u64 0, .bool false, .slice none 0 0] rfl rfl hz1 rfl Pack.Tryz.sizeM (by simp [Value.oneCell']) ?_; intro w2 hB2 hk2 hz2; have hk12 : Kept [] w1 w2 := (kept_alloc [] w1 _).young hk2 (Nat.le_refl _); have hD2 := hD1.kept hk12 (by simp) (by simp) (by simp); have x0 := hB2.cell 0; have x1 := hB2.cell 1; have x2 := hB2.cell 2; have x3 := hB2.cell 3; have x4 := hB2.cell 4; have x5 := hB2.cell 5; simp at x0 x1 x2 x3 x4 x5)
    | (go_at_call 10; refine (qb d b1 b2 _ hD2).mono ?_; clear qb; rintro e w3 ⟨o, pl, sa, n, cap, P, lo, rfl, hR, hlo, hr, hms, hmem, hk3⟩; obtain ⟨v, rfl, hv⟩ := map_one hms; obtain ⟨hn, hc1, hc2⟩ := hr.len; obtain ⟨g, rfl, hgl, hrg⟩ := hr.at 0 v rfl; have hn1 : n = 1 := hn; subst hn1; have y0 : w3.cell? ⟨g, 0, none⟩ = some (.int .i64 8) := (hrg 0 (.int .i64 v.k) rfl).trans (by rw [show v.k = v.ms.k from rfl, hv]; rfl); unfold maxLen at hc2; clear hv hmem hrg hms hn hr; replace hlo : Hid _ := hlo)
    | (go_at_call 19; refine (qs _ _ _ _ _ _ _ hR).mono ?_; rintro e w3 ⟨rfl, rfl⟩)
    | (go_at_call 20; refine (qo _ _ _ _ _ _ _ hR).mono ?_; rintro e w3 ⟨rfl, rfl⟩))
  go_ret
  have hlo1 := hk1.size
  exact ⟨rfl, (hk1.trans hk12).young3 hk3 (by have := hk1.size; omega) (by have := hk1.size; omega) (by have := hk1.size; omega)⟩
set_option maxRecDepth 100000 in
set_option maxHeartbeats 1000000 in
/-- ResyncNone, of what is let go -/
theorem none_early (x : Mv) (w : World) (hl : x.len ≤ 9223372036854775807) (h : 200 < x.len) : Calls Tryz.prog 6 #[x.val] w fun e w' => e = .returned (.bool true) ∧ Kept [] w w' := by
  obtain ⟨W0, hW0, hX, hk0, hz⟩ := boxed w x
  have q := lives_any
  obtain ⟨a0, a1, a2, a3, a4, a5⟩ := hX.six
  have g : (200 : Int) < (x.len : Int) := by omega
  clear hX h
  unfold Mv.val
  go_enter Tryz.func6, Tryz.ntmps6
  go_wp2_with (go_at_call 7; refine (q _).mono ?_; rintro e w3 ⟨rfl, hk3⟩)
  go_ret
  exact ⟨rfl, hk0.trans hk3⟩
set_option maxRecDepth 100000 in
set_option maxHeartbeats 8000000 in
/-- ResyncNone, of a message -/
theorem none_play (x : Mv) (w : World) (h : x.len ≤ 200) : Calls Tryz.prog 6 #[x.val] w fun e w' => e = .returned (.bool true) ∧ Kept [] w w' := by
  obtain ⟨W0, hW0, hX, hk0, hz⟩ := boxed w x
  have q := lives_any
  have qt := fun p W (h : NoRe W p) => take_none p x W h
  have qs := fun p W (h : NoRe W p) => source_none p W h
  have qo := fun p W (h : NoRe W p) => over_none p W h
  have ql := fun p W (h : NoRe W p) => left_none p W h
  have qb : ∀ W : World, Calls Tryz.prog 10 #[.pointer none, .int .i64 0, .int .i64 16, .agg #[.int .i64 1, .int .i64 0, .int .i64 0, .int .u64 0, .bool false, .slice none 0 0], .agg #[.int .i64 1, .int .i64 0, .int .i64 0, .int .u64 0, .bool false, .slice none 0 0]] W fun e w' => e = .returned (.tuple #[.pointer none, .slice none 0 0, .int .i64 1]) ∧ True ∧ Kept [] W w' := fun W =>
    begin_bad none 0 16 (greetV 0 false) (greetV 0 false) rfl (by show (0 : Nat) ≤ _; omega) rfl (by show (0 : Nat) ≤ _; omega) (by show (0 : Nat) < _; omega) (by show (0 : Nat) < _; omega) (by omega) (by omega) (greet_ok 0 false) (greet_ok 0 false) (.inl rfl) 1 (by decide) (fun _ => True) [] W
      (fun V _ => (retire_none none _ V (.inl rfl)).mono fun e w' ⟨he, hk⟩ => ⟨he, trivial, hk⟩)
  have g : ¬ ((200 : Int) < (x.len : Int)) := by omega
  have kB := kept_alloc [] W0 (.cells #[.pointer none, .pointer none, .bool false, .bool false] 88)
  have hB := blk_new W0 88 #[.pointer none, .pointer none, .bool false, .bool false]
  obtain ⟨a0, a1, a2, a3, a4, a5⟩ := hX.six
  have hS0 : Hid (W0.heap.size = w.heap.size + 1) := hz
  unfold Mv.val at *
  go_enter Tryz.func6, Tryz.ntmps6
  go_upto_region 4 with fail
  have kC := kept_alloc [] (W0.alloc (.cells #[.pointer none, .pointer none, .bool false, .bool false] 88)) (.cells #[.pointer none, .pointer (some ⟨W0.heap.size, 0, none⟩)] 37)
  have hC := blk_new (W0.alloc (.cells #[.pointer none, .pointer none, .bool false, .bool false] 88)) 37 #[.pointer none, .pointer (some ⟨W0.heap.size, 0, none⟩)]
  have hB2 := hB.kept kC (by simp)
  have k2 := (hk0.trans kB).trans kC
  have hX2 := (hX.kept kB (by simp)).kept kC (by simp)
  rw [World.size_alloc] at hC
  obtain ⟨W4, hW4⟩ : ∃ W4, (W0.alloc (.cells #[.pointer none, .pointer none, .bool false, .bool false] 88)).alloc (.cells #[.pointer none, .pointer (some ⟨W0.heap.size, 0, none⟩)] 37) = W4 := ⟨_, rfl⟩
  rw [hW4] at hC hB2 k2 hX2 ⊢
  clear hW4 kB kC hB hX hW0 a0 a1 a2 a3 a4 a5
  generalize W0.heap.size = n0 at *
  go_wp2_with fail
  go_loopw [21] (fun i wr => ∃ j : Nat, j ≤ 2 ∧ i = .int .i64 j ∧ Kept [] W4 wr) (fun i _ => 2 - (RowKit.intOf i).toNat)
  case atStart => exact ⟨0, by omega, rfl, Kept.refl _ _⟩
  case round =>
    obtain ⟨j, hj, rfl, hK⟩ := hrel
    have hXr := hX2.kept hK (by simp)
    have hBr := hB2.kept hK (by simp)
    have hCr := hC.kept hK (by simp)
    obtain ⟨a0, a1, a2, a3, a4, a5⟩ := hXr.six
    by_cases h2 : j < 2
    · rcases (show j = 0 ∨ j = 1 by omega) with rfl | rfl
      · have c := hCr.cell 0
        simp at c
        have hN : ∀ W, NoRe W none := fun W => .inl rfl
        clear h2
        go_wp2_with (first
          | (go_at_call 13; refine (qt none _ (hN _)).mono ?_; rintro e w5 ⟨rfl, hk5⟩)
          | (go_at_call 19; refine (qs none _ (hN _)).mono ?_; rintro e w5 ⟨rfl, rfl⟩)
          | (go_at_call 20; refine (qo none _ (hN _)).mono ?_; rintro e w5 ⟨rfl, rfl⟩)
          | (go_at_call 21; refine (ql none _ (hN _)).mono ?_; rintro e w5 ⟨rfl, rfl⟩))
        go_round
        case rel => exact ⟨1, by omega, rfl, hK.trans hk5⟩
        case measure => simp [RowKit.intOf]
      · have c := hCr.cell 1
        simp at c
        have hN : ∀ W, Kept [] wr W → NoRe W (some ⟨n0, 0, none⟩) := fun W hk => .inr ⟨n0, rfl, hBr.kept hk (by simp)⟩
        clear h2
        go_wp2_with (first
          | (go_at_call 13; refine (qt _ _ (hN _ (Kept.refl _ _))).mono ?_; rintro e w5 ⟨rfl, hk5⟩)
          | (go_at_call 19; refine (qs _ _ (hN _ hk5)).mono ?_; rintro e w5 ⟨rfl, rfl⟩)
          | (go_at_call 20; refine (qo _ _ (hN _ hk5)).mono ?_; rintro e w5 ⟨rfl, rfl⟩)
          | (go_at_call 21; refine (ql _ _ (hN _ hk5)).mono ?_; rintro e w5 ⟨rfl, rfl⟩))
        go_round
        case rel => exact ⟨2, by omega, rfl, hK.trans hk5⟩
        case measure => simp [RowKit.intOf]
    · obtain rfl : j = 2 := by omega
      go_wp2_with (first
        | (go_at_call 10; refine (qb _).mono ?_; rintro e w6 ⟨rfl, -, hk6⟩)
        | (go_at_call 7; refine (q _).mono ?_; rintro e w7 ⟨rfl, hk7⟩))
      go_ret
      exact ⟨rfl, ((k2.trans hK).trans hk6).trans hk7⟩
end Go.Proofs.YtfiofdmefgkloaaGreat.Resync
namespace Go.Proofs.YtfiofdmefgkloaaGreat.Resync
open Go.RowKit
open Math Copying
open Pack (Mv Ms mv0 good)
open Bits.Math (has without elems)

theorem bare_ms (r : Rs) (x : Ms) : ((takeL r x).map bare).map Mv.ms = takeL r x := by
  unfold takeL
  split
  · rfl
  · split
    · split <;> rfl
    · split <;> rfl
theorem takeL_len (r : Rs) (x : Ms) : (takeL r x).length ≤ 1 := by
  unfold takeL
  split
  · simp
  · split
    · split <;> simp
    · split <;> simp
theorem toldS_ops (s : Dk) (e : Int) : (toldS s e).ops ≤ s.ops + 2 := by
  unfold toldS
  split
  · exact map_ops _ _
  · omega
theorem takeS_ops (r : Rs) (x : Ms) (hs : r.d.size ≤ 1024) : (takeS r x).d.ops ≤ r.d.ops + 1027 := by
  have h1 := toldS_ops r.d x.o
  have h2 := ext_ops r.d hs x
  by_cases c1 : r.over = true
  · rw [takeS, if_pos c1]
    omega
  · rw [takeS, if_neg c1]
    by_cases c2 : r.src = true
    · rw [if_pos c2]
      by_cases c3 : x.k = 7 ∧ has r.left x.o = true
      · rw [if_pos c3]
        by_cases c4 : toldE r.d x.o = 0
        · rw [if_pos c4]
          show (toldS r.d x.o).ops ≤ _
          omega
        · rw [if_neg c4]
          show (toldS r.d x.o).ops ≤ _
          omega
      · rw [if_neg c3]
        omega
    · rw [if_neg c2]
      by_cases c3 : x.k = 6
      · rw [if_pos c3]
        by_cases c4 : extE r.d x = 0
        · rw [if_pos c4]
          exact h2
        · rw [if_neg c4]
          exact h2
      · rw [if_neg c3]
        by_cases c4 : x.k = 8
        · rw [if_pos c4]
          show r.d.ops ≤ _
          omega
        · rw [if_neg c4]
          omega
theorem bare_row (P : List Ms) (hP : ∀ m ∈ P, m.m < 18446744073709551616 ∧ m.i = 0) (lo hi : Nat) (W : World) : ∀ y ∈ P.map bare, y.At lo hi W := fun y hy => by
  obtain ⟨m, hm, rfl⟩ := List.mem_map.1 hy
  obtain ⟨h1, h2⟩ := hP m hm
  exact ⟨Pack.byteRow_nil lo hi W, h1, by show _ ≤ m.i; omega, by show m.i ≤ _; omega⟩
theorem takeL_fine (r : Rs) (x : Ms) : ∀ m ∈ takeL r x, m.m < 18446744073709551616 ∧ m.i = 0 ∧ m.d = [] := by
  unfold takeL
  split
  · simp
  · split
    · split <;> simp [endM]
    · split <;> simp [haveM]
/-- A row that is fed: it lies apart from the blocks in K, and so do its messages' bytes. -/
structure Fed (K : List Nat) (W : World) (v : Value) (P : List Mv) : Prop where
  row : MRow 0 W v P
  own : ∀ k, v.ownBlock = some k → k ∉ K
  mem : ∀ x ∈ P, (∃ lo hi, x.At lo hi W ∧ hi ≤ W.heap.size ∧ ∀ k ∈ K, k < lo ∨ hi ≤ k) ∧ x.len ≤ 9223372036854775807
theorem Fed.kept {K : List Nat} {A B : World} {v : Value} {P : List Mv} (h : Fed K A v P) (hk : Kept K A B) : Fed K B v P :=
  ⟨h.row.kept hk h.own, h.own, fun x hx => by
    obtain ⟨⟨lo, hi, h1, h2, h3⟩, h4⟩ := h.mem x hx
    exact ⟨⟨lo, hi, h1.kept h2 hk h3, Nat.le_trans h2 hk.size, h3⟩, h4⟩⟩
/-- Both resyncs, and what they were. -/
structure Pair (W : World) (o p d b1 b2 o' p' d' c1 c2 : Nat) (a b : Rs) : Prop where
  one : ReAt W o p d b1 b2 a
  two : ReAt W o' p' d' c1 c2 b
  off : ∀ k ∈ [o, p, d, b1, b2], k ∉ [o', p', d', c1, c2]
theorem Pair.kept0 {A B : World} {o p d b1 b2 o' p' d' c1 c2 : Nat} {a b : Rs} (h : Pair A o p d b1 b2 o' p' d' c1 c2 a b) (hk : Kept [] A B) : Pair B o p d b1 b2 o' p' d' c1 c2 a b := ⟨h.one.kept0 hk, h.two.kept0 hk, h.off⟩
theorem Pair.left {A B : World} {o p d b1 b2 o' p' d' c1 c2 : Nat} {a b a' : Rs} (h : Pair A o p d b1 b2 o' p' d' c1 c2 a b) (hr : ReAt B o p d b1 b2 a') (hk : Kept [o, p, d, b1, b2] A B) : Pair B o p d b1 b2 o' p' d' c1 c2 a' b :=
  ⟨hr, h.two.kept hk (fun k hk1 hk2 => h.off k hk2 hk1), h.off⟩
theorem Pair.right {A B : World} {o p d b1 b2 o' p' d' c1 c2 : Nat} {a b b' : Rs} (h : Pair A o p d b1 b2 o' p' d' c1 c2 a b) (hr : ReAt B o' p' d' c1 c2 b') (hk : Kept [o', p', d', c1, c2] A B) : Pair B o p d b1 b2 o' p' d' c1 c2 a b' :=
  ⟨h.one.kept hk (fun k hk1 hk2 => h.off k hk1 hk2), hr, h.off⟩
/-- What is left to feed, and what was told. -/
def Rest2 (r0 : Rs) (L : List Ms) (r : Rs) (l acc : List Ms) : Prop := (feed r0 L).1 = (feed r l).1 ∧ (feed r0 L).2.1 = (feed r l).2.1 ∧ (feed r0 L).2.2 = acc ++ (feed r l).2.2
theorem rest2_start (r : Rs) (L : List Ms) : Rest2 r L r L [] := ⟨rfl, rfl, rfl⟩
theorem Rest2.ok {r0 r : Rs} {L l acc : List Ms} {x : Ms} (h : Rest2 r0 L r (x :: l) acc) (he : takeE r x = 0) : Rest2 r0 L (takeS r x) l (acc ++ takeL r x) := by
  obtain ⟨h1, h2, h3⟩ := h
  have e : feed r (x :: l) = ((feed (takeS r x) l).1, (feed (takeS r x) l).2.1, takeL r x ++ (feed (takeS r x) l).2.2) := by rw [feed, if_pos he]
  rw [e] at h1 h2 h3
  exact ⟨h1, h2, by rw [h3, List.append_assoc]⟩
theorem Rest2.bad {r0 r : Rs} {L l acc : List Ms} {x : Ms} (h : Rest2 r0 L r (x :: l) acc) (he : takeE r x ≠ 0) : (feed r0 L).1 = false ∧ (feed r0 L).2.1 = takeS r x := by
  obtain ⟨h1, h2, h3⟩ := h
  have e : feed r (x :: l) = (false, takeS r x, []) := by rw [feed, if_neg he]
  rw [e] at h1 h2
  exact ⟨h1, h2⟩
theorem Rest2.done {r0 r : Rs} {L acc : List Ms} (h : Rest2 r0 L r [] acc) : (feed r0 L).1 = true ∧ (feed r0 L).2.1 = r ∧ (feed r0 L).2.2 = acc := by
  obtain ⟨h1, h2, h3⟩ := h
  rw [feed_nil] at h1 h2 h3
  exact ⟨h1, h2, by rw [h3, List.append_nil]⟩
/-- One of both tells something. -/
def Some_ (P Q : List Mv) : Prop := ¬ (P.map Mv.ms = [] ∧ Q.map Mv.ms = [])
theorem wrap_small (a b : Nat) (ha : a ≤ 4) (hb : b ≤ 4) : wrap64 ((a : Int) + (b : Int)) = (a : Int) + (b : Int) := by
  unfold wrap64
  omega
theorem sum_gt {nx ny : Nat} (h : 0 < nx + ny) : (0 : Int) < (nx : Int) + (ny : Int) := by omega
theorem sum_pos {nx ny : Nat} {P Q : List Mv} (hx : nx = P.length) (hy : ny = Q.length) (h : ¬ (P = [] ∧ Q = [])) : 0 < nx + ny := by
  rcases Nat.eq_zero_or_pos (nx + ny) with g | g
  · exact absurd ⟨List.eq_nil_of_length_eq_zero (by omega), List.eq_nil_of_length_eq_zero (by omega)⟩ h
  · exact g
theorem three {X : Bool × Rs × List Ms} {b : Bool} {r : Rs} {l : List Ms} (h1 : X.1 = b) (h2 : X.2.1 = r) (h3 : X.2.2 = l) : X = (b, r, l) := by
  obtain ⟨x, y, z⟩ := X
  subst h1 h2 h3
  rfl
theorem fed_bare {K : List Nat} {base : Nat} {W : World} {v : Value} {A : List Ms} (hr : MRow base W v (A.map bare)) (hA : ∀ m ∈ A, m.m < 18446744073709551616 ∧ m.i = 0 ∧ m.d = []) (hK : ∀ k ∈ K, k < base) : Fed K W v (A.map bare) :=
  ⟨hr.low (Nat.zero_le _), fun k hk hm => by have := (hr.lt k hk).1; have := hK k hm; omega, fun x hx => ⟨⟨0, 0, bare_row A (fun m hm => ⟨(hA m hm).1, (hA m hm).2.1⟩) 0 0 W x hx, Nat.zero_le _, fun k _ => .inr (Nat.zero_le _)⟩, by
    obtain ⟨m, _, rfl⟩ := List.mem_map.1 hx
    exact Nat.zero_le _⟩⟩
theorem kept_rowK {K : List Nat} {base : Nat} {A B C : World} {v : Value} {P : List Mv} (hr : MRow base B v P) (h : Kept K A B) (hk : Kept v.ownBlock.toList B C) (hb : A.heap.size ≤ base) : Kept K A C := by
  refine ⟨hk.os.trans h.os, hk.tape.trans h.tape, hk.output.trans h.output, Nat.le_trans h.size hk.size, fun k hk1 hk2 => ?_⟩
  refine (hk.block k (Nat.lt_of_lt_of_le hk1 h.size) (fun hm => ?_)).trans (h.block k hk1 hk2)
  have := (hr.lt k (by simpa using hm)).1
  omega
theorem Pair.over {A B : World} {o p d b1 b2 o' p' d' c1 c2 : Nat} {a b : Rs} {base : Nat} {v : Value} {P : List Mv} (h : Pair A o p d b1 b2 o' p' d' c1 c2 a b) (hr : MRow base A v P) (hk : Kept v.ownBlock.toList A B) (hb : ∀ k ∈ [o, p, d, b1, b2, o', p', d', c1, c2], k < base) : Pair B o p d b1 b2 o' p' d' c1 c2 a b :=
  ⟨h.one.kept hk (fun k hk1 hk2 => by have := (hr.lt k (by simpa using hk2)).1; have := hb k (by simp at hk1 ⊢; omega); omega), h.two.kept hk (fun k hk1 hk2 => by have := (hr.lt k (by simpa using hk2)).1; have := hb k (by simp at hk1 ⊢; omega); omega), h.off⟩
set_option maxRecDepth 100000 in
set_option maxHeartbeats 32000000 in
theorem pump_any (o p d b1 b2 o' p' d' c1 c2 : Nat) (a b : Rs) (vx vy : Value) (X Y : List Mv) (hX4 : X.length ≤ 4) (hY4 : Y.length ≤ 4) (ha : a.d.ops ≤ 400000) (hb : b.d.ops ≤ 400000) (w : World) (h : Pair w o p d b1 b2 o' p' d' c1 c2 a b) (hx : Fed [o, p, d, b1, b2, o', p', d', c1, c2] w vx X) (hy : Fed [o, p, d, b1, b2, o', p', d', c1, c2] w vy Y) :
    Calls Tryz.prog 28 #[.pointer (some ⟨o, 0, none⟩), .pointer (some ⟨o', 0, none⟩), vx, vy] w fun e w' => e = .returned (.bool (pumpF 100 a b (X.map Mv.ms) (Y.map Mv.ms)).1) ∧ Pair w' o p d b1 b2 o' p' d' c1 c2 (pumpF 100 a b (X.map Mv.ms) (Y.map Mv.ms)).2.1 (pumpF 100 a b (X.map Mv.ms) (Y.map Mv.ms)).2.2 ∧ Kept [o, p, d, b1, b2, o', p', d', c1, c2] w w' := by
  obtain ⟨PF, hPF⟩ : ∃ PF, pumpF 100 a b (X.map Mv.ms) (Y.map Mv.ms) = PF := ⟨_, rfl⟩
  rw [hPF]
  obtain ⟨sx, cx, rfl⟩ := hx.row.form
  obtain ⟨sy, cy, rfl⟩ := hy.row.form
  have hKlt0 : Hid (∀ k ∈ [o, p, d, b1, b2, o', p', d', c1, c2], k < w.heap.size) := by
    have h1 := h.one.lt
    have h2 := h.two.lt
    show ∀ k ∈ [o, p, d, b1, b2, o', p', d', c1, c2], k < w.heap.size
    simp
    omega
  go_enter Tryz.func28, Tryz.ntmps28
  go_wp2_with fail
  go_loopw [9, 2, 3] (fun i x y wr => ∃ (jj : Nat) (ra rb : Rs) (sx sy : Option Addr) (nx ny cx cy : Nat) (P Q : List Mv), jj ≤ 100 ∧ i = .int .i64 jj ∧ x = .slice sx nx cx ∧ y = .slice sy ny cy ∧ Fed [o, p, d, b1, b2, o', p', d', c1, c2] wr (.slice sx nx cx) P ∧ Fed [o, p, d, b1, b2, o', p', d', c1, c2] wr (.slice sy ny cy) Q ∧ (P.length ≤ 4 ∧ Q.length ≤ 4) ∧ Pair wr o p d b1 b2 o' p' d' c1 c2 ra rb ∧ (ra.d.ops ≤ 400000 + 4108 * jj ∧ rb.d.ops ≤ 400000 + 4108 * jj) ∧ pumpF (100 - jj) ra rb (P.map Mv.ms) (Q.map Mv.ms) = PF ∧ Kept [o, p, d, b1, b2, o', p', d', c1, c2] w wr) (fun i _ _ _ => 100 - (RowKit.intOf i).toNat)
  case atStart => exact ⟨0, a, b, sx, sy, X.length, Y.length, cx, cy, X, Y, by omega, rfl, rfl, rfl, hx, hy, ⟨hX4, hY4⟩, h, ⟨by omega, by omega⟩, hPF, Kept.refl _ _⟩
  case round =>
    obtain ⟨jj, ra, rb, sx, sy, nx, ny, cx, cy, P, Q, hjj, rfl, rfl, rfl, hfx, hfy, ⟨hP4, hQ4⟩, hPr, ⟨hoa, hob⟩, hPF, hKw⟩ := hrel
    obtain ⟨wo, rfl⟩ : ∃ wo, wo = wr := ⟨_, rfl⟩
    obtain ⟨hnx, hcx1, hcx2⟩ := hfx.row.len
    obtain ⟨hny, hcy1, hcy2⟩ := hfy.row.len
    replace hcx2 : cx ≤ 9223372036854775807 := hcx2
    replace hcy2 : cy ≤ 9223372036854775807 := hcy2
    have hKlt : Hid (∀ k ∈ [o, p, d, b1, b2, o', p', d', c1, c2], k < wo.heap.size) := show ∀ k ∈ [o, p, d, b1, b2, o', p', d', c1, c2], k < wo.heap.size from fun k hk => Nat.lt_of_lt_of_le (hKlt0.out k hk) hKw.size
    by_cases hj : jj < 100
    · obtain ⟨N, hN⟩ : ∃ N, 100 - jj = N + 1 := ⟨99 - jj, by omega⟩
      rw [hN] at hPF
      have k1 : (jj : Int) < 100 := by omega
      by_cases hnil : P = [] ∧ Q = []
      · obtain ⟨rfl, rfl⟩ := hnil
        have e := (pump_nil N ra rb).symm.trans hPF
        have hx0 : nx = 0 := hnx
        have hy0 : ny = 0 := hny
        subst hx0 hy0
        clear hPF hN hnx hny
        go_wp2_with fail
        go_ret
        rw [← e]
        exact ⟨rfl, hPr, hKw⟩
      · have hw := wrap_small nx ny (by rw [hnx]; exact hP4) (by rw [hny]; exact hQ4)
        have hpos : ¬ (P.map Mv.ms = [] ∧ Q.map Mv.ms = []) := fun g => hnil ⟨by simpa using g.1, by simpa using g.2⟩
        have hsum := sum_pos hnx hny hnil
        have hgt := sum_gt hsum
        have hPF' : Hid (pumpF (N + 1) ra rb (P.map Mv.ms) (Q.map Mv.ms) = PF) := hPF
        have hpos' : Some_ P Q := hpos
        clear hPF hpos hnil hsum hnx hny
        go_upto_region 6 with fail
        clear hw hgt
        go_loopw [34, 10] (fun i t wr => ∃ (j : Nat) (r : Rs) (sa : Option Addr) (n cap : Nat) (A : List Ms), j ≤ P.length ∧ i = .int .i64 j ∧ t = .slice sa n cap ∧ MRow wo.heap.size wr (.slice sa n cap) (A.map bare) ∧ (∀ m ∈ A, m.m < 18446744073709551616 ∧ m.i = 0 ∧ m.d = []) ∧ (A.length ≤ j ∧ (A.map bare).map Mv.ms = A) ∧ Pair wr o p d b1 b2 o' p' d' c1 c2 ra r ∧ Rest2 rb (P.map Mv.ms) r ((P.drop j).map Mv.ms) A ∧ r.d.ops ≤ rb.d.ops + 1027 * j ∧ Kept [o, p, d, b1, b2, o', p', d', c1, c2] wo wr) (fun i _ _ => P.length - (RowKit.intOf i).toNat)
        case atStart => exact ⟨0, rb, none, 0, 0, [], Nat.zero_le _, rfl, rfl, MRow.nil _ _, by simp, ⟨Nat.le_refl _, rfl⟩, hPr, by rw [List.drop_zero]; exact rest2_start _ _, Nat.le_refl _, Kept.refl _ _⟩
        case round =>
          obtain ⟨j, r, sa, n, cap, A, hj, rfl, rfl, hrow, hA, hAl, hP, hF, ho, hK⟩ := hrel
          by_cases hlt : j < P.length
          · obtain ⟨m, hm⟩ : ∃ m, P[j]? = some m := ⟨_, List.getElem?_eq_getElem hlt⟩
            have hfed := hfx.kept hK
            obtain ⟨⟨lo, hi, hat, hhi, hap⟩, hml⟩ := hfed.mem m (List.mem_of_getElem? hm)
            obtain ⟨g, rfl, -, hcell⟩ := hfed.row.at j m hm
            obtain ⟨hn0, hc0, hc1⟩ := hfed.row.len
            have hdrop : (P.drop j).map Mv.ms = m.ms :: (P.drop (j + 1)).map Mv.ms := by
              rw [List.drop_eq_getElem_cons hlt]
              have : P[j] = m := by
                rw [List.getElem?_eq_getElem hlt] at hm
                exact Option.some.inj hm
              rw [this]
              rfl
            rw [hdrop] at hF
            have hr : Hid (wr.rangeAt g (j * 6) m.cells) := hcell
            have kk : (j : Int) < (nx : Int) := by omega
            have kcap : (j : Int) < (cx : Int) := by omega
            have hm1 : Hid (P.length - (j + 1) < P.length - j) := by show _ < _; omega
            have hb0 := zero_new wr
            have hsz : r.d.size ≤ 1024 := hP.two.disk.valid.top
            have hto := takeS_ops r m.ms hsz
            have qt := fun W (hk : Kept [] wr W) => take_any o' p' d' c1 c2 r m lo hi (by omega) W (hP.kept0 hk).two (hat.kept hhi hk (by simp)) (Nat.le_trans hhi hk.size) hml (fun k hk1 => hap k (by simp at hk1 ⊢; omega))
            have hL := takeL_fine r m.ms
            have hLl := takeL_len r m.ms
            have hbm := bare_ms r m.ms
            have hcs : Hid (∀ v ∈ m.cells, v.oneCell' = true) := cells_single m
            have hwr := hK.size
            replace hc1 : Hid _ := hc1
            clear hcell hdrop hfed hm hat hn0
            by_cases he : takeE r m.ms = 0
            · replace hF := hF.ok he
              rw [he] at qt
              generalize takeS r m.ms = r2 at *
              generalize takeL r m.ms = T at *
              go_wp2_with (first
                | refine wpList_load_mid rfl 26 _ rfl g (j * 6) rfl m.cells _ hr.out Tryz.underlying26 rfl Pack.Tryz.sizeM ?_
                | (refine wpList_store_blk rfl 26 _ _ rfl wr.heap.size 26 _ m.cells rfl rfl hb0 rfl Pack.Tryz.sizeM hcs.out ?_; intro w3 hB3 hk3 hz3; have hk3' : Kept [] wr w3 := (kept_alloc [] wr _).young hk3 (Nat.le_refl _); have hI3 : m.In w3 wr.heap.size := hB3; obtain ⟨x0, x1, x2, x3, x4, x5⟩ := hI3.six)
                | (go_at_call 13; refine (qt _ hk3').mono ?_; clear qt; rintro e w4 ⟨sa4, n4, cap4, rfl, hr4, hR4, hk4⟩; have hP4 := (hP.kept0 hk3').right hR4 hk4; have hrow4 := (hrow.kept0 hk3').kept hk4 (fun k hk1 hk2 => by have := (hrow.lt k hk1).1; have := hKlt.out k (by simp at hk2 ⊢; omega); omega); have hle4 : wo.heap.size ≤ w4.heap.size := Nat.le_trans hwr (Nat.le_trans hk3'.size hk4.size))
                | (refine wpList_append_msgs rfl (.tmp 46) (.tmp 47) rfl wo.heap.size (.slice sa n cap) (.slice sa4 n4 cap4) (A.map bare) (T.map bare) rfl rfl hrow4 hr4.lies (by simp; omega) hle4 ?_; intro sa6 n6 cap6 w6 hr6 hk6 ho6))
              have hK4 : Kept [o, p, d, b1, b2, o', p', d', c1, c2] wo w4 := (hK.trans (hk3'.mono (by simp))).trans (hk4.mono (by simp))
              have hK6 : Kept [o, p, d, b1, b2, o', p', d', c1, c2] wo w6 := kept_rowK hrow4 hK4 hk6 (Nat.le_refl _)
              have hP6 : Pair w6 o p d b1 b2 o' p' d' c1 c2 ra r2 := hP4.over hrow4 hk6 hKlt.out
              go_round
              case rel => exact ⟨j + 1, r2, sa6, n6, cap6, A ++ T, by omega, by go_num, rfl, by rw [List.map_append]; exact hr6, fun y hy => (List.mem_append.1 hy).elim (hA y) (hL y), ⟨by rw [List.length_append]; omega, by rw [List.map_append, List.map_append, hAl.2, hbm]⟩, hP6, hF, by omega, hK6⟩
              case measure => simp [RowKit.intOf]; omega
            · have hbad := hF.bad he
              have ne : ((takeE r m.ms : Int) != 0) = true := by simp; omega
              generalize takeS r m.ms = r2 at *
              generalize takeL r m.ms = T at *
              go_wp2_with (first
                | refine wpList_load_mid rfl 26 _ rfl g (j * 6) rfl m.cells _ hr.out Tryz.underlying26 rfl Pack.Tryz.sizeM ?_
                | (refine wpList_store_blk rfl 26 _ _ rfl wr.heap.size 26 _ m.cells rfl rfl hb0 rfl Pack.Tryz.sizeM hcs.out ?_; intro w3 hB3 hk3 hz3; have hk3' : Kept [] wr w3 := (kept_alloc [] wr _).young hk3 (Nat.le_refl _); have hI3 : m.In w3 wr.heap.size := hB3; obtain ⟨x0, x1, x2, x3, x4, x5⟩ := hI3.six)
                | (go_at_call 13; refine (qt _ hk3').mono ?_; clear qt; rintro e w4 ⟨sa4, n4, cap4, rfl, hr4, hR4, hk4⟩; have hP4 := (hP.kept0 hk3').right hR4 hk4))
              go_ret
              have e := (pump_b N hpos' (three hbad.1 hbad.2 rfl)).symm.trans hPF'.out
              rw [← e]
              exact ⟨rfl, hP4, (hKw.trans hK).trans ((hk3'.mono (by simp)).trans (hk4.mono (by simp)))⟩
          · obtain rfl : j = P.length := by omega
            rw [List.drop_length] at hF
            have kn : ¬ (P.length < nx) := by
              have := hfx.row.len.1
              omega
            have feed_b : Hid ((feed rb (P.map Mv.ms)).1 = true ∧ (feed rb (P.map Mv.ms)).2.1 = r ∧ (feed rb (P.map Mv.ms)).2.2 = A) := hF.done
            obtain ⟨w2, rfl⟩ : ∃ w2, w2 = wr := ⟨_, rfl⟩
            obtain ⟨r1, rfl⟩ : ∃ r1, r1 = r := ⟨_, rfl⟩
            obtain ⟨A1, rfl⟩ : ∃ A1, A1 = A := ⟨_, rfl⟩
            have hP1 := hP
            have hrow1 := hrow
            have hA1 := hA
            have hAl1 := hAl
            have ho1 := ho
            have hKw2 := hKw.trans hK
            have hfy2 := hfy.kept hK
            have hKlt2 : Hid (∀ k ∈ [o, p, d, b1, b2, o', p', d', c1, c2], k < w2.heap.size) := show ∀ k ∈ [o, p, d, b1, b2, o', p', d', c1, c2], k < w2.heap.size from fun k hk => Nat.lt_of_lt_of_le (hKlt.out k hk) hK.size
            clear hP hrow hA hAl ho hF hK
            go_wp2_with fail
            go_loopw [52, 11] (fun i t wr => ∃ (j : Nat) (r : Rs) (sa : Option Addr) (n cap : Nat) (A : List Ms), j ≤ Q.length ∧ i = .int .i64 j ∧ t = .slice sa n cap ∧ MRow w2.heap.size wr (.slice sa n cap) (A.map bare) ∧ (∀ m ∈ A, m.m < 18446744073709551616 ∧ m.i = 0 ∧ m.d = []) ∧ (A.length ≤ j ∧ (A.map bare).map Mv.ms = A) ∧ Pair wr o p d b1 b2 o' p' d' c1 c2 r r1 ∧ Rest2 ra (Q.map Mv.ms) r ((Q.drop j).map Mv.ms) A ∧ r.d.ops ≤ ra.d.ops + 1027 * j ∧ Kept [o, p, d, b1, b2, o', p', d', c1, c2] w2 wr) (fun i _ _ => Q.length - (RowKit.intOf i).toNat)
            case atStart => exact ⟨0, ra, none, 0, 0, [], Nat.zero_le _, rfl, rfl, MRow.nil _ _, by simp, ⟨Nat.le_refl _, rfl⟩, hP1, by rw [List.drop_zero]; exact rest2_start _ _, Nat.le_refl _, Kept.refl _ _⟩
            case round =>
              obtain ⟨j, r, sa, n, cap, A, hj, rfl, rfl, hrow, hA, hAl, hP, hF, ho, hK⟩ := hrel
              by_cases hlt : j < Q.length
              · obtain ⟨m, hm⟩ : ∃ m, Q[j]? = some m := ⟨_, List.getElem?_eq_getElem hlt⟩
                have hfed := hfy2.kept hK
                obtain ⟨⟨lo, hi, hat, hhi, hap⟩, hml⟩ := hfed.mem m (List.mem_of_getElem? hm)
                obtain ⟨g, rfl, -, hcell⟩ := hfed.row.at j m hm
                obtain ⟨hn0, hc0, hc1⟩ := hfed.row.len
                have hdrop : (Q.drop j).map Mv.ms = m.ms :: (Q.drop (j + 1)).map Mv.ms := by
                  rw [List.drop_eq_getElem_cons hlt]
                  have : Q[j] = m := by
                    rw [List.getElem?_eq_getElem hlt] at hm
                    exact Option.some.inj hm
                  rw [this]
                  rfl
                rw [hdrop] at hF
                have hr : Hid (wr.rangeAt g (j * 6) m.cells) := hcell
                have kk : (j : Int) < (ny : Int) := by omega
                have kcap : (j : Int) < (cy : Int) := by omega
                have hm1 : Hid (Q.length - (j + 1) < Q.length - j) := by show _ < _; omega
                have hb0 := zero_new wr
                have hsz : r.d.size ≤ 1024 := hP.one.disk.valid.top
                have hto := takeS_ops r m.ms hsz
                have qt := fun W (hk : Kept [] wr W) => take_any o p d b1 b2 r m lo hi (by omega) W (hP.kept0 hk).one (hat.kept hhi hk (by simp)) (Nat.le_trans hhi hk.size) hml (fun k hk1 => hap k (by simp at hk1 ⊢; omega))
                have hL := takeL_fine r m.ms
                have hLl := takeL_len r m.ms
                have hbm := bare_ms r m.ms
                have hcs : Hid (∀ v ∈ m.cells, v.oneCell' = true) := cells_single m
                have hwr := hK.size
                replace hc1 : Hid _ := hc1
                clear hcell hdrop hfed hm hat hn0
                by_cases he : takeE r m.ms = 0
                · replace hF := hF.ok he
                  rw [he] at qt
                  generalize takeS r m.ms = r2 at *
                  generalize takeL r m.ms = T at *
                  go_wp2_with (first
                    | refine wpList_load_mid rfl 26 _ rfl g (j * 6) rfl m.cells _ hr.out Tryz.underlying26 rfl Pack.Tryz.sizeM ?_
                    | (refine wpList_store_blk rfl 26 _ _ rfl wr.heap.size 26 _ m.cells rfl rfl hb0 rfl Pack.Tryz.sizeM hcs.out ?_; intro w3 hB3 hk3 hz3; have hk3' : Kept [] wr w3 := (kept_alloc [] wr _).young hk3 (Nat.le_refl _); have hI3 : m.In w3 wr.heap.size := hB3; obtain ⟨x0, x1, x2, x3, x4, x5⟩ := hI3.six)
                    | (go_at_call 13; refine (qt _ hk3').mono ?_; clear qt; rintro e w4 ⟨sa4, n4, cap4, rfl, hr4, hR4, hk4⟩; have hP4 := (hP.kept0 hk3').left hR4 hk4; have hrow4 := (hrow.kept0 hk3').kept hk4 (fun k hk1 hk2 => by have := (hrow.lt k hk1).1; have := hKlt2.out k (by simp at hk2 ⊢; omega); omega); have hle4 : w2.heap.size ≤ w4.heap.size := Nat.le_trans hwr (Nat.le_trans hk3'.size hk4.size))
                    | (refine wpList_append_msgs rfl (.tmp 64) (.tmp 65) rfl w2.heap.size (.slice sa n cap) (.slice sa4 n4 cap4) (A.map bare) (T.map bare) rfl rfl hrow4 hr4.lies (by simp; omega) hle4 ?_; intro sa6 n6 cap6 w6 hr6 hk6 ho6))
                  have hK4 : Kept [o, p, d, b1, b2, o', p', d', c1, c2] w2 w4 := (hK.trans (hk3'.mono (by simp))).trans (hk4.mono (by simp))
                  have hK6 : Kept [o, p, d, b1, b2, o', p', d', c1, c2] w2 w6 := kept_rowK hrow4 hK4 hk6 (Nat.le_refl _)
                  have hP6 : Pair w6 o p d b1 b2 o' p' d' c1 c2 r2 r1 := hP4.over hrow4 hk6 hKlt2.out
                  go_round
                  case rel => exact ⟨j + 1, r2, sa6, n6, cap6, A ++ T, by omega, by go_num, rfl, by rw [List.map_append]; exact hr6, fun y hy => (List.mem_append.1 hy).elim (hA y) (hL y), ⟨by rw [List.length_append]; omega, by rw [List.map_append, List.map_append, hAl.2, hbm]⟩, hP6, hF, by omega, hK6⟩
                  case measure => simp [RowKit.intOf]; omega
                · have hbad := hF.bad he
                  have ne : ((takeE r m.ms : Int) != 0) = true := by simp; omega
                  generalize takeS r m.ms = r2 at *
                  generalize takeL r m.ms = T at *
                  go_wp2_with (first
                    | refine wpList_load_mid rfl 26 _ rfl g (j * 6) rfl m.cells _ hr.out Tryz.underlying26 rfl Pack.Tryz.sizeM ?_
                    | (refine wpList_store_blk rfl 26 _ _ rfl wr.heap.size 26 _ m.cells rfl rfl hb0 rfl Pack.Tryz.sizeM hcs.out ?_; intro w3 hB3 hk3 hz3; have hk3' : Kept [] wr w3 := (kept_alloc [] wr _).young hk3 (Nat.le_refl _); have hI3 : m.In w3 wr.heap.size := hB3; obtain ⟨x0, x1, x2, x3, x4, x5⟩ := hI3.six)
                    | (go_at_call 13; refine (qt _ hk3').mono ?_; clear qt; rintro e w4 ⟨sa4, n4, cap4, rfl, hr4, hR4, hk4⟩; have hP4 := (hP.kept0 hk3').left hR4 hk4))
                  go_ret
                  have e := (pump_a N hpos' (three feed_b.out.1 feed_b.out.2.1 feed_b.out.2.2) (three hbad.1 hbad.2 rfl)).symm.trans hPF'.out
                  rw [← e]
                  exact ⟨rfl, hP4, (hKw2.trans hK).trans ((hk3'.mono (by simp)).trans (hk4.mono (by simp)))⟩
              · obtain rfl : j = Q.length := by omega
                rw [List.drop_length] at hF
                have kn : ¬ (Q.length < ny) := by
                  have := hfy2.row.len.1
                  omega
                have feed_a : Hid ((feed ra (Q.map Mv.ms)).1 = true ∧ (feed ra (Q.map Mv.ms)).2.1 = r ∧ (feed ra (Q.map Mv.ms)).2.2 = A) := hF.done
                have hK2 := hK
                have hrow3 := hrow1.kept hK (fun k hk1 hk2 => by have := (hrow1.lt k hk1).1; have := hKlt.out k hk2; omega)
                have hfx' := fed_bare hrow hA (fun k hk => hKlt2.out k hk)
                have hfy' := fed_bare hrow3 hA1 (fun k hk => hKlt.out k hk)
                have hPF2 := (pump_step N hpos' (three feed_b.out.1 feed_b.out.2.1 feed_b.out.2.2) (three feed_a.out.1 feed_a.out.2.1 feed_a.out.2.2)).symm.trans hPF'.out
                have hl1 : (A.map bare).length ≤ 4 ∧ (A1.map bare).length ≤ 4 := ⟨by rw [List.length_map]; exact Nat.le_trans hAl.1 hQ4, by rw [List.length_map]; exact Nat.le_trans hAl1.1 hP4⟩
                have hsx := hfx'.row.len.1
                have hsy := hfy'.row.len.1
                have hKz := hKw2.trans hK
                go_wp2_with fail
                go_round
                case rel => exact ⟨jj + 1, r, r1, _, _, _, _, _, _, _, _, by omega, by go_num, rfl, rfl, hfx', hfy', hl1, hP, ⟨by omega, by omega⟩, by rw [hAl.2, hAl1.2, show 100 - (jj + 1) = N by omega]; exact hPF2, hKz⟩
                case measure => simp [RowKit.intOf]; omega
    · have hj' : jj = 100 := by omega
      subst hj'
      have e : (true, ra, rb) = PF := hPF
      clear hPF
      go_wp2_with fail
      go_ret
      rw [← e]
      exact ⟨rfl, hPr, hKw⟩
end Go.Proofs.YtfiofdmefgkloaaGreat.Resync
namespace Go.Proofs.YtfiofdmefgkloaaGreat.Resync
open Go.RowKit
open Math Copying
open Pack (Mv Ms mv0 good)
open Bits.Math (has without elems)

/-- Two disks in memory, apart. -/
structure Duo (W : World) (d b1 b2 : Nat) (s : Dk) (x c1 c2 : Nat) (t : Dk) : Prop where
  one : DiskAt W d b1 b2 s
  two : DiskAt W x c1 c2 t
theorem Duo.kept {A B : World} {d b1 b2 x c1 c2 : Nat} {s t : Dk} (h : Duo A d b1 b2 s x c1 c2 t) (hk : Kept [] A B) : Duo B d b1 b2 s x c1 c2 t := ⟨h.one.kept hk (by simp) (by simp) (by simp), h.two.kept hk (by simp) (by simp) (by simp)⟩
set_option maxRecDepth 100000 in
set_option maxHeartbeats 8000000 in
/-- alike, where all is alike -/
theorem alike_any (d b1 b2 : Nat) (s : Dk) (x c1 c2 : Nat) (t : Dk) (z : Nat) (hz : z < 18446744073709551616) (ha : Alike s t z) (w : World) (h : Duo w d b1 b2 s x c1 c2 t) :
    Calls Tryz.prog 29 #[.pointer (some ⟨d, 0, none⟩), .pointer (some ⟨x, 0, none⟩), .int .u64 (z : Int)] w fun e w' => e = .returned (.bool true) ∧ Kept [] w w' := by
  have q2 := Bits.refList_any z w hz
  have ha' : Hid (∀ e ∈ elems z, gotE s (Span.wOff e) (Span.wLen e) = 0 ∧ gotE t (Span.wOff e) (Span.wLen e) = 0 ∧ gotL s (Span.wOff e) (Span.wLen e) = gotL t (Span.wOff e) (Span.wLen e)) := ha
  have hlen64 : (elems z).length ≤ 64 := by
    have := List.length_filter_le (fun e => z.testBit e) (List.range 64)
    simpa [elems, Bits.Math.lst] using this
  clear ha
  generalize elems z = L at *
  obtain ⟨N, hN⟩ : ∃ N, L.length = N := ⟨_, rfl⟩
  go_enter Tryz.func29, Tryz.ntmps29
  go_wp2_with (go_at_call 43; refine q2.mono ?_; rintro e w2 ⟨v, rfl, hrow, hB⟩; obtain ⟨a, cp, rfl, hat⟩ := Role.owns_at hrow; rw [hN])
  have hat' : Hid (∀ (j e : Nat), L[j]? = some e → ∃ b off, a = some ⟨b, off, none⟩ ∧ w2.cell? ⟨b, off + j, none⟩ = some (.int .i64 (e : Int))) := hat
  have hN' : Hid (L.length = N) := hN
  have hN64 : N ≤ 64 := by omega
  have hK2 : Kept [] w w2 := Kept.of_below hB []
  have hD2 := h.kept hK2
  clear hrow hB hat hN q2 h
  go_loopw [16] (fun i wr => ∃ j : Nat, j ≤ N ∧ i = .int .i64 j ∧ Kept [] w2 wr) (fun i _ => N - (RowKit.intOf i).toNat)
  case atStart => exact ⟨0, Nat.zero_le _, rfl, Kept.refl _ _⟩
  case round =>
    obtain ⟨j, hj, rfl, hK⟩ := hrel
    by_cases hlt : j < N
    · obtain ⟨e, he⟩ : ∃ e, L[j]? = some e := ⟨_, List.getElem?_eq_getElem (by rw [hN'.out]; exact hlt)⟩
      obtain ⟨g1, g2, g3⟩ := ha'.out e (List.mem_of_getElem? he)
      obtain ⟨bb, off, rfl, hc⟩ := hat'.out j e he
      replace hc : wr.cell? ⟨bb, off + j, none⟩ = some (.int .i64 (e : Int)) := (World.cell?_of_block (hK.block bb (World.block_lt_of_cell? _ _ hc) (by simp))).trans hc
      have hD := hD2.kept hK
      have kk : (j : Int) < (N : Int) := by omega
      have hm1 : Hid (N - (j + 1) < N - j) := by show _ < _; omega
      have q3 := fun W (h : DiskAt W d b1 b2 s) => dExtent_any d b1 b2 s (e : Int) W h
      have q4 := fun W (h : DiskAt W x c1 c2 t) => dExtent_any x c1 c2 t (e : Int) W h
      rw [g1] at q3
      rw [g2, ← g3] at q4
      clear he hat' g1 g2 g3
      generalize gotL s (Span.wOff e) (Span.wLen e) = bs at *
      go_wp2_with (first
        | (go_at_call 66; refine (q3 _ hD.one).mono ?_; clear q3; rintro r w3 ⟨v3, rfl, hR3, hk3⟩; obtain ⟨a3, cap3, e3⟩ := hR3.slice; subst e3; have hD3 := hD.kept hk3)
        | (go_at_call 66; refine (q4 _ hD3.two).mono ?_; clear q4; rintro r w4 ⟨v4, rfl, hR4, hk4⟩; obtain ⟨a4, cap4, e4⟩ := hR4.slice; subst e4; have cv3 := conv_txt (hR3.kept (Nat.le_refl _) hk4 (by simp)); have cv4 := conv_txt hR4))
      go_round
      case rel => exact ⟨j + 1, by omega, by go_num, (hK.trans hk3).trans hk4⟩
      case measure => simp [RowKit.intOf]; omega
    · obtain rfl : j = N := by omega
      go_wp2_with fail
      go_ret
      exact ⟨rfl, hK2.trans hK⟩
end Go.Proofs.YtfiofdmefgkloaaGreat.Resync
namespace Go.Proofs.YtfiofdmefgkloaaGreat.Resync
open Go.RowKit
open Math Copying
open Pack (Mv Ms mv0 good)
open Bits.Math (has without elems)

set_option maxRecDepth 100000 in
/-- Three results, the second in a cell. -/
theorem results_three {fn : Func} {a p u : Tmp} (h : fn.results = #[.tmp a, .cell p 26, .tmp u]) (tmps : Array Value) (w : World) (g : Nat) (x0 x1 x2 x3 x4 x5 : Value)
    (hp : tmps.getD p undef = .pointer (some ⟨g, 0, none⟩)) (hg : Blk w g 26 #[x0, x1, x2, x3, x4, x5]) :
    (results fn tmps).run Tryz.prog w = .ok (.tuple #[tmps.getD a undef, .agg #[x0, x1, x2, x3, x4, x5], tmps.getD u undef]) w := by
  have hl := run_loadVar_row (P := Tryz.prog) w g 26 26 #[x0, x1, x2, x3, x4, x5] (0, 0) _ hg Tryz.underlying26 (by rfl) Pack.Tryz.sizeM
  have hp2 : tmps[p]?.getD undef = .pointer (some ⟨g, 0, none⟩) := by simpa using hp
  simp [results, h, hp2, asAddr, hl, Result.andThen]
theorem side_new (w : World) (D : Nat) (sa : Option Addr) (len cap : Nat) (was : Bool) : Blk (w.alloc (.cells #[.int .u64 (D : Int), .slice sa len cap, .bool was] 69)) w.heap.size 69 #[.int .u64 (D : Int), .slice sa len cap, .bool was] := blk_new w 69 _
set_option maxRecDepth 100000 in
set_option maxHeartbeats 4000000 in
theorem made_bad (D : Nat) (sa : Option Addr) (len cap : Nat) (was : Bool) (hlen : len ≤ 9223372036854775807) (w : World) (hno : 256 < len ∨ len % 16 ≠ 0 ∨ len = 0) :
    Calls Tryz.prog 27 #[.agg #[.int .u64 (D : Int), .slice sa len cap, .bool was]] w fun e w' => ∃ d : Nat, e = .returned (.tuple #[.pointer (some ⟨d, 0, none⟩), .agg #[.int .i64 0, .int .i64 0, .int .i64 0, .int .u64 0, .bool false, .slice none 0 0], .bool false]) ∧ Kept [] w w' := by
  have hB := side_new w D sa len cap was
  have hk0 := kept_alloc [] w (.cells #[.int .u64 (D : Int), .slice sa len cap, .bool was] 69)
  obtain ⟨W0, hW0⟩ : ∃ W0, w.alloc (.cells #[.int .u64 (D : Int), .slice sa len cap, .bool was] 69) = W0 := ⟨_, rfl⟩
  rw [hW0] at hB hk0
  have hz := zero_new W0
  have hk1 := kept_alloc [] W0 (.cells #[.int .i64 0, .int .i64 0, .int .i64 0, .int .u64 0, .bool false, .slice none 0 0] 26)
  obtain ⟨W1, hW1⟩ : ∃ W1, W0.alloc (.cells #[.int .i64 0, .int .i64 0, .int .i64 0, .int .u64 0, .bool false, .slice none 0 0] 26) = W1 := ⟨_, rfl⟩
  rw [hW1] at hz hk1
  have qn := new_ex 24 (by omega) (by omega) W1
  have hB1 := hB.kept hk1 (by simp)
  go_enter Tryz.func27, Tryz.ntmps27
  go_upto_region 2 with (go_at_call 8; refine qn.mono ?_; rintro e w2 ⟨d, b1, b2, rfl, hD, hdl, hk2⟩; have hB2 := hB1.kept hk2 (by simp); have hz2 := hz.kept hk2 (by simp))
  have c1 := hB2.cell 1
  simp at c1
  by_cases h1 : 256 < len
  · have k1 : (256 : Int) < (len : Int) := by omega
    go_wp2_with (first
      | (refine wpList_store_blk rfl 26 _ _ rfl W0.heap.size 26 _ [.int .i64 0, .int .i64 0, .int .i64 0, .int .u64 0, .bool false, .slice none 0 0] rfl rfl hz2 rfl Pack.Tryz.sizeM (by simp [Value.oneCell']) ?_; intro w5 hB5 hk5 hz5))
    refine bodyPost_ret (results_three rfl _ _ W0.heap.size _ _ _ _ _ _ rfl hB5) rfl ?_
    have HK := ((hk0.trans hk1).trans hk2).young (g := W0.heap.size) hk5 hk0.size
    first | exact ⟨d, rfl, HK⟩ | exact ⟨⟨d, rfl⟩, HK⟩
  · have k1 : ¬ ((256 : Int) < (len : Int)) := by omega
    by_cases h2 : len % 16 = 0
    · have h0 : len = 0 := by omega
      subst h0
      go_wp2_with (first
        | (refine wpList_store_blk rfl 26 _ _ rfl W0.heap.size 26 _ [.int .i64 0, .int .i64 0, .int .i64 0, .int .u64 0, .bool false, .slice none 0 0] rfl rfl hz2 rfl Pack.Tryz.sizeM (by simp [Value.oneCell']) ?_; intro w5 hB5 hk5 hz5))
      refine bodyPost_ret (results_three rfl _ _ W0.heap.size _ _ _ _ _ _ rfl hB5) rfl ?_
      have HK := ((hk0.trans hk1).trans hk2).young (g := W0.heap.size) hk5 hk0.size
      first | exact ⟨d, rfl, HK⟩ | exact ⟨⟨d, rfl⟩, HK⟩
    · have k2 : ((len : Int).tmod 16 != 0) = true := by
        rw [Int.tmod_eq_emod_of_nonneg (by omega)]
        simp
        omega
      have k3 : ((len : Int) % 16 != 0) = true := by simp; omega
      go_wp2_with (first
        | (refine wpList_store_blk rfl 26 _ _ rfl W0.heap.size 26 _ [.int .i64 0, .int .i64 0, .int .i64 0, .int .u64 0, .bool false, .slice none 0 0] rfl rfl hz2 rfl Pack.Tryz.sizeM (by simp [Value.oneCell']) ?_; intro w5 hB5 hk5 hz5))
      refine bodyPost_ret (results_three rfl _ _ W0.heap.size _ _ _ _ _ _ rfl hB5) rfl ?_
      have HK := ((hk0.trans hk1).trans hk2).young (g := W0.heap.size) hk5 hk0.size
      first | exact ⟨d, rfl, HK⟩ | exact ⟨⟨d, rfl⟩, HK⟩
/-- made, of a good side -/
theorem putS_ops24 (s : Dk) (hs : s.size ≤ 1024) (n : Int) (bs : List Nat) : (areaS s 0 n bs).ops ≤ s.ops + 1024 := putS_ops s hs 0 n bs
set_option maxRecDepth 100000 in
set_option maxHeartbeats 8000000 in
theorem made_good (D n : Nat) (sa : Option Addr) (len cap : Nat) (was : Bool) (bs : List Nat) (h1 : 1 ≤ n) (hn : n ≤ 16) (hlen : len = 16 * n) (w : World) (hB : Pack.ByteRow 0 w.heap.size w (.slice sa len cap) bs) :
    Calls Tryz.prog 27 #[.agg #[.int .u64 (D : Int), .slice sa len cap, .bool was]] w fun e w' => ∃ d b1 b2 : Nat, e = .returned (.tuple #[.pointer (some ⟨d, 0, none⟩), .agg #[.int .i64 1, .int .i64 0, .int .i64 0, .int .u64 ((D % 16 : Nat) : Int), .bool was, .slice none 0 0], .bool true]) ∧ DiskAt w' d b1 b2 (sideD D bs) ∧ (w.heap.size ≤ d ∧ w.heap.size ≤ b1 ∧ w.heap.size ≤ b2) ∧ Kept [] w w' := by
  have hbl : bs.length = 16 * n := by rw [← hB.len]; exact hlen
  have hbb : ∀ x ∈ bs, x < 256 := hB.1
  obtain ⟨e1, e2, e3, e4, F, hF, hRest, hfu⟩ := side_rest D h1 hn hbl hbb
  have hSd : sideD D bs = flushS (areaS (mapS (nextS (made 24)) (D % 16)) 0 n bs) := by
    unfold sideD
    rw [show bs.length / 16 = n by omega]
  have o1 : (made 24).ops = 0 := rfl
  have o2 := next_ops (made 24)
  have o3 := map_ops (nextS (made 24)) (D % 16)
  have hlg := hRest.log_is
  have hmp := hRest.map_is
  rw [hSd] at hlg hmp ⊢
  have hBs := side_new w D sa len cap was
  have hk0 := kept_alloc [] w (.cells #[.int .u64 (D : Int), .slice sa len cap, .bool was] 69)
  obtain ⟨W0, hW0⟩ : ∃ W0, w.alloc (.cells #[.int .u64 (D : Int), .slice sa len cap, .bool was] 69) = W0 := ⟨_, rfl⟩
  rw [hW0] at hBs hk0
  have hz := zero_new W0
  have hk1 := kept_alloc [] W0 (.cells #[.int .i64 0, .int .i64 0, .int .i64 0, .int .u64 0, .bool false, .slice none 0 0] 26)
  obtain ⟨W1, hW1⟩ : ∃ W1, W0.alloc (.cells #[.int .i64 0, .int .i64 0, .int .i64 0, .int .u64 0, .bool false, .slice none 0 0] 26) = W1 := ⟨_, rfl⟩
  rw [hW1] at hz hk1
  have hk01 := hk0.trans hk1
  have q1 := new_ex 24 (by omega) (by omega) W1
  have q2 := fun d b1 b2 W (h : DiskAt W d b1 b2 (made 24)) => start_any d b1 b2 (made 24) (by omega) W h
  rw [e1] at q2
  have q3 : ∀ d b1 b2 W, DiskAt W d b1 b2 (nextS (made 24)) → Calls Tryz.prog 63 #[.pointer (some ⟨d, 0, none⟩), .int .u64 ((D : Int) % 16)] W fun e w' => e = .returned (.int .i64 0) ∧ DiskAt w' d b1 b2 (mapS (nextS (made 24)) (D % 16)) ∧ Kept [d, b1, b2] W w' := fun d b1 b2 W h => by
    have := mapPut_any d b1 b2 (nextS (made 24)) (D % 16) (by omega) (by omega) W h
    rw [e2] at this
    exact this
  have q4 := fun d b1 b2 W lo hi (h : DiskAt W d b1 b2 (mapS (nextS (made 24)) (D % 16))) hR hhi hap => dWrite_any d b1 b2 (mapS (nextS (made 24)) (D % 16)) 0 n (.slice sa len cap) bs lo hi W h (by omega) hR hhi hap
  rw [e3] at q4
  have q4t := fun d b1 b2 W (h : DiskAt W d b1 b2 (mapS (nextS (made 24)) (D % 16))) => putS_ops24 (mapS (nextS (made 24)) (D % 16)) h.valid.top n bs
  have q5 := fun d b1 b2 W hops (h : DiskAt W d b1 b2 (areaS (mapS (nextS (made 24)) (D % 16)) 0 n bs)) => flush_any d b1 b2 (areaS (mapS (nextS (made 24)) (D % 16)) 0 n bs) hops W h
  rw [e4] at q5
  have q6 := fun d b1 b2 W (h : DiskAt W d b1 b2 (flushS (areaS (mapS (nextS (made 24)) (D % 16)) 0 n bs))) => look_any d b1 b2 _ W h
  rw [hlg, hmp] at q6
  have q7 := fun b W => mine_any b 0 (D % 16) (by omega) (by omega) W
  rw [Nat.zero_or] at q7
  have f0 : ¬ ((256 : Int) < (len : Int)) := by omega
  have f1 : (len : Int).tmod 16 = 0 := by
    rw [Int.tmod_eq_emod_of_nonneg (by omega)]
    omega
  have f2 : (len : Int) % 16 = 0 := by omega
  have f3 : (len : Int).tdiv 16 = (n : Int) := by
    rw [Int.tdiv_eq_ediv_of_nonneg (by omega)]
    omega
  have f4 : (len : Int) / 16 = (n : Int) := by omega
  have f5 : ((len : Int) == 0) = false := by simp; omega
  have hw1 := hk1.size
  have hB1 := hBs.kept hk1 (by simp)
  have hBW : ByteRow 0 w.heap.size w (.slice sa len cap) bs := of_pack hB
  have hs3 : Hid ((mapS (nextS (made 24)) (D % 16)).ops ≤ 4) := by show _ ≤ _; omega
  clear hRest hfu hF hlg hmp hSd o1 o2 o3 e1 e2 e3 e4 hlen hbl hbb hB
  generalize areaS (mapS (nextS (made 24)) (D % 16)) 0 n bs = s4 at *
  generalize flushS s4 = s5 at *
  generalize mapS (nextS (made 24)) (D % 16) = s3 at *
  generalize nextS (made 24) = s2 at *
  generalize made 24 = s1 at *
  have hlt0 : w.heap.size < W0.heap.size := hBs.lt
  have hlt1 : W0.heap.size < W1.heap.size := hz.lt
  obtain ⟨n3, hn3⟩ : ∃ n3, W0.heap.size = n3 := ⟨_, rfl⟩
  go_enter Tryz.func27, Tryz.ntmps27
  go_upto_region 9 with (first
    | (go_at_call 8; refine q1.mono ?_; clear q1; rintro e w2 ⟨d, b1, b2, rfl, hD2, hdl, hk2⟩; have hB2 := hB1.kept hk2 (by simp); have hz2 := hz.kept hk2 (by simp); have c1 := hB2.cell 1; simp at c1)
    | (go_at_call 62; refine (q2 _ _ _ _ hD2).mono ?_; clear q2; rintro e w3 ⟨rfl, hD3, hk3⟩; have hl2 := hD2.lt; have hw2 := hk2.size; have hB3 := hB2.kept hk3 (by simp; omega); have hz3 := hz2.kept hk3 (by have := hz.lt; simp; omega); have hm3 : Blk (w3.alloc (.cells #[.int .u32 0, .int .u64 0, .int .u64 0] 78)) w3.heap.size 78 #[.int .u32 0, .int .u64 0, .int .u64 0] := blk_new w3 78 _)
    | (refine wpList_store_blk rfl 78 _ _ rfl w3.heap.size 78 _ [.int .u32 (startB s1 : Nat), .int .u64 (startL s1 : Nat), .int .u64 (startD s1 : Nat)] rfl rfl hm3 rfl Tryz.size78 (by simp [Value.oneCell']) ?_; intro w4 hm4 hk4 hz4; have hk34 : Kept [] w3 w4 := (kept_alloc [] w3 _).young hk4 (Nat.le_refl _); have hD4 := hD3.kept hk34 (by simp) (by simp) (by simp); have hB4 := hB3.kept hk34 (by simp); have hz4' := hz3.kept hk34 (by simp); have c0 := hB4.cell 0; simp at c0)
    | (go_at_call 63; refine (q3 _ _ _ _ hD4).mono ?_; clear q3; rintro e w5 ⟨rfl, hD5, hk5⟩; have hB5 := hB4.kept hk5 (by simp; omega); have hz5 := hz4'.kept hk5 (by have := hz.lt; simp; omega); have c5 := hB5.cell 1; simp at c5; have hk25 : Kept [d, b1, b2] w2 w5 := (hk3.trans (hk34.mono (by simp))).trans hk5; have hk05 := (hk01.trans hk2).young3 hk25 (by omega) (by omega) (by omega))
    | (go_at_call 64; refine (q4 _ _ _ _ 0 w.heap.size hD5 (hBW.kept (Nat.le_refl _) hk05 (by simp)) hk05.size (by simp; omega)).mono ?_; rintro e w6 ⟨rfl, hD6, hk6⟩; have hB6 := hB5.kept hk6 (by simp; omega); have hz6 := hz5.kept hk6 (by have := hz.lt; simp; omega); have ht6 := q4t _ _ _ _ hD5)
    | (go_at_call 65; refine (q5 _ _ _ _ (by have := hs3.out; omega) hD6).mono ?_; clear q5; rintro e w7 ⟨rfl, hD7, hk7⟩; have hB7 := hB6.kept hk7 (by simp; omega); have hz7 := hz6.kept hk7 (by have := hz.lt; simp; omega)))
  have hbL := hB7.lt
  have bS : ∀ A, Kept [n3] w7 A → Blk A w.heap.size 69 #[.int .u64 (D : Int), .slice sa len cap, .bool was] := fun A hk => hB7.kept hk (by simp; omega)
  have hD7d : DiskAt w7.drew d b1 b2 s5 := hD7.kept (kept_drew [] w7) (by simp) (by simp) (by simp)
  have hZ7 : Blk w7 n3 26 #[.int .i64 0, .int .i64 0, .int .i64 0, .int .u64 0, .bool false, .slice none 0 0] := by
    rw [← hn3]
    exact hz7
  have hKz := hk05.young3 (hk6.trans hk7) (by omega) (by omega) (by omega)
  refine wp_region_held_drew (S := fun A => Kept [n3] w7 A) (by kernel_rfl) (kept_drew [n3] w7) (fun hP => ?_)
  have hH := hP
  clear hP
  refine wpAnyH_take (i := 0) (oi := { dst := some 71, op := Op.move (Operand.tmp 5), type := 30, pos := "law.go:99", after := #[], guard := none }) (v := (.pointer (some ⟨d, 0, none⟩))) rfl (by kernel_rfl) (by kernel_rfl) (by kernel_rfl) (fun _ _ _ h => h) (Or.inl ⟨by rfl, fun W hSw => by go_simp⟩) hH ?_
  try simp only [Act.put, List.setIfInBounds_toArray, List.set_cons_zero, List.set_cons_succ]
  refine wpAnyH_take (i := 1) (oi := { dst := some 72, op := Op.fieldAddr 69 (Operand.tmp 1) 2, type := 0, pos := "law.go:99", after := #[{ on := 8, ground := Ground.gcOnly Departure.lateStores }], guard := none }) (v := (.pointer (some ⟨w.heap.size, 2, none⟩))) rfl (by kernel_rfl) (by kernel_rfl) (by kernel_rfl) (fun _ _ _ h => h) (Or.inl ⟨by rfl, fun W hSw => by go_simp⟩) hH ?_
  try simp only [Act.put, List.setIfInBounds_toArray, List.set_cons_zero, List.set_cons_succ]
  refine wpAnyH_take (i := 2) (oi := { dst := some 73, op := Op.load 4 (Operand.tmp 72), type := 4, pos := "law.go:99", after := #[{ on := 1, ground := Ground.data }, { on := 8, ground := Ground.gcOnly Departure.lateStores }], guard := none }) (v := (.bool was)) rfl (by kernel_rfl) (by kernel_rfl) (by kernel_rfl) (fun _ _ _ h => h) (Or.inl ⟨by rfl, fun W hSw => by have c := (bS W hSw).cell 2; simp at c; go_simp⟩) hH ?_
  try simp only [Act.put, List.setIfInBounds_toArray, List.set_cons_zero, List.set_cons_succ]
  refine wpAnyH_take (i := 3) (oi := { dst := some 74, op := Op.move (Operand.tmp 5), type := 30, pos := "law.go:99", after := #[], guard := none }) (v := (.pointer (some ⟨d, 0, none⟩))) rfl (by kernel_rfl) (by kernel_rfl) (by kernel_rfl) (fun _ _ _ h => h) (Or.inl ⟨by rfl, fun W hSw => by go_simp⟩) hH ?_
  try simp only [Act.put, List.setIfInBounds_toArray, List.set_cons_zero, List.set_cons_succ]
  refine wpAnyH_take (i := 7) (oi := { dst := some 78, op := Op.move (Operand.tmp 12), type := 4, pos := "law.go:99", after := #[{ on := 9, ground := Ground.gcOnly Departure.lateStores }], guard := none }) (v := (.bool true)) rfl (by kernel_rfl) (by kernel_rfl) (by kernel_rfl) (fun _ _ _ h => h) (Or.inl ⟨by rfl, fun W hSw => by go_simp⟩) hH ?_
  try simp only [Act.put, List.setIfInBounds_toArray, List.set_cons_zero, List.set_cons_succ]
  refine wpAnyH_ready (rs := [4]) (by kernel_rfl) (by simp) ?_
  refine AllReadyH.cons (o := { dst := some 75, op := Op.call { callee := Callee.value (Operand.func 31), args := #[Operand.tmp 74], argTypes := #[30] }, type := 78, pos := "law.go:99", after := #[{ on := 3, ground := Ground.data }], guard := none }) rfl (fun KK hKK => ?_) AllReadyH.nil
  go_simp
  refine (q6 _ _ _ _ hD7d).mono ?_
  rintro e w8 ⟨rfl, hk8⟩
  go_wp2_with fail
  have hH1 := hH.trans (hk8.mono (by simp))
  refine hKK.out _ _ hH1 (fun _ => ?_)
  replace hH := hH1
  clear hKK KK hH1
  try simp only [Act.put, List.setIfInBounds_toArray, List.set_cons_zero, List.set_cons_succ]
  refine wpAnyH_ready (rs := [5]) (by kernel_rfl) (by simp) ?_
  refine AllReadyH.cons (o := { dst := some 76, op := Op.call { callee := Callee.value (Operand.func 30), args := #[Operand.tmp 75], argTypes := #[78] }, type := 23, pos := "law.go:99", after := #[{ on := 4, ground := Ground.data }, { on := 4, ground := Ground.chain }], guard := none }) rfl (fun KK hKK => ?_) AllReadyH.nil
  go_simp
  refine (q7 _ _).mono ?_
  rintro e w9 ⟨rfl, hk9⟩
  go_wp2_with fail
  have hH1 := hH.trans (hk9.mono (by simp))
  refine hKK.out _ _ hH1 (fun _ => ?_)
  replace hH := hH1
  clear hKK KK hH1
  try simp only [Act.put, List.setIfInBounds_toArray, List.set_cons_zero, List.set_cons_succ]
  refine wpAnyH_take (i := 6) (oi := { dst := some 77, op := Op.build 26 #[(0, Operand.const (Value.int IntKind.i64 1)), (4, Operand.tmp 73), (3, Operand.tmp 76)], type := 26, pos := "law.go:99", after := #[{ on := 2, ground := Ground.data }, { on := 5, ground := Ground.data }, { on := 8, ground := Ground.gcOnly Departure.lateStores }], guard := none }) (v := (.agg #[.int .i64 1, .int .i64 0, .int .i64 0, .int .u64 ((D % 16 : Nat) : Int), .bool was, .slice none 0 0])) rfl (by kernel_rfl) (by kernel_rfl) (by kernel_rfl) (fun _ _ _ h => h) (Or.inl ⟨by rfl, fun W hSw => by go_simp⟩) hH ?_
  try simp only [Act.put, List.setIfInBounds_toArray, List.set_cons_zero, List.set_cons_succ]
  refine wpAnyH_take (i := 8) (oi := { dst := some 2, op := Op.assign (Operand.tmp 71), type := 30, pos := "law.go:99", after := #[{ on := 0, ground := Ground.data }, { on := 5, ground := Ground.chain }, { on := 0, ground := Ground.phase }, { on := 1, ground := Ground.textOnly Departure.lateStores }, { on := 2, ground := Ground.textOnly Departure.lateStores }, { on := 3, ground := Ground.textOnly Departure.lateStores }, { on := 4, ground := Ground.textOnly Departure.lateStoresUnsure }, { on := 5, ground := Ground.textOnly Departure.lateStoresUnsure }, { on := 6, ground := Ground.textOnly Departure.lateStores }, { on := 7, ground := Ground.textOnly Departure.lateStores }], guard := none }) (v := (.pointer (some ⟨d, 0, none⟩))) rfl (by kernel_rfl) (by kernel_rfl) (by kernel_rfl) (fun _ _ _ h => h) (Or.inl ⟨by rfl, fun W hSw => by go_simp⟩) hH ?_
  try simp only [Act.put, List.setIfInBounds_toArray, List.set_cons_zero, List.set_cons_succ]
  have hb := (hZ7.kept (kept_drew [] w7) (by simp)).kept (hk8.trans hk9) (by simp)
  refine wpAnyH_ready (rs := [9]) (by kernel_rfl) (by simp) ?_
  refine AllReadyH.cons (o := { dst := none, op := Op.store 26 (Operand.tmp 3) (Operand.tmp 77), type := 0, pos := "law.go:99", after := #[{ on := 6, ground := Ground.data }, { on := 8, ground := Ground.chain }, { on := 0, ground := Ground.phase }, { on := 1, ground := Ground.phase }, { on := 2, ground := Ground.phase }, { on := 3, ground := Ground.phase }, { on := 4, ground := Ground.phase }, { on := 5, ground := Ground.phase }, { on := 6, ground := Ground.phase }, { on := 7, ground := Ground.textOnly Departure.lateStores }, { on := 8, ground := Ground.phase }], guard := none }) rfl (fun KK hKK => ?_) AllReadyH.nil
  refine step_store_blk rfl 26 (.tmp 3) (.tmp 77) rfl n3 26 _ [.int .i64 1, .int .i64 0, .int .i64 0, .int .u64 ((D % 16 : Nat) : Int), .bool was, .slice none 0 0] (by simp [Act.eval]) (by simp [Act.eval]) hb rfl Pack.Tryz.sizeM (by simp [Value.oneCell']) ?_
  intro w10 hb10 hk10
  have hH1 := hH.trans hk10
  refine hKK.out _ _ hH1 (fun _ => ?_)
  replace hH := hH1
  clear hKK KK hH1
  refine wpAnyH_take (i := 10) (oi := { dst := some 4, op := Op.assign (Operand.tmp 78), type := 4, pos := "law.go:99", after := #[{ on := 7, ground := Ground.data }, { on := 9, ground := Ground.chain }, { on := 0, ground := Ground.phase }, { on := 1, ground := Ground.phase }, { on := 2, ground := Ground.phase }, { on := 3, ground := Ground.phase }, { on := 4, ground := Ground.phase }, { on := 5, ground := Ground.phase }, { on := 6, ground := Ground.phase }, { on := 7, ground := Ground.phase }, { on := 8, ground := Ground.phase }, { on := 9, ground := Ground.phase }], guard := none }) (v := (.bool true)) rfl (by kernel_rfl) (by kernel_rfl) (by kernel_rfl) (fun _ _ _ h => h) (Or.inl ⟨by rfl, fun W hSw => by go_simp⟩) hH ?_
  refine wpAnyH_done (by kernel_rfl) ?_ _
  go_wp2_with fail
  have hD10 := hD7.kept hH (by have := hz.lt; simp; omega) (by have := hz.lt; simp; omega) (by have := hz.lt; simp; omega)
  have HK := hKz.young (g := n3) (hH.mono (by simp)) (by omega)
  refine bodyPost_ret (results_three rfl _ _ n3 _ _ _ _ _ _ rfl hb10) rfl ?_
  exact ⟨d, b1, b2, rfl, hD10, ⟨by omega, by omega, by omega⟩, HK⟩
end Go.Proofs.YtfiofdmefgkloaaGreat.Resync
namespace Go.Proofs.YtfiofdmefgkloaaGreat.Resync
open Go.RowKit
open Math Copying
open Pack (Mv Ms mv0 good)
open Bits.Math (has without elems)

theorem uni_two {x y : Nat} (hx : x < 16) (hy : y < 16) : Role.uni x y 16 = x ||| y := by
  rw [Role.uni16]
  exact Nat.mod_eq_of_lt (or_lt16 hx hy)
/-- What a Begin leaves, where it is done. -/
structure Begun (W0 W : World) (pv rv : Value) (d b1 b2 : Nat) (r : Rs) (L : List Ms) (o pl lo : Nat) (P : List Mv) : Prop where
  ptr : pv = .pointer (some ⟨o, 0, none⟩)
  re : ReAt W o pl d b1 b2 r
  ord : W0.heap.size ≤ o ∧ W0.heap.size ≤ pl ∧ o < lo ∧ pl < lo ∧ W0.heap.size ≤ lo ∧ lo ≤ W.heap.size
  row : MRow lo W rv P
  ms : P.map Mv.ms = L
  mem : ∀ v ∈ P, v.At lo W.heap.size W
set_option maxRecDepth 100000 in
/-- Begin of a side -/
theorem begin_out (d b1 b2 : Nat) (s : Dk) (who : Int) (hwho : who = 0 ∨ who = 1) (x y : Nat) (hx : x < 16) (hy : y < 16) (wx wy : Bool) (c m : Nat) (F : Nat → List Nat) (hc : c + 2 < 4294967296) (hR : Rest s c 1 0 m F) (hops : s.ops ≤ 900000) (w : World) (hD : DiskAt w d b1 b2 s) :
    Calls Tryz.prog 10 #[.pointer (some ⟨d, 0, none⟩), .int .i64 who, .int .i64 16, .agg #[.int .i64 1, .int .i64 0, .int .i64 0, .int .u64 (x : Int), .bool wx, .slice none 0 0], .agg #[.int .i64 1, .int .i64 0, .int .i64 0, .int .u64 (y : Int), .bool wy, .slice none 0 0]] w fun e w' => ∃ pv rv, e = .returned (.tuple #[pv, rv, .int .i64 (retE s (x ||| y) : Nat)]) ∧ DiskAt w' d b1 b2 (retS s (x ||| y)) ∧ (retE s (x ||| y) = 0 → ∃ o pl lo P, Begun w w' pv rv d b1 b2 (beginR (retS s (x ||| y)) (x ||| y) (Role.gives who wx wy)) (beginL (retS s (x ||| y)) (x ||| y) (Role.gives who wx wy)) o pl lo P) ∧ Kept [d, b1, b2] w w' := by
  have hz := or_lt16 hx hy
  have eu : Role.uni (greetV x wx).m (greetV y wy).m 16 = x ||| y := uni_two hx hy
  have hxl : (greetV x wx).m < 18446744073709551616 := by show x < _; omega
  have hyl : (greetV y wy).m < 18446744073709551616 := by show y < _; omega
  by_cases h0 : retE s (x ||| y) = 0
  · have hg : ∀ e ∈ elems (Role.uni (greetV x wx).m (greetV y wy).m 16), gotE (retS s (Role.uni (greetV x wx).m (greetV y wy).m 16)) (Span.wOff (e : Nat)) (Span.wLen (e : Nat)) = 0 := fun e he => by
      rw [eu] at he ⊢
      rcases hR.retire hc (x ||| y) (by omega) with ⟨_, a2, _⟩ | ⟨a1, _, _⟩
      · exact (a2.gives (elems_four hz e he)).1
      · exact absurd h0 a1
    have q := begin_go d b1 b2 s who 16 (greetV x wx) (greetV y wy) rfl (Nat.zero_le _) rfl (Nat.zero_le _) hxl hyl (by omega) (by omega) (greet_ok x wx) (greet_ok y wy) hwho hops (by rw [eu]; exact h0) (fun _ => hg) w hD
    rw [eu] at q
    refine q.mono fun e w' ⟨o, pl, sa, n, cap, P, lo, he, hR', hlo, hr, hms, hmem, hk⟩ => ?_
    rw [h0]
    exact ⟨.pointer (some ⟨o, 0, none⟩), .slice sa n cap, he, hR'.disk, fun _ => ⟨o, pl, lo, P, rfl, hR', hlo, hr, hms, hmem⟩, hk⟩
  · have q := begin_bad (some ⟨d, 0, none⟩) who 16 (greetV x wx) (greetV y wy) rfl (Nat.zero_le _) rfl (Nat.zero_le _) hxl hyl (by omega) (by omega) (greet_ok x wx) (greet_ok y wy) hwho (retE s (x ||| y)) h0 (fun W => DiskAt W d b1 b2 (retS s (x ||| y))) [d, b1, b2] w
      (fun V hk => by
        rw [eu]
        exact retire_any d b1 b2 s (x ||| y) (by omega) (by omega) V (hD.kept hk (by simp) (by simp) (by simp)))
    refine q.mono fun e w' ⟨he, hd, hk⟩ => ⟨.pointer none, .slice none 0 0, he, hd, fun h => absurd h h0, hk⟩
theorem begin_len {s : Dk} {c b l m : Nat} {F : Nat → List Nat} (hR : Rest s c b l m F) (hF : ∀ i, Sec (F i)) {z : Nat} (hz : z < 16) (g : Bool) : (beginL s z g).length ≤ 4 ∧ ∀ m ∈ beginL s z g, m.d.length ≤ 64 := by
  cases g with
  | false => exact ⟨Nat.zero_le _, fun m hm => by simp [beginL] at hm⟩
  | true =>
    rw [hR.opens hz]
    unfold opening
    split
    · exact ⟨by simp, fun m hm => by
        obtain rfl := List.mem_singleton.1 hm
        exact Nat.zero_le _⟩
    · refine ⟨by rw [List.length_map]; exact elems_len hz, fun m hm => ?_⟩
      obtain ⟨e, _, rfl⟩ := List.mem_map.1 hm
      exact Nat.le_of_eq (extF_length (fun i => (hF i).1) e)
/-- Both rows, and both resyncs, behind both Begins. -/
theorem fed_two {w w1 w2 : World} {pa ra pb rb : Value} {d b1 b2 d' c1 c2 : Nat} {a b : Rs} {La Lb : List Ms} {o p lo o' p' lo' : Nat} {P Q : List Mv} (hA : Begun w w1 pa ra d b1 b2 a La o p lo P) (hB : Begun w1 w2 pb rb d' c1 c2 b Lb o' p' lo' Q) (hk : Kept [d', c1, c2] w1 w2)
    (hd : d < w.heap.size ∧ b1 < w.heap.size ∧ b2 < w.heap.size) (hd' : d' < w.heap.size ∧ c1 < w.heap.size ∧ c2 < w.heap.size) (hoff : ∀ k ∈ [d, b1, b2], k ∉ [d', c1, c2])
    (hLa : ∀ m ∈ La, m.d.length ≤ 64) (hLb : ∀ m ∈ Lb, m.d.length ≤ 64) :
    Pair w2 o p d b1 b2 o' p' d' c1 c2 a b ∧ Fed [o, p, d, b1, b2, o', p', d', c1, c2] w2 ra P ∧ Fed [o, p, d, b1, b2, o', p', d', c1, c2] w2 rb Q := by
  obtain ⟨l1, l2, l3, l4, l5, l6⟩ := hA.ord
  obtain ⟨n1, n2, n3, n4, n5, n6⟩ := hB.ord
  obtain ⟨x1, x2, x3⟩ := hd
  obtain ⟨y1, y2, y3⟩ := hd'
  have hoff' : (d ≠ d' ∧ d ≠ c1 ∧ d ≠ c2) ∧ (b1 ≠ d' ∧ b1 ≠ c1 ∧ b1 ≠ c2) ∧ (b2 ≠ d' ∧ b2 ≠ c1 ∧ b2 ≠ c2) := by simpa using hoff
  obtain ⟨⟨z1, z2, z3⟩, ⟨z4, z5, z6⟩, z7, z8, z9⟩ := hoff'
  have hlen : ∀ {v : Mv} {L : List Ms} {R : List Mv}, R.map Mv.ms = L → (∀ m ∈ L, m.d.length ≤ 64) → v ∈ R → v.len = v.d.length → v.len ≤ 9223372036854775807 := fun hm hL hv he => by
    have := hL _ (by rw [← hm]; exact List.mem_map_of_mem hv)
    simp only [Mv.ms] at this
    omega
  refine ⟨⟨hA.re.kept hk (by simp; omega), hB.re, by simp; omega⟩, ⟨(hA.row.kept hk (fun k hk1 hk2 => ?_)).low (Nat.zero_le _), fun k hk1 hk2 => ?_, fun v hv => ⟨⟨lo, w1.heap.size, (hA.mem v hv).kept (Nat.le_refl _) hk (fun k hm => ?_), hk.size, fun k hm => ?_⟩, hlen hA.ms hLa hv (hA.mem v hv).len⟩⟩,
    ⟨hB.row.low (Nat.zero_le _), fun k hk1 hk2 => ?_, fun v hv => ⟨⟨lo', w2.heap.size, hB.mem v hv, Nat.le_refl _, fun k hm => ?_⟩, hlen hB.ms hLb hv (hB.mem v hv).len⟩⟩⟩
  · have := (hA.row.lt k hk1).1
    simp at hk2
    omega
  · have := hA.row.lt k hk1
    simp at hk2
    omega
  · simp at hm
    omega
  · simp at hm
    omega
  · have := (hB.row.lt k hk1).1
    simp at hk2
    omega
  · simp at hm
    omega
end Go.Proofs.YtfiofdmefgkloaaGreat.Resync
namespace Go.Proofs.YtfiofdmefgkloaaGreat.Resync
open Go.RowKit
open Math Copying
open Pack (Mv Ms mv0 good)
open Bits.Math (has without elems)

/-- May a side be? -/
def okB (len : Nat) : Bool := decide (1 ≤ len ∧ len ≤ 256 ∧ len % 16 = 0)
set_option maxRecDepth 100000 in
/-- made, of any side -/
theorem made_weak (D : Nat) (sa : Option Addr) (len cap : Nat) (was : Bool) (bs : List Nat) (hlen : len ≤ 9223372036854775807) (w : World) (hB : Pack.ByteRow 0 w.heap.size w (.slice sa len cap) bs) :
    Calls Tryz.prog 27 #[.agg #[.int .u64 (D : Int), .slice sa len cap, .bool was]] w fun e w' => ∃ (d : Nat) (k : Int) (m : Nat) (s : Bool), e = .returned (.tuple #[.pointer (some ⟨d, 0, none⟩), .agg #[.int .i64 k, .int .i64 0, .int .i64 0, .int .u64 (m : Int), .bool s, .slice none 0 0], .bool (okB len)]) ∧ Kept [] w w' := by
  by_cases h : 1 ≤ len ∧ len ≤ 256 ∧ len % 16 = 0
  · have e1 : okB len = true := by simpa [okB] using h
    rw [e1]
    exact (made_good D (len / 16) sa len cap was bs (by omega) (by omega) (by omega) w hB).mono fun e w' ⟨d, b1, b2, he, _, _, hk⟩ => ⟨d, 1, _, was, he, hk⟩
  · have e1 : okB len = false := by simpa [okB] using h
    rw [e1]
    exact (made_bad D sa len cap was hlen w (by omega)).mono fun e w' ⟨d, he, hk⟩ => ⟨d, 0, 0, false, he, hk⟩
theorem point_new (w : World) (who k : Int) (spare : Nat) : Blk (w.alloc (.cells #[.int .i64 who, .int .i64 k, .int .u64 (spare : Int)] 82)) w.heap.size 82 #[.int .i64 who, .int .i64 k, .int .u64 (spare : Int)] := blk_new w 82 _
theorem boxS (w : World) (D : Nat) (sa : Option Addr) (len cap : Nat) (was : Bool) : ∃ W0, w.alloc (.cells #[.int .u64 (D : Int), .slice sa len cap, .bool was] 69) = W0 ∧ Blk W0 w.heap.size 69 #[.int .u64 (D : Int), .slice sa len cap, .bool was] ∧ Kept [] w W0 ∧ Hid (W0.heap.size = w.heap.size + 1) := ⟨_, rfl, side_new w D sa len cap was, kept_alloc [] w _, show _ = _ by simp⟩
theorem boxP (w : World) (who k : Int) (spare : Nat) : ∃ W0, w.alloc (.cells #[.int .i64 who, .int .i64 k, .int .u64 (spare : Int)] 82) = W0 ∧ Blk W0 w.heap.size 82 #[.int .i64 who, .int .i64 k, .int .u64 (spare : Int)] ∧ Kept [] w W0 ∧ Hid (W0.heap.size = w.heap.size + 1) := ⟨_, rfl, point_new w who k spare, kept_alloc [] w _, show _ = _ by simp⟩
set_option maxRecDepth 100000 in
set_option maxHeartbeats 8000000 in
/-- ResyncSafe, of what is let go -/
theorem safe_early (D E : Nat) (sa : Option Addr) (la ca : Nat) (wa : Bool) (us : List Nat) (sb : Option Addr) (lb cb : Nat) (wb : Bool) (bs : List Nat) (who k : Int) (spare : Nat) (hla : la ≤ 9223372036854775807) (hlb : lb ≤ 9223372036854775807) (w : World)
    (hA : Pack.ByteRow 0 w.heap.size w (.slice sa la ca) us) (hB : Pack.ByteRow 0 w.heap.size w (.slice sb lb cb) bs) (hno : okB la = false ∨ okB lb = false ∨ k < 0 ∨ 200 < k) :
    Calls Tryz.prog 5 #[.agg #[.int .u64 (D : Int), .slice sa la ca, .bool wa], .agg #[.int .u64 (E : Int), .slice sb lb cb, .bool wb], .agg #[.int .i64 who, .int .i64 k, .int .u64 (spare : Int)]] w fun e w' => e = .returned (.bool true) ∧ Kept [] w w' := by
  obtain ⟨W1, hW1, hS1, k1, z1⟩ := boxS w D sa la ca wa
  obtain ⟨W2, hW2, hS2, k2, z2⟩ := boxS W1 E sb lb cb wb
  obtain ⟨W3, hW3, hS3, k3, z3⟩ := boxP W2 who k spare
  have K3 := (k1.trans k2).trans k3
  have hS1' := (hS1.kept k2 (by simp)).kept k3 (by simp)
  have hS2' := hS2.kept k3 (by simp)
  have p0 := fun n => (hS3.kept (kept_drewN [] W3 n) (by simp)).cell 0
  have p1 := fun n => (hS3.kept (kept_drewN [] W3 n) (by simp)).cell 1
  have p2 := fun n => (hS3.kept (kept_drewN [] W3 n) (by simp)).cell 2
  have a0 := fun n => (hS1'.kept (kept_drewN [] W3 n) (by simp)).cell 0
  have a1 := fun n => (hS1'.kept (kept_drewN [] W3 n) (by simp)).cell 1
  have a2 := fun n => (hS1'.kept (kept_drewN [] W3 n) (by simp)).cell 2
  simp at p0 p1 p2 a0 a1 a2
  have q1 := fun W (hk : Kept [] w W) => made_weak D sa la ca wa us hla W ((hA.kept (Nat.le_refl _) hk (by simp)).mono (Nat.le_refl _) hk.size)
  have q2 := fun W (hk : Kept [] w W) => made_weak E sb lb cb wb bs hlb W ((hB.kept (Nat.le_refl _) hk (by simp)).mono (Nat.le_refl _) hk.size)
  have q3 := lives_any
  have bS2 : Hid (∀ A, Kept [] W3 A → Blk A W1.heap.size 69 #[.int .u64 (E : Int), .slice sb lb cb, .bool wb]) := show ∀ A, Kept [] W3 A → _ from fun A hk => hS2'.kept hk (by simp)
  generalize okB la = ga at *
  generalize okB lb = gb at *
  clear hA hB hla hlb
  have hcase : (ga = false ∨ (ga = true ∧ gb = false)) ∨ (ga = true ∧ gb = true ∧ k < 0) ∨ (ga = true ∧ gb = true ∧ ¬ (k < 0) ∧ 200 < k) := by
    cases ga <;> cases gb <;> simp at hno ⊢ <;> omega
  clear hno
  rcases hcase with (rfl | ⟨rfl, rfl⟩) | ⟨rfl, rfl, g1⟩ | ⟨rfl, rfl, g1, g2⟩
  all_goals
    go_enter Tryz.func5, Tryz.ntmps5
    go_wp2_with fail
    go_quiet (fail)
    go_wp2_with (first
      | (go_at_call 27; refine (q1 _ (K3.trans (kept_drewN [] _ _))).mono ?_; clear q1; rintro e w5 ⟨d, k0, m0, s0, rfl, hk5⟩; have hz5 := zero_new w5; have hk35 : Kept [] W3 w5 := (kept_drewN [] W3 _).trans hk5)
      | (refine wpList_store_blk rfl 26 _ _ rfl w5.heap.size 26 _ [.int .i64 k0, .int .i64 0, .int .i64 0, .int .u64 (m0 : Int), .bool s0, .slice none 0 0] rfl rfl hz5 rfl Pack.Tryz.sizeM (by simp [Value.oneCell']) ?_; clear hz5; intro w6 hB6 hk6 hz6; have hk36 : Kept [] W3 w6 := hk35.trans ((kept_alloc [] w5 _).young hk6 (Nat.le_refl _)); have b0 := (bS2.out w6 hk36).cell 0; have b1 := (bS2.out w6 hk36).cell 1; have b2 := (bS2.out w6 hk36).cell 2; simp at b0 b1 b2)
      | (go_at_call 27; refine (q2 _ (K3.trans hk36)).mono ?_; clear q2; rintro e w7 ⟨d', k1', m1, s1, rfl, hk7⟩; have hz7 := zero_new w7)
      | (refine wpList_store_blk rfl 26 _ _ rfl w7.heap.size 26 _ [.int .i64 k1', .int .i64 0, .int .i64 0, .int .u64 (m1 : Int), .bool s1, .slice none 0 0] rfl rfl hz7 rfl Pack.Tryz.sizeM (by simp [Value.oneCell']) ?_; intro w8 hB8 hk8 hz8; have hk08 : Kept [] w w8 := ((K3.trans hk36).trans hk7).trans ((kept_alloc [] w7 _).young hk8 (Nat.le_refl _)))
      | (go_at_call 7; refine (q3 _).mono ?_; rintro e w9 ⟨rfl, hk9⟩))
    go_ret
    exact ⟨rfl, hk08.trans hk9⟩
/-- What lies about in a play of two sides: both disks, both Greets. -/
structure Play (W : World) (d b1 b2 : Nat) (s : Dk) (d' c1 c2 : Nat) (t : Dk) (nA nB ZA ZB : Nat) (wa wb : Bool) : Prop where
  one : DiskAt W d b1 b2 s
  two : DiskAt W d' c1 c2 t
  mine : Blk W nA 26 #[.int .i64 1, .int .i64 0, .int .i64 0, .int .u64 (ZA : Int), .bool wa, .slice none 0 0]
  theirs : Blk W nB 26 #[.int .i64 1, .int .i64 0, .int .i64 0, .int .u64 (ZB : Int), .bool wb, .slice none 0 0]
  off : ∃ m n, (d < m ∧ b1 < m ∧ b2 < m) ∧ (m ≤ nA ∧ nA < n) ∧ (n ≤ d' ∧ n ≤ c1 ∧ n ≤ c2) ∧ d' < nB ∧ c1 < nB ∧ c2 < nB
theorem Play.kept {A B : World} {d b1 b2 d' c1 c2 nA nB ZA ZB : Nat} {s t : Dk} {wa wb : Bool} (h : Play A d b1 b2 s d' c1 c2 t nA nB ZA ZB wa wb) (hk : Kept [] A B) : Play B d b1 b2 s d' c1 c2 t nA nB ZA ZB wa wb :=
  ⟨h.one.kept hk (by simp) (by simp) (by simp), h.two.kept hk (by simp) (by simp) (by simp), h.mine.kept hk (by simp), h.theirs.kept hk (by simp), h.off⟩
theorem Play.left {A B : World} {d b1 b2 d' c1 c2 nA nB ZA ZB : Nat} {s t s' : Dk} {wa wb : Bool} (h : Play A d b1 b2 s d' c1 c2 t nA nB ZA ZB wa wb) (hd : DiskAt B d b1 b2 s') (hk : Kept [d, b1, b2] A B) : Play B d b1 b2 s' d' c1 c2 t nA nB ZA ZB wa wb := by
  obtain ⟨m, n, h1, h2, h3, h4⟩ := h.off
  exact ⟨hd, h.two.kept hk (by simp; omega) (by simp; omega) (by simp; omega), h.mine.kept hk (by simp; omega), h.theirs.kept hk (by simp; omega), h.off⟩
theorem Play.right {A B : World} {d b1 b2 d' c1 c2 nA nB ZA ZB : Nat} {s t t' : Dk} {wa wb : Bool} (h : Play A d b1 b2 s d' c1 c2 t nA nB ZA ZB wa wb) (hd : DiskAt B d' c1 c2 t') (hk : Kept [d', c1, c2] A B) : Play B d b1 b2 s d' c1 c2 t' nA nB ZA ZB wa wb := by
  obtain ⟨m, n, h1, h2, h3, h4⟩ := h.off
  exact ⟨h.one.kept hk (by simp; omega) (by simp; omega) (by simp; omega), hd, h.mine.kept hk (by simp; omega), h.theirs.kept hk (by simp; omega), h.off⟩
theorem Play.msgs {W : World} {d b1 b2 d' c1 c2 nA nB ZA ZB : Nat} {s t : Dk} {wa wb : Bool} (h : Play W d b1 b2 s d' c1 c2 t nA nB ZA ZB wa wb) :
    (W.cell? ⟨nA, 0, none⟩ = some (.int .i64 1) ∧ W.cell? ⟨nA, 1, none⟩ = some (.int .i64 0) ∧ W.cell? ⟨nA, 2, none⟩ = some (.int .i64 0) ∧ W.cell? ⟨nA, 3, none⟩ = some (.int .u64 (ZA : Int)) ∧ W.cell? ⟨nA, 4, none⟩ = some (.bool wa) ∧ W.cell? ⟨nA, 5, none⟩ = some (.slice none 0 0)) ∧
    W.cell? ⟨nB, 0, none⟩ = some (.int .i64 1) ∧ W.cell? ⟨nB, 1, none⟩ = some (.int .i64 0) ∧ W.cell? ⟨nB, 2, none⟩ = some (.int .i64 0) ∧ W.cell? ⟨nB, 3, none⟩ = some (.int .u64 (ZB : Int)) ∧ W.cell? ⟨nB, 4, none⟩ = some (.bool wb) ∧ W.cell? ⟨nB, 5, none⟩ = some (.slice none 0 0) :=
  ⟨⟨(h.mine.cell 0).trans rfl, (h.mine.cell 1).trans rfl, (h.mine.cell 2).trans rfl, (h.mine.cell 3).trans rfl, (h.mine.cell 4).trans rfl, (h.mine.cell 5).trans rfl⟩, (h.theirs.cell 0).trans rfl, (h.theirs.cell 1).trans rfl, (h.theirs.cell 2).trans rfl, (h.theirs.cell 3).trans rfl, (h.theirs.cell 4).trans rfl, (h.theirs.cell 5).trans rfl⟩
theorem side_ops (D : Nat) (bs : List Nat) : (sideD D bs).ops ≤ 2000 := by
  obtain ⟨a1, a2, a3⟩ := rest_made.boot (by decide) (by decide) (by decide)
  have hs := (map_area a2 (by decide) (D % 16) 0).1
  have o1 : (made 24).ops = 0 := rfl
  have o2 := next_ops (made 24)
  have o3 := map_ops (nextS (made 24)) (D % 16)
  have o4 := putS_ops24 (mapS (nextS (made 24)) (D % 16)) (by rw [hs]; decide) (bs.length / 16 : Nat) bs
  have o5 := flush_ops (areaS (mapS (nextS (made 24)) (D % 16)) 0 (bs.length / 16 : Nat) bs)
  unfold sideD
  omega
theorem kept_all {a b c : World} {L : List Nat} (h : Kept [] a b) (k : Kept L b c) (hL : ∀ x ∈ L, a.heap.size ≤ x) : Kept [] a c :=
  ⟨k.os.trans h.os, k.tape.trans h.tape, k.output.trans h.output, Nat.le_trans h.size k.size, fun j hj _ => (k.block j (Nat.lt_of_lt_of_le hj h.size) (fun hm => by have := hL j hm; omega)).trans (h.block j hj (by simp))⟩
theorem Play.apart {W : World} {d b1 b2 d' c1 c2 nA nB ZA ZB : Nat} {s t : Dk} {wa wb : Bool} (h : Play W d b1 b2 s d' c1 c2 t nA nB ZA ZB wa wb) : ∀ k ∈ [d, b1, b2], k ∉ [d', c1, c2] := by
  obtain ⟨m, n, h1, h2, h3, h4⟩ := h.off
  simp
  omega
/-- Both, behind the law's pump. -/
theorem Play.pumped {W V : World} {d b1 b2 d' c1 c2 nA nB ZA ZB o p o' p' : Nat} {s t : Dk} {a b : Rs} {wa wb : Bool} (h : Play W d b1 b2 s d' c1 c2 t nA nB ZA ZB wa wb) (hP : Pair V o p d b1 b2 o' p' d' c1 c2 a b) (hk : Kept [o, p, d, b1, b2, o', p', d', c1, c2] W V) (h1 : nA < o ∧ nA < p ∧ nA < o' ∧ nA < p') (h2 : nB < o ∧ nB < p ∧ nB < o' ∧ nB < p') : Play V d b1 b2 a.d d' c1 c2 b.d nA nB ZA ZB wa wb := by
  obtain ⟨m, n, g1, g2, g3, g4⟩ := h.off
  exact ⟨hP.one.disk, hP.two.disk, h.mine.kept hk (by simp; omega), h.theirs.kept hk (by simp; omega), h.off⟩
set_option maxRecDepth 100000 in
set_option maxHeartbeats 16000000 in
/-- ResyncSafe, of a play -/
theorem safe_play (D E : Nat) (sa : Option Addr) (la ca : Nat) (wa : Bool) (us : List Nat) (sb : Option Addr) (lb cb : Nat) (wb : Bool) (bs : List Nat) (who k : Int) (spare : Nat) (hsp : spare < 18446744073709551616) (p q : Nat) (hp1 : 1 ≤ p) (hp2 : p ≤ 16) (hq1 : 1 ≤ q) (hq2 : q ≤ 16) (hla : la = 16 * p) (hlb : lb = 16 * q) (hk0 : 0 ≤ k) (hk1 : k ≤ 200) (w : World)
    (hA : Pack.ByteRow 0 w.heap.size w (.slice sa la ca) us) (hB : Pack.ByteRow 0 w.heap.size w (.slice sb lb cb) bs) :
    Calls Tryz.prog 5 #[.agg #[.int .u64 (D : Int), .slice sa la ca, .bool wa], .agg #[.int .u64 (E : Int), .slice sb lb cb, .bool wb], .agg #[.int .i64 who, .int .i64 k, .int .u64 (spare : Int)]] w fun e w' => e = .returned (.bool true) ∧ Kept [] w w' := by
  obtain ⟨W1, hW1, hS1, k1, z1⟩ := boxS w D sa la ca wa
  obtain ⟨W2, hW2, hS2, k2, z2⟩ := boxS W1 E sb lb cb wb
  obtain ⟨W3, hW3, hS3, k3, z3⟩ := boxP W2 who k spare
  have K3 := (k1.trans k2).trans k3
  have hS1' := (hS1.kept k2 (by simp)).kept k3 (by simp)
  have hS2' := hS2.kept k3 (by simp)
  have p0 := fun n => (hS3.kept (kept_drewN [] W3 n) (by simp)).cell 0
  have p1 := fun n => (hS3.kept (kept_drewN [] W3 n) (by simp)).cell 1
  have p2 := fun n => (hS3.kept (kept_drewN [] W3 n) (by simp)).cell 2
  have a0 := fun n => (hS1'.kept (kept_drewN [] W3 n) (by simp)).cell 0
  have a1 := fun n => (hS1'.kept (kept_drewN [] W3 n) (by simp)).cell 1
  have a2 := fun n => (hS1'.kept (kept_drewN [] W3 n) (by simp)).cell 2
  simp at p0 p1 p2 a0 a1 a2
  have q1 := fun W (hk : Kept [] w W) => made_good D p sa la ca wa us hp1 hp2 hla W ((hA.kept (Nat.le_refl _) hk (by simp)).mono (Nat.le_refl _) hk.size)
  have q2 := fun W (hk : Kept [] w W) => made_good E q sb lb cb wb bs hq1 hq2 hlb W ((hB.kept (Nat.le_refl _) hk (by simp)).mono (Nat.le_refl _) hk.size)
  have bS2 : Hid (∀ A, Kept [] W3 A → Blk A W1.heap.size 69 #[.int .u64 (E : Int), .slice sb lb cb, .bool wb]) := show ∀ A, Kept [] W3 A → _ from fun A hk => hS2'.kept hk (by simp)
  have lA : us.length = 16 * p := by rw [← hA.len]; exact hla
  have lB : bs.length = 16 * q := by rw [← hB.len]; exact hlb
  obtain ⟨-, -, -, -, F, hF, hRa, hfa⟩ := side_rest D hp1 hp2 lA hA.1
  obtain ⟨-, -, -, -, G, hG, hRb, hfb⟩ := side_rest E hq1 hq2 lB hB.1
  have oa := side_ops D us
  have ob := side_ops E bs
  have g1 : ¬ (k < 0) := by omega
  have g2 : ¬ (200 < k) := by omega
  have hZA : D % 16 < 16 := by omega
  have hZB : E % 16 < 16 := by omega
  generalize sideD D us = s0 at *
  generalize sideD E bs = t0 at *
  generalize D % 16 = ZA at *
  generalize E % 16 = ZB at *
  clear hA hB hla hlb lA lB
  go_enter Tryz.func5, Tryz.ntmps5
  go_wp2_with fail
  go_quiet (fail)
  go_upto_region 6 with (first
    | (go_at_call 27; refine (q1 _ (K3.trans (kept_drewN [] _ _))).mono ?_; clear q1; rintro e w5 ⟨d, b1, b2, rfl, hD5, hdl, hk5⟩; have hz5 := zero_new w5; have hk35 : Kept [] W3 w5 := (kept_drewN [] W3 _).trans hk5)
    | (refine wpList_store_blk rfl 26 _ _ rfl w5.heap.size 26 _ [.int .i64 1, .int .i64 0, .int .i64 0, .int .u64 (ZA : Int), .bool wa, .slice none 0 0] rfl rfl hz5 rfl Pack.Tryz.sizeM (by simp [Value.oneCell']) ?_; clear hz5; intro w6 hB6 hk6 hz6; have hk56 : Kept [] w5 w6 := (kept_alloc [] w5 _).young hk6 (Nat.le_refl _); have hk36 : Kept [] W3 w6 := hk35.trans hk56; have b0 := (bS2.out w6 hk36).cell 0; have b1' := (bS2.out w6 hk36).cell 1; have b2' := (bS2.out w6 hk36).cell 2; simp at b0 b1' b2')
    | (go_at_call 27; refine (q2 _ (K3.trans hk36)).mono ?_; clear q2; rintro e w7 ⟨d', c1, c2, rfl, hD7, hdl', hk7⟩; have hz7 := zero_new w7)
    | (refine wpList_store_blk rfl 26 _ _ rfl w7.heap.size 26 _ [.int .i64 1, .int .i64 0, .int .i64 0, .int .u64 (ZB : Int), .bool wb, .slice none 0 0] rfl rfl hz7 rfl Pack.Tryz.sizeM (by simp [Value.oneCell']) ?_; intro w8 hB8 hk8 hz8; have hk78 : Kept [] w7 w8 := (kept_alloc [] w7 _).young hk8 (Nat.le_refl _)))
  have hl5 := hD5.lt
  have hl7 := hD7.lt
  have hPl : Play w8 d b1 b2 s0 d' c1 c2 t0 w5.heap.size w7.heap.size ZA ZB wa wb :=
    ⟨((hD5.kept hk56 (by simp) (by simp) (by simp)).kept hk7 (by simp) (by simp) (by simp)).kept hk78 (by simp) (by simp) (by simp), hD7.kept hk78 (by simp) (by simp) (by simp), (hB6.kept hk7 (by simp)).kept hk78 (by simp), hB8, ⟨w5.heap.size, w6.heap.size, hl5, ⟨Nat.le_refl _, hB6.lt⟩, hdl', hl7⟩⟩
  have hK8 : Kept [] w w8 := (((K3.trans hk36).trans hk7).trans hk78)
  have hds : w.heap.size ≤ d ∧ w.heap.size ≤ b1 ∧ w.heap.size ≤ b2 := by have := K3.size; have : w.heap.size ≤ (W3.drewN nq).heap.size := K3.size; omega
  have hds' : w.heap.size ≤ d' ∧ w.heap.size ≤ c1 ∧ w.heap.size ≤ c2 := by
    have h1 : w.heap.size ≤ w6.heap.size := (K3.trans hk36).size
    omega
  have q8 := lives_any
  generalize w5.heap.size = n5 at *
  generalize w7.heap.size = n7 at *
  clear bS2 hS1 hS2 hS3 hS1' hS2' hD5 hB6 hD7 hB8 p0 p1 p2 a0 a1 a2
  go_upto_if 58 with fail
  go_cut [] from 57 (fun W => ∃ s t, Play W d b1 b2 s d' c1 c2 t n5 n7 ZA ZB wa wb ∧ Rest s 2 1 0 ZA F ∧ Rest t 2 1 0 ZB G ∧ (s.fuse < 0 ∨ t.fuse < 0) ∧ s.ops ≤ 2000 ∧ t.ops ≤ 2000 ∧ Kept [] w W)
  case first =>
    have qa := fun W h => fuse_any d b1 b2 s0 k (by omega) (by omega) W h
    have qb := fun W h => fuse_any d' c1 c2 t0 k (by omega) (by omega) W h
    have ra := hRa.fused k (by omega) (by omega)
    have rb := hRb.fused k (by omega) (by omega)
    have fa : (fused s0 k).ops = s0.ops := rfl
    have fb : (fused t0 k).ops = t0.ops := rfl
    by_cases hw : who = 0
    · have kw : (who == 0) = true := by simpa using hw
      generalize fused s0 k = s1 at *
      clear qb rb hw fb
      go_wp2_with (first
        | (go_at_call 17; refine (qa _ hPl.one).mono ?_; rintro e w9 ⟨rfl, hD9, hk9, -⟩; have hP9 := hPl.left hD9 (hk9.mono (by simp))))
      go_meet
      case rel => exact ⟨s1, t0, hP9, ra, hRb, .inr hfb, by omega, ob, kept_all hK8 hk9 (by simp; omega)⟩
    · have kw : (who == 0) = false := by simpa using hw
      generalize fused t0 k = t1 at *
      clear qa ra hw fa
      go_wp2_with (first
        | (go_at_call 17; refine (qb _ hPl.two).mono ?_; rintro e w9 ⟨rfl, hD9, hk9, -⟩; have hP9 := hPl.right hD9 (hk9.mono (by simp))))
      go_meet
      case rel => exact ⟨s0, t1, hP9, hRa, rb, .inl hfa, oa, by omega, kept_all hK8 hk9 (by simp; omega)⟩
  case rest =>
    obtain ⟨wo, rfl⟩ : ∃ wo, wo = wc := ⟨_, rfl⟩
    clear hPl hRa hRb hfa hfb oa ob
    obtain ⟨s, t, hP, hRs, hRt, hfu, os, ot, hKo⟩ := hcut
    have hz := or_lt16 hZA hZB
    obtain ⟨⟨x0, x1, x2, x3, x4, x5⟩, y0, y1, y2, y3, y4, y5⟩ := hP.msgs
    have q3 := fun W h => begin_out d b1 b2 s 0 (.inl rfl) ZA ZB hZA hZB wa wb 2 ZA F (by omega) hRs (by omega) W h
    have q4 := fun W h => begin_out d' c1 c2 t 1 (.inr rfl) ZB ZA hZB hZA wb wa 2 ZB G (by omega) hRt (by omega) W h
    simp only [Nat.or_comm ZB ZA] at q4
    have hsafe := safe wa wb hZA hZB hF hG hRs hRt hfu spare
    go_upto_region 11 with (first
      | (go_at_call 10; refine (q3 _ hP.one).mono ?_; clear q3; rintro e wA ⟨pa, va, rfl, hDA, hbA, hkA⟩; have hPA := hP.left hDA hkA; obtain ⟨⟨m0, m1, m2, m3, m4, m5⟩, n0, n1, n2, n3, n4, n5'⟩ := hPA.msgs)
      | (go_at_call 10; refine (q4 _ hPA.two).mono ?_; rintro e wB ⟨pb, vb, rfl, hDB, hbB, hkB⟩))
    have hPB := hPA.right hDB hkB
    have hlo := hP.one.lt
    have hlt := hP.two.lt
    have hnA := hP.mine.lt
    have hnB := hP.theirs.lt
    clear x0 x1 x2 x3 x4 x5 y0 y1 y2 y3 y4 y5 m0 m1 m2 m3 m4 m5 n0 n1 n2 n3 n4 n5' q4
    have hKB : Kept [] w wB := kept_all (kept_all hKo hkA (by simp; omega)) hkB (by simp; omega)
    by_cases ha : retE s (ZA ||| ZB) = 0
    · by_cases hb : retE t (ZA ||| ZB) = 0
      · have el : leftD s t (ZA ||| ZB) (Role.gives 0 wa wb) (Role.gives 1 wb wa) = ((meetF s t (ZA ||| ZB) (Role.gives 0 wa wb) (Role.gives 1 wb wa)).2.1.d, (meetF s t (ZA ||| ZB) (Role.gives 0 wa wb) (Role.gives 1 wb wa)).2.2.d) := if_pos ⟨ha, hb⟩
        rw [el] at hsafe
        obtain ⟨o, po, lo, P, hBA⟩ := hbA ha
        obtain ⟨o', po', lo', Q, hBB⟩ := hbB hb
        obtain rfl := hBA.ptr
        obtain rfl := hBB.ptr
        have hRs2 : ∃ c, Rest (retS s (ZA ||| ZB)) c 1 0 (ZA ||| ZB) F := by
          rcases hRs.retire (by omega) (ZA ||| ZB) (by omega) with ⟨_, r, _⟩ | ⟨r, _, _⟩
          · exact ⟨_, r⟩
          · exact absurd ha r
        have hRt2 : ∃ c, Rest (retS t (ZA ||| ZB)) c 1 0 (ZA ||| ZB) G := by
          rcases hRt.retire (by omega) (ZA ||| ZB) (by omega) with ⟨_, r, _⟩ | ⟨r, _, _⟩
          · exact ⟨_, r⟩
          · exact absurd hb r
        obtain ⟨_, hRs2⟩ := hRs2
        obtain ⟨_, hRt2⟩ := hRt2
        obtain ⟨lA, eA⟩ := begin_len hRs2 hF hz (Role.gives 0 wa wb)
        obtain ⟨lB, eB⟩ := begin_len hRt2 hG hz (Role.gives 1 wb wa)
        have hsz := hkA.size
        obtain ⟨hPr, hFa, hFb⟩ := fed_two hBA hBB hkB hlo hlt hP.apart eA eB
        have u1 := ret_ops s (ZA ||| ZB)
        have u2 := ret_ops t (ZA ||| ZB)
        have u3 := hBA.ord
        have u4 := hBB.ord
        have lP : P.length ≤ 4 := by
          have := congrArg List.length hBA.ms
          rw [List.length_map] at this
          omega
        have lQ : Q.length ≤ 4 := by
          have := congrArg List.length hBB.ms
          rw [List.length_map] at this
          omega
        have qp := pump_any o po d b1 b2 o' po' d' c1 c2 (beginR (retS s (ZA ||| ZB)) (ZA ||| ZB) (Role.gives 0 wa wb)) (beginR (retS t (ZA ||| ZB)) (ZA ||| ZB) (Role.gives 1 wb wa)) va vb P Q lP lQ (by show (retS s (ZA ||| ZB)).ops ≤ _; omega) (by show (retS t (ZA ||| ZB)).ops ≤ _; omega) wB hPr hFa hFb
        rw [hBA.ms, hBB.ms] at qp
        have em : pumpF 100 (beginR (retS s (ZA ||| ZB)) (ZA ||| ZB) (Role.gives 0 wa wb)) (beginR (retS t (ZA ||| ZB)) (ZA ||| ZB) (Role.gives 1 wb wa)) (beginL (retS s (ZA ||| ZB)) (ZA ||| ZB) (Role.gives 0 wa wb)) (beginL (retS t (ZA ||| ZB)) (ZA ||| ZB) (Role.gives 1 wb wa)) = meetF s t (ZA ||| ZB) (Role.gives 0 wa wb) (Role.gives 1 wb wa) := rfl
        rw [em] at qp
        have za : ((retE s (ZA ||| ZB) : Nat) : Int) = 0 := by rw [ha]; rfl
        have zb : ((retE t (ZA ||| ZB) : Nat) : Int) = 0 := by rw [hb]; rfl
        generalize meetF s t (ZA ||| ZB) (Role.gives 0 wa wb) (Role.gives 1 wb wa) = MF at *
        clear hBA hBB hFa hFb hPr em el hbA hbB ha hb
        go_upto_region 13 with (first
          | (go_at_call 28; refine qp.mono ?_; rintro e wC ⟨rfl, hPC, hkC⟩))
        have hPz := hPB.pumped hPC hkC (by omega) (by omega)
        have hKz := kept_all hKB hkC (by simp; omega)
        obtain ⟨MA, hMA⟩ : ∃ MA, MF.2.1.d = MA := ⟨_, rfl⟩
        obtain ⟨MB, hMB⟩ : ∃ MB, MF.2.2.d = MB := ⟨_, rfl⟩
        simp only [hMA, hMB] at hsafe hPz
        clear hPC qp hMA hMB
        obtain ⟨e1, e2, m1, F1, e3, e4, m2, F2, r1, r2, s1, s2, hal⟩ := hsafe
        obtain ⟨v1, v2, v3, v4, v5, v6, v7, v8, v9⟩ := alike_known r1 r2 hz s1 s2 hal
        have qa := fun W h => crash_any d b1 b2 MA spare hsp W h
        have qb := fun W h => crash_any d' c1 c2 MB spare hsp W h
        have ql := fun W h => look_any d b1 b2 (Math.crashed MA spare) W h
        have qm := fun W h => look_any d' c1 c2 (Math.crashed MB spare) W h
        rw [v1, v3] at ql
        rw [v2, v4] at qm
        have qn := fun b W => mine_any b 0 m1 (by omega) v5 W
        have qo := fun b W => mine_any b 0 m2 (by omega) v6 W
        simp only [Nat.zero_or] at qn qo
        have qq := fun W h => alike_any d b1 b2 (Math.crashed MA spare) d' c1 c2 (Math.crashed MB spare) ((ZA ||| ZB) &&& (18446744073709551615 - (m1 ||| m2))) (by omega) v8 W h
        have ho : m1 ||| m2 < 18446744073709551616 := or_lt64 v5 v6
        have x1 := u64_or_nat m1 m2 v5 v6
        have x2 := u64_or_nat ZA ZB (by omega) (by omega)
        have x3 := u64_andNot_nat (ZA ||| ZB) (m1 ||| m2) (by omega) ho
        have x4 := u64_andNot_nat (m1 ||| m2) (ZA ||| ZB) ho (by omega)
        rw [v9] at x4
        clear r1 r2 s1 s2 hal v1 v2 v3 v4 v7 v8 v9 hRs hRt hfu hF hG
        generalize Math.crashed MA spare = ca' at *
        generalize Math.crashed MB spare = cb' at *
        go_wp2_with (first
          | (go_at_call 15; refine (qa _ hPz.one).mono ?_; clear qa; rintro e wD ⟨rfl, hDD, hkD⟩; have hPD := hPz.left hDD hkD; have hKD := kept_all hKz hkD (by simp; omega))
          | (go_at_call 15; refine (qb _ hPD.two).mono ?_; clear qb; rintro e wE ⟨rfl, hDE, hkE⟩; have hPE := hPD.right hDE hkE; have hKE := kept_all hKD hkE (by simp; omega))
          | (go_at_call 31; refine (ql _ hPE.one).mono ?_; clear ql; rintro e wF ⟨rfl, hkF⟩; have hPF := hPE.kept hkF)
          | (go_at_call 30; refine (qn _ _).mono ?_; clear qn; rintro e wG ⟨rfl, hkG⟩; have hPG := hPF.kept hkG)
          | (go_at_call 31; refine (qm _ hPG.two).mono ?_; clear qm; rintro e wH ⟨rfl, hkH⟩; have hPH := hPG.kept hkH)
          | (go_at_call 30; refine (qo _ _).mono ?_; clear qo; rintro e wI ⟨rfl, hkI⟩; have hPI := hPH.kept hkI; obtain ⟨⟨-, -, -, y3, -, -⟩, -, -, -, y9, -, -⟩ := hPI.msgs; have hDu : Duo wI d b1 b2 ca' d' c1 c2 cb' := ⟨hPI.one, hPI.two⟩)
          | (go_at_call 29; refine (qq _ hDu).mono ?_; clear qq; rintro e wJ ⟨rfl, hkJ⟩)
          | (go_at_call 7; refine (q8 _).mono ?_; rintro e wK ⟨rfl, hkK⟩))
        go_ret
        exact ⟨rfl, (((((hKE.trans hkF).trans hkG).trans hkH).trans hkI).trans hkJ).trans hkK⟩
      · have el : leftD s t (ZA ||| ZB) (Role.gives 0 wa wb) (Role.gives 1 wb wa) = (retS s (ZA ||| ZB), retS t (ZA ||| ZB)) := if_neg (fun g => hb g.2)
        have za : ((retE s (ZA ||| ZB) : Nat) : Int) = 0 := by rw [ha]; rfl
        have zb : (((retE t (ZA ||| ZB) : Nat) : Int) == 0) = false := by simpa using hb
        rw [el] at hsafe
        have hPz := hPB
        have hKz := hKB
        clear hbA hbB hPB hPA hP
        go_upto_region 13 with fail
        obtain ⟨MA, hMA⟩ : ∃ MA, retS s (ZA ||| ZB) = MA := ⟨_, rfl⟩
        obtain ⟨MB, hMB⟩ : ∃ MB, retS t (ZA ||| ZB) = MB := ⟨_, rfl⟩
        simp only [hMA, hMB] at hsafe hPz
        clear hMA hMB el
        obtain ⟨e1, e2, m1, F1, e3, e4, m2, F2, r1, r2, s1, s2, hal⟩ := hsafe
        obtain ⟨v1, v2, v3, v4, v5, v6, v7, v8, v9⟩ := alike_known r1 r2 hz s1 s2 hal
        have qa := fun W h => crash_any d b1 b2 MA spare hsp W h
        have qb := fun W h => crash_any d' c1 c2 MB spare hsp W h
        have ql := fun W h => look_any d b1 b2 (Math.crashed MA spare) W h
        have qm := fun W h => look_any d' c1 c2 (Math.crashed MB spare) W h
        rw [v1, v3] at ql
        rw [v2, v4] at qm
        have qn := fun b W => mine_any b 0 m1 (by omega) v5 W
        have qo := fun b W => mine_any b 0 m2 (by omega) v6 W
        simp only [Nat.zero_or] at qn qo
        have qq := fun W h => alike_any d b1 b2 (Math.crashed MA spare) d' c1 c2 (Math.crashed MB spare) ((ZA ||| ZB) &&& (18446744073709551615 - (m1 ||| m2))) (by omega) v8 W h
        have ho : m1 ||| m2 < 18446744073709551616 := or_lt64 v5 v6
        have x1 := u64_or_nat m1 m2 v5 v6
        have x2 := u64_or_nat ZA ZB (by omega) (by omega)
        have x3 := u64_andNot_nat (ZA ||| ZB) (m1 ||| m2) (by omega) ho
        have x4 := u64_andNot_nat (m1 ||| m2) (ZA ||| ZB) ho (by omega)
        rw [v9] at x4
        clear r1 r2 s1 s2 hal v1 v2 v3 v4 v7 v8 v9 hRs hRt hfu hF hG
        generalize Math.crashed MA spare = ca' at *
        generalize Math.crashed MB spare = cb' at *
        go_wp2_with (first
          | (go_at_call 15; refine (qa _ hPz.one).mono ?_; clear qa; rintro e wD ⟨rfl, hDD, hkD⟩; have hPD := hPz.left hDD hkD; have hKD := kept_all hKz hkD (by simp; omega))
          | (go_at_call 15; refine (qb _ hPD.two).mono ?_; clear qb; rintro e wE ⟨rfl, hDE, hkE⟩; have hPE := hPD.right hDE hkE; have hKE := kept_all hKD hkE (by simp; omega))
          | (go_at_call 31; refine (ql _ hPE.one).mono ?_; clear ql; rintro e wF ⟨rfl, hkF⟩; have hPF := hPE.kept hkF)
          | (go_at_call 30; refine (qn _ _).mono ?_; clear qn; rintro e wG ⟨rfl, hkG⟩; have hPG := hPF.kept hkG)
          | (go_at_call 31; refine (qm _ hPG.two).mono ?_; clear qm; rintro e wH ⟨rfl, hkH⟩; have hPH := hPG.kept hkH)
          | (go_at_call 30; refine (qo _ _).mono ?_; clear qo; rintro e wI ⟨rfl, hkI⟩; have hPI := hPH.kept hkI; obtain ⟨⟨-, -, -, y3, -, -⟩, -, -, -, y9, -, -⟩ := hPI.msgs; have hDu : Duo wI d b1 b2 ca' d' c1 c2 cb' := ⟨hPI.one, hPI.two⟩)
          | (go_at_call 29; refine (qq _ hDu).mono ?_; clear qq; rintro e wJ ⟨rfl, hkJ⟩)
          | (go_at_call 7; refine (q8 _).mono ?_; rintro e wK ⟨rfl, hkK⟩))
        go_ret
        exact ⟨rfl, (((((hKE.trans hkF).trans hkG).trans hkH).trans hkI).trans hkJ).trans hkK⟩
    · have el : leftD s t (ZA ||| ZB) (Role.gives 0 wa wb) (Role.gives 1 wb wa) = (retS s (ZA ||| ZB), retS t (ZA ||| ZB)) := if_neg (fun g => ha g.1)
      have za : (((retE s (ZA ||| ZB) : Nat) : Int) == 0) = false := by simpa using ha
      rw [el] at hsafe
      have hPz := hPB
      have hKz := hKB
      clear hbA hbB hPB hPA hP
      go_upto_region 13 with fail
      obtain ⟨MA, hMA⟩ : ∃ MA, retS s (ZA ||| ZB) = MA := ⟨_, rfl⟩
      obtain ⟨MB, hMB⟩ : ∃ MB, retS t (ZA ||| ZB) = MB := ⟨_, rfl⟩
      simp only [hMA, hMB] at hsafe hPz
      clear hMA hMB el
      obtain ⟨e1, e2, m1, F1, e3, e4, m2, F2, r1, r2, s1, s2, hal⟩ := hsafe
      obtain ⟨v1, v2, v3, v4, v5, v6, v7, v8, v9⟩ := alike_known r1 r2 hz s1 s2 hal
      have qa := fun W h => crash_any d b1 b2 MA spare hsp W h
      have qb := fun W h => crash_any d' c1 c2 MB spare hsp W h
      have ql := fun W h => look_any d b1 b2 (Math.crashed MA spare) W h
      have qm := fun W h => look_any d' c1 c2 (Math.crashed MB spare) W h
      rw [v1, v3] at ql
      rw [v2, v4] at qm
      have qn := fun b W => mine_any b 0 m1 (by omega) v5 W
      have qo := fun b W => mine_any b 0 m2 (by omega) v6 W
      simp only [Nat.zero_or] at qn qo
      have qq := fun W h => alike_any d b1 b2 (Math.crashed MA spare) d' c1 c2 (Math.crashed MB spare) ((ZA ||| ZB) &&& (18446744073709551615 - (m1 ||| m2))) (by omega) v8 W h
      have ho : m1 ||| m2 < 18446744073709551616 := or_lt64 v5 v6
      have x1 := u64_or_nat m1 m2 v5 v6
      have x2 := u64_or_nat ZA ZB (by omega) (by omega)
      have x3 := u64_andNot_nat (ZA ||| ZB) (m1 ||| m2) (by omega) ho
      have x4 := u64_andNot_nat (m1 ||| m2) (ZA ||| ZB) ho (by omega)
      rw [v9] at x4
      clear r1 r2 s1 s2 hal v1 v2 v3 v4 v7 v8 v9 hRs hRt hfu hF hG
      generalize Math.crashed MA spare = ca' at *
      generalize Math.crashed MB spare = cb' at *
      go_wp2_with (first
        | (go_at_call 15; refine (qa _ hPz.one).mono ?_; clear qa; rintro e wD ⟨rfl, hDD, hkD⟩; have hPD := hPz.left hDD hkD; have hKD := kept_all hKz hkD (by simp; omega))
        | (go_at_call 15; refine (qb _ hPD.two).mono ?_; clear qb; rintro e wE ⟨rfl, hDE, hkE⟩; have hPE := hPD.right hDE hkE; have hKE := kept_all hKD hkE (by simp; omega))
        | (go_at_call 31; refine (ql _ hPE.one).mono ?_; clear ql; rintro e wF ⟨rfl, hkF⟩; have hPF := hPE.kept hkF)
        | (go_at_call 30; refine (qn _ _).mono ?_; clear qn; rintro e wG ⟨rfl, hkG⟩; have hPG := hPF.kept hkG)
        | (go_at_call 31; refine (qm _ hPG.two).mono ?_; clear qm; rintro e wH ⟨rfl, hkH⟩; have hPH := hPG.kept hkH)
        | (go_at_call 30; refine (qo _ _).mono ?_; clear qo; rintro e wI ⟨rfl, hkI⟩; have hPI := hPH.kept hkI; obtain ⟨⟨-, -, -, y3, -, -⟩, -, -, -, y9, -, -⟩ := hPI.msgs; have hDu : Duo wI d b1 b2 ca' d' c1 c2 cb' := ⟨hPI.one, hPI.two⟩)
        | (go_at_call 29; refine (qq _ hDu).mono ?_; clear qq; rintro e wJ ⟨rfl, hkJ⟩)
        | (go_at_call 7; refine (q8 _).mono ?_; rintro e wK ⟨rfl, hkK⟩))
      go_ret
      exact ⟨rfl, (((((hKE.trans hkF).trans hkG).trans hkH).trans hkI).trans hkJ).trans hkK⟩
end Go.Proofs.YtfiofdmefgkloaaGreat.Resync
namespace Go.Proofs.YtfiofdmefgkloaaGreat.Resync
open Go.RowKit
open Math Copying
open Pack (Mv Ms mv0 good)
open Bits.Math (has without elems)

theorem takeS_src (r : Rs) (x : Ms) : (takeS r x).src = r.src := by
  obtain ⟨d, g, l, e⟩ := r
  cases e <;> cases g <;> simp only [takeS, if_true, if_false, Bool.false_eq_true]
  · split
    · split <;> rfl
    · split <;> rfl
  · split
    · split <;> rfl
    · rfl
theorem feed_src : ∀ (l : List Ms) (r : Rs), (feed r l).2.1.src = r.src
  | [], r => rfl
  | x :: l, r => by
    rw [feed]
    split
    · exact (feed_src l _).trans (takeS_src r x)
    · exact takeS_src r x
theorem pumpF_src : ∀ (n : Nat) (a b : Rs) (x y : List Ms), (pumpF n a b x y).2.1.src = a.src ∧ (pumpF n a b x y).2.2.src = b.src
  | 0, a, b, x, y => ⟨rfl, rfl⟩
  | n + 1, a, b, x, y => by
    rw [pumpF]
    split
    · exact ⟨rfl, rfl⟩
    · split
      · exact ⟨rfl, feed_src x b⟩
      · split
        · exact ⟨feed_src y a, feed_src x b⟩
        · obtain ⟨h1, h2⟩ := pumpF_src n (feed a y).2.1 (feed b x).2.1 (feed a y).2.2 (feed b x).2.2
          exact ⟨h1.trans (feed_src y a), h2.trans (feed_src x b)⟩
theorem wpAnyH_stronger {P : Program} {ops : Array Oper} {Q : Exit → Act → World → Prop} {md : Region.Mode} {S S' : World → Prop} (hS : ∀ w, S' w → S w) :
    ∀ (fuel : Nat) (listed : Array Bool) (a : Act) (w : World), wpAnyH P md ops Q S' fuel listed a w → wpAnyH P md ops Q S fuel listed a w
  | 0, _, _, _, h => h
  | fuel + 1, _, _, _, h => ⟨h.1, fun i hi => wpOp_mono (fun _ _ h' => ⟨hS _ h'.1, wpAnyH_stronger hS fuel _ _ _ h'.2⟩) (h.2 i hi)⟩
set_option maxRecDepth 100000 in
set_option maxHeartbeats 8000000 in
/-- ResyncEnds, of what is let go -/
theorem ends_early (D E : Nat) (sa : Option Addr) (la ca : Nat) (wa : Bool) (us : List Nat) (sb : Option Addr) (lb cb : Nat) (wb : Bool) (bs : List Nat) (hla : la ≤ 9223372036854775807) (hlb : lb ≤ 9223372036854775807) (w : World)
    (hA : Pack.ByteRow 0 w.heap.size w (.slice sa la ca) us) (hB : Pack.ByteRow 0 w.heap.size w (.slice sb lb cb) bs) (hno : okB la = false ∨ okB lb = false) :
    Calls Tryz.prog 4 #[.agg #[.int .u64 (D : Int), .slice sa la ca, .bool wa], .agg #[.int .u64 (E : Int), .slice sb lb cb, .bool wb]] w fun e w' => e = .returned (.bool true) ∧ Kept [] w w' := by
  obtain ⟨W1, hW1, hS1, k1, z1⟩ := boxS w D sa la ca wa
  obtain ⟨W2, hW2, hS2, k2, z2⟩ := boxS W1 E sb lb cb wb
  have K3 := k1.trans k2
  have hS1' := hS1.kept k2 (by simp)
  have a0 := hS1'.cell 0
  have a1 := hS1'.cell 1
  have a2 := hS1'.cell 2
  simp at a0 a1 a2
  have q1 := fun W (hk : Kept [] w W) => made_weak D sa la ca wa us hla W ((hA.kept (Nat.le_refl _) hk (by simp)).mono (Nat.le_refl _) hk.size)
  have q2 := fun W (hk : Kept [] w W) => made_weak E sb lb cb wb bs hlb W ((hB.kept (Nat.le_refl _) hk (by simp)).mono (Nat.le_refl _) hk.size)
  have q3 := lives_any
  have bS2 : Hid (∀ A, Kept [] W2 A → Blk A W1.heap.size 69 #[.int .u64 (E : Int), .slice sb lb cb, .bool wb]) := show ∀ A, Kept [] W2 A → _ from fun A hk => hS2.kept hk (by simp)
  generalize okB la = ga at *
  generalize okB lb = gb at *
  clear hA hB hla hlb
  have hcase : ga = false ∨ (ga = true ∧ gb = false) := by
    cases ga <;> cases gb <;> simp at hno ⊢
  clear hno
  rcases hcase with rfl | ⟨rfl, rfl⟩
  all_goals
    go_enter Tryz.func4, Tryz.ntmps4
    go_wp2_with (first
      | (go_at_call 27; refine (q1 _ K3).mono ?_; clear q1; rintro e w5 ⟨d, k0, m0, s0, rfl, hk5⟩; have hz5 := zero_new w5; have hk35 : Kept [] W2 w5 := hk5)
      | (refine wpList_store_blk rfl 26 _ _ rfl w5.heap.size 26 _ [.int .i64 k0, .int .i64 0, .int .i64 0, .int .u64 (m0 : Int), .bool s0, .slice none 0 0] rfl rfl hz5 rfl Pack.Tryz.sizeM (by simp [Value.oneCell']) ?_; clear hz5; intro w6 hB6 hk6 hz6; have hk36 : Kept [] W2 w6 := hk35.trans ((kept_alloc [] w5 _).young hk6 (Nat.le_refl _)); have b0 := (bS2.out w6 hk36).cell 0; have b1 := (bS2.out w6 hk36).cell 1; have b2 := (bS2.out w6 hk36).cell 2; simp at b0 b1 b2)
      | (go_at_call 27; refine (q2 _ (K3.trans hk36)).mono ?_; clear q2; rintro e w7 ⟨d', k1', m1, s1, rfl, hk7⟩; have hz7 := zero_new w7)
      | (refine wpList_store_blk rfl 26 _ _ rfl w7.heap.size 26 _ [.int .i64 k1', .int .i64 0, .int .i64 0, .int .u64 (m1 : Int), .bool s1, .slice none 0 0] rfl rfl hz7 rfl Pack.Tryz.sizeM (by simp [Value.oneCell']) ?_; intro w8 hB8 hk8 hz8; have hk08 : Kept [] w w8 := ((K3.trans hk36).trans hk7).trans ((kept_alloc [] w7 _).young hk8 (Nat.le_refl _)))
      | (go_at_call 7; refine (q3 _).mono ?_; rintro e w9 ⟨rfl, hk9⟩))
    go_ret
    exact ⟨rfl, hk08.trans hk9⟩
set_option maxRecDepth 100000 in
set_option maxHeartbeats 16000000 in
/-- ResyncEnds, of a play -/
theorem ends_play (D E : Nat) (sa : Option Addr) (la ca : Nat) (wa : Bool) (us : List Nat) (sb : Option Addr) (lb cb : Nat) (wb : Bool) (bs : List Nat) (p q : Nat) (hp1 : 1 ≤ p) (hp2 : p ≤ 16) (hq1 : 1 ≤ q) (hq2 : q ≤ 16) (hla : la = 16 * p) (hlb : lb = 16 * q) (w : World)
    (hA : Pack.ByteRow 0 w.heap.size w (.slice sa la ca) us) (hB : Pack.ByteRow 0 w.heap.size w (.slice sb lb cb) bs) :
    Calls Tryz.prog 4 #[.agg #[.int .u64 (D : Int), .slice sa la ca, .bool wa], .agg #[.int .u64 (E : Int), .slice sb lb cb, .bool wb]] w fun e w' => e = .returned (.bool true) ∧ Kept [] w w' := by
  obtain ⟨W1, hW1, hS1, k1, z1⟩ := boxS w D sa la ca wa
  obtain ⟨W2, hW2, hS2, k2, z2⟩ := boxS W1 E sb lb cb wb
  have K3 := k1.trans k2
  have hS1' := hS1.kept k2 (by simp)
  have a0 := hS1'.cell 0
  have a1 := hS1'.cell 1
  have a2 := hS1'.cell 2
  simp at a0 a1 a2
  have q1 := fun W (hk : Kept [] w W) => made_good D p sa la ca wa us hp1 hp2 hla W ((hA.kept (Nat.le_refl _) hk (by simp)).mono (Nat.le_refl _) hk.size)
  have q2 := fun W (hk : Kept [] w W) => made_good E q sb lb cb wb bs hq1 hq2 hlb W ((hB.kept (Nat.le_refl _) hk (by simp)).mono (Nat.le_refl _) hk.size)
  have bS2 : Hid (∀ A, Kept [] W2 A → Blk A W1.heap.size 69 #[.int .u64 (E : Int), .slice sb lb cb, .bool wb]) := show ∀ A, Kept [] W2 A → _ from fun A hk => hS2.kept hk (by simp)
  have lA : us.length = 16 * p := by rw [← hA.len]; exact hla
  have lB : bs.length = 16 * q := by rw [← hB.len]; exact hlb
  obtain ⟨-, -, -, -, F, hF, hRa, hfa⟩ := side_rest D hp1 hp2 lA hA.1
  obtain ⟨-, -, -, -, G, hG, hRb, hfb⟩ := side_rest E hq1 hq2 lB hB.1
  have oa := side_ops D us
  have ob := side_ops E bs
  have hZA : D % 16 < 16 := by omega
  have hZB : E % 16 < 16 := by omega
  obtain ⟨n1, n2, n3, n4⟩ := ends wa wb (show D % 16 < 16 by omega) (show E % 16 < 16 by omega) hF hG hRa hRb hfa hfb
  generalize sideD D us = s0 at *
  generalize sideD E bs = t0 at *
  generalize D % 16 = ZA at *
  generalize E % 16 = ZB at *
  clear hA hB hla hlb lA lB
  go_enter Tryz.func4, Tryz.ntmps4
  go_upto_region 5 with (first
    | (go_at_call 27; refine (q1 _ K3).mono ?_; clear q1; rintro e w5 ⟨d, b1, b2, rfl, hD5, hdl, hk5⟩; have hz5 := zero_new w5; have hk35 : Kept [] W2 w5 := hk5)
    | (refine wpList_store_blk rfl 26 _ _ rfl w5.heap.size 26 _ [.int .i64 1, .int .i64 0, .int .i64 0, .int .u64 (ZA : Int), .bool wa, .slice none 0 0] rfl rfl hz5 rfl Pack.Tryz.sizeM (by simp [Value.oneCell']) ?_; clear hz5; intro w6 hB6 hk6 hz6; have hk56 : Kept [] w5 w6 := (kept_alloc [] w5 _).young hk6 (Nat.le_refl _); have hk36 : Kept [] W2 w6 := hk35.trans hk56; have b0 := (bS2.out w6 hk36).cell 0; have b1' := (bS2.out w6 hk36).cell 1; have b2' := (bS2.out w6 hk36).cell 2; simp at b0 b1' b2')
    | (go_at_call 27; refine (q2 _ (K3.trans hk36)).mono ?_; clear q2; rintro e w7 ⟨d', c1, c2, rfl, hD7, hdl', hk7⟩; have hz7 := zero_new w7)
    | (refine wpList_store_blk rfl 26 _ _ rfl w7.heap.size 26 _ [.int .i64 1, .int .i64 0, .int .i64 0, .int .u64 (ZB : Int), .bool wb, .slice none 0 0] rfl rfl hz7 rfl Pack.Tryz.sizeM (by simp [Value.oneCell']) ?_; intro w8 hB8 hk8 hz8; have hk78 : Kept [] w7 w8 := (kept_alloc [] w7 _).young hk8 (Nat.le_refl _)))
  have hl5 := hD5.lt
  have hl7 := hD7.lt
  have hPl : Play w8 d b1 b2 s0 d' c1 c2 t0 w5.heap.size w7.heap.size ZA ZB wa wb :=
    ⟨((hD5.kept hk56 (by simp) (by simp) (by simp)).kept hk7 (by simp) (by simp) (by simp)).kept hk78 (by simp) (by simp) (by simp), hD7.kept hk78 (by simp) (by simp) (by simp), (hB6.kept hk7 (by simp)).kept hk78 (by simp), hB8, ⟨w5.heap.size, w6.heap.size, hl5, ⟨Nat.le_refl _, hB6.lt⟩, hdl', hl7⟩⟩
  have hK8 : Kept [] w w8 := (((K3.trans hk36).trans hk7).trans hk78)
  have hds : w.heap.size ≤ d ∧ w.heap.size ≤ b1 ∧ w.heap.size ≤ b2 := by have := K3.size; omega
  have hds' : w.heap.size ≤ d' ∧ w.heap.size ≤ c1 ∧ w.heap.size ≤ c2 := by
    have h1 : w.heap.size ≤ w6.heap.size := (K3.trans hk36).size
    omega
  have q8 := lives_any
  generalize w5.heap.size = n5 at *
  generalize w7.heap.size = n7 at *
  clear bS2 hS1 hS2 hS1' hD5 hB6 hD7 hB8 a0 a1 a2
  have qi := fun W h => dImage_any d b1 b2 s0 W h
  have qj := fun W h => dImage_any d' c1 c2 t0 W h
  obtain ⟨IA, hIA⟩ : ∃ IA, imgL s0 = IA := ⟨_, rfl⟩
  obtain ⟨IB, hIB⟩ : ∃ IB, imgL t0 = IB := ⟨_, rfl⟩
  rw [hIA] at qi
  rw [hIB] at qj
  refine wp_region_held_drew (S := fun V => Kept [] w8.drew V) (by kernel_rfl) (Kept.refl _ _) (fun hP => ?_)
  have hH := hP
  clear hP
  refine wpAnyH_take (i := 0) (oi := { dst := some 40, op := Op.move (Operand.tmp 5), type := 30, pos := "law.go:144", after := #[], guard := none }) (v := (.pointer (some ⟨d, 0, none⟩))) rfl (by kernel_rfl) (by kernel_rfl) (by kernel_rfl) (fun _ _ _ h => h) (Or.inl ⟨by rfl, fun W hSw => by go_simp⟩) hH ?_
  try simp only [Act.put, List.setIfInBounds_toArray, List.set_cons_zero, List.set_cons_succ]
  refine wpAnyH_take (i := 3) (oi := { dst := some 43, op := Op.move (Operand.tmp 8), type := 30, pos := "law.go:144", after := #[], guard := none }) (v := (.pointer (some ⟨d', 0, none⟩))) rfl (by kernel_rfl) (by kernel_rfl) (by kernel_rfl) (fun _ _ _ h => h) (Or.inl ⟨by rfl, fun W hSw => by go_simp⟩) hH ?_
  try simp only [Act.put, List.setIfInBounds_toArray, List.set_cons_zero, List.set_cons_succ]
  refine wpAnyH_ready (rs := [1]) (by kernel_rfl) (by simp) ?_
  refine AllReadyH.cons (o := { dst := some 41, op := Op.call { callee := Callee.value (Operand.func 24), args := #[Operand.tmp 40], argTypes := #[30] }, type := 24, pos := "law.go:144", after := #[{ on := 0, ground := Ground.data }], guard := none }) rfl (fun KK hKK => ?_) AllReadyH.nil
  go_simp
  refine (qi _ (hPl.kept (kept_drew [] w8)).one).mono ?_
  rintro e w1x ⟨v1x, rfl, hR1x, hk1x⟩
  go_wp2_with fail
  refine hKK.out _ _ hk1x (fun _ => ?_)
  clear hKK KK
  refine wpAnyH_stronger (S' := fun V => Kept [] w1x V) (fun W h => hk1x.trans h) _ _ _ _ ?_
  replace hH := Kept.refl [] w1x
  try simp only [Act.put, List.setIfInBounds_toArray, List.set_cons_zero, List.set_cons_succ]
  refine wpAnyH_take (i := 2) (oi := { dst := some 42, op := Op.convert 24 9 (Operand.tmp 41), type := 9, pos := "law.go:144", after := #[{ on := 1, ground := Ground.data }], guard := none }) (v := (.string (txt IA))) rfl (by kernel_rfl) (by kernel_rfl) (by kernel_rfl) (fun _ _ _ h => h) (Or.inl ⟨by rfl, fun W hSw => by have hc := conv_txt (hR1x.kept (Nat.le_refl _) hSw (by simp)); go_simp⟩) hH ?_
  try simp only [Act.put, List.setIfInBounds_toArray, List.set_cons_zero, List.set_cons_succ]
  refine wpAnyH_ready (rs := [4]) (by kernel_rfl) (by simp) ?_
  refine AllReadyH.cons (o := { dst := some 44, op := Op.call { callee := Callee.value (Operand.func 24), args := #[Operand.tmp 43], argTypes := #[30] }, type := 24, pos := "law.go:144", after := #[{ on := 3, ground := Ground.data }, { on := 1, ground := Ground.chain }], guard := none }) rfl (fun KK hKK => ?_) AllReadyH.nil
  go_simp
  refine (qj _ ((hPl.kept (kept_drew [] w8)).kept hk1x).two).mono ?_
  rintro e w2x ⟨v2x, rfl, hR2x, hk2x⟩
  go_wp2_with fail
  refine hKK.out _ _ hk2x (fun _ => ?_)
  clear hKK KK
  refine wpAnyH_stronger (S' := fun V => Kept [] w2x V) (fun W h => hk2x.trans h) _ _ _ _ ?_
  replace hH := Kept.refl [] w2x
  try simp only [Act.put, List.setIfInBounds_toArray, List.set_cons_zero, List.set_cons_succ]
  refine wpAnyH_take (i := 5) (oi := { dst := some 45, op := Op.convert 24 9 (Operand.tmp 44), type := 9, pos := "law.go:144", after := #[{ on := 4, ground := Ground.data }], guard := none }) (v := (.string (txt IB))) rfl (by kernel_rfl) (by kernel_rfl) (by kernel_rfl) (fun _ _ _ h => h) (Or.inl ⟨by rfl, fun W hSw => by have hc := conv_txt (hR2x.kept (Nat.le_refl _) hSw (by simp)); go_simp⟩) hH ?_
  try simp only [Act.put, List.setIfInBounds_toArray, List.set_cons_zero, List.set_cons_succ]
  refine wpAnyH_ready (rs := [6]) (by kernel_rfl) (by simp) ?_
  refine AllReadyH.cons (o := { dst := some 46, op := Op.buildSlice 72 2 #[(0, Operand.tmp 42), (1, Operand.tmp 45)], type := 72, pos := "law.go:144", after := #[{ on := 2, ground := Ground.data }, { on := 5, ground := Ground.data }], guard := none }) rfl (fun KK hKK => ?_) AllReadyH.nil
  go_simp
  have hAx := kept_alloc [] w2x (.cells #[.string (txt IA), .string (txt IB)] 9)
  have hbx := blk_new w2x 9 #[.string (txt IA), .string (txt IB)]
  refine hKK.out _ _ hAx (fun _ => ?_)
  replace hH := hAx
  clear hKK KK
  try simp only [Act.put, List.setIfInBounds_toArray, List.set_cons_zero, List.set_cons_succ]
  refine wpAnyH_take (i := 7) (oi := { dst := some 11, op := Op.assign (Operand.tmp 46), type := 72, pos := "law.go:144", after := #[{ on := 6, ground := Ground.data }, { on := 4, ground := Ground.chain }, { on := 0, ground := Ground.phase }, { on := 1, ground := Ground.phase }, { on := 2, ground := Ground.phase }, { on := 3, ground := Ground.phase }, { on := 4, ground := Ground.phase }, { on := 5, ground := Ground.phase }, { on := 6, ground := Ground.phase }], guard := none }) (v := (.slice (some ⟨w2x.heap.size, 0, none⟩) 2 2)) rfl (by kernel_rfl) (by kernel_rfl) (by kernel_rfl) (fun _ _ _ h => h) (Or.inl ⟨by rfl, fun W hSw => by go_simp⟩) hH ?_
  refine wpAnyH_done (by kernel_rfl) ?_ _
  have hK5 : Kept [] w8 (w2x.alloc (.cells #[.string (txt IA), .string (txt IB)] 9)) := (((kept_drew [] w8).trans hk1x).trans hk2x).trans hAx
  have hs8x : w8.heap.size ≤ w2x.heap.size := (((kept_drew [] w8).trans hk1x).trans hk2x).size
  have hl8a := hPl.one.lt
  have hl8b := hPl.two.lt
  have hPx := hPl.kept hK5
  have hKx := hK8.trans hK5
  have hz := or_lt16 hZA hZB
  have hlo := hPx.one.lt
  have hlt := hPx.two.lt
  have hnA := hPx.mine.lt
  have hnB := hPx.theirs.lt
  obtain ⟨Wx, hWx⟩ : ∃ Wx, w2x.alloc (.cells #[.string (txt IA), .string (txt IB)] 9) = Wx := ⟨_, rfl⟩
  obtain ⟨gx, hgx⟩ : ∃ gx, w2x.heap.size = gx := ⟨_, rfl⟩
  rw [hWx] at hPx hKx hbx hlo hlt hnA hnB ⊢
  rw [hgx] at hbx hs8x ⊢
  clear hWx hgx hAx hK5 hH hR1x hR2x hk1x hk2x qi qj hPl hK8
  obtain ⟨⟨x0, x1, x2, x3, x4, x5⟩, y0, y1, y2, y3, y4, y5⟩ := hPx.msgs
  have q3 := fun W h => begin_out d b1 b2 s0 0 (.inl rfl) ZA ZB hZA hZB wa wb 2 ZA F (by omega) hRa (by omega) W h
  have q4 := fun W h => begin_out d' c1 c2 t0 1 (.inr rfl) ZB ZA hZB hZA wb wa 2 ZB G (by omega) hRb (by omega) W h
  simp only [Nat.or_comm ZB ZA] at q4
  rw [n1] at q3
  rw [n2] at q4
  go_upto_region 8 with (first
    | (go_at_call 10; refine (q3 _ hPx.one).mono ?_; clear q3; rintro e wA ⟨pa, va, rfl, hDA, hbA, hkA⟩; have hPA := hPx.left hDA hkA; obtain ⟨⟨m0, m1, m2, m3, m4, m5⟩, u0, u1, u2, u3, u4, u5⟩ := hPA.msgs)
    | (go_at_call 10; refine (q4 _ hPA.two).mono ?_; rintro e wB ⟨pb, vb, rfl, hDB, hbB, hkB⟩))
  have hPB := hPA.right hDB hkB
  obtain ⟨o, po, lo, P, hBA⟩ := hbA trivial
  obtain ⟨o', po', lo', Q, hBB⟩ := hbB trivial
  obtain rfl := hBA.ptr
  obtain rfl := hBB.ptr
  have hRs2 : ∃ c, Rest (retS s0 (ZA ||| ZB)) c 1 0 (ZA ||| ZB) F := by
    rcases hRa.retire (by omega) (ZA ||| ZB) (by omega) with ⟨_, r, _⟩ | ⟨r, _, _⟩
    · exact ⟨_, r⟩
    · exact absurd n1 r
  have hRt2 : ∃ c, Rest (retS t0 (ZA ||| ZB)) c 1 0 (ZA ||| ZB) G := by
    rcases hRb.retire (by omega) (ZA ||| ZB) (by omega) with ⟨_, r, _⟩ | ⟨r, _, _⟩
    · exact ⟨_, r⟩
    · exact absurd n2 r
  obtain ⟨_, hRs2⟩ := hRs2
  obtain ⟨_, hRt2⟩ := hRt2
  obtain ⟨lA, eA⟩ := begin_len hRs2 hF hz (Role.gives 0 wa wb)
  obtain ⟨lB, eB⟩ := begin_len hRt2 hG hz (Role.gives 1 wb wa)
  have hsz := hkA.size
  obtain ⟨hPr, hFa, hFb⟩ := fed_two hBA hBB hkB hlo hlt hPx.apart eA eB
  have u1 := ret_ops s0 (ZA ||| ZB)
  have u2 := ret_ops t0 (ZA ||| ZB)
  have u3 := hBA.ord
  have u4 := hBB.ord
  have lP : P.length ≤ 4 := by
    have := congrArg List.length hBA.ms
    rw [List.length_map] at this
    omega
  have lQ : Q.length ≤ 4 := by
    have := congrArg List.length hBB.ms
    rw [List.length_map] at this
    omega
  have qp := pump_any o po d b1 b2 o' po' d' c1 c2 (beginR (retS s0 (ZA ||| ZB)) (ZA ||| ZB) (Role.gives 0 wa wb)) (beginR (retS t0 (ZA ||| ZB)) (ZA ||| ZB) (Role.gives 1 wb wa)) va vb P Q lP lQ (by show (retS s0 (ZA ||| ZB)).ops ≤ _; omega) (by show (retS t0 (ZA ||| ZB)).ops ≤ _; omega) wB hPr hFa hFb
  rw [hBA.ms, hBB.ms] at qp
  have em : pumpF 100 (beginR (retS s0 (ZA ||| ZB)) (ZA ||| ZB) (Role.gives 0 wa wb)) (beginR (retS t0 (ZA ||| ZB)) (ZA ||| ZB) (Role.gives 1 wb wa)) (beginL (retS s0 (ZA ||| ZB)) (ZA ||| ZB) (Role.gives 0 wa wb)) (beginL (retS t0 (ZA ||| ZB)) (ZA ||| ZB) (Role.gives 1 wb wa)) = meetF s0 t0 (ZA ||| ZB) (Role.gives 0 wa wb) (Role.gives 1 wb wa) := rfl
  rw [em] at qp
  have ms : (meetF s0 t0 (ZA ||| ZB) (Role.gives 0 wa wb) (Role.gives 1 wb wa)).2.2.src = Role.gives 1 wb wa := (pumpF_src 100 _ _ _ _).2
  generalize meetF s0 t0 (ZA ||| ZB) (Role.gives 0 wa wb) (Role.gives 1 wb wa) = MF at *
  obtain ⟨f1, f2⟩ := n4.over
  obtain ⟨f3, f4⟩ := n4.left
  obtain ⟨f5, f6⟩ := n4.log
  obtain ⟨f7, f8⟩ := n4.map
  have fI := n4.img
  have fA := n4.alike
  rw [n3] at qp
  have qs1 := fun W h => source_any o po d b1 b2 (beginR (retS s0 (ZA ||| ZB)) (ZA ||| ZB) (Role.gives 0 wa wb)) W h
  have qs2 := fun W h => source_any o' po' d' c1 c2 (beginR (retS t0 (ZA ||| ZB)) (ZA ||| ZB) (Role.gives 1 wb wa)) W h
  have es1 : (beginR (retS s0 (ZA ||| ZB)) (ZA ||| ZB) (Role.gives 0 wa wb)).src = Role.gives 0 wa wb := rfl
  have es2 : (beginR (retS t0 (ZA ||| ZB)) (ZA ||| ZB) (Role.gives 1 wb wa)).src = Role.gives 1 wb wa := rfl
  rw [es1] at qs1
  rw [es2] at qs2
  have qlf := fun W h => left_any o po d b1 b2 (beginR (retS s0 (ZA ||| ZB)) (ZA ||| ZB) (Role.gives 0 wa wb)) W h
  have el1 : (beginR (retS s0 (ZA ||| ZB)) (ZA ||| ZB) (Role.gives 0 wa wb)).left = ZA ||| ZB := rfl
  rw [el1] at qlf
  have x2' := u64_or_nat ZA ZB (by omega) (by omega)
  have hMB := hPB.msgs
  obtain ⟨⟨-, -, -, j3, -, -⟩, -, -, -, j9, -, -⟩ := hMB
  have q8 := lives_any
  have qo1 := fun W h => over_any o po d b1 b2 MF.2.1 W h
  have qo2 := fun W h => over_any o' po' d' c1 c2 MF.2.2 W h
  have ql1 := fun W h => left_any o po d b1 b2 MF.2.1 W h
  have ql2 := fun W h => left_any o' po' d' c1 c2 MF.2.2 W h
  have qs3 := fun W h => source_any o' po' d' c1 c2 MF.2.2 W h
  rw [ms] at qs3
  rw [f1] at qo1
  rw [f2] at qo2
  rw [f3] at ql1
  rw [f4] at ql2
  have qq := fun W h => alike_any d b1 b2 MF.2.1.d d' c1 c2 MF.2.2.d (ZA ||| ZB) (by omega) fA W h
  have g1 := gives_one wa wb
  have hR1 := hPr.one
  have hR2 := hPr.two
  clear hBA hBB hFa hFb hPr n4 n3 n1 n2 hbA hbB f1 f2 f3 f4 fA es1 es2 el1 eA eB lA lB lP lQ
  generalize Role.gives 1 wb wa = gb at *
  generalize Role.gives 0 wa wb = ga at *
  subst g1
  generalize beginR (retS s0 (ZA ||| ZB)) (ZA ||| ZB) ga = RA at *
  generalize beginR (retS t0 (ZA ||| ZB)) (ZA ||| ZB) (!ga) = RB at *
  have ne1 : (ga == !ga) = false := by cases ga <;> rfl
  go_upto_region 13 with (first
    | (go_at_call 19; refine (qs1 _ hR1).mono ?_; clear qs1; rintro e wB ⟨rfl, rfl⟩)
    | (go_at_call 19; refine (qs2 _ hR2).mono ?_; rintro e wB ⟨rfl, rfl⟩)
    | (go_at_call 21; refine (qlf _ hR1).mono ?_; clear qlf; rintro e wB ⟨rfl, rfl⟩)
    | (go_at_call 28; refine qp.mono ?_; rintro e wC ⟨rfl, hPC, hkC⟩)
    | (go_at_call 20; refine (qo1 _ hPC.one).mono ?_; clear qo1; rintro e wC ⟨rfl, rfl⟩)
    | (go_at_call 20; refine (qo2 _ hPC.two).mono ?_; rintro e wC ⟨rfl, rfl⟩)
    | (go_at_call 21; refine (ql1 _ hPC.one).mono ?_; clear ql1; rintro e wC ⟨rfl, rfl⟩)
    | (go_at_call 21; refine (ql2 _ hPC.two).mono ?_; rintro e wC ⟨rfl, rfl⟩)
    | (go_at_call 29; refine (qq _ ⟨hPC.one.disk, hPC.two.disk⟩).mono ?_; rintro e wG ⟨rfl, hkG⟩))
  have hPz := hPB.pumped hPC hkC (by omega) (by omega)
  have hKB := kept_all (kept_all hKx hkA (by simp; omega)) hkB (by simp; omega)
  have hKG : Kept [] w wG := (kept_all hKB hkC (by simp; omega)).trans hkG
  have hgl := hbx.lt
  have hbG := (((hbx.kept hkA (by simp; omega)).kept hkB (by simp; omega)).kept hkC (by simp; omega)).kept hkG (by simp)
  have hPG := hPz.kept hkG
  have hRG := hPC.two.kept0 hkG
  obtain ⟨MA, hMA⟩ : ∃ MA, MF.2.1.d = MA := ⟨_, rfl⟩
  obtain ⟨MB, hMB⟩ : ∃ MB, MF.2.2.d = MB := ⟨_, rfl⟩
  rw [hMA, hMB] at hPG fI
  rw [hMA] at f5 f7
  rw [hMB] at f6 f8
  have ql := fun W h => look_any d b1 b2 MA W h
  have qm := fun W h => look_any d' c1 c2 MB W h
  rw [f5, f7] at ql
  rw [f6, f8] at qm
  have qn := fun b W => mine_any b 0 0 (by omega) (by omega) W
  have qi := fun W h => dImage_any d b1 b2 MA W h
  have qj := fun W h => dImage_any d' c1 c2 MB W h
  generalize boot MA = bA at *
  generalize boot MB = bB at *
  simp only [Nat.zero_or] at qn
  clear hPC qp qs2 qo2 ql2 qq hPB hPA hPz f5 f6 f7 f8 ms hR1 hR2 hbx hkA hkB hkC hkG hKx hKB
  cases ga
  case false =>
    rw [if_pos (show (!false) = true from rfl), if_pos (show (!false) = true from rfl)] at fI
    simp only [Bool.not_false] at qs3
    rw [hIB] at fI
    rw [fI] at qj
    generalize imgL MA = JA at *
    clear fI hIA hIB hMA hMB
    go_upto_region 16 with (first
      | (go_at_call 19; refine (qs3 _ hRG).mono ?_; clear qs3; rintro e wG ⟨rfl, rfl⟩))
    refine wp_region_held_drew (S := fun V => Kept [] wG.drew V) (by kernel_rfl) (Kept.refl _ _) (fun hP => ?_)
    have hH := hP
    clear hP
    refine wpAnyH_take (i := 0) (oi := { dst := some 122, op := Op.move (Operand.tmp 5), type := 30, pos := "law.go:158", after := #[], guard := none }) (v := (.pointer (some ⟨d, 0, none⟩))) rfl (by kernel_rfl) (by kernel_rfl) (by kernel_rfl) (fun _ _ _ h => h) (Or.inl ⟨by rfl, fun W hSw => by go_simp⟩) hH ?_
    try simp only [Act.put, List.setIfInBounds_toArray, List.set_cons_zero, List.set_cons_succ]
    refine wpAnyH_take (i := 3) (oi := { dst := some 125, op := Op.move (Operand.tmp 8), type := 30, pos := "law.go:158", after := #[], guard := none }) (v := (.pointer (some ⟨d', 0, none⟩))) rfl (by kernel_rfl) (by kernel_rfl) (by kernel_rfl) (fun _ _ _ h => h) (Or.inl ⟨by rfl, fun W hSw => by go_simp⟩) hH ?_
    try simp only [Act.put, List.setIfInBounds_toArray, List.set_cons_zero, List.set_cons_succ]
    refine wpAnyH_ready (rs := [1]) (by kernel_rfl) (by simp) ?_
    refine AllReadyH.cons (o := { dst := some 123, op := Op.call { callee := Callee.value (Operand.func 24), args := #[Operand.tmp 122], argTypes := #[30] }, type := 24, pos := "law.go:158", after := #[{ on := 0, ground := Ground.data }], guard := none }) rfl (fun KK hKK => ?_) AllReadyH.nil
    go_simp
    refine (qi _ (hPG.kept (kept_drew [] wG)).one).mono ?_
    rintro e w1y ⟨v1y, rfl, hR1y, hk1y⟩
    go_wp2_with fail
    refine hKK.out _ _ hk1y (fun _ => ?_)
    clear hKK KK
    refine wpAnyH_stronger (S' := fun V => Kept [] w1y V) (fun W h => hk1y.trans h) _ _ _ _ ?_
    replace hH := Kept.refl [] w1y
    try simp only [Act.put, List.setIfInBounds_toArray, List.set_cons_zero, List.set_cons_succ]
    refine wpAnyH_take (i := 2) (oi := { dst := some 124, op := Op.convert 24 9 (Operand.tmp 123), type := 9, pos := "law.go:158", after := #[{ on := 1, ground := Ground.data }], guard := none }) (v := (.string (txt JA))) rfl (by kernel_rfl) (by kernel_rfl) (by kernel_rfl) (fun _ _ _ h => h) (Or.inl ⟨by rfl, fun W hSw => by have hc := conv_txt (hR1y.kept (Nat.le_refl _) hSw (by simp)); go_simp⟩) hH ?_
    try simp only [Act.put, List.setIfInBounds_toArray, List.set_cons_zero, List.set_cons_succ]
    refine wpAnyH_ready (rs := [4]) (by kernel_rfl) (by simp) ?_
    refine AllReadyH.cons (o := { dst := some 126, op := Op.call { callee := Callee.value (Operand.func 24), args := #[Operand.tmp 125], argTypes := #[30] }, type := 24, pos := "law.go:158", after := #[{ on := 3, ground := Ground.data }, { on := 1, ground := Ground.chain }], guard := none }) rfl (fun KK hKK => ?_) AllReadyH.nil
    go_simp
    refine (qj _ ((hPG.kept (kept_drew [] wG)).kept hk1y).two).mono ?_
    rintro e w2y ⟨v2y, rfl, hR2y, hk2y⟩
    go_wp2_with fail
    refine hKK.out _ _ hk2y (fun _ => ?_)
    clear hKK KK
    refine wpAnyH_stronger (S' := fun V => Kept [] w2y V) (fun W h => hk2y.trans h) _ _ _ _ ?_
    replace hH := Kept.refl [] w2y
    try simp only [Act.put, List.setIfInBounds_toArray, List.set_cons_zero, List.set_cons_succ]
    refine wpAnyH_take (i := 5) (oi := { dst := some 127, op := Op.convert 24 9 (Operand.tmp 126), type := 9, pos := "law.go:158", after := #[{ on := 4, ground := Ground.data }], guard := none }) (v := (.string (txt IB))) rfl (by kernel_rfl) (by kernel_rfl) (by kernel_rfl) (fun _ _ _ h => h) (Or.inl ⟨by rfl, fun W hSw => by have hc := conv_txt (hR2y.kept (Nat.le_refl _) hSw (by simp)); go_simp⟩) hH ?_
    try simp only [Act.put, List.setIfInBounds_toArray, List.set_cons_zero, List.set_cons_succ]
    refine wpAnyH_ready (rs := [6]) (by kernel_rfl) (by simp) ?_
    refine AllReadyH.cons (o := { dst := some 128, op := Op.buildSlice 72 2 #[(0, Operand.tmp 124), (1, Operand.tmp 127)], type := 72, pos := "law.go:158", after := #[{ on := 2, ground := Ground.data }, { on := 5, ground := Ground.data }], guard := none }) rfl (fun KK hKK => ?_) AllReadyH.nil
    go_simp
    have hAy := kept_alloc [] w2y (.cells #[.string (txt JA), .string (txt IB)] 9)
    have hby := blk_new w2y 9 #[.string (txt JA), .string (txt IB)]
    refine hKK.out _ _ hAy (fun _ => ?_)
    replace hH := hAy
    clear hKK KK
    try simp only [Act.put, List.setIfInBounds_toArray, List.set_cons_zero, List.set_cons_succ]
    refine wpAnyH_take (i := 7) (oi := { dst := some 20, op := Op.assign (Operand.tmp 128), type := 72, pos := "law.go:158", after := #[{ on := 6, ground := Ground.data }, { on := 4, ground := Ground.chain }, { on := 0, ground := Ground.phase }, { on := 1, ground := Ground.phase }, { on := 2, ground := Ground.phase }, { on := 3, ground := Ground.phase }, { on := 4, ground := Ground.phase }, { on := 5, ground := Ground.phase }, { on := 6, ground := Ground.phase }], guard := none }) (v := (.slice (some ⟨w2y.heap.size, 0, none⟩) 2 2)) rfl (by kernel_rfl) (by kernel_rfl) (by kernel_rfl) (fun _ _ _ h => h) (Or.inl ⟨by rfl, fun W hSw => by go_simp⟩) hH ?_
    refine wpAnyH_done (by kernel_rfl) ?_ _
    have hK6 : Kept [] wG (w2y.alloc (.cells #[.string (txt JA), .string (txt IB)] 9)) := (((kept_drew [] wG).trans hk1y).trans hk2y).trans hAy
    have hQ := (hPG.kept hK6).kept (kept_drew [] _)
    have hKq := (hKG.trans hK6).trans (kept_drew [] _)
    have hw := (hbG.kept hK6 (by simp)).kept (kept_drew [] _) (by simp)
    have hn := hby.kept (kept_drew [] _) (by simp)
    obtain ⟨Wy, hWy⟩ : ∃ Wy, w2y.alloc (.cells #[.string (txt JA), .string (txt IB)] 9) = Wy := ⟨_, rfl⟩
    obtain ⟨gy, hgy⟩ : ∃ gy, w2y.heap.size = gy := ⟨_, rfl⟩
    rw [hWy] at hQ hKq hw hn ⊢
    rw [hgy] at hn ⊢
    clear hWy hgy hAy hK6 hH hR1y hR2y hk1y hk2y qi qj hPG hKG hbG hby
    go_wp2_with fail
    refine wp_region_held_drew (S := fun W => Kept [] Wy.drew W) (by kernel_rfl) (Kept.refl _ _) (fun hP => ?_)
    have hH := hP
    clear hP
    refine wpAnyH_take (i := 0) (oi := { dst := some 129, op := Op.move (Operand.tmp 20), type := 72, pos := "law.go:159", after := #[], guard := none }) (v := (.slice (some ⟨gy, 0, none⟩) 2 2)) rfl (by kernel_rfl) (by kernel_rfl) (by kernel_rfl) (fun _ _ _ h => h) (Or.inl ⟨by rfl, fun W hSw => by go_simp⟩) hH ?_
    try simp only [Act.put, List.setIfInBounds_toArray, List.set_cons_zero, List.set_cons_succ]
    refine wpAnyH_take (i := 1) (oi := { dst := some 130, op := Op.move (Operand.tmp 19), type := 3, pos := "law.go:159", after := #[], guard := none }) (v := (.int .i64 1)) rfl (by kernel_rfl) (by kernel_rfl) (by kernel_rfl) (fun _ _ _ h => h) (Or.inl ⟨by rfl, fun W hSw => by go_simp⟩) hH ?_
    try simp only [Act.put, List.setIfInBounds_toArray, List.set_cons_zero, List.set_cons_succ]
    refine wpAnyH_take (i := 2) (oi := { dst := some 131, op := Op.indexAddr 72 (Operand.tmp 129) (Operand.tmp 130), type := 0, pos := "law.go:159", after := #[{ on := 0, ground := Ground.data }, { on := 1, ground := Ground.data }], guard := none }) (v := (.pointer (some ⟨gy, 1, none⟩))) rfl (by kernel_rfl) (by kernel_rfl) (by kernel_rfl) (fun _ _ _ h => h) (Or.inl ⟨by rfl, fun W hSw => by go_simp⟩) hH ?_
    try simp only [Act.put, List.setIfInBounds_toArray, List.set_cons_zero, List.set_cons_succ]
    refine wpAnyH_take (i := 3) (oi := { dst := some 132, op := Op.load 9 (Operand.tmp 131), type := 9, pos := "law.go:159", after := #[{ on := 2, ground := Ground.data }], guard := none }) (v := (.string (txt IB))) rfl (by kernel_rfl) (by kernel_rfl) (by kernel_rfl) (fun _ _ _ h => h) (Or.inl ⟨by rfl, fun W hSw => by have hc := (hn.kept hSw (by simp)).cell 1; simp at hc; go_simp⟩) hH ?_
    try simp only [Act.put, List.setIfInBounds_toArray, List.set_cons_zero, List.set_cons_succ]
    refine wpAnyH_take (i := 4) (oi := { dst := some 133, op := Op.move (Operand.tmp 11), type := 72, pos := "law.go:159", after := #[], guard := none }) (v := (.slice (some ⟨gx, 0, none⟩) 2 2)) rfl (by kernel_rfl) (by kernel_rfl) (by kernel_rfl) (fun _ _ _ h => h) (Or.inl ⟨by rfl, fun W hSw => by go_simp⟩) hH ?_
    try simp only [Act.put, List.setIfInBounds_toArray, List.set_cons_zero, List.set_cons_succ]
    refine wpAnyH_take (i := 5) (oi := { dst := some 134, op := Op.move (Operand.tmp 19), type := 3, pos := "law.go:159", after := #[], guard := none }) (v := (.int .i64 1)) rfl (by kernel_rfl) (by kernel_rfl) (by kernel_rfl) (fun _ _ _ h => h) (Or.inl ⟨by rfl, fun W hSw => by go_simp⟩) hH ?_
    try simp only [Act.put, List.setIfInBounds_toArray, List.set_cons_zero, List.set_cons_succ]
    refine wpAnyH_take (i := 6) (oi := { dst := some 135, op := Op.indexAddr 72 (Operand.tmp 133) (Operand.tmp 134), type := 0, pos := "law.go:159", after := #[{ on := 4, ground := Ground.data }, { on := 5, ground := Ground.data }], guard := none }) (v := (.pointer (some ⟨gx, 1, none⟩))) rfl (by kernel_rfl) (by kernel_rfl) (by kernel_rfl) (fun _ _ _ h => h) (Or.inl ⟨by rfl, fun W hSw => by go_simp⟩) hH ?_
    try simp only [Act.put, List.setIfInBounds_toArray, List.set_cons_zero, List.set_cons_succ]
    refine wpAnyH_take (i := 7) (oi := { dst := some 136, op := Op.load 9 (Operand.tmp 135), type := 9, pos := "law.go:159", after := #[{ on := 6, ground := Ground.data }], guard := none }) (v := (.string (txt IB))) rfl (by kernel_rfl) (by kernel_rfl) (by kernel_rfl) (fun _ _ _ h => h) (Or.inl ⟨by rfl, fun W hSw => by have hc := (hw.kept hSw (by simp)).cell 1; simp at hc; go_simp⟩) hH ?_
    try simp only [Act.put, List.setIfInBounds_toArray, List.set_cons_zero, List.set_cons_succ]
    refine wpAnyH_take (i := 8) (oi := { dst := some 137, op := Op.binOp BinOp.eql 9 (Operand.tmp 132) (Operand.tmp 136) 9, type := 4, pos := "law.go:159", after := #[{ on := 3, ground := Ground.data }, { on := 7, ground := Ground.data }], guard := none }) (v := (.bool true)) rfl (by kernel_rfl) (by kernel_rfl) (by kernel_rfl) (fun _ _ _ h => h) (Or.inl ⟨by rfl, fun W hSw => by go_simp⟩) hH ?_
    try simp only [Act.put, List.setIfInBounds_toArray, List.set_cons_zero, List.set_cons_succ]
    refine wpAnyH_take (i := 9) (oi := { dst := some 138, op := Op.move (Operand.tmp 137), type := 4, pos := "law.go:159", after := #[{ on := 8, ground := Ground.data }], guard := none }) (v := (.bool true)) rfl (by kernel_rfl) (by kernel_rfl) (by kernel_rfl) (fun _ _ _ h => h) (Or.inl ⟨by rfl, fun W hSw => by go_simp⟩) hH ?_
    try simp only [Act.put, List.setIfInBounds_toArray, List.set_cons_zero, List.set_cons_succ]
    refine wpAnyH_take (i := 10) (oi := { dst := some 139, op := Op.move (Operand.tmp 5), type := 30, pos := "law.go:159", after := #[{ on := 9, ground := Ground.guard }], guard := some (9, true) }) (v := (.pointer (some ⟨d, 0, none⟩))) rfl (by kernel_rfl) (by kernel_rfl) (by kernel_rfl) (fun _ _ _ h => h) (Or.inl ⟨by rfl, fun W hSw => by go_simp⟩) hH ?_
    try simp only [Act.put, List.setIfInBounds_toArray, List.set_cons_zero, List.set_cons_succ]
    refine wpAnyH_ready (rs := [11]) (by kernel_rfl) (by simp) ?_
    refine AllReadyH.cons (o := { dst := some 140, op := Op.call { callee := Callee.value (Operand.func 31), args := #[Operand.tmp 139], argTypes := #[30] }, type := 78, pos := "law.go:159", after := #[{ on := 10, ground := Ground.data }, { on := 9, ground := Ground.chain }, { on := 9, ground := Ground.guard }], guard := some (9, true) }) rfl (fun K hK => ?_) AllReadyH.nil
    go_simp
    refine (ql _ hQ.one).mono ?_
    rintro e wE ⟨rfl, hkE⟩
    go_wp2_with fail
    refine hK.out _ _ hkE (fun _ => ?_)
    clear hK K
    refine wpAnyH_stronger (S' := fun W => Kept [] wE W) (fun W h => hkE.trans h) _ _ _ _ ?_
    replace hH := Kept.refl [] wE
    replace hQ := hQ.kept hkE
    replace hKq := hKq.trans hkE
    try simp only [Act.put, List.setIfInBounds_toArray, List.set_cons_zero, List.set_cons_succ]
    refine wpAnyH_ready (rs := [12]) (by kernel_rfl) (by simp) ?_
    refine AllReadyH.cons (o := { dst := some 141, op := Op.call { callee := Callee.value (Operand.func 30), args := #[Operand.tmp 140], argTypes := #[78] }, type := 23, pos := "law.go:159", after := #[{ on := 11, ground := Ground.data }, { on := 11, ground := Ground.chain }, { on := 9, ground := Ground.guard }], guard := some (9, true) }) rfl (fun K hK => ?_) AllReadyH.nil
    go_simp
    refine (qn _ _).mono ?_
    rintro e wF ⟨rfl, hkF⟩
    go_wp2_with fail
    refine hK.out _ _ hkF (fun _ => ?_)
    clear hK K
    refine wpAnyH_stronger (S' := fun W => Kept [] wF W) (fun W h => hkF.trans h) _ _ _ _ ?_
    replace hH := Kept.refl [] wF
    replace hQ := hQ.kept hkF
    replace hKq := hKq.trans hkF
    try simp only [Act.put, List.setIfInBounds_toArray, List.set_cons_zero, List.set_cons_succ]
    refine wpAnyH_take (i := 13) (oi := { dst := some 142, op := Op.binOp BinOp.eql 23 (Operand.tmp 141) (Operand.const (Value.int IntKind.u64 0)) 23, type := 4, pos := "law.go:159", after := #[{ on := 12, ground := Ground.data }, { on := 9, ground := Ground.guard }], guard := some (9, true) }) (v := (.bool true)) rfl (by kernel_rfl) (by kernel_rfl) (by kernel_rfl) (fun _ _ _ h => h) (Or.inl ⟨by rfl, fun W hSw => by go_simp⟩) hH ?_
    try simp only [Act.put, List.setIfInBounds_toArray, List.set_cons_zero, List.set_cons_succ]
    refine wpAnyH_take (i := 14) (oi := { dst := some 143, op := Op.pick (Operand.tmp 138) (Operand.tmp 142) (Operand.const (Value.bool false)), type := 4, pos := "law.go:159", after := #[{ on := 9, ground := Ground.data }, { on := 13, ground := Ground.data }], guard := none }) (v := (.bool true)) rfl (by kernel_rfl) (by kernel_rfl) (by kernel_rfl) (fun _ _ _ h => h) (Or.inl ⟨by rfl, fun W hSw => by go_simp⟩) hH ?_
    try simp only [Act.put, List.setIfInBounds_toArray, List.set_cons_zero, List.set_cons_succ]
    refine wpAnyH_take (i := 15) (oi := { dst := some 144, op := Op.move (Operand.tmp 143), type := 4, pos := "law.go:159", after := #[{ on := 14, ground := Ground.data }, { on := 12, ground := Ground.chain }], guard := none }) (v := (.bool true)) rfl (by kernel_rfl) (by kernel_rfl) (by kernel_rfl) (fun _ _ _ h => h) (Or.inl ⟨by rfl, fun W hSw => by go_simp⟩) hH ?_
    try simp only [Act.put, List.setIfInBounds_toArray, List.set_cons_zero, List.set_cons_succ]
    refine wpAnyH_take (i := 16) (oi := { dst := some 145, op := Op.move (Operand.tmp 8), type := 30, pos := "law.go:159", after := #[{ on := 15, ground := Ground.guard }], guard := some (15, true) }) (v := (.pointer (some ⟨d', 0, none⟩))) rfl (by kernel_rfl) (by kernel_rfl) (by kernel_rfl) (fun _ _ _ h => h) (Or.inl ⟨by rfl, fun W hSw => by go_simp⟩) hH ?_
    try simp only [Act.put, List.setIfInBounds_toArray, List.set_cons_zero, List.set_cons_succ]
    refine wpAnyH_ready (rs := [17]) (by kernel_rfl) (by simp) ?_
    refine AllReadyH.cons (o := { dst := some 146, op := Op.call { callee := Callee.value (Operand.func 31), args := #[Operand.tmp 145], argTypes := #[30] }, type := 78, pos := "law.go:159", after := #[{ on := 16, ground := Ground.data }, { on := 15, ground := Ground.chain }, { on := 15, ground := Ground.guard }], guard := some (15, true) }) rfl (fun K hK => ?_) AllReadyH.nil
    go_simp
    refine (qm _ hQ.two).mono ?_
    rintro e wI ⟨rfl, hkI⟩
    go_wp2_with fail
    refine hK.out _ _ hkI (fun _ => ?_)
    clear hK K
    refine wpAnyH_stronger (S' := fun W => Kept [] wI W) (fun W h => hkI.trans h) _ _ _ _ ?_
    replace hH := Kept.refl [] wI
    replace hQ := hQ.kept hkI
    replace hKq := hKq.trans hkI
    try simp only [Act.put, List.setIfInBounds_toArray, List.set_cons_zero, List.set_cons_succ]
    refine wpAnyH_ready (rs := [18]) (by kernel_rfl) (by simp) ?_
    refine AllReadyH.cons (o := { dst := some 147, op := Op.call { callee := Callee.value (Operand.func 30), args := #[Operand.tmp 146], argTypes := #[78] }, type := 23, pos := "law.go:159", after := #[{ on := 17, ground := Ground.data }, { on := 17, ground := Ground.chain }, { on := 15, ground := Ground.guard }], guard := some (15, true) }) rfl (fun K hK => ?_) AllReadyH.nil
    go_simp
    refine (qn _ _).mono ?_
    rintro e wJ ⟨rfl, hkJ⟩
    go_wp2_with fail
    refine hK.out _ _ hkJ (fun _ => ?_)
    clear hK K
    refine wpAnyH_stronger (S' := fun W => Kept [] wJ W) (fun W h => hkJ.trans h) _ _ _ _ ?_
    replace hH := Kept.refl [] wJ
    replace hQ := hQ.kept hkJ
    replace hKq := hKq.trans hkJ
    try simp only [Act.put, List.setIfInBounds_toArray, List.set_cons_zero, List.set_cons_succ]
    refine wpAnyH_take (i := 19) (oi := { dst := some 148, op := Op.binOp BinOp.eql 23 (Operand.tmp 147) (Operand.const (Value.int IntKind.u64 0)) 23, type := 4, pos := "law.go:159", after := #[{ on := 18, ground := Ground.data }, { on := 15, ground := Ground.guard }], guard := some (15, true) }) (v := (.bool true)) rfl (by kernel_rfl) (by kernel_rfl) (by kernel_rfl) (fun _ _ _ h => h) (Or.inl ⟨by rfl, fun W hSw => by go_simp⟩) hH ?_
    try simp only [Act.put, List.setIfInBounds_toArray, List.set_cons_zero, List.set_cons_succ]
    refine wpAnyH_take (i := 20) (oi := { dst := some 149, op := Op.pick (Operand.tmp 144) (Operand.tmp 148) (Operand.const (Value.bool false)), type := 4, pos := "law.go:159", after := #[{ on := 15, ground := Ground.data }, { on := 19, ground := Ground.data }], guard := none }) (v := (.bool true)) rfl (by kernel_rfl) (by kernel_rfl) (by kernel_rfl) (fun _ _ _ h => h) (Or.inl ⟨by rfl, fun W hSw => by go_simp⟩) hH ?_
    try simp only [Act.put, List.setIfInBounds_toArray, List.set_cons_zero, List.set_cons_succ]
    refine wpAnyH_take (i := 21) (oi := { dst := some 150, op := Op.move (Operand.tmp 149), type := 4, pos := "law.go:159", after := #[{ on := 20, ground := Ground.data }, { on := 18, ground := Ground.chain }], guard := none }) (v := (.bool true)) rfl (by kernel_rfl) (by kernel_rfl) (by kernel_rfl) (fun _ _ _ h => h) (Or.inl ⟨by rfl, fun W hSw => by go_simp⟩) hH ?_
    try simp only [Act.put, List.setIfInBounds_toArray, List.set_cons_zero, List.set_cons_succ]
    refine wpAnyH_ready (rs := [22]) (by kernel_rfl) (by simp) ?_
    refine AllReadyH.cons (o := { dst := some 151, op := Op.call { callee := Callee.value (Operand.func 7), args := #[], argTypes := #[] }, type := 4, pos := "law.go:159", after := #[{ on := 21, ground := Ground.chain }, { on := 21, ground := Ground.guard }], guard := some (21, true) }) rfl (fun K hK => ?_) AllReadyH.nil
    go_simp
    refine (q8 _).mono ?_
    rintro e wL ⟨rfl, hkL⟩
    go_wp2_with fail
    refine hK.out _ _ hkL (fun _ => ?_)
    clear hK K
    refine wpAnyH_stronger (S' := fun W => Kept [] wL W) (fun W h => hkL.trans h) _ _ _ _ ?_
    replace hH := Kept.refl [] wL
    replace hQ := hQ.kept hkL
    replace hKq := hKq.trans hkL
    try simp only [Act.put, List.setIfInBounds_toArray, List.set_cons_zero, List.set_cons_succ]
    refine wpAnyH_take (i := 23) (oi := { dst := some 152, op := Op.pick (Operand.tmp 150) (Operand.tmp 151) (Operand.const (Value.bool false)), type := 4, pos := "law.go:159", after := #[{ on := 21, ground := Ground.data }, { on := 22, ground := Ground.data }], guard := none }) (v := (.bool true)) rfl (by kernel_rfl) (by kernel_rfl) (by kernel_rfl) (fun _ _ _ h => h) (Or.inl ⟨by rfl, fun W hSw => by go_simp⟩) hH ?_
    try simp only [Act.put, List.setIfInBounds_toArray, List.set_cons_zero, List.set_cons_succ]
    refine wpAnyH_take (i := 24) (oi := { dst := some 4, op := Op.assign (Operand.tmp 152), type := 4, pos := "law.go:159", after := #[{ on := 23, ground := Ground.data }, { on := 22, ground := Ground.chain }, { on := 0, ground := Ground.phase }, { on := 1, ground := Ground.phase }, { on := 2, ground := Ground.phase }, { on := 3, ground := Ground.phase }, { on := 4, ground := Ground.phase }, { on := 5, ground := Ground.phase }, { on := 6, ground := Ground.phase }, { on := 7, ground := Ground.phase }, { on := 8, ground := Ground.phase }, { on := 9, ground := Ground.phase }, { on := 10, ground := Ground.phase }, { on := 11, ground := Ground.phase }, { on := 12, ground := Ground.phase }, { on := 13, ground := Ground.phase }, { on := 14, ground := Ground.phase }, { on := 15, ground := Ground.phase }, { on := 16, ground := Ground.phase }, { on := 17, ground := Ground.phase }, { on := 18, ground := Ground.phase }, { on := 19, ground := Ground.phase }, { on := 20, ground := Ground.phase }, { on := 21, ground := Ground.phase }, { on := 22, ground := Ground.phase }, { on := 23, ground := Ground.phase }], guard := none }) (v := (.bool true)) rfl (by kernel_rfl) (by kernel_rfl) (by kernel_rfl) (fun _ _ _ h => h) (Or.inl ⟨by rfl, fun W hSw => by go_simp⟩) hH ?_
    try simp only [Act.put, List.setIfInBounds_toArray, List.set_cons_zero, List.set_cons_succ]
    refine wpAnyH_done (by kernel_rfl) ?_ _
    go_wp2_with fail
    go_ret
    exact ⟨rfl, hKq⟩
  case true =>
    rw [if_neg (by decide), if_neg (by decide)] at fI
    simp only [Bool.not_true] at qs3
    rw [hIA] at fI
    rw [fI] at qi
    generalize imgL MB = JB at *
    clear fI hIA hIB hMA hMB
    go_upto_region 16 with (first
      | (go_at_call 19; refine (qs3 _ hRG).mono ?_; clear qs3; rintro e wG ⟨rfl, rfl⟩))
    refine wp_region_held_drew (S := fun V => Kept [] wG.drew V) (by kernel_rfl) (Kept.refl _ _) (fun hP => ?_)
    have hH := hP
    clear hP
    refine wpAnyH_take (i := 0) (oi := { dst := some 122, op := Op.move (Operand.tmp 5), type := 30, pos := "law.go:158", after := #[], guard := none }) (v := (.pointer (some ⟨d, 0, none⟩))) rfl (by kernel_rfl) (by kernel_rfl) (by kernel_rfl) (fun _ _ _ h => h) (Or.inl ⟨by rfl, fun W hSw => by go_simp⟩) hH ?_
    try simp only [Act.put, List.setIfInBounds_toArray, List.set_cons_zero, List.set_cons_succ]
    refine wpAnyH_take (i := 3) (oi := { dst := some 125, op := Op.move (Operand.tmp 8), type := 30, pos := "law.go:158", after := #[], guard := none }) (v := (.pointer (some ⟨d', 0, none⟩))) rfl (by kernel_rfl) (by kernel_rfl) (by kernel_rfl) (fun _ _ _ h => h) (Or.inl ⟨by rfl, fun W hSw => by go_simp⟩) hH ?_
    try simp only [Act.put, List.setIfInBounds_toArray, List.set_cons_zero, List.set_cons_succ]
    refine wpAnyH_ready (rs := [1]) (by kernel_rfl) (by simp) ?_
    refine AllReadyH.cons (o := { dst := some 123, op := Op.call { callee := Callee.value (Operand.func 24), args := #[Operand.tmp 122], argTypes := #[30] }, type := 24, pos := "law.go:158", after := #[{ on := 0, ground := Ground.data }], guard := none }) rfl (fun KK hKK => ?_) AllReadyH.nil
    go_simp
    refine (qi _ (hPG.kept (kept_drew [] wG)).one).mono ?_
    rintro e w1y ⟨v1y, rfl, hR1y, hk1y⟩
    go_wp2_with fail
    refine hKK.out _ _ hk1y (fun _ => ?_)
    clear hKK KK
    refine wpAnyH_stronger (S' := fun V => Kept [] w1y V) (fun W h => hk1y.trans h) _ _ _ _ ?_
    replace hH := Kept.refl [] w1y
    try simp only [Act.put, List.setIfInBounds_toArray, List.set_cons_zero, List.set_cons_succ]
    refine wpAnyH_take (i := 2) (oi := { dst := some 124, op := Op.convert 24 9 (Operand.tmp 123), type := 9, pos := "law.go:158", after := #[{ on := 1, ground := Ground.data }], guard := none }) (v := (.string (txt IA))) rfl (by kernel_rfl) (by kernel_rfl) (by kernel_rfl) (fun _ _ _ h => h) (Or.inl ⟨by rfl, fun W hSw => by have hc := conv_txt (hR1y.kept (Nat.le_refl _) hSw (by simp)); go_simp⟩) hH ?_
    try simp only [Act.put, List.setIfInBounds_toArray, List.set_cons_zero, List.set_cons_succ]
    refine wpAnyH_ready (rs := [4]) (by kernel_rfl) (by simp) ?_
    refine AllReadyH.cons (o := { dst := some 126, op := Op.call { callee := Callee.value (Operand.func 24), args := #[Operand.tmp 125], argTypes := #[30] }, type := 24, pos := "law.go:158", after := #[{ on := 3, ground := Ground.data }, { on := 1, ground := Ground.chain }], guard := none }) rfl (fun KK hKK => ?_) AllReadyH.nil
    go_simp
    refine (qj _ ((hPG.kept (kept_drew [] wG)).kept hk1y).two).mono ?_
    rintro e w2y ⟨v2y, rfl, hR2y, hk2y⟩
    go_wp2_with fail
    refine hKK.out _ _ hk2y (fun _ => ?_)
    clear hKK KK
    refine wpAnyH_stronger (S' := fun V => Kept [] w2y V) (fun W h => hk2y.trans h) _ _ _ _ ?_
    replace hH := Kept.refl [] w2y
    try simp only [Act.put, List.setIfInBounds_toArray, List.set_cons_zero, List.set_cons_succ]
    refine wpAnyH_take (i := 5) (oi := { dst := some 127, op := Op.convert 24 9 (Operand.tmp 126), type := 9, pos := "law.go:158", after := #[{ on := 4, ground := Ground.data }], guard := none }) (v := (.string (txt JB))) rfl (by kernel_rfl) (by kernel_rfl) (by kernel_rfl) (fun _ _ _ h => h) (Or.inl ⟨by rfl, fun W hSw => by have hc := conv_txt (hR2y.kept (Nat.le_refl _) hSw (by simp)); go_simp⟩) hH ?_
    try simp only [Act.put, List.setIfInBounds_toArray, List.set_cons_zero, List.set_cons_succ]
    refine wpAnyH_ready (rs := [6]) (by kernel_rfl) (by simp) ?_
    refine AllReadyH.cons (o := { dst := some 128, op := Op.buildSlice 72 2 #[(0, Operand.tmp 124), (1, Operand.tmp 127)], type := 72, pos := "law.go:158", after := #[{ on := 2, ground := Ground.data }, { on := 5, ground := Ground.data }], guard := none }) rfl (fun KK hKK => ?_) AllReadyH.nil
    go_simp
    have hAy := kept_alloc [] w2y (.cells #[.string (txt IA), .string (txt JB)] 9)
    have hby := blk_new w2y 9 #[.string (txt IA), .string (txt JB)]
    refine hKK.out _ _ hAy (fun _ => ?_)
    replace hH := hAy
    clear hKK KK
    try simp only [Act.put, List.setIfInBounds_toArray, List.set_cons_zero, List.set_cons_succ]
    refine wpAnyH_take (i := 7) (oi := { dst := some 20, op := Op.assign (Operand.tmp 128), type := 72, pos := "law.go:158", after := #[{ on := 6, ground := Ground.data }, { on := 4, ground := Ground.chain }, { on := 0, ground := Ground.phase }, { on := 1, ground := Ground.phase }, { on := 2, ground := Ground.phase }, { on := 3, ground := Ground.phase }, { on := 4, ground := Ground.phase }, { on := 5, ground := Ground.phase }, { on := 6, ground := Ground.phase }], guard := none }) (v := (.slice (some ⟨w2y.heap.size, 0, none⟩) 2 2)) rfl (by kernel_rfl) (by kernel_rfl) (by kernel_rfl) (fun _ _ _ h => h) (Or.inl ⟨by rfl, fun W hSw => by go_simp⟩) hH ?_
    refine wpAnyH_done (by kernel_rfl) ?_ _
    have hK6 : Kept [] wG (w2y.alloc (.cells #[.string (txt IA), .string (txt JB)] 9)) := (((kept_drew [] wG).trans hk1y).trans hk2y).trans hAy
    have hQ := (hPG.kept hK6).kept (kept_drew [] _)
    have hKq := (hKG.trans hK6).trans (kept_drew [] _)
    have hw := (hbG.kept hK6 (by simp)).kept (kept_drew [] _) (by simp)
    have hn := hby.kept (kept_drew [] _) (by simp)
    obtain ⟨Wy, hWy⟩ : ∃ Wy, w2y.alloc (.cells #[.string (txt IA), .string (txt JB)] 9) = Wy := ⟨_, rfl⟩
    obtain ⟨gy, hgy⟩ : ∃ gy, w2y.heap.size = gy := ⟨_, rfl⟩
    rw [hWy] at hQ hKq hw hn ⊢
    rw [hgy] at hn ⊢
    clear hWy hgy hAy hK6 hH hR1y hR2y hk1y hk2y qi qj hPG hKG hbG hby
    go_wp2_with fail
    refine wp_region_held_drew (S := fun W => Kept [] Wy.drew W) (by kernel_rfl) (Kept.refl _ _) (fun hP => ?_)
    have hH := hP
    clear hP
    refine wpAnyH_take (i := 0) (oi := { dst := some 129, op := Op.move (Operand.tmp 20), type := 72, pos := "law.go:159", after := #[], guard := none }) (v := (.slice (some ⟨gy, 0, none⟩) 2 2)) rfl (by kernel_rfl) (by kernel_rfl) (by kernel_rfl) (fun _ _ _ h => h) (Or.inl ⟨by rfl, fun W hSw => by go_simp⟩) hH ?_
    try simp only [Act.put, List.setIfInBounds_toArray, List.set_cons_zero, List.set_cons_succ]
    refine wpAnyH_take (i := 1) (oi := { dst := some 130, op := Op.move (Operand.tmp 19), type := 3, pos := "law.go:159", after := #[], guard := none }) (v := (.int .i64 0)) rfl (by kernel_rfl) (by kernel_rfl) (by kernel_rfl) (fun _ _ _ h => h) (Or.inl ⟨by rfl, fun W hSw => by go_simp⟩) hH ?_
    try simp only [Act.put, List.setIfInBounds_toArray, List.set_cons_zero, List.set_cons_succ]
    refine wpAnyH_take (i := 2) (oi := { dst := some 131, op := Op.indexAddr 72 (Operand.tmp 129) (Operand.tmp 130), type := 0, pos := "law.go:159", after := #[{ on := 0, ground := Ground.data }, { on := 1, ground := Ground.data }], guard := none }) (v := (.pointer (some ⟨gy, 0, none⟩))) rfl (by kernel_rfl) (by kernel_rfl) (by kernel_rfl) (fun _ _ _ h => h) (Or.inl ⟨by rfl, fun W hSw => by go_simp⟩) hH ?_
    try simp only [Act.put, List.setIfInBounds_toArray, List.set_cons_zero, List.set_cons_succ]
    refine wpAnyH_take (i := 3) (oi := { dst := some 132, op := Op.load 9 (Operand.tmp 131), type := 9, pos := "law.go:159", after := #[{ on := 2, ground := Ground.data }], guard := none }) (v := (.string (txt IA))) rfl (by kernel_rfl) (by kernel_rfl) (by kernel_rfl) (fun _ _ _ h => h) (Or.inl ⟨by rfl, fun W hSw => by have hc := (hn.kept hSw (by simp)).cell 0; simp at hc; go_simp⟩) hH ?_
    try simp only [Act.put, List.setIfInBounds_toArray, List.set_cons_zero, List.set_cons_succ]
    refine wpAnyH_take (i := 4) (oi := { dst := some 133, op := Op.move (Operand.tmp 11), type := 72, pos := "law.go:159", after := #[], guard := none }) (v := (.slice (some ⟨gx, 0, none⟩) 2 2)) rfl (by kernel_rfl) (by kernel_rfl) (by kernel_rfl) (fun _ _ _ h => h) (Or.inl ⟨by rfl, fun W hSw => by go_simp⟩) hH ?_
    try simp only [Act.put, List.setIfInBounds_toArray, List.set_cons_zero, List.set_cons_succ]
    refine wpAnyH_take (i := 5) (oi := { dst := some 134, op := Op.move (Operand.tmp 19), type := 3, pos := "law.go:159", after := #[], guard := none }) (v := (.int .i64 0)) rfl (by kernel_rfl) (by kernel_rfl) (by kernel_rfl) (fun _ _ _ h => h) (Or.inl ⟨by rfl, fun W hSw => by go_simp⟩) hH ?_
    try simp only [Act.put, List.setIfInBounds_toArray, List.set_cons_zero, List.set_cons_succ]
    refine wpAnyH_take (i := 6) (oi := { dst := some 135, op := Op.indexAddr 72 (Operand.tmp 133) (Operand.tmp 134), type := 0, pos := "law.go:159", after := #[{ on := 4, ground := Ground.data }, { on := 5, ground := Ground.data }], guard := none }) (v := (.pointer (some ⟨gx, 0, none⟩))) rfl (by kernel_rfl) (by kernel_rfl) (by kernel_rfl) (fun _ _ _ h => h) (Or.inl ⟨by rfl, fun W hSw => by go_simp⟩) hH ?_
    try simp only [Act.put, List.setIfInBounds_toArray, List.set_cons_zero, List.set_cons_succ]
    refine wpAnyH_take (i := 7) (oi := { dst := some 136, op := Op.load 9 (Operand.tmp 135), type := 9, pos := "law.go:159", after := #[{ on := 6, ground := Ground.data }], guard := none }) (v := (.string (txt IA))) rfl (by kernel_rfl) (by kernel_rfl) (by kernel_rfl) (fun _ _ _ h => h) (Or.inl ⟨by rfl, fun W hSw => by have hc := (hw.kept hSw (by simp)).cell 0; simp at hc; go_simp⟩) hH ?_
    try simp only [Act.put, List.setIfInBounds_toArray, List.set_cons_zero, List.set_cons_succ]
    refine wpAnyH_take (i := 8) (oi := { dst := some 137, op := Op.binOp BinOp.eql 9 (Operand.tmp 132) (Operand.tmp 136) 9, type := 4, pos := "law.go:159", after := #[{ on := 3, ground := Ground.data }, { on := 7, ground := Ground.data }], guard := none }) (v := (.bool true)) rfl (by kernel_rfl) (by kernel_rfl) (by kernel_rfl) (fun _ _ _ h => h) (Or.inl ⟨by rfl, fun W hSw => by go_simp⟩) hH ?_
    try simp only [Act.put, List.setIfInBounds_toArray, List.set_cons_zero, List.set_cons_succ]
    refine wpAnyH_take (i := 9) (oi := { dst := some 138, op := Op.move (Operand.tmp 137), type := 4, pos := "law.go:159", after := #[{ on := 8, ground := Ground.data }], guard := none }) (v := (.bool true)) rfl (by kernel_rfl) (by kernel_rfl) (by kernel_rfl) (fun _ _ _ h => h) (Or.inl ⟨by rfl, fun W hSw => by go_simp⟩) hH ?_
    try simp only [Act.put, List.setIfInBounds_toArray, List.set_cons_zero, List.set_cons_succ]
    refine wpAnyH_take (i := 10) (oi := { dst := some 139, op := Op.move (Operand.tmp 5), type := 30, pos := "law.go:159", after := #[{ on := 9, ground := Ground.guard }], guard := some (9, true) }) (v := (.pointer (some ⟨d, 0, none⟩))) rfl (by kernel_rfl) (by kernel_rfl) (by kernel_rfl) (fun _ _ _ h => h) (Or.inl ⟨by rfl, fun W hSw => by go_simp⟩) hH ?_
    try simp only [Act.put, List.setIfInBounds_toArray, List.set_cons_zero, List.set_cons_succ]
    refine wpAnyH_ready (rs := [11]) (by kernel_rfl) (by simp) ?_
    refine AllReadyH.cons (o := { dst := some 140, op := Op.call { callee := Callee.value (Operand.func 31), args := #[Operand.tmp 139], argTypes := #[30] }, type := 78, pos := "law.go:159", after := #[{ on := 10, ground := Ground.data }, { on := 9, ground := Ground.chain }, { on := 9, ground := Ground.guard }], guard := some (9, true) }) rfl (fun K hK => ?_) AllReadyH.nil
    go_simp
    refine (ql _ hQ.one).mono ?_
    rintro e wE ⟨rfl, hkE⟩
    go_wp2_with fail
    refine hK.out _ _ hkE (fun _ => ?_)
    clear hK K
    refine wpAnyH_stronger (S' := fun W => Kept [] wE W) (fun W h => hkE.trans h) _ _ _ _ ?_
    replace hH := Kept.refl [] wE
    replace hQ := hQ.kept hkE
    replace hKq := hKq.trans hkE
    try simp only [Act.put, List.setIfInBounds_toArray, List.set_cons_zero, List.set_cons_succ]
    refine wpAnyH_ready (rs := [12]) (by kernel_rfl) (by simp) ?_
    refine AllReadyH.cons (o := { dst := some 141, op := Op.call { callee := Callee.value (Operand.func 30), args := #[Operand.tmp 140], argTypes := #[78] }, type := 23, pos := "law.go:159", after := #[{ on := 11, ground := Ground.data }, { on := 11, ground := Ground.chain }, { on := 9, ground := Ground.guard }], guard := some (9, true) }) rfl (fun K hK => ?_) AllReadyH.nil
    go_simp
    refine (qn _ _).mono ?_
    rintro e wF ⟨rfl, hkF⟩
    go_wp2_with fail
    refine hK.out _ _ hkF (fun _ => ?_)
    clear hK K
    refine wpAnyH_stronger (S' := fun W => Kept [] wF W) (fun W h => hkF.trans h) _ _ _ _ ?_
    replace hH := Kept.refl [] wF
    replace hQ := hQ.kept hkF
    replace hKq := hKq.trans hkF
    try simp only [Act.put, List.setIfInBounds_toArray, List.set_cons_zero, List.set_cons_succ]
    refine wpAnyH_take (i := 13) (oi := { dst := some 142, op := Op.binOp BinOp.eql 23 (Operand.tmp 141) (Operand.const (Value.int IntKind.u64 0)) 23, type := 4, pos := "law.go:159", after := #[{ on := 12, ground := Ground.data }, { on := 9, ground := Ground.guard }], guard := some (9, true) }) (v := (.bool true)) rfl (by kernel_rfl) (by kernel_rfl) (by kernel_rfl) (fun _ _ _ h => h) (Or.inl ⟨by rfl, fun W hSw => by go_simp⟩) hH ?_
    try simp only [Act.put, List.setIfInBounds_toArray, List.set_cons_zero, List.set_cons_succ]
    refine wpAnyH_take (i := 14) (oi := { dst := some 143, op := Op.pick (Operand.tmp 138) (Operand.tmp 142) (Operand.const (Value.bool false)), type := 4, pos := "law.go:159", after := #[{ on := 9, ground := Ground.data }, { on := 13, ground := Ground.data }], guard := none }) (v := (.bool true)) rfl (by kernel_rfl) (by kernel_rfl) (by kernel_rfl) (fun _ _ _ h => h) (Or.inl ⟨by rfl, fun W hSw => by go_simp⟩) hH ?_
    try simp only [Act.put, List.setIfInBounds_toArray, List.set_cons_zero, List.set_cons_succ]
    refine wpAnyH_take (i := 15) (oi := { dst := some 144, op := Op.move (Operand.tmp 143), type := 4, pos := "law.go:159", after := #[{ on := 14, ground := Ground.data }, { on := 12, ground := Ground.chain }], guard := none }) (v := (.bool true)) rfl (by kernel_rfl) (by kernel_rfl) (by kernel_rfl) (fun _ _ _ h => h) (Or.inl ⟨by rfl, fun W hSw => by go_simp⟩) hH ?_
    try simp only [Act.put, List.setIfInBounds_toArray, List.set_cons_zero, List.set_cons_succ]
    refine wpAnyH_take (i := 16) (oi := { dst := some 145, op := Op.move (Operand.tmp 8), type := 30, pos := "law.go:159", after := #[{ on := 15, ground := Ground.guard }], guard := some (15, true) }) (v := (.pointer (some ⟨d', 0, none⟩))) rfl (by kernel_rfl) (by kernel_rfl) (by kernel_rfl) (fun _ _ _ h => h) (Or.inl ⟨by rfl, fun W hSw => by go_simp⟩) hH ?_
    try simp only [Act.put, List.setIfInBounds_toArray, List.set_cons_zero, List.set_cons_succ]
    refine wpAnyH_ready (rs := [17]) (by kernel_rfl) (by simp) ?_
    refine AllReadyH.cons (o := { dst := some 146, op := Op.call { callee := Callee.value (Operand.func 31), args := #[Operand.tmp 145], argTypes := #[30] }, type := 78, pos := "law.go:159", after := #[{ on := 16, ground := Ground.data }, { on := 15, ground := Ground.chain }, { on := 15, ground := Ground.guard }], guard := some (15, true) }) rfl (fun K hK => ?_) AllReadyH.nil
    go_simp
    refine (qm _ hQ.two).mono ?_
    rintro e wI ⟨rfl, hkI⟩
    go_wp2_with fail
    refine hK.out _ _ hkI (fun _ => ?_)
    clear hK K
    refine wpAnyH_stronger (S' := fun W => Kept [] wI W) (fun W h => hkI.trans h) _ _ _ _ ?_
    replace hH := Kept.refl [] wI
    replace hQ := hQ.kept hkI
    replace hKq := hKq.trans hkI
    try simp only [Act.put, List.setIfInBounds_toArray, List.set_cons_zero, List.set_cons_succ]
    refine wpAnyH_ready (rs := [18]) (by kernel_rfl) (by simp) ?_
    refine AllReadyH.cons (o := { dst := some 147, op := Op.call { callee := Callee.value (Operand.func 30), args := #[Operand.tmp 146], argTypes := #[78] }, type := 23, pos := "law.go:159", after := #[{ on := 17, ground := Ground.data }, { on := 17, ground := Ground.chain }, { on := 15, ground := Ground.guard }], guard := some (15, true) }) rfl (fun K hK => ?_) AllReadyH.nil
    go_simp
    refine (qn _ _).mono ?_
    rintro e wJ ⟨rfl, hkJ⟩
    go_wp2_with fail
    refine hK.out _ _ hkJ (fun _ => ?_)
    clear hK K
    refine wpAnyH_stronger (S' := fun W => Kept [] wJ W) (fun W h => hkJ.trans h) _ _ _ _ ?_
    replace hH := Kept.refl [] wJ
    replace hQ := hQ.kept hkJ
    replace hKq := hKq.trans hkJ
    try simp only [Act.put, List.setIfInBounds_toArray, List.set_cons_zero, List.set_cons_succ]
    refine wpAnyH_take (i := 19) (oi := { dst := some 148, op := Op.binOp BinOp.eql 23 (Operand.tmp 147) (Operand.const (Value.int IntKind.u64 0)) 23, type := 4, pos := "law.go:159", after := #[{ on := 18, ground := Ground.data }, { on := 15, ground := Ground.guard }], guard := some (15, true) }) (v := (.bool true)) rfl (by kernel_rfl) (by kernel_rfl) (by kernel_rfl) (fun _ _ _ h => h) (Or.inl ⟨by rfl, fun W hSw => by go_simp⟩) hH ?_
    try simp only [Act.put, List.setIfInBounds_toArray, List.set_cons_zero, List.set_cons_succ]
    refine wpAnyH_take (i := 20) (oi := { dst := some 149, op := Op.pick (Operand.tmp 144) (Operand.tmp 148) (Operand.const (Value.bool false)), type := 4, pos := "law.go:159", after := #[{ on := 15, ground := Ground.data }, { on := 19, ground := Ground.data }], guard := none }) (v := (.bool true)) rfl (by kernel_rfl) (by kernel_rfl) (by kernel_rfl) (fun _ _ _ h => h) (Or.inl ⟨by rfl, fun W hSw => by go_simp⟩) hH ?_
    try simp only [Act.put, List.setIfInBounds_toArray, List.set_cons_zero, List.set_cons_succ]
    refine wpAnyH_take (i := 21) (oi := { dst := some 150, op := Op.move (Operand.tmp 149), type := 4, pos := "law.go:159", after := #[{ on := 20, ground := Ground.data }, { on := 18, ground := Ground.chain }], guard := none }) (v := (.bool true)) rfl (by kernel_rfl) (by kernel_rfl) (by kernel_rfl) (fun _ _ _ h => h) (Or.inl ⟨by rfl, fun W hSw => by go_simp⟩) hH ?_
    try simp only [Act.put, List.setIfInBounds_toArray, List.set_cons_zero, List.set_cons_succ]
    refine wpAnyH_ready (rs := [22]) (by kernel_rfl) (by simp) ?_
    refine AllReadyH.cons (o := { dst := some 151, op := Op.call { callee := Callee.value (Operand.func 7), args := #[], argTypes := #[] }, type := 4, pos := "law.go:159", after := #[{ on := 21, ground := Ground.chain }, { on := 21, ground := Ground.guard }], guard := some (21, true) }) rfl (fun K hK => ?_) AllReadyH.nil
    go_simp
    refine (q8 _).mono ?_
    rintro e wL ⟨rfl, hkL⟩
    go_wp2_with fail
    refine hK.out _ _ hkL (fun _ => ?_)
    clear hK K
    refine wpAnyH_stronger (S' := fun W => Kept [] wL W) (fun W h => hkL.trans h) _ _ _ _ ?_
    replace hH := Kept.refl [] wL
    replace hQ := hQ.kept hkL
    replace hKq := hKq.trans hkL
    try simp only [Act.put, List.setIfInBounds_toArray, List.set_cons_zero, List.set_cons_succ]
    refine wpAnyH_take (i := 23) (oi := { dst := some 152, op := Op.pick (Operand.tmp 150) (Operand.tmp 151) (Operand.const (Value.bool false)), type := 4, pos := "law.go:159", after := #[{ on := 21, ground := Ground.data }, { on := 22, ground := Ground.data }], guard := none }) (v := (.bool true)) rfl (by kernel_rfl) (by kernel_rfl) (by kernel_rfl) (fun _ _ _ h => h) (Or.inl ⟨by rfl, fun W hSw => by go_simp⟩) hH ?_
    try simp only [Act.put, List.setIfInBounds_toArray, List.set_cons_zero, List.set_cons_succ]
    refine wpAnyH_take (i := 24) (oi := { dst := some 4, op := Op.assign (Operand.tmp 152), type := 4, pos := "law.go:159", after := #[{ on := 23, ground := Ground.data }, { on := 22, ground := Ground.chain }, { on := 0, ground := Ground.phase }, { on := 1, ground := Ground.phase }, { on := 2, ground := Ground.phase }, { on := 3, ground := Ground.phase }, { on := 4, ground := Ground.phase }, { on := 5, ground := Ground.phase }, { on := 6, ground := Ground.phase }, { on := 7, ground := Ground.phase }, { on := 8, ground := Ground.phase }, { on := 9, ground := Ground.phase }, { on := 10, ground := Ground.phase }, { on := 11, ground := Ground.phase }, { on := 12, ground := Ground.phase }, { on := 13, ground := Ground.phase }, { on := 14, ground := Ground.phase }, { on := 15, ground := Ground.phase }, { on := 16, ground := Ground.phase }, { on := 17, ground := Ground.phase }, { on := 18, ground := Ground.phase }, { on := 19, ground := Ground.phase }, { on := 20, ground := Ground.phase }, { on := 21, ground := Ground.phase }, { on := 22, ground := Ground.phase }, { on := 23, ground := Ground.phase }], guard := none }) (v := (.bool true)) rfl (by kernel_rfl) (by kernel_rfl) (by kernel_rfl) (fun _ _ _ h => h) (Or.inl ⟨by rfl, fun W hSw => by go_simp⟩) hH ?_
    try simp only [Act.put, List.setIfInBounds_toArray, List.set_cons_zero, List.set_cons_succ]
    refine wpAnyH_done (by kernel_rfl) ?_ _
    go_wp2_with fail
    go_ret
    exact ⟨rfl, hKq⟩
end Go.Proofs.YtfiofdmefgkloaaGreat.Resync
namespace Go.Proofs.YtfiofdmefgkloaaGreat.Resync
open Math Copying
open Pack (Mv Ms mv0 good)
open Go.ChangeShapes Go.WideShapes Go.ChangeAt Go.RowKit

set_option maxRecDepth 100000 in
theorem cellsSide : Tryz.prog.cellsOf 69 = 3 := by kernel_rfl
set_option maxRecDepth 100000 in
/-- A side that came in by value. -/
theorem side_in {H : Type} {enc : TypeId × Value → H} {W : World} {r : Reach} {b0 base : Nat} {spare : Nat → Bool} {held : Bool} {v : Value} {d : DataW H} {p : List MemPlace} (hv : Value.okWide Tryz.prog W r b0 69 v) (h : DataW.Trod enc Tryz.prog W base spare held 69 v d p) :
    ∃ (D : Nat) (sa : Option Addr) (len cap : Nat) (was : Bool) (bs : List Nat), v = .agg #[.int .u64 (D : Int), .slice sa len cap, .bool was] ∧ D < 18446744073709551616 ∧ len ≤ 9223372036854775807 ∧ Pack.ByteRow 0 W.heap.size W (.slice sa len cap) bs := by
  obtain ⟨cs, rfl, hsz⟩ := okWide_struct Tryz.underlying69 hv
  obtain ⟨fuel, hf⟩ := h
  obtain ⟨xs, n, _, _, hl, hlen, hq⟩ := DataW.trod_struct Tryz.underlying69 hf
  have h0 : DataW.trod enc Tryz.prog W base spare held n 23 ((cs.toList.drop 0).take (Tryz.prog.cellsOf 23)) = xs[0]? := by simpa [Value.cells] using hq 0 _ rfl
  have h1 : DataW.trod enc Tryz.prog W base spare held n 24 ((cs.toList.drop 1).take (Tryz.prog.cellsOf 24)) = xs[1]? := by simpa [Value.cells] using hq 1 _ rfl
  have h2 : DataW.trod enc Tryz.prog W base spare held n 4 ((cs.toList.drop 2).take (Tryz.prog.cellsOf 4)) = xs[2]? := by simpa [Value.cells] using hq 2 _ rfl
  rw [Pack.cellsU] at h0
  rw [Pack.cellsB] at h1
  rw [Pack.cells4] at h2
  match xs, hlen with
  | [y0, y1, y2], _ =>
    simp only [List.getElem?_cons_zero, List.getElem?_cons_succ] at h0 h1 h2
    obtain ⟨n0, e0, w0⟩ := Pack.int_cell Tryz.underlying23 h0
    obtain ⟨sa, len, cap, bs, e1, hl1, hb⟩ := Pack.bytes_cell h1
    obtain ⟨b, e2, _⟩ := DataW.trod_bool Tryz.underlying4 h2
    have b0 := bounds_u64 w0
    have hl' : cs.toList.length = 2 + 1 := by
      have := hl.trans cellsSide
      simpa [Value.cells] using this
    have hc : cs.toList.drop 0 = _ := Pack.cut_step cs.toList 0 1 _ _ e0 (Pack.cut_step cs.toList 1 1 _ _ e1 (Pack.cut_last cs.toList 2 1 _ e2 hl'))
    rw [List.drop_zero] at hc
    refine ⟨n0.toNat, sa, len, cap, b, bs, ?_, by omega, hl1, hb⟩
    rw [Int.toNat_of_nonneg b0.1]
    congr 1
    rw [← Array.toArray_toList (xs := cs), hc]
    rfl
end Go.Proofs.YtfiofdmefgkloaaGreat.Resync
