/-
 lives.
-/
import Derived.Test.YtoaeficfmcncjaaGreatD46
import Derived.Test.YtoaeficfmcncjaaGreatRows
import Derived.Test.YtoaeficfmcncjaaGreatD34
import Derived.ProofKit
import Derived.OpenShut
import Derived.ShutString
import Derived.ChangeOld
import Derived.ChangeSlices
import Derived.Deep.Slices
import Derived.Lib.SmallJoins
import Derived.Test.YtoaeficfmcncjaaGreatD37
import Derived.Test.YtoaeficfmcncjaaGreatD18
namespace Go.Proofs.YtoaeficfmcncjaaGreat.Mirror
open Go.RowKit
open Math
open Later (Lw Lv QAt Foot RowAt)
open Pack (Ms Mv)

def z16 : List Nat := zeros 16
def lm0 : Mr := ⟨made 16, 3, Bits.Math.elems 0, [], [], decide ((0 : Int) = 0)⟩
def lm1 : Mr := wrS lm0 ⟨5, 0, 1, z16⟩
def lx : Mv := ⟨3, 5, 0, 0, false, none, 0, 0, []⟩
set_option maxRecDepth 100000 in
theorem lv1 : wrB lm0 ⟨5, 0, 1, z16⟩ = true := by kernel_rfl
set_option maxRecDepth 100000 in
theorem lv2 : wrE lm0 ⟨5, 0, 1, z16⟩ = 0 := by kernel_rfl
set_option maxRecDepth 100000 in
theorem lv3 : tkE lm1 lx.ms = 0 := by kernel_rfl
set_option maxRecDepth 100000 in
theorem lv5 : Hot.mask (tkS lm1 lx.ms).hot = 1 := by kernel_rfl
set_option maxRecDepth 100000 in
theorem lv6 : lm1.fly.length = 1 ∧ lm1.lat.length = 0 ∧ lm1.d.ops = 4 := ⟨by kernel_rfl, by kernel_rfl, by kernel_rfl⟩
theorem bts_zeros (W : World) (X : List Nat) (hX : ∀ x ∈ X, x < W.heap.size) : Bts (W.alloc (.cells ((zeros 16).map enc).toArray 5)) X (.slice (some ⟨W.heap.size, 0, none⟩) 16 16) z16 := by
 refine ⟨by decide, some ⟨W.heap.size, 0, none⟩, 16, rfl, fun e => (by cases e), .inr ⟨W.heap.size, 0, rfl, Nat.le_refl _, by simp, fun hm => by have := hX _ hm; omega, fun j hj => ?_⟩⟩
 have hb := blk_new W 5 ((zeros 16).map enc).toArray
 rw [Nat.zero_add, hb.cell j]
 have hj : j < 16 := hj
 rcases (by omega : j = 0 ∨ j = 1 ∨ j = 2 ∨ j = 3 ∨ j = 4 ∨ j = 5 ∨ j = 6 ∨ j = 7 ∨ j = 8 ∨ j = 9 ∨ j = 10 ∨ j = 11 ∨ j = 12 ∨ j = 13 ∨ j = 14 ∨ j = 15) with rfl | rfl | rfl | rfl | rfl | rfl | rfl | rfl | rfl | rfl | rfl | rfl | rfl | rfl | rfl | rfl <;> rfl
theorem goes_past {X A B : World} {lo m d b1 b2 : Nat} {K K' : List Nat} {M : Mr} (h0 : Kept [] X A) (g : Goes A B lo m d b1 b2 K K' M) (hK : ∀ k ∈ K ++ [d, b1, b2], X.heap.size ≤ k) : Kept [] X B := h0.youngs g.kept fun k hk => .inr (hK k hk)
theorem no_of {W : World} {k : Nat} {t T : TypeId} {c : Array Value} (h : Blk W k t c) (hT : t ≠ T) : ∀ c', ¬ Blk W k T c' := fun _ h' => hT (Later.blk_type h h')
theorem no_map {W : World} {k : Nat} {es clock} (h : W.heap[k]? = some (.map es clock)) (T : TypeId) : ∀ c', ¬ Blk W k T c' := fun _ h' => by
 unfold Blk at h'
 rw [h] at h'
 cases h'
theorem tr_no {W : World} : ∀ {t : Itree.Tr}, Itree.TrAt W t → ∀ k ∈ t.blks, ∀ c, ¬ Blk W k 47 c
 | .nil, _, _, hk => by cases hk
 | .node b x e h l r, ⟨h1, h2, h3⟩, k, hk => by
  simp only [Itree.Tr.blks, List.mem_cons, List.mem_append] at hk
  rcases hk with rfl | hk | hk
  ·exact no_of h1 (by decide)
  ·exact tr_no h2 k hk
  ·exact tr_no h3 k hk
theorem MiAt.no_msg {W : World} {lo m d b1 b2 : Nat} {K : List Nat} {M : Mr} (H : MiAt W lo m d b1 b2 K M) : ∀ k ∈ K ++ [d, b1, b2], ∀ c, ¬ Blk W k 47 c := by
 obtain ⟨f, b, p, q, h, hi, F, gr, rfl, H⟩ := H
 obtain ⟨_, ⟨t, t1, _, _, rfl⟩, _, _⟩ := H.fly.tree
 obtain ⟨_, _, e1⟩ := H.fly.map.isMap
 obtain ⟨v, P, l1, l2, _⟩ := H.lat.blk
 obtain ⟨_, hh⟩ := H.hot
 obtain ⟨_, s1, _⟩ := H.disk.safe
 obtain ⟨_, _, e2⟩ := s1.isMap
 obtain ⟨_, _, e3⟩ := H.disk.fresh.isMap
 intro k hk
 simp only [own, List.mem_cons, List.mem_append, List.cons_append, List.not_mem_nil, or_false] at hk
 rcases hk with rfl | rfl | rfl | rfl | rfl | (hk | rfl | hk) | rfl | rfl | rfl
 ·exact no_of H.box (by decide)
 ·exact no_of (show Blk W k _ _ from hh.cells) (by decide)
 ·exact no_of H.fly.blk (by decide)
 ·exact no_map e1 _
 ·exact no_of t1.blk (by decide)
 ·exact tr_no t1.nodes k hk
 ·exact no_of l1 (by decide)
 ·obtain ⟨_, _, c, hc⟩ := l2.low k (by simpa using hk)
  exact no_of hc (by decide)
 ·exact no_of H.disk.cells (by decide)
 ·exact no_map e2 _
 ·exact no_map e3 _
theorem cell_lt {W : World} {g i : Nat} {v : Value} (h : W.cell? ⟨g, i, none⟩ = some v) : g < W.heap.size := by
 rcases Nat.lt_or_ge g W.heap.size with h1 | h1
 ·exact h1
 ·simp [World.cell?, Array.getElem?_eq_none h1] at h
theorem goes_low {A B : World} {lo m d b1 b2 n : Nat} {K K' : List Nat} {M : Mr} (g : Goes A B lo m d b1 b2 K K' M) (h : ∀ k ∈ K ++ [d, b1, b2], n ≤ k) (hn : n ≤ A.heap.size) : ∀ k ∈ K' ++ [d, b1, b2], n ≤ k := fun k hk => by
 rcases List.mem_append.1 hk with h1 | h1
 ·rcases g.new k h1 with h2 | h2
  ·exact h k (List.mem_append.2 (.inl h2))
  ·omega
 ·exact h k (List.mem_append.2 (.inr h1))
set_option maxRecDepth 100000 in
theorem lvT : tkT lm1 lx.ms = [5] := by kernel_rfl
theorem IRow.ints {base : Nat} {W : World} {v : Value} {l : List Int} (h : IRow base W v l) : Bits.IntsAt W.heap.size W v l := by
 obtain ⟨_, ⟨rfl, h0⟩ | ⟨g, cap, cur, rfl, hb, hg, h1, h2, h3, h4⟩⟩ := h
 ·have : l = [] := by simpa using h0
  subst this
  exact ⟨none, 0, rfl, .inl rfl⟩
 ·refine ⟨some ⟨g, 0, none⟩, cap, rfl, .inr ⟨g, 0, rfl, (Array.getElem?_eq_some_iff.1 hg).1, fun j hj => ?_⟩⟩
  have e : cur.toList[j]? = some (.int .i64 l[j]) := by
   have := congrArg (fun t => t[j]?) h4
   rw [Nat.mul_one] at this
   simp only [List.getElem?_take, hj, if_true, List.getElem?_map, List.getElem?_eq_getElem hj, Option.map_some] at this
   exact this
  have hc : Blk W g 3 cur := hg
  rw [Nat.zero_add, hc.cell j]
  simpa [hj] using e
theorem ints_lit (W : World) (a : Int) : Bits.IntsAt (W.alloc (.cells #[.int .i64 a] 3)).heap.size (W.alloc (.cells #[.int .i64 a] 3)) (.slice (some ⟨W.heap.size, 0, none⟩) 1 1) [a] :=
 ⟨some ⟨W.heap.size, 0, none⟩, 1, rfl, .inr ⟨W.heap.size, 0, rfl, by rw [World.size_alloc]; omega, fun j hj => by
  have h0 : j = 0 := by simpa using hj
  subst h0
  exact ((blk_new W 3 #[.int .i64 a]).cell 0).trans rfl⟩⟩
theorem ints_kept {A B : World} {v : Value} {l : List Int} (h : Bits.IntsAt A.heap.size A v l) (hk : Kept [] A B) : Bits.IntsAt B.heap.size B v l := (h.below (hk.below (Nat.le_refl _) (by simp))).mono hk.size
set_option maxRecDepth 100000 in
set_option maxHeartbeats 4000000 in
theorem lives_any (w : World) : Calls Tryz.prog 7 #[] w fun e w' => e = .returned (.bool true) ∧ Kept [] w w' := by
 have q1 : Calls Tryz.prog 8 #[.int .i64 16] w fun e w' => e = .returned (.tuple #[.pointer (some ⟨w.heap.size + 2, 0, none⟩), .int .i64 0]) ∧ DiskAt w' (w.heap.size + 2) w.heap.size (w.heap.size + 1) (made 16) ∧ Kept [] w w' := new_any 16 (by omega) (by omega) w
 have q2 : ∀ W d b1 b2, DiskAt W d b1 b2 (made 16) → Calls Tryz.prog 10 #[.pointer (some ⟨d, 0, none⟩), .int .i64 3, .int .i64 0, .int .u64 0] W fun e w' => ∃ m K, e = .returned (.tuple #[.pointer (some ⟨m, 0, none⟩), .int .i64 0]) ∧ MiAt w' W.heap.size m d b1 b2 K lm0 ∧ Kept [] W w' := fun W d b1 b2 h => new_ok 3 0 0 (.inl rfl) (by omega) (by omega) (by omega) W h
 have q3 : ∀ W lo m d b1 b2 K, MiAt W lo m d b1 b2 K lm0 → Calls Tryz.prog 31 #[.pointer (some ⟨m, 0, none⟩), .int .i64 5, .agg #[.int .i64 0, .int .i64 1], .slice (some ⟨W.heap.size, 0, none⟩) 16 16] (W.alloc (.cells ((zeros 16).map enc).toArray 5)) fun e w' => ∃ g cap K', e = .returned (.tuple #[.bool true, .slice (some ⟨g, 0, none⟩) 1 cap, .int .i64 0]) ∧ w'.cell? ⟨g, 1, none⟩ = some (.int .i64 5) ∧ W.heap.size ≤ g ∧ g ∉ K' ++ [d, b1, b2] ∧ Goes W w' lo m d b1 b2 K K' lm1 := fun W lo m d b1 b2 K h => by
  have ka := kept_alloc [] W (.cells ((zeros 16).map enc).toArray 5)
  have hw := write_any 5 0 1 (some ⟨W.heap.size, 0, none⟩) 16 16 z16 (by omega) (by omega) _ (h.kept0 ka) (bts_zeros W _ h.lt) (by decide) (by decide) (by decide) (by decide)
  refine hw.mono ?_
  rintro e w' ⟨v, Q, K', rfl, hT, hG⟩
  have hO : wrO lm0 ⟨5, 0, 1, z16⟩ = [msgOf 2 ⟨5, 0, 1, z16⟩] := by
   unfold wrO
   rw [lv1]
   rfl
  rw [hO] at hT
  rw [lv1, lv2]
  obtain ⟨y, rfl, hy⟩ : ∃ y, Q = [y] ∧ y.ms = msgOf 2 ⟨5, 0, 1, z16⟩ := by
   have := hT.is
   have hl := congrArg List.length this
   rw [List.length_map] at hl
   obtain ⟨y, rfl⟩ := List.length_eq_one_iff.1 (show Q.length = 1 from hl)
   exact ⟨y, rfl, by simpa using this⟩
  obtain ⟨sa, cap, rfl⟩ := hT.row.form
  obtain ⟨g, rfl, hg, hr⟩ := hT.row.at 0 y rfl
  have hi : y.i = 5 := congrArg Ms.i hy
  refine ⟨g, cap, K', rfl, ?_, ?_, ?_, ⟨hG.at_, fun k hk => (hG.new k hk).imp id fun h => Nat.le_trans ka.size h, (ka.mono (by simp)).trans hG.kept⟩⟩
  ·have := hr 1 (.int .i64 y.i) rfl
   rw [hi] at this
   exact this
  ·exact Nat.le_trans ka.size hg
  ·obtain ⟨cur, hc⟩ := hT.row.blk g rfl
   exact fun hm => hG.at_.no_msg g hm cur hc
 have q4 : ∀ W lo m d b1 b2 K, MiAt W lo m d b1 b2 K lm1 → Calls Tryz.prog 34 #[.pointer (some ⟨m, 0, none⟩), .agg #[.int .i64 3, .int .i64 5, .int .i64 0, .int .u64 0, .bool false, .slice none 0 0]] W fun e w' => ∃ sa cap v K', e = .returned (.tuple #[.slice sa 1 cap, v, .int .i64 0]) ∧ IRow W.heap.size w' (.slice sa 1 cap) [5] ∧ Goes W w' lo m d b1 b2 K K' (tkS lm1 lx.ms) := fun W lo m d b1 b2 K h => by
  have ht := take_any lx (by decide) (by decide) W h ⟨by simp [lx], none, 0, rfl, fun _ => rfl, .inl rfl⟩ (by decide) (by rw [lv6.1]; decide) (by rw [lv6.2.1]; decide) (by rw [lv6.2.2]; decide)
  refine ht.mono ?_
  rintro e w' ⟨vi, v, Q, K', rfl, hI, hT, hG⟩
  have h5 : tkT lm1 lx.ms = [5] := lvT
  rw [h5] at hI
  rw [lv3]
  obtain ⟨sa, cap, rfl⟩ := irow_form hI
  exact ⟨sa, cap, v, K', rfl, hI, hG⟩
 have q5 : ∀ W lo m d b1 b2 K, MiAt W lo m d b1 b2 K (tkS lm1 lx.ms) → Calls Tryz.prog 17 #[.pointer (some ⟨m, 0, none⟩)] W fun e w' => e = .returned (.int .u64 1) ∧ Kept [] W w' := fun W lo m d b1 b2 K h => by
  have := hot_any W h
  rw [lv5] at this
  exact this
 have m16 : ∀ W : World, (Instr.makeSlice 45 (.int .i64 16) (.int .i64 16)).run Tryz.prog W = .ok (.slice (some ⟨W.heap.size, 0, none⟩) 16 16) (W.alloc (.cells ((zeros 16).map enc).toArray 5)) := fun W => make_bytes 16 (by omega) W
 go_enter Tryz.func7, Tryz.ntmps7
 go_wp2_with (first
  | (go_at_call 8; refine q1.mono ?_; clear q1; rintro e w1 ⟨rfl, hD1, hk1⟩)
  | (go_at_call 10; refine (q2 _ _ _ _ hD1).mono ?_; clear q2; rintro e w2 ⟨m, K2, rfl, hM2, hk2⟩; have hk02 := hk1.trans hk2; have hlow : Hid (∀ k ∈ K2 ++ [w.heap.size + 2, w.heap.size, w.heap.size + 1], w.heap.size ≤ k) := fun k hk => (by have h1 := hM2.low.1; have h2 := hk1.size; rcases List.mem_append.1 hk with h | h; exact Nat.le_trans h2 (h1 k h).1; simp at h; omega))
  | (go_at_call 31; refine (q3 _ _ _ _ _ _ _ hM2).mono ?_; clear q3; rintro e w3 ⟨g, cap3, K3, rfl, hc3, hg3, hn3, hG3⟩; have hk03 := goes_past hk02 hG3 hlow.out; have hlow3 : Hid (∀ k ∈ K3 ++ [w.heap.size + 2, w.heap.size, w.heap.size + 1], w.heap.size ≤ k) := goes_low hG3 hlow.out hk02.size)
  | (go_at_call 34; refine (q4 _ _ _ _ _ _ _ hG3.at_).mono ?_; clear q4; rintro e w4 ⟨sa, cap4, v, K4, rfl, hI4, hG4⟩; have hk04 := goes_past hk03 hG4 hlow3.out; have hc4 : w4.cell? ⟨g, 1, none⟩ = some (.int .i64 5) := (World.cell?_of_block (hG4.kept.block g (cell_lt hc3) hn3)).trans hc3; have q6 := Bits.ints_any (.slice sa 1 cap4) _ [5] _ (by decide) (ints_kept hI4.ints (kept_alloc [] w4 (.cells #[.int .i64 5] 3))) (ints_lit w4 5))
  | (go_at_call 41; refine q6.mono ?_; clear q6; rintro e w5 ⟨rfl, n5, rfl⟩; have hk45 := (kept_alloc [] w4 (.cells #[.int .i64 5] 3)).trans (kept_drewN [] _ n5))
  | (go_at_call 17; refine (q5 _ _ _ _ _ _ _ (hG4.at_.kept0 hk45)).mono ?_; clear q5; rintro e w6 ⟨rfl, hk6⟩))
 go_ret
 exact ⟨rfl, (hk04.trans hk45).trans hk6⟩
end Go.Proofs.YtoaeficfmcncjaaGreat.Mirror
namespace Go.Proofs.YtoaeficfmcncjaaGreat.Pack
open Go.ChangeShapes Go.WideShapes Go.ChangeAt Go.RowKit

theorem byte_of {n : Int} (h : (Lit.int .u8 n).wf = true) : 0 ≤ n ∧ n < 256 := by
 have := bounds_u8 h
 omega
theorem cut_step (cs : List Value) (o n : Nat) (p r : List Value) (h : (cs.drop o).take n = p) (hr : cs.drop (o + n) = r) : cs.drop o = p ++ r := by
 rw [← h, ← hr, ← List.drop_drop, List.take_append_drop]
theorem cut_last (cs : List Value) (o n : Nat) (p : List Value) (h : (cs.drop o).take n = p) (hl : cs.length = o + n) : cs.drop o = p := by
 rw [← h, List.take_of_length_le]
 rw [List.length_drop]
 omega
set_option maxRecDepth 100000 in
theorem cells3 : Tryz.prog.cellsOf 3 = 1 := by kernel_rfl
set_option maxRecDepth 100000 in
theorem cells4 : Tryz.prog.cellsOf 4 = 1 := by kernel_rfl
set_option maxRecDepth 100000 in
theorem cells5 : Tryz.prog.cellsOf 5 = 1 := by kernel_rfl
set_option maxRecDepth 100000 in
theorem cellsB : Tryz.prog.cellsOf 45 = 1 := by kernel_rfl
set_option maxRecDepth 100000 in
theorem cellsU : Tryz.prog.cellsOf 23 = 1 := by kernel_rfl
set_option maxRecDepth 100000 in
theorem cellsM : Tryz.prog.cellsOf 47 = 6 := by kernel_rfl
section
variable {H : Type} {enc : TypeId × Value → H} {W : World} {base : Nat} {spare : Nat → Bool} {held : Bool} {fuel : Nat} {x : DataW H × List MemPlace}
set_option maxRecDepth 100000 in
theorem int_cell {t : TypeId} {q : IntKind} (ht : Tryz.prog.underlying t = some (.int q)) {cs : List Value} (h : DataW.trod enc Tryz.prog W base spare held fuel t cs = some x) : ∃ n, cs = [.int q n] ∧ (Lit.int q n).wf = true := by
 obtain ⟨n, hn, -, wn⟩ := DataW.trod_int ht h
 exact ⟨n, hn, wn⟩
set_option maxRecDepth 100000 in
theorem bytes_cell {cs : List Value} (h : DataW.trod enc Tryz.prog W base spare held fuel 45 cs = some x) : ∃ sa len cap bs, cs = [.slice sa len cap] ∧ len ≤ 9223372036854775807 ∧ ByteRow 0 W.heap.size W (.slice sa len cap) bs := by
 rcases open_ints Tryz.underlying45 Tryz.underlying5 cells5 h with ⟨hcs, _⟩ | ⟨a, len, cap, zs, hcs, _, hl, hm, hz, _, hcell, hwz⟩
 ·exact ⟨none, 0, 0, [], hcs, by omega, byteRow_nil _ _ _⟩
 ·unfold maxLen at hm
  have hzl : len ≤ zs.length := by rw [hz]; split <;> omega
  have hbl : ((zs.take len).map Int.toNat).length = len := by simp; omega
  refine ⟨some a, len, cap, (zs.take len).map Int.toNat, hcs, by omega, ?_, some a, cap, by rw [hbl], fun e => (by cases e), ?_⟩
  ·intro b hb
   obtain ⟨n, hn, rfl⟩ := List.mem_map.1 hb
   have := byte_of (hwz n (List.mem_of_mem_take hn))
   omega
  ·by_cases h0 : len = 0
   ·left
    subst h0
    simp
   ·right
    have hc0 := hcell 0 (by omega)
    obtain ⟨b, off, sp⟩ := a
    have hsp : sp = none := by simpa [Addr.add] using World.cell?_spot hc0
    subst hsp
    rw [hbl]
    refine ⟨b, off, rfl, by omega, Nat.zero_le _, ?_, fun j hj => ?_⟩
    ·exact World.block_lt_of_cell? W ⟨b, off, none⟩ (by have := hc0; simpa [Addr.add] using this)
    ·have hjz : j < zs.length := by omega
     have := hcell j hjz
     rw [Go.WideShapes.add_plain] at this
     rw [this]
     have hb := byte_of (hwz (zs[j]) (List.getElem_mem hjz))
     simp [hj, hjz]
     omega
set_option maxRecDepth 100000 in
theorem msg_cells {cs : List Value} (h : DataW.trod enc Tryz.prog W base spare held fuel 47 cs = some x) : ∃ y : Mv, cs = y.cells ∧ y.len ≤ 9223372036854775807 ∧ y.At 0 W.heap.size W := by
 obtain ⟨xs, n, _, _, hl, hlen, hf⟩ := DataW.trod_struct Tryz.underlying47 h
 have h0 : DataW.trod enc Tryz.prog W base spare held n 3 ((cs.drop 0).take (Tryz.prog.cellsOf 3)) = xs[0]? := hf 0 _ rfl
 have h1 : DataW.trod enc Tryz.prog W base spare held n 3 ((cs.drop 1).take (Tryz.prog.cellsOf 3)) = xs[1]? := hf 1 _ rfl
 have h2 : DataW.trod enc Tryz.prog W base spare held n 3 ((cs.drop 2).take (Tryz.prog.cellsOf 3)) = xs[2]? := hf 2 _ rfl
 have h3 : DataW.trod enc Tryz.prog W base spare held n 23 ((cs.drop 3).take (Tryz.prog.cellsOf 23)) = xs[3]? := hf 3 _ rfl
 have h4 : DataW.trod enc Tryz.prog W base spare held n 4 ((cs.drop 4).take (Tryz.prog.cellsOf 4)) = xs[4]? := hf 4 _ rfl
 have h5 : DataW.trod enc Tryz.prog W base spare held n 45 ((cs.drop 5).take (Tryz.prog.cellsOf 45)) = xs[5]? := hf 5 _ rfl
 rw [cells3] at h0 h1 h2
 rw [cellsU] at h3
 rw [cells4] at h4
 rw [cellsB] at h5
 match xs, hlen with
 | [y0, y1, y2, y3, y4, y5], _ =>
  simp only [List.getElem?_cons_zero, List.getElem?_cons_succ] at h0 h1 h2 h3 h4 h5
  obtain ⟨n0, e0, w0⟩ := int_cell Tryz.underlying3 h0
  obtain ⟨n1, e1, w1⟩ := int_cell Tryz.underlying3 h1
  obtain ⟨n2, e2, w2⟩ := int_cell Tryz.underlying3 h2
  obtain ⟨n3, e3, w3⟩ := int_cell Tryz.underlying23 h3
  obtain ⟨b4, e4, _⟩ := DataW.trod_bool Tryz.underlying4 h4
  obtain ⟨sa, len, cap, bs, e5, hlen, hr⟩ := bytes_cell h5
  have b1 := bounds_i64 w1
  have b3 := bounds_u64 w3
  refine ⟨⟨n0, n1, n2, n3.toNat, b4, sa, len, cap, bs⟩, ?_, hlen, hr, ?_, b1.1, b1.2⟩
  ·have hc : cs.drop 0 = _ := cut_step cs 0 1 _ _ e0 (cut_step cs 1 1 _ _ e1 (cut_step cs 2 1 _ _ e2 (cut_step cs 3 1 _ _ e3 (cut_step cs 4 1 _ _ e4 (cut_last cs 5 1 _ e5 (hl.trans cellsM))))))
   rw [List.drop_zero] at hc
   rw [hc]
   show _ = [_, _, _, Value.int .u64 ((n3.toNat : Nat) : Int), _, _]
   rw [Int.toNat_of_nonneg b3.1]
   rfl
  ·show n3.toNat < _
   omega
end
end Go.Proofs.YtoaeficfmcncjaaGreat.Pack
namespace Go.Proofs.YtoaeficfmcncjaaGreat.Mirror
open Go.RowKit
open Math
open Pack (Mv Ms)

structure Ac where
 k : Int
 t : Int
 u : Nat
 o : Int
 l : Int
 ba : Option Addr
 bn : Nat
 bc : Nat
 bs : List Nat
 x : Mv
def Ac.cells (a : Ac) : List Value := [.int .i64 a.k, .int .i64 a.t, .int .u64 (a.u : Int), .int .i64 a.o, .int .i64 a.l, .slice a.ba a.bn a.bc, .int .i64 a.x.k, .int .i64 a.x.i, .int .i64 a.x.o, .int .u64 (a.x.m : Int), .bool a.x.s, .slice a.x.sa a.x.len a.x.cap]
structure Ac.Ok (a : Ac) (n : Nat) (W : World) : Prop where
 t0 : -9223372036854775808 ≤ a.t
 t1 : a.t ≤ 9223372036854775807
 u0 : a.u < 18446744073709551616
 o0 : -9223372036854775808 ≤ a.o
 o1 : a.o ≤ 9223372036854775807
 l0 : -9223372036854775808 ≤ a.l
 l1 : a.l ≤ 9223372036854775807
 blen : a.bn ≤ 9223372036854775807
 xlen : a.x.len ≤ 9223372036854775807
 row : Pack.ByteRow 0 n W (.slice a.ba a.bn a.bc) a.bs
 msg : a.x.At 0 n W
theorem Ac.Ok.kept {a : Ac} {n : Nat} {L : List Nat} {A B : World} (h : a.Ok n A) (hn : n ≤ A.heap.size) (hK : Kept L A B) (hL : ∀ k ∈ L, n ≤ k) : a.Ok n B :=
 ⟨h.t0, h.t1, h.u0, h.o0, h.o1, h.l0, h.l1, h.blen, h.xlen, h.row.kept hn hK (fun k hk => .inr (hL k hk)), h.msg.kept hn hK (fun k hk => .inr (hL k hk))⟩
theorem row_len {lo n : Nat} {W : World} {a : Option Addr} {l c : Nat} {bs : List Nat} (h : Pack.ByteRow lo n W (.slice a l c) bs) : bs.length = l := by
 obtain ⟨_, _, _, e, _⟩ := h
 injection e with _ e _
 exact e.symm
theorem bts_in {lo n : Nat} {W : World} {v : Value} {bs : List Nat} {X : List Nat} (h : Pack.ByteRow lo n W v bs) (hn : n ≤ W.heap.size) (hX : ∀ k ∈ X, n ≤ k) : Bts W X v bs := by
 obtain ⟨hb, a, cap, e, hc, h | ⟨g, off, e2, hl, h1, h2, hq⟩⟩ := h
 ·exact ⟨hb, a, cap, e, hc, .inl h⟩
 ·exact ⟨hb, a, cap, e, hc, .inr ⟨g, off, e2, hl, by omega, fun hm => by have := hX g hm; omega, hq⟩⟩
open Go.ChangeShapes Go.WideShapes Go.ChangeAt Go.RowKit
set_option maxRecDepth 100000 in
theorem cellsA : Tryz.prog.cellsOf 49 = 12 := by kernel_rfl
set_option maxRecDepth 100000 in
theorem cellsSp : Tryz.prog.cellsOf 44 = 2 := by kernel_rfl
section
variable {H : Type} {enc : TypeId × Value → H} {W : World} {base : Nat} {spare : Nat → Bool} {held : Bool} {fuel : Nat} {x : DataW H × List MemPlace}
set_option maxRecDepth 100000 in
theorem span_cells {cs : List Value} (h : DataW.trod enc Tryz.prog W base spare held fuel 44 cs = some x) : ∃ o l, cs = [.int .i64 o, .int .i64 l] ∧ (-9223372036854775808 ≤ o ∧ o ≤ 9223372036854775807) ∧ (-9223372036854775808 ≤ l ∧ l ≤ 9223372036854775807) := by
 obtain ⟨xs, n, _, _, hl, hlen, hf⟩ := DataW.trod_struct Tryz.underlying44 h
 have h0 : DataW.trod enc Tryz.prog W base spare held n 3 ((cs.drop 0).take (Tryz.prog.cellsOf 3)) = xs[0]? := hf 0 _ rfl
 have h1 : DataW.trod enc Tryz.prog W base spare held n 3 ((cs.drop 1).take (Tryz.prog.cellsOf 3)) = xs[1]? := hf 1 _ rfl
 rw [Pack.cells3] at h0 h1
 match xs, hlen with
 | [y0, y1], _ =>
  simp only [List.getElem?_cons_zero, List.getElem?_cons_succ] at h0 h1
  obtain ⟨n0, e0, w0⟩ := Pack.int_cell Tryz.underlying3 h0
  obtain ⟨n1, e1, w1⟩ := Pack.int_cell Tryz.underlying3 h1
  have hc : cs.drop 0 = _ := Pack.cut_step cs 0 1 _ _ e0 (Pack.cut_last cs 1 1 _ e1 (hl.trans cellsSp))
  rw [List.drop_zero] at hc
  exact ⟨n0, n1, hc, bounds_i64 w0, bounds_i64 w1⟩
set_option maxRecDepth 100000 in
theorem act_cells {cs : List Value} (h : DataW.trod enc Tryz.prog W base spare held fuel 49 cs = some x) : ∃ a : Ac, cs = a.cells ∧ a.Ok W.heap.size W := by
 obtain ⟨xs, n, _, _, hl, hlen, hf⟩ := DataW.trod_struct Tryz.underlying49 h
 have h0 : DataW.trod enc Tryz.prog W base spare held n 3 ((cs.drop 0).take (Tryz.prog.cellsOf 3)) = xs[0]? := hf 0 _ rfl
 have h1 : DataW.trod enc Tryz.prog W base spare held n 3 ((cs.drop 1).take (Tryz.prog.cellsOf 3)) = xs[1]? := hf 1 _ rfl
 have h2 : DataW.trod enc Tryz.prog W base spare held n 23 ((cs.drop 2).take (Tryz.prog.cellsOf 23)) = xs[2]? := hf 2 _ rfl
 have h3 : DataW.trod enc Tryz.prog W base spare held n 44 ((cs.drop 3).take (Tryz.prog.cellsOf 44)) = xs[3]? := hf 3 _ rfl
 have h4 : DataW.trod enc Tryz.prog W base spare held n 45 ((cs.drop 5).take (Tryz.prog.cellsOf 45)) = xs[4]? := hf 4 _ rfl
 have h5 : DataW.trod enc Tryz.prog W base spare held n 47 ((cs.drop 6).take (Tryz.prog.cellsOf 47)) = xs[5]? := hf 5 _ rfl
 rw [Pack.cells3] at h0 h1
 rw [Pack.cellsU] at h2
 rw [cellsSp] at h3
 rw [Pack.cellsB] at h4
 rw [Pack.cellsM] at h5
 match xs, hlen with
 | [y0, y1, y2, y3, y4, y5], _ =>
  simp only [List.getElem?_cons_zero, List.getElem?_cons_succ] at h0 h1 h2 h3 h4 h5
  obtain ⟨n0, e0, w0⟩ := Pack.int_cell Tryz.underlying3 h0
  obtain ⟨n1, e1, w1⟩ := Pack.int_cell Tryz.underlying3 h1
  obtain ⟨n2, e2, w2⟩ := Pack.int_cell Tryz.underlying23 h2
  obtain ⟨o, l, e3, ho, hl3⟩ := span_cells h3
  obtain ⟨sa, len, cap, bs, e4, hbl, hr⟩ := Pack.bytes_cell h4
  obtain ⟨y, e5, hyl, hyA⟩ := Pack.msg_cells h5
  have b1 := bounds_i64 w1
  have b2 := bounds_u64 w2
  refine ⟨⟨n0, n1, n2.toNat, o, l, sa, len, cap, bs, y⟩, ?_, ⟨b1.1, b1.2, by show n2.toNat < _; omega, ho.1, ho.2, hl3.1, hl3.2, hbl, hyl, hr, hyA⟩⟩
  have hc : cs.drop 0 = _ := Pack.cut_step cs 0 1 _ _ e0 (Pack.cut_step cs 1 1 _ _ e1 (Pack.cut_step cs 2 1 _ _ e2 (Pack.cut_step cs 3 2 _ _ e3 (Pack.cut_step cs 5 1 _ _ e4 (Pack.cut_last cs 6 6 _ e5 (hl.trans cellsA))))))
  rw [List.drop_zero] at hc
  rw [hc]
  show _ = [_, _, Value.int .u64 ((n2.toNat : Nat) : Int), _, _, _, _, _, _, _, _, _]
  rw [Int.toNat_of_nonneg b2.1]
  rfl
end
def AcsAt (n : Nat) (W : World) (a : Option Addr) (len cap : Nat) (acts : List Ac) : Prop :=
 acts.length = len ∧ (∀ x ∈ acts, x.Ok n W) ∧ (acts = [] ∨ ∃ b off, a = some ⟨b, off, none⟩ ∧ len ≤ cap ∧ b < n ∧ ∀ j x, acts[j]? = some x → ∀ i v, x.cells[i]? = some v → W.cell? ⟨b, off + j * 12 + i, none⟩ = some v)
theorem AcsAt.kept {n : Nat} {L : List Nat} {A B : World} {a : Option Addr} {len cap : Nat} {acts : List Ac} (h : AcsAt n A a len cap acts) (hn : n ≤ A.heap.size) (hK : Kept L A B) (hL : ∀ k ∈ L, n ≤ k) : AcsAt n B a len cap acts := by
 obtain ⟨h1, h2, h3⟩ := h
 refine ⟨h1, fun x hx => ?_, ?_⟩
 ·have := h2 x hx
  exact this.kept hn hK hL
 ·rcases h3 with h3 | ⟨b, off, e, hl, hb, hc⟩
  ·exact .inl h3
  ·refine .inr ⟨b, off, e, hl, hb, fun j x hx i v hv => ?_⟩
   rw [World.cell?_of_block (w := A) (w' := B) (hK.block b (by omega) (fun hm => by have := hL b hm; omega))]
   exact hc j x hx i v hv
set_option maxRecDepth 100000 in
theorem acs_in {H : Type} {enc : TypeId × Value → H} {W : World} {base : Nat} {spare : Nat → Bool} {held : Bool} {a : Option Addr} {len cap : Nat} {d : DataW H} {p : List MemPlace} (h : DataW.Trod enc Tryz.prog W base spare held 22 (.slice a len cap) d p) :
  len ≤ 9223372036854775807 ∧ ∃ acts, AcsAt W.heap.size W a len cap acts := by
 obtain ⟨fuel, hf⟩ := h
 rcases Go.Deep.open_slice Tryz.underlying22 hf with ⟨hcs, _⟩ | ⟨ad, l, c, m, n, D, Pl, hcs, _, hlc, hmax, hm, _, hel⟩
 ·simp [Value.cells] at hcs
  obtain ⟨rfl, rfl, rfl⟩ := hcs
  exact ⟨by omega, [], rfl, by simp, .inl rfl⟩
 ·simp [Value.cells] at hcs
  obtain ⟨rfl, rfl, rfl⟩ := hcs
  unfold maxLen at hmax
  refine ⟨by omega, ?_⟩
  have hlm : len ≤ m := by rw [hm]; split <;> omega
  have hex : ∀ i, i < len → ∃ x : Ac, x.Ok W.heap.size W ∧ ∀ j v, x.cells[j]? = some v → W.cell? ((ad.add (i * 12)).add j) = some v := fun i hi => by
   obtain ⟨cs', hc1, hc2⟩ := hel i (by omega)
   rw [cellsA] at hc1
   obtain ⟨x, rfl, hok⟩ := act_cells hc2
   refine ⟨x, hok, fun j v hv => ?_⟩
   obtain ⟨_, hlen, hcell⟩ := World.cells?_some hc1
   have hj : j < 12 := by
    have := (List.getElem?_eq_some_iff.1 hv).1
    exact this
   rw [hcell j hj]
   exact hv
  have hall : ∀ n, n ≤ len → ∃ acts : List Ac, acts.length = n ∧ ∀ i x, acts[i]? = some x → x.Ok W.heap.size W ∧ ∀ j v, x.cells[j]? = some v → W.cell? ((ad.add (i * 12)).add j) = some v := fun n => by
   induction n with
   | zero => exact fun _ => ⟨[], rfl, fun i x hx => by simp at hx⟩
   | succ n ih =>
    intro hn
    obtain ⟨acts, hl, hx⟩ := ih (by omega)
    obtain ⟨y, hy⟩ := hex n (by omega)
    refine ⟨acts ++ [y], by simp [hl], fun i x hi => ?_⟩
    by_cases hin : i < acts.length
    ·rw [List.getElem?_append_left hin] at hi
     exact hx i x hi
    ·have hlt := (List.getElem?_eq_some_iff.1 hi).1
     simp at hlt
     obtain rfl : i = n := by omega
     rw [List.getElem?_append_right (by omega), hl, Nat.sub_self] at hi
     simp at hi
     subst hi
     exact hy
  obtain ⟨acts, hl, hx⟩ := hall len (Nat.le_refl _)
  refine ⟨acts, hl, fun x hm => ?_, ?_⟩
  ·obtain ⟨i, hi⟩ := List.getElem?_of_mem hm
   exact (hx i x hi).1
  ·by_cases h0 : len = 0
   ·left
    exact List.eq_nil_of_length_eq_zero (hl.trans h0)
   ·right
    obtain ⟨y, hy⟩ : ∃ y, acts[0]? = some y := ⟨_, List.getElem?_eq_getElem (by omega)⟩
    have hc0 := (hx 0 y hy).2 0 _ rfl
    obtain ⟨b, off, sp⟩ := ad
    have hsp : sp = none := by simpa [Addr.add] using World.cell?_spot hc0
    subst hsp
    have hc0' : W.cell? ⟨b, off + 0 * 12 + 0, none⟩ = some (.int .i64 y.k) := by rw [← hc0, Go.WideShapes.add_plain, Go.WideShapes.add_plain]
    refine ⟨b, off, rfl, hlc, World.block_lt_of_cell? W _ hc0', fun j x hj i v hv => ?_⟩
    have := (hx j x hj).2 i v hv
    rwa [Go.WideShapes.add_plain, Go.WideShapes.add_plain] at this
theorem AcsAt.at {n : Nat} {W : World} {a : Option Addr} {len cap : Nat} {acts : List Ac} (h : AcsAt n W a len cap acts) {j : Nat} (hj : j < len) : ∃ x b off, acts[j]? = some x ∧ x.Ok n W ∧ a = some ⟨b, off, none⟩ ∧ b < n ∧ ∀ i v, x.cells[i]? = some v → W.cell? ⟨b, off + j * 12 + i, none⟩ = some v := by
 obtain ⟨h1, h2, h3 | ⟨b, off, e, hl, hb, hc⟩⟩ := h
 ·rw [h3] at h1
  simp at h1
  omega
 ·obtain ⟨x, hx⟩ : ∃ x, acts[j]? = some x := ⟨_, List.getElem?_eq_getElem (by omega)⟩
  exact ⟨x, b, off, hx, h2 x (List.mem_of_getElem? hx), e, hb, fun i v hv => hc j x hx i v hv⟩
end Go.Proofs.YtoaeficfmcncjaaGreat.Mirror
namespace Go.Proofs.YtoaeficfmcncjaaGreat.Mirror
open Math
open Later (Lw)

structure Dry (d : Dk) : Prop where
 valid : Valid d
 calm : Math.Calm d
 dry : ∀ k, d.fresh k = none
def sect (d : Dk) (j : Nat) : List Nat := readL d (spot 0 j)
theorem bit_full (i : Nat) : bit full i = true := by
 have h : ∀ j, j < 64 → full / 2 ^ j % 2 = 1 := by decide
 simp only [bit]
 exact decide_eq_true (h (i % 64) (Nat.mod_lt _ (by decide)))
theorem worn_calm {d : Dk} (h : Math.Calm d) : worn d = false := by
 have := h.2
 simp [worn, h.1]
 omega
theorem flush_calm {d : Dk} (hv : Valid d) (h : Math.Calm d) : flushE d = 0 ∧ Dry (flushS d) ∧ (flushS d).size = d.size ∧ ∀ j, readL (flushS d) j = readL d j := by
 have hw := worn_calm h
 have e : flushS d = spent (done d) full := by unfold flushS; rw [hw]; rfl
 refine ⟨by unfold flushE; rw [hw]; rfl, ⟨by rw [e]; exact valid_spent (valid_done hv) _, ?_, by rw [e]; exact fun _ => rfl⟩, by rw [e]; rfl, fun j => ?_⟩
 ·rw [e]
  refine ⟨h.1, ?_⟩
  have := h.2
  show (if 0 < d.fuse then d.fuse - 1 else d.fuse) < 0
  split <;> omega
 ·rw [e]
  unfold readL
  have hi : inside (spent (done d) full) j = inside d j := rfl
  have hb : (spent (done d) full).broken = d.broken := rfl
  rw [hi, hb]
  by_cases hj : inside d j = true
  ·rw [if_pos hj, if_pos hj, h.1]
   simp only [Bool.false_eq_true, if_false]
   show (none : Option (List Nat)).getD (settled (done d) full j) = _
   unfold settled
   have hf : (done d).fresh j = d.fresh j := rfl
   have hs : (done d).safe j = d.safe j := rfl
   rw [hf, hs]
   cases d.fresh j with
   | none => rfl
   | some x => simp [bit_full]
  ·rw [if_neg hj, if_neg hj]
theorem inside_at {d : Dk} {j : Nat} (h : j < dataN d) : inside d (spot 0 j) = true := by
 have h' : j < d.size - 8 := h
 simp only [inside, spot, Bool.and_eq_true]
 exact ⟨decide_eq_true (by omega), decide_eq_true (by omega)⟩
theorem store_good {d : Dk} (h : Dry d) {w : Lw} (hg : Span.Math.good w.o w.l (dataN d : Nat) = true) (hl : (w.bs.length : Int) = 16 * w.l) (hb : ∀ b ∈ w.bs, b < 256) :
  storeE d w = 0 ∧ Dry (storeS d w) ∧ (storeS d w).size = d.size ∧ ∀ j, j < dataN d → sect (storeS d w) j = if w.o.toNat ≤ j ∧ j < w.o.toNat + w.l.toNat then piece w.bs (j - w.o.toNat) else sect d j := by
 have hput : areaS d w.o w.l w.bs = Math.wroteL d w.o.toNat w.bs (List.range w.l.toNat) := by unfold areaS; rw [if_pos hg, if_pos hl]
 have hE : areaE d w.o w.l w.bs = 0 := by unfold areaE; rw [if_pos hg, if_pos hl, (h.calm.wroteL _ _ _).1]; rfl
 obtain ⟨f1, f2, f3, f4⟩ := flush_calm (valid_putS h.valid w.o w.l hb) (h.calm.put w.o w.l w.bs)
 unfold storeE storeS
 rw [if_pos hE, if_pos hE]
 refine ⟨f1, f2, by rw [f3, putS_size], fun j hj => ?_⟩
 unfold sect
 rw [f4, hput]
 exact read_wroteL h.calm hg w.bs w.l.toNat (Nat.le_refl _) j (inside_at hj)
theorem store_bad {d : Dk} (h : Dry d) {w : Lw} (hb : ∀ b ∈ w.bs, b < 256) (he : storeE d w ≠ 0) : storeS d w = d := by
 unfold storeE at he
 unfold storeS
 by_cases e : areaE d w.o w.l w.bs = 0
 ·rw [if_pos e] at he
  exact absurd (flush_calm (valid_putS h.valid w.o w.l hb) (h.calm.put w.o w.l w.bs)).1 he
 ·rw [if_neg e]
  exact put_refused h.calm e
theorem store_done {d : Dk} {w : Lw} (he : storeE d w = 0) : Span.Math.good w.o w.l (dataN d : Nat) = true ∧ (w.bs.length : Int) = 16 * w.l := by
 unfold storeE at he
 by_cases e : areaE d w.o w.l w.bs = 0
 ·exact put_done e
 ·rw [if_neg e] at he
  exact absurd he e
theorem store_dry {d : Dk} (h : Dry d) {w : Lw} (hb : ∀ b ∈ w.bs, b < 256) : Dry (storeS d w) ∧ (storeS d w).size = d.size := by
 by_cases he : storeE d w = 0
 ·obtain ⟨h1, h2⟩ := store_done he
  obtain ⟨_, h3, h4, _⟩ := store_good h h1 h2 hb
  exact ⟨h3, h4⟩
 ·rw [store_bad h hb he]
  exact ⟨h, rfl⟩
theorem log_dry {d : Dk} (h : Dry d) (m : Nat) : Dry (logS d m) ∧ (logS d m).size = d.size ∧ ∀ j, j < dataN d → sect (logS d m) j = sect d j := by
 have H : Dry d ∧ d.size = d.size ∧ ∀ j, j < dataN d → sect d j = sect d j := ⟨h, rfl, fun _ _ => rfl⟩
 unfold logS
 split
 ·exact H
 split
 ·exact H
 unfold putS
 split
 ·rename_i hr
  split
  ·exact H
  simp only [hasRing, Bool.and_eq_true, decide_eq_true_eq] at hr
  have hk : 0 ≤ putK d 2 4 ∧ putK d 2 4 < 8 ∧ putK d 2 4 < d.size := by
   unfold putK
   omega
  have hi : inside d (putK d 2 4) = true := by
   simp only [inside, Bool.and_eq_true, decide_eq_true_eq]
   omega
  have hx : Sec (putX d 2 4 m) := sec_record _ _
  have hw := worn_calm h.calm
  have he : wroteE d (putK d 2 4) = 0 := by unfold wroteE; rw [if_pos hi, hw]; rfl
  unfold putsS
  rw [if_pos he]
  obtain ⟨-, f2, f3, f4⟩ := flush_calm (valid_wrote h.valid (putK d 2 4) hx) (h.calm.wrote (putK d 2 4) (putX d 2 4 m))
  refine ⟨f2, by rw [f3, wroteS_size], fun j hj => ?_⟩
  unfold sect
  rw [f4, read_wrote h.calm hi _ _ (inside_at hj), if_neg]
  simp only [spot]
  omega
 ·exact H
theorem keys_dry {d : Dk} (h : Dry d) : keys d = [] := below_none _ _ h.dry
theorem got_is {d : Dk} (h : Dry d) {w : Lw} (hg : Span.Math.good w.o w.l (dataN d : Nat) = true) (hl : (w.bs.length : Int) = 16 * w.l) (hs : ∀ i, i < w.l.toNat → sect d (w.o.toNat + i) = piece w.bs i) :
  gotE d w.o w.l = 0 ∧ gotL d w.o w.l = w.bs := by
 have hgo := good_of hg
 unfold gotE gotL
 rw [if_pos hg, if_pos hg, h.calm.1]
 refine ⟨rfl, ?_⟩
 simp only [Bool.false_eq_true, if_false]
 have f1 : ∀ i, (readF d w.o.toNat i).length = 16 := fun i => (sec_readF h.valid _ i).1
 have l1 := flatL_length f1 w.l.toNat
 apply List.ext_getElem?
 intro p
 by_cases hp : p < 16 * w.l.toNat
 ·rw [flatL_at f1 hp]
  have := hs (p / 16) (by omega)
  unfold sect at this
  have e : spot 0 (w.o.toNat + p / 16) = spot w.o.toNat (p / 16) := by simp only [spot]; omega
  rw [e] at this
  unfold readF
  rw [this, piece_get (Nat.mod_lt _ (by decide))]
  congr 1
  omega
 ·rw [List.getElem?_eq_none (by omega), List.getElem?_eq_none (by omega)]
end Go.Proofs.YtoaeficfmcncjaaGreat.Mirror
namespace Go.Proofs.YtoaeficfmcncjaaGreat.Mirror
open Math
open Flight (Fw)
open Later (Lw)
open Pack (Ms)

def dm (i : Int) (x : Fw) : Ms := ⟨2, i, x.o, 0, false, x.bs⟩


def lay (c : Nat → List Nat) (x : Fw) : Nat → List Nat := fun s => if x.o.toNat ≤ s ∧ s < x.o.toNat + x.l.toNat then piece x.bs (s - x.o.toNat) else c s

variable {N : Nat} {fA fB : Fn} {lat : List Lw} {wa wb : List Ms} {cA cB : Nat → List Nat}










end Go.Proofs.YtoaeficfmcncjaaGreat.Mirror
namespace Go.Proofs.YtoaeficfmcncjaaGreat.Mirror
open Math
open Flight (Fw busy addL turnL endL endOk exts addOk setSt)
open Later (Lw overL wentB wentW leftL lw0 may pick gone)
open Clash (Ow verd)
open Pack (Ms)
open Table (Rising ins del tks)




end Go.Proofs.YtoaeficfmcncjaaGreat.Mirror
namespace Go.Proofs.YtoaeficfmcncjaaGreat.Mirror
open Math
open Flight (Fw busy addL turnL endL endOk exts addOk setSt)
open Later (Lw overL wentB wentW leftL lw0 may pick gone)
open Clash (Ow verd)
open Pack (Ms)
open Table (Rising ins del tks)


theorem verd_true (O : List Ow) (p m : Int) : verd true O p m = if O.any (Clash.ph p m) then 1 else if O.any (Clash.po p m) then 2 else 0 := rfl
theorem verd_false (O : List Ow) (p m : Int) : verd false O p m = if O.any (Clash.ps p m) then 3 else 0 := rfl

end Go.Proofs.YtoaeficfmcncjaaGreat.Mirror
namespace Go.Proofs.YtoaeficfmcncjaaGreat.Mirror
open Math
open Flight (Fw busy addL turnL endL endOk exts addOk setSt)
open Later (Lw overL wentB wentW leftL lw0 may pick gone)
open Clash (Ow verd)
open Pack (Ms)
open Table (Rising ins del tks)



theorem went_split {O : List Ow} {q : List Lw} (h : wentB O q = true) : ∃ l1 l2, q = l1 ++ wentW O q :: l2 ∧ leftL O q = l1 ++ l2 ∧ may O (wentW O q) = true := by
 unfold wentB at h
 cases hp : pick O q with
 | none => rw [hp] at h; cases h
 | some k =>
  have hk := List.findIdx?_eq_some_iff_getElem.1 hp
  obtain ⟨hlt, hm, _⟩ := hk
  have e : wentW O q = q[k] := by unfold wentW; rw [hp]; simp [List.getElem?_eq_getElem hlt]
  have e2 : leftL O q = gone q k := by unfold leftL; rw [hp]
  refine ⟨q.take k, q.drop (k + 1), ?_, e2, by rw [e]; exact hm⟩
  rw [e, ← List.drop_eq_getElem_cons hlt, List.take_append_drop]
end Go.Proofs.YtoaeficfmcncjaaGreat.Mirror
namespace Go.Proofs.YtoaeficfmcncjaaGreat.Mirror
open Math
open Flight (Fw busy addL turnL endL endOk exts addOk setSt)
open Later (Lw overL wentB wentW leftL lw0 may pick gone)
open Clash (Ow verd)
open Pack (Ms)
open Table (Rising ins del tks)



end Go.Proofs.YtoaeficfmcncjaaGreat.Mirror
