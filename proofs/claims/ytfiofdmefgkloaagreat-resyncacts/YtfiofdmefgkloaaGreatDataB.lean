import Derived.Test.YtfiofdmefgkloaaGreatDataM
import Derived.Test.YtfiofdmefgkloaaGreatDisk2
import Derived.Test.YtfiofdmefgkloaaGreatSpan1
import Derived.Laws.BytesArg
import Derived.Lib.Bytes
import Derived.ProofKit
import Derived.OpenShut
import Derived.RangeFuncCalls
import Derived.RangeFuncLeaves
import Derived.RangeFuncBox
import Derived.Shelf.Abstract
import Derived.Shelf.RegionOpen
import Derived.OwnWalkIn
import Derived.TacticsInMore
import Derived.LoopNIn
import Derived.LoopIn
import Derived.Maps.AppendAt
/-
  Bytes in memory, and the small functions of the data area: how many sectors there are, whether a span is found, its sectors told one by one.
-/
namespace Go.Proofs.YtfiofdmefgkloaaGreat
open Go.RowKit Go.Maps Go.Shelf
open Math

attribute [local go_sem] Oper.semAt_some

/-- The slice value v holds the bytes bs, in a block from lo on and below hi where there is one. -/
def ByteRow (lo hi : Nat) (W : World) (v : Value) (bs : List Nat) : Prop :=
  (∀ b ∈ bs, b < 256) ∧ ∃ a cap, v = .slice a bs.length cap ∧ (a = none → cap = 0) ∧ (bs = [] ∨ ∃ g off, a = some ⟨g, off, none⟩ ∧ bs.length ≤ cap ∧ lo ≤ g ∧ g < hi ∧ ∀ j, j < bs.length → W.cell? ⟨g, off + j, none⟩ = some (.int .u8 ((bs[j]?.getD 0 : Nat) : Int)))
theorem ByteRow.kept {L : List Nat} {A B : World} {lo hi : Nat} {v : Value} {bs : List Nat} (h : ByteRow lo hi A v bs) (hh : hi ≤ A.heap.size) (hK : Kept L A B) (hL : ∀ k ∈ L, k < lo ∨ hi ≤ k) : ByteRow lo hi B v bs := by
  obtain ⟨hb, a, cap, e, hn, h | ⟨g, off, e2, hl, h1, h2, hc⟩⟩ := h
  · exact ⟨hb, a, cap, e, hn, .inl h⟩
  · refine ⟨hb, a, cap, e, hn, .inr ⟨g, off, e2, hl, h1, h2, fun j hj => ?_⟩⟩
    rw [World.cell?_of_block (w := A) (w' := B) (hK.block g (by omega) (fun hm => by have := hL g hm; omega))]
    exact hc j hj
theorem ByteRow.mono {lo hi lo' hi' : Nat} {W : World} {v : Value} {bs : List Nat} (h : ByteRow lo hi W v bs) (h1 : lo' ≤ lo) (h2 : hi ≤ hi') : ByteRow lo' hi' W v bs := by
  obtain ⟨hb, a, cap, e, hn, h | ⟨g, off, e2, hl, h3, h4, hc⟩⟩ := h
  · exact ⟨hb, a, cap, e, hn, .inl h⟩
  · exact ⟨hb, a, cap, e, hn, .inr ⟨g, off, e2, hl, by omega, by omega, hc⟩⟩
theorem byteRow_nil (lo hi : Nat) (W : World) : ByteRow lo hi W (.slice none 0 0) [] := ⟨by simp, none, 0, rfl, fun _ => rfl, .inl rfl⟩
theorem ByteRow.slice {lo hi : Nat} {W : World} {v : Value} {bs : List Nat} (h : ByteRow lo hi W v bs) : ∃ a cap, v = .slice a bs.length cap := by
  obtain ⟨_, a, cap, e, _⟩ := h
  exact ⟨a, cap, e⟩
/-- A row of bytes that lies in an array's block. -/
theorem byteRow_arr {W : World} {g lo cap : Nat} {t : TypeId} {l : List Nat} (h : Arr W g t l) (hb : ∀ b ∈ l, b < 256) (h1 : lo ≤ g) (h2 : l.length ≤ cap) : ByteRow lo W.heap.size W (.slice (some ⟨g, 0, none⟩) l.length cap) l :=
  ⟨hb, _, cap, rfl, fun e => (by cases e), .inr ⟨g, 0, rfl, h2, h1, h.lt, fun j hj => by rw [Nat.zero_add]; exact h.cell j hj⟩⟩
/-- A row of bytes of the call's own. -/
theorem byteRow_owns {W : World} {base : Nat} {v : Value} {l : List Nat} (hl : ∀ b ∈ l, b < 256) (h : W.ownsRow base 5 1 v l.length (l.map enc)) : ByteRow base W.heap.size W v l := by
  obtain ⟨_, ⟨rfl, h0⟩ | ⟨g, cap, cur, rfl, hb, hg, h1, h2, h3, h4⟩⟩ := h
  · have : l = [] := by simpa using h0
    subst this
    exact ⟨hl, none, 0, rfl, fun _ => rfl, .inl rfl⟩
  · refine ⟨hl, some ⟨g, 0, none⟩, cap, rfl, fun h => by simp at h, .inr ⟨g, 0, rfl, h1, hb, (Array.getElem?_eq_some_iff.1 hg).1, fun j hj => ?_⟩⟩
    have e : cur.toList[j]? = some (enc l[j]) := by
      have := congrArg (fun t => t[j]?) h4
      simp [hj] at this
      simpa using this
    simp [World.cell?, hg]
    rw [Array.getElem?_toList] at e
    rw [e]
    simp [enc, hj]
/-- Some bytes' text. -/
def txt (l : List Nat) : ByteArray := strOfNums (l.map Int.ofNat)
set_option maxRecDepth 100000 in
theorem conv_txt {lo hi : Nat} {W : World} {v : Value} {l : List Nat} (h : ByteRow lo hi W v l) : (convert 24 9 v).run Tryz.prog W = .ok (.string (txt l)) W := by
  obtain ⟨hb, a, cap, rfl, hn, h⟩ := h
  cases a with
  | none =>
    rcases h with rfl | ⟨b, off, e, _⟩
    · exact run_convert_bytes_nil W 24 5 Tryz.underlying24 Tryz.underlying5 _ cap 9 Tryz.underlying9
    · simp at e
  | some a =>
    rcases h with rfl | ⟨b, off, e, _, _, _, hc⟩
    · refine (run_convert_bytes_string W 24 9 5 _ _ cap Tryz.underlying24 Tryz.underlying5 Tryz.underlying9).trans ?_
      exact run_bytesToString (P := Tryz.prog) W a 0 cap [] (run_loadCells_list (P := Tryz.prog) W a [] (fun j v hj => by simp at hj))
    · obtain rfl : a = ⟨b, off, none⟩ := by simpa using e
      refine run_convert_bytes_arg W 24 5 Tryz.underlying24 Tryz.underlying5 b off _ cap _ (by simp) (fun j hj => ?_) 9 Tryz.underlying9
      rw [hc j hj]
      simp [hj]
/-- n noughts -/
def zeros (n : Nat) : List Nat := List.replicate n 0
theorem zeros_length (n : Nat) : (zeros n).length = n := List.length_replicate
theorem madeBytes (n : Nat) : madeCells #[.int .u8 0] n = ((zeros n).map enc).toArray := by
  apply Array.ext
  · simp [madeCells, zeros]
  · intro i h1 h2
    simp [madeCells, enc, zeros, Nat.mod_one]
set_option maxRecDepth 100000 in
theorem Tryz.info5 : (Tryz.prog.info? 5).map (fun i => (i.zero, i.size, i.bytes)) = some (some (.int .u8 0), 1, 1) := by kernel_rfl
set_option maxRecDepth 100000 in
/-- make([]byte, n) -/
theorem make_bytes (n : Nat) (hn : n ≤ 100000) (w : World) : (Instr.makeSlice 24 (.int .i64 (n : Int)) (.int .i64 (n : Int))).run Tryz.prog w = .ok (.slice (some ⟨w.heap.size, 0, none⟩) n n) (w.alloc (.cells ((zeros n).map enc).toArray 5)) := by
  obtain ⟨i0, hi, hz0, hz1, hz2⟩ := info_parts Tryz.info5
  have := run_make (P := Tryz.prog) w 24 5 i0 (.int .u8 0) Tryz.underlying24 hi hz0 .i64 .i64 (n : Int) (n : Int) (by omega) (by omega) (by rw [hz2]; omega) (by omega)
  rw [hz1, show ((n : Int)).toNat = n by omega, Nat.mul_one] at this
  rw [← madeBytes]
  exact this
theorem splice_over (L : List Nat) (p : Nat) (l : List Nat) : splice L p l = over L p l := by simp [splice, over]
theorem splice_map (L l : List Nat) (off : Nat) : splice (L.map enc) off (l.map enc) = (splice L off l).map enc := by
  simp [splice, List.map_take, List.map_drop]
set_option maxRecDepth 100000 in
/-- copy, into an array's block -/
theorem run_copy_arr {W : World} {g off : Nat} {t : TypeId} {L l : List Nat} (hg : Arr W g t L) (b boff dLen dCap sLen sCap : Nat) (ty : TypeId) (hn : l.length = Nat.min sLen dLen) (hfit : off + l.length ≤ L.length)
    (hsrc : ∀ j, j < l.length → W.cell? ⟨b, boff + j, none⟩ = some (.int .u8 ((l[j]?.getD 0 : Nat) : Int))) :
    ∃ w', (Builtin.copy_ #[24, 24] ty #[.slice (some ⟨g, off, none⟩) dLen dCap, .slice (some ⟨b, boff, none⟩) sLen sCap]).run Tryz.prog W = .ok (goInt l.length) w' ∧ Arr w' g t (over L off l) ∧ Kept [g] W w' ∧ w'.heap.size = W.heap.size := by
  have hrun := run_copy_row (P := Tryz.prog) W 24 24 ty 5 g off dLen dCap ⟨b, boff, none⟩ sLen sCap (L.map enc).toArray t (l.map enc) Tryz.underlying24 Tryz.size5 hg (by simpa using hn) (fun j v hj => by
    have hjl : j < l.length := by have := (List.getElem?_eq_some_iff.1 hj).1; simpa using this
    rw [Addr.add_mid, hsrc j hjl, ← hj, enc_get l j hjl]) (by simpa using hfit) (enc_one l)
  refine ⟨W.setRow g (splice (L.map enc) off (l.map enc)).toArray, by simpa [splice] using hrun, ?_, ?_, ?_⟩
  · have : (W.setRow g (splice (L.map enc) off (l.map enc)).toArray).heap[g]? = some (.cells (splice (L.map enc) off (l.map enc)).toArray t (0, 0)) := setRow_heap W g _ _ t _ hg
    unfold Arr
    rw [← splice_over, ← splice_map]
    exact this
  · exact ⟨rfl, rfl, rfl, by simp [World.setRow], fun k _ hk => setRow_other W g k _ (by simpa using hk)⟩
  · simp [World.setRow]

set_option maxRecDepth 100000 in
/-- Sectors -/
theorem dSectors_any (d b1 b2 : Nat) (s : Dk) (w : World) (h : DiskAt w d b1 b2 s) :
    Calls Tryz.prog 59 #[.pointer (some ⟨d, 0, none⟩)] w fun e w' => e = .returned (.int .i64 (dataN s : Nat)) ∧ w' = w := by
  have q := size_any d b1 b2 s w h
  have htop := h.valid.top
  have hd : (dataN s : Int) = max ((s.size : Int) - 8) 0 := by unfold dataN; omega
  go_enter Tryz.func59, Tryz.ntmps59
  go_wp2_with (go_at_call 108; refine q.mono ?_; rintro e w ⟨rfl, rfl⟩)
  all_goals
    go_ret
    exact ⟨by rw [hd]; first | (simp; done) | (simp; omega), rfl⟩
set_option maxRecDepth 100000 in
/-- size -/
theorem dsize_any (o l : Int) (h0 : 0 ≤ l) (h1 : l ≤ 1073741824) (w : World) :
    Calls Tryz.prog 105 #[.agg #[.int .i64 o, .int .i64 l]] w fun e w' => e = .returned (.int .i64 (l * 16)) ∧ Kept [] w w' := by
  go_enter Tryz.func105, Tryz.ntmps105
  go_wp2
  go_ret
  exact ⟨rfl, kept_alloc [] _ _⟩
set_option maxRecDepth 100000 in
/-- sectors: the span is boxed; the function value captures the box. -/
theorem dsectors_any (o l : Int) (w : World) :
    Calls Tryz.prog 106 #[.agg #[.int .i64 o, .int .i64 l]] w fun e w' => e = .returned (.func (.func 147) #[] #[.pointer (some ⟨w.heap.size, 0, none⟩)]) ∧ w' = w.alloc (.cells #[.int .i64 o, .int .i64 l] 127) := by
  go_enter Tryz.func106, Tryz.ntmps106
  go_wp2
  go_ret
  exact ⟨rfl, rfl⟩
set_option maxRecDepth 100000 in
set_option maxHeartbeats 1000000 in
/-- find -/
theorem dfind_any (d b1 b2 : Nat) (s : Dk) (o l : Int) (w : World) (h : DiskAt w d b1 b2 s) :
    Calls Tryz.prog 104 #[.pointer (some ⟨d, 0, none⟩), .agg #[.int .i64 o, .int .i64 l]] w fun e w' => e = .returned (.int .i64 (if Span.Math.good o l (dataN s : Nat) then 0 else 13)) ∧ Kept [] w w' := by
  have h1 := h.alloc (.cells #[.int .i64 o, .int .i64 l] 127)
  have q1 := made_any d b1 b2 s _ h1
  have q2 := dSectors_any d b1 b2 s _ h1.drew
  have q3 := fun W => Span.good_any o l (dataN s : Nat) W
  have hk := kept_alloc [] w (.cells #[.int .i64 o, .int .i64 l] 127)
  generalize dataN s = N at *
  cases hg : Span.Math.good o l (N : Nat) with
  | true =>
    rw [hg] at q3
    go_enter Tryz.func104, Tryz.ntmps104
    go_wp2_with (go_at_call 52; refine q1.mono ?_; rintro e w' ⟨rfl, rfl⟩)
    go_region_with (first | (go_at_call 59; refine q2.mono ?_; rintro e w' ⟨rfl, rfl⟩) | (go_at_call 146; refine (q3 _).mono ?_; rintro e w2 ⟨rfl, hB⟩))
    all_goals
      go_wp2
      go_ret
      exact ⟨rfl, (hk.trans (kept_drew [] _)).trans (Kept.of_below hB [])⟩
  | false =>
    rw [hg] at q3
    go_enter Tryz.func104, Tryz.ntmps104
    go_wp2_with (go_at_call 52; refine q1.mono ?_; rintro e w' ⟨rfl, rfl⟩)
    go_region_with (first | (go_at_call 59; refine q2.mono ?_; rintro e w' ⟨rfl, rfl⟩) | (go_at_call 146; refine (q3 _).mono ?_; rintro e w2 ⟨rfl, hB⟩))
    all_goals
      go_wp2
      go_ret
      exact ⟨rfl, (hk.trans (kept_drew [] _)).trans (Kept.of_below hB [])⟩

/-- Block b is as it was. -/
def SameAt (b : Nat) (W W' : World) : Prop := W'.heap[b]? = W.heap[b]?
theorem sameAt_t {b : Nat} {A B C : World} (h : SameAt b A B) (k : SameAt b B C) : SameAt b A C := k.trans h
theorem sameAt_b {b n : Nat} (hb : b < n) (W : World) (l : Nat) (o o' : Obj) (hl : n ≤ l) (_ : W.heap[l]? = some o) (_ : o.isCells = false) (_ : o.isWalk = false) : SameAt b W (W.putObj l o') :=
  World.putObj_heap_other (by omega)
theorem Kept.sameAt {L : List Nat} {A B : World} {b : Nat} (h : Kept L A B) (hb : b < A.heap.size) (hL : b ∉ L) : SameAt b A B := h.block b hb hL
/-- What sectors tells of a span from o on, of n sectors: where one stands on the disk, and where its bytes begin. -/
def encS (o n : Nat) (x : Nat) : Array Value := #[.int .i64 (8 + (o : Int) + ((x % n : Nat) : Int)), .int .i64 (((x % n : Nat) : Int) * 16)]

set_option maxRecDepth 100000 in
set_option maxHeartbeats 2000000 in
/-- sectors' closure: for every loop body that keeps the box. -/
theorem sectors1_in (F : Fence) (m : Nat) (h45 : F.fn 147) (hro : F.round = none) (hm : 1 ≤ m) (l Bs o n : Nat) (ho : o ≤ 1073741824) (hn : n ≤ 1073741824) (J Jx : List Nat → World → Prop)
    (hY : ∀ pre x W, J pre W → pre.length < n → YieldAt F (m - 1) Tryz.prog l (encS o n x) W fun e W' =>
      (e = .returned (.bool true) ∧ J (pre ++ [x]) W' ∧ SameAt Bs W W') ∨ (e = .returned (.bool false) ∧ Jx (pre ++ [x]) W'))
    (W : World) (hBs : Blk W Bs 127 #[.int .i64 (o : Int), .int .i64 (n : Int)]) (h0 : J [] W) :
    CallsIn F m Tryz.prog 147 #[.func (.yield l) #[] #[], .pointer (some ⟨Bs, 0, none⟩)] W fun e W' => (∃ v, e = .returned v) ∧
      ((∃ ys, ys = List.range n ∧ J ys W') ∨ (∃ pre, (∃ k, k ≤ n ∧ pre = List.range k) ∧ Jx pre W')) := by
  have c1 : W.cell? ⟨Bs, 1, none⟩ = some (.int .i64 (n : Int)) := hBs.cell 1
  refine callsIn_of_wp Tryz.func147 rfl h45 ?_ hro
  simp only [Tryz.ntmps147, List.size_toArray, List.length_cons, List.length_nil, Nat.reduceAdd, Nat.reduceSub, Array.replicate_succ, Array.replicate_zero, List.push_toArray, List.append_toArray, List.nil_append, List.cons_append]
  gi_wp2
  gi_loopw [6] (fun i wr => ∃ k : Nat, k ≤ n ∧ i = .int .i64 k ∧ J (List.range k) wr ∧ Blk wr Bs 127 #[.int .i64 (o : Int), .int .i64 (n : Int)]) (fun i _ => n - (RowKit.intOf i).toNat)
  case atStart => exact ⟨0, Nat.zero_le _, rfl, h0, hBs⟩
  case round =>
    obtain ⟨k, hk, rfl, hJ, hb⟩ := hrel
    have c0 : wr.cell? ⟨Bs, 0, none⟩ = some (.int .i64 (o : Int)) := hb.cell 0
    by_cases hlt : k < n
    · obtain ⟨fn, tmps, assign, body, hy, hR⟩ := hY _ k wr hJ (by simpa using hlt)
      have kk : (k : Int) < (n : Int) := by omega
      have hm1 : Hid (n - (k + 1) < n - k) := by show _ < _; omega
      simp only [encS, Nat.mod_eq_of_lt hlt] at hy
      clear hY c1 hBs h0
      gi_wp2
      refine hR.mono ?_
      rintro e W3 (⟨rfl, hJ3, hs3⟩ | ⟨rfl, hJx3⟩)
      · gi_wp2
        go_roundw
        case rel => exact ⟨k + 1, by omega, by simp, by rw [List.range_succ]; exact hJ3, Eq.trans hs3 hb⟩
        case measure => simpa [RowKit.intOf] using hm1.out
      · gi_wp2
        refine bodyPost_ret (results_none rfl _ _ _) rfl ?_
        exact ⟨⟨_, rfl⟩, .inr ⟨_, ⟨k + 1, by omega, List.range_succ.symm⟩, hJx3⟩⟩
    · obtain rfl : k = n := by omega
      gi_wp2
      go_end0
      exact ⟨⟨_, rfl⟩, .inl ⟨_, rfl, hJ⟩⟩
set_option maxRecDepth 100000 in
/-- What sectors hands back tells all of them, in order; or a part, from the first on. -/
theorem sectors_stops (F : Fence) (m : Nat) (h45 : F.fn 147) (hro : F.round = none) (hm : 1 ≤ m) (Bs o n : Nat) (ho : o ≤ 1073741824) (hn : n ≤ 1073741824) (w : World) (hBs : Blk w Bs 127 #[.int .i64 (o : Int), .int .i64 (n : Int)]) :
    SeqStopsK F m Tryz.prog 147 #[.pointer (some ⟨Bs, 0, none⟩)] (encS o n) (SameAt Bs) (fun ys => ys = List.range n) (fun pre => ∃ k, k ≤ n ∧ pre = List.range k) n w := fun l J Jx W hW _ _ hY h0 =>
  sectors1_in F m h45 hro hm l Bs o n ho hn J Jx hY W ((hW.block Bs hBs.lt).trans hBs) h0
end Go.Proofs.YtfiofdmefgkloaaGreat

