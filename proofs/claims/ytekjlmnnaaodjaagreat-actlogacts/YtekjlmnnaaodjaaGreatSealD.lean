/-
  The walks of the document's Put of layer 2 (taken over from the rounds before).
-/
import Derived.Test.YtekjlmnnaaodjaaGreatSealC
import Derived.Laws.BytesArg
import Derived.ProofKit
import Derived.OpenShut
namespace Go.Proofs.YtekjlmnnaaodjaaGreat.Seal
open Go.RowKit
open Math
open Crc

set_option maxRecDepth 100000 in
set_option maxHeartbeats 800000 in
/-- twainref02.Put, behind some bytes -/
theorem refPut_some (a : Addr) (len cap : Nat) (bs : List Nat) (x s : Nat) (w : World) (hlen : bs.length = len) (hb : len ≤ 1000) (hx : x < 18446744073709551616) (hs0 : 0 < s) (hs : s ≤ 8)
    (hc : ∀ j u, (bs.map enc)[j]? = some u → w.cell? (a.add j) = some u) :
    Calls Tryz.prog 70 #[.slice (some a) len cap, .int .u64 x, .int .i64 s] w fun e w' => ∃ v, e = .returned v ∧ w'.ownsRow w.heap.size 5 1 v (len + s) ((bs ++ be s x).map enc) ∧ Below w.heap.size w w' := by
  obtain ⟨i0, hi, hz0, hz1, hz2⟩ := info_parts Tryz.info5
  have HL : Hid (bs.length = len) := hlen
  clear hlen
  have hown0 : (w.alloc (.cells #[] 5)).ownsRow w.heap.size 5 1 (.slice (some ⟨w.heap.size, 0, none⟩) 0 0) 0 [] := World.ownsRow_made w _ 0 (Nat.le_refl _) (by decide) rfl
  have hB0 : Below w.heap.size w (w.alloc (.cells #[] 5)) := (Below.refl _ _).alloc (Nat.le_refl _) _
  go_enter Tryz.func70, Tryz.ntmps70
  go_wp2_with (first
    | (at_builtin; refine wpList_append_own _ rfl _ _ 88 rfl w.heap.size 5 i0 (.int .u8 0) 1 1 Tryz.underlying88 hi hz0 hz1 hz2 rfl (by decide) _ 0 [] rfl hown0 a len cap (bs.map enc) rfl ?c0 ?c1 ?c2 ?c3 ?c4 ?c5 ?_)
    | go_in)
  case c0 => simp [HL.out]
  case c1 =>
    intro j u hj
    have := hc j u hj
    rw [← this]
    exact hB0.cell (World.block_lt_of_cell? w _ this)
  case c2 => intro u hu; simp at hu; obtain ⟨x, _, rfl⟩ := hu; rfl
  case c3 => unfold maxLen; omega
  case c4 => omega
  case c5 => simp
  intro v1 w1 hown1 hgrow1 _
  have hB1 := below_append (Nat.le_refl _) hB0 hown0 hgrow1
  try rw [Nat.zero_add, List.nil_append] at hown1
  clear hown0 hB0 hgrow1 hc
  go_wp2
  go_loopw [7, 8] (fun v i wr => ∃ k : Nat, k ≤ s ∧ i = .int .i64 k ∧ wr.ownsRow w.heap.size 5 1 v (len + k) ((bs ++ List.replicate k 0).map enc) ∧ Below w.heap.size w wr) (fun _ i _ => s - (intOf i).toNat)
  case atStart => exact ⟨0, by omega, rfl, by simpa using hown1, hB1⟩
  case round =>
    obtain ⟨k, hk, rfl, hown, hB⟩ := hrel
    clear hown1 hB1
    by_cases hlt : k < s
    · go_wp2_with (first
        | (at_builtin; refine wpList_append_own _ rfl _ _ 88 rfl w.heap.size 5 i0 (.int .u8 0) 1 1 Tryz.underlying88 hi hz0 hz1 hz2 rfl (by decide) _ _ _ rfl (hown.alloc _) ⟨World.heap _ |>.size, 0, none⟩ 1 1 [.int .u8 0] rfl rfl ?c1 ?c2 ?c3 ?c4 ?c5 ?_)
        | go_in)
      case c1 => exact cell_one_new _ _ _
      case c2 => intro u hu; simp at hu; subst hu; rfl
      case c3 => unfold maxLen; omega
      case c4 => omega
      case c5 => have := hB.size; simp; omega
      intro v' w1 hown' hgrow _
      have hB' := below_append (Nat.le_refl _) (hB.alloc hB.size _) (hown.alloc _) hgrow
      have hr1 : w1.ownsRow w.heap.size 5 1 v' (len + (k + 1)) ((bs ++ List.replicate (k + 1) 0).map enc) := by
        rw [List.replicate_succ', List.map_append, List.map_append, List.map_replicate]; exact hown'
      clear hown' hgrow hown hB
      go_wp2
      go_roundw
      case rel => exact ⟨k + 1, by omega, by go_num, hr1, hB'⟩
      case measure => simp [intOf] <;> omega
    · obtain rfl : k = s := by omega
      obtain ⟨_, ⟨rfl, h0⟩ | ⟨g, cap', cur, rfl, hrest⟩⟩ := id hown
      · omega
      clear hrest
      rw [← fill_start k x] at hown
      go_wp2
      go_loopw [1, 9] (fun n i wr => ∃ j : Nat, j ≤ k ∧ i = .int .i64 ((len : Int) + (j : Int) - 1) ∧ n = .int .u64 ((x / 256 ^ (k - j) : Nat) : Int) ∧ wr.ownsRow w.heap.size 5 1 (.slice (some ⟨g, 0, none⟩) (len + k) cap') (len + k) ((bs ++ fill k j x).map enc) ∧ Below w.heap.size w wr) (fun _ i _ => (intOf i + 1 - len).toNat)
      case atStart => exact ⟨k, Nat.le_refl _, by go_num, by simp, hown, hB⟩
      case round =>
        obtain ⟨j, hj, rfl, rfl, hown2, hB2⟩ := hrel
        clear hown hB
        cases j with
        | zero =>
          go_wp2
          go_ret
          exact ⟨_, rfl, by rw [← fill_end]; exact hown2, hB2⟩
        | succ j =>
          have hlj := HL.out
          have hcx := hown2.cellAt (len + j) (by omega)
          rw [List.getElem?_map, List.getElem?_append_right (by omega), show len + j - bs.length = j by omega, fill_at] at hcx
          have hfx := hown2.frozenAt (len + j)
          have hst := (hown2.stored (len + j) (enc (x / 256 ^ (k - (j + 1)) % 256))).1
          rw [show len + j = bs.length + j by omega, fill_step_behind enc bs hj, show bs.length + j = len + j by omega] at hst
          have hgg := (hown2.lt g rfl).1
          have hBs := hB2.setCell (p := ⟨g, len + j, none⟩) hgg (enc (x / 256 ^ (k - (j + 1)) % 256))
          have hy : x / 256 ^ (k - (j + 1)) < 18446744073709551616 := Nat.lt_of_le_of_lt (Nat.div_le_self _ _) hx
          have HD : Hid (x / 256 ^ (k - (j + 1)) / 256 = x / 256 ^ (k - j)) := (div_pow_succ _ _).trans (by rw [show k - (j + 1) + 1 = k - j by omega])
          have ej : ((len : Int) + ((j + 1 : Nat) : Int) - 1) = ((len + j : Nat) : Int) := by omega
          rw [ej]
          generalize x / 256 ^ (k - (j + 1)) = y at *
          simp only [Option.map_some, enc] at hcx hst hBs
          clear ej hown2 hB2 hlj
          obtain ⟨p, hp⟩ : ∃ p, len + j = p := ⟨_, rfl⟩
          rw [hp] at hcx hfx hst hBs ⊢
          have hp1 : len ≤ p := by omega
          have hp2 : p < len + k := by omega
          have HP : Hid (len + j = p) := hp
          clear hp
          go_wp2
          go_roundw
          case rel => exact ⟨j, by omega, by have := HP.out; go_num, by rw [← HD.out]; first | rfl | go_num, by first | exact hst | simpa using hst, by first | exact hBs | simpa using hBs⟩
          case measure => have := HP.out; simp [intOf]; omega

set_option maxRecDepth 100000 in
set_option maxHeartbeats 800000 in
/-- twainref02.Put, behind nothing -/
theorem refPut_none (x s : Nat) (w : World) (hx : x < 18446744073709551616) (hs0 : 0 < s) (hs : s ≤ 8) :
    Calls Tryz.prog 70 #[.slice none 0 0, .int .u64 x, .int .i64 s] w fun e w' => ∃ v, e = .returned v ∧ w'.ownsRow w.heap.size 5 1 v s ((be s x).map enc) ∧ Below w.heap.size w w' := by
  obtain ⟨i0, hi, hz0, hz1, hz2⟩ := info_parts Tryz.info5
  have hown1 : (w.alloc (.cells #[] 5)).ownsRow w.heap.size 5 1 (.slice (some ⟨w.heap.size, 0, none⟩) 0 0) 0 [] := World.ownsRow_made w _ 0 (Nat.le_refl _) (by decide) rfl
  have hB1 : Below w.heap.size w (w.alloc (.cells #[] 5)) := (Below.refl _ _).alloc (Nat.le_refl _) _
  go_enter Tryz.func70, Tryz.ntmps70
  go_wp2
  go_loopw [7, 8] (fun v i wr => ∃ k : Nat, k ≤ s ∧ i = .int .i64 k ∧ wr.ownsRow w.heap.size 5 1 v k ((List.replicate k 0).map enc) ∧ Below w.heap.size w wr) (fun _ i _ => s - (intOf i).toNat)
  case atStart => exact ⟨0, by omega, rfl, by simpa using hown1, hB1⟩
  case round =>
    obtain ⟨k, hk, rfl, hown, hB⟩ := hrel
    clear hown1 hB1
    by_cases hlt : k < s
    · go_wp2_with (first
        | (at_builtin; refine wpList_append_own _ rfl _ _ 88 rfl w.heap.size 5 i0 (.int .u8 0) 1 1 Tryz.underlying88 hi hz0 hz1 hz2 rfl (by decide) _ _ _ rfl (hown.alloc _) ⟨World.heap _ |>.size, 0, none⟩ 1 1 [.int .u8 0] rfl rfl ?c1 ?c2 ?c3 ?c4 ?c5 ?_)
        | go_in)
      case c1 => exact cell_one_new _ _ _
      case c2 => intro u hu; simp at hu; subst hu; rfl
      case c3 => unfold maxLen; omega
      case c4 => omega
      case c5 => have := hB.size; simp; omega
      intro v' w1 hown' hgrow _
      have hB' := below_append (Nat.le_refl _) (hB.alloc hB.size _) (hown.alloc _) hgrow
      have hr1 : w1.ownsRow w.heap.size 5 1 v' (k + 1) ((List.replicate (k + 1) 0).map enc) := by
        rw [List.replicate_succ', List.map_append, List.map_replicate]; exact hown'
      clear hown' hgrow hown hB
      go_wp2
      go_roundw
      case rel => exact ⟨k + 1, by omega, by go_num, hr1, hB'⟩
      case measure => simp [intOf] <;> omega
    · obtain rfl : k = s := by omega
      obtain ⟨_, ⟨rfl, h0⟩ | ⟨g, cap', cur, rfl, hrest⟩⟩ := id hown
      · omega
      clear hrest
      rw [← fill_start k x] at hown
      go_wp2
      go_loopw [1, 9] (fun n i wr => ∃ j : Nat, j ≤ k ∧ i = .int .i64 ((j : Int) - 1) ∧ n = .int .u64 ((x / 256 ^ (k - j) : Nat) : Int) ∧ wr.ownsRow w.heap.size 5 1 (.slice (some ⟨g, 0, none⟩) k cap') k ((fill k j x).map enc) ∧ Below w.heap.size w wr) (fun _ i _ => (intOf i + 1).toNat)
      case atStart => exact ⟨k, Nat.le_refl _, by go_num, by simp, hown, hB⟩
      case round =>
        obtain ⟨j, hj, rfl, rfl, hown2, hB2⟩ := hrel
        clear hown hB
        cases j with
        | zero =>
          go_wp2
          go_ret
          exact ⟨_, rfl, by rw [← fill_end]; exact hown2, hB2⟩
        | succ j =>
          have hcx := hown2.cellAt j (by omega)
          rw [List.getElem?_map, fill_at] at hcx
          have hfx := hown2.frozenAt j
          have hst := (hown2.stored j (enc (x / 256 ^ (k - (j + 1)) % 256))).1
          rw [fill_step_map enc hj] at hst
          have hgg := (hown2.lt g rfl).1
          have hBs := hB2.setCell (p := ⟨g, j, none⟩) hgg (enc (x / 256 ^ (k - (j + 1)) % 256))
          have hy : x / 256 ^ (k - (j + 1)) < 18446744073709551616 := Nat.lt_of_le_of_lt (Nat.div_le_self _ _) hx
          have HD : Hid (x / 256 ^ (k - (j + 1)) / 256 = x / 256 ^ (k - j)) := (div_pow_succ _ _).trans (by rw [show k - (j + 1) + 1 = k - j by omega])
          have ej : (((j + 1 : Nat) : Int) - 1) = (j : Int) := by omega
          rw [ej]
          generalize x / 256 ^ (k - (j + 1)) = y at *
          simp only [Option.map_some, enc] at hcx hst hBs
          clear ej hown2 hB2
          go_wp2
          go_roundw
          case rel => exact ⟨j, by omega, by go_num, by rw [← HD.out]; first | rfl | go_num, by first | exact hst | simpa using hst, by first | exact hBs | simpa using hBs⟩
          case measure => simp [intOf] <;> omega

set_option maxRecDepth 100000 in
/-- twainref02.Put -/
theorem refPut_any (sv : Value) (bs : List Nat) (x s : Nat) (w : World) (hb : bs.length ≤ 1000) (hx : x < 18446744073709551616) (hs0 : 0 < s) (hs : s ≤ 8) (hI : BytesAt w.heap.size w sv bs) :
    Calls Tryz.prog 70 #[sv, .int .u64 x, .int .i64 s] w fun e w' => ∃ v, e = .returned v ∧ w'.ownsRow w.heap.size 5 1 v (bs.length + s) ((bs ++ be s x).map enc) ∧ Below w.heap.size w w' := by
  obtain ⟨_, a, cap, rfl, hn, h⟩ := hI
  cases a with
  | none =>
    obtain rfl := hn rfl
    rcases h with rfl | ⟨b, off, e, _⟩
    · have := refPut_none x s w hx hs0 hs
      simpa using this
    · simp at e
  | some a =>
    refine refPut_some a _ cap bs x s w rfl hb hx hs0 hs ?_
    rcases h with rfl | ⟨b, off, e, _, _, hc⟩
    · intro j u hj; simp at hj
    · obtain rfl : a = ⟨b, off, none⟩ := by simpa using e
      exact cells_of hc

set_option maxRecDepth 100000 in
/-- twainref02.Put32 -/
theorem refPut32_any (sv : Value) (bs : List Nat) (y : Nat) (w : World) (hb : bs.length ≤ 1000) (hy : y < 4294967296) (hI : BytesAt w.heap.size w sv bs) :
    Calls Tryz.prog 58 #[sv, .int .u32 y] w fun e w' => ∃ v, e = .returned v ∧ w'.ownsRow w.heap.size 5 1 v (bs.length + 4) ((bs ++ be 4 y).map enc) ∧ Below w.heap.size w w' := by
  have q := refPut_any sv bs y 4 w hb (by omega) (by omega) (by omega) hI
  obtain ⟨_, a, cap, rfl, _, _⟩ := hI
  generalize bs.length = len at *
  go_enter Tryz.func58, Tryz.ntmps58
  go_wp2_with (go_at_call 70; refine q.mono ?_; rintro e w1 ⟨v, rfl, ho, hB⟩)
  go_ret
  exact ⟨v, rfl, ho, hB⟩

set_option maxRecDepth 100000 in
/-- twainref02.Put64 -/
theorem refPut64_any (sv : Value) (bs : List Nat) (y : Nat) (w : World) (hb : bs.length ≤ 1000) (hy : y < 18446744073709551616) (hI : BytesAt w.heap.size w sv bs) :
    Calls Tryz.prog 57 #[sv, .int .u64 y] w fun e w' => ∃ v, e = .returned v ∧ w'.ownsRow w.heap.size 5 1 v (bs.length + 8) ((bs ++ be 8 y).map enc) ∧ Below w.heap.size w w' := by
  have q := refPut_any sv bs y 8 w hb hy (by omega) (by omega) hI
  obtain ⟨_, a, cap, rfl, _, _⟩ := hI
  generalize bs.length = len at *
  go_enter Tryz.func57, Tryz.ntmps57
  go_wp2_with (go_at_call 70; refine q.mono ?_; rintro e w1 ⟨v, rfl, ho, hB⟩)
  go_ret
  exact ⟨v, rfl, ho, hB⟩

set_option maxRecDepth 100000 in
/-- A call's own bytes, as a text. -/
theorem conv_owns {W : World} {base : Nat} {v : Value} {l : List Nat} (h : W.ownsRow base 5 1 v l.length (l.map enc)) :
    (convert 88 9 v).run Tryz.prog W = .ok (.string (strOfNums (l.map Int.ofNat))) W := by
  obtain ⟨_, ⟨rfl, h0⟩ | ⟨g, cap, cur, rfl, hb, hg, h1, h2, h3, h4⟩⟩ := h
  · have : l = [] := by simpa using h0
    subst this
    exact run_convert_bytes_nil W 88 5 Tryz.underlying88 Tryz.underlying5 0 0 9 Tryz.underlying9
  · refine run_convert_bytes_arg W 88 5 Tryz.underlying88 Tryz.underlying5 g 0 _ cap _ (by simp) (fun j hj => ?_) 9 Tryz.underlying9
    have e : cur.toList[j]? = some (enc l[j]) := by
      have := congrArg (fun t => t[j]?) h4
      simp [hj] at this
      simpa using this
    simp [World.cell?, hg]
    rw [Array.getElem?_toList] at e
    rw [e]
    simp [enc, hj]

/-- A slice of numbers that came in: nil, or a row of cap cells that hold zs, of which the first len are its elements. -/
def IsRow (k : IntKind) (w : World) (a : Option Addr) (len cap : Nat) (zs : List Int) : Prop :=
  (a = none ∧ len = 0 ∧ cap = 0 ∧ zs = []) ∨
  ∃ x, a = some x ∧ len ≤ cap ∧ cap ≤ maxLen ∧ zs.length = cap ∧ (∀ i, i < zs.length → w.cell? (x.add i) = some (.int k (zs.getD i 0))) ∧ ∀ n ∈ zs, (Lit.int k n).wf = true

theorem byte_of {n : Int} (h : (Lit.int .u8 n).wf = true) : 0 ≤ n ∧ n < 256 := by
  have := bounds_u8 h
  omega

/-- A slice of bytes that came in, up to its length. -/
theorem bytesAt_row {w : World} {a : Option Addr} {len cap : Nat} {zs : List Int} (h : IsRow .u8 w a len cap zs) : len ≤ 9223372036854775807 ∧ ∃ bs, bs.length = len ∧ BytesAt w.heap.size w (.slice a len cap) bs := by
  rcases h with ⟨rfl, rfl, rfl, rfl⟩ | ⟨x, rfl, hl, hm, hz, hc, hw⟩
  · exact ⟨by omega, [], rfl, by simp, none, 0, rfl, fun _ => rfl, .inl rfl⟩
  · unfold maxLen at hm
    refine ⟨by omega, (zs.take len).map Int.toNat, by simp; omega, ?_, some x, cap, by simp; omega, fun h => by simp at h, ?_⟩
    · intro b hb
      obtain ⟨n, hn, rfl⟩ := List.mem_map.1 hb
      have := byte_of (hw n (List.mem_of_mem_take hn))
      omega
    · by_cases hlen : len = 0
      · left; subst hlen; simp
      · right
        obtain ⟨b, off, rfl, hc'⟩ := ints_at hc (by omega)
        refine ⟨b, off, rfl, by simp; omega, World.block_lt_of_cell? w _ (hc' 0 (by omega)), fun j hj => ?_⟩
        have hj' : j < len := by simp at hj; omega
        have hjz : j < zs.length := by omega
        have hb := byte_of (hw (zs[j]) (List.getElem_mem hjz))
        rw [hc' j (by omega)]
        simp [hj', hjz]
        omega

set_option maxRecDepth 100000 in
/-- Bytes, as a text. -/
theorem conv_bytes {n₀ : Nat} {W : World} {v : Value} {l : List Nat} (h : BytesAt n₀ W v l) :
    (convert 88 9 v).run Tryz.prog W = .ok (.string (strOfNums (l.map Int.ofNat))) W := by
  obtain ⟨hb, a, cap, rfl, hn, h⟩ := h
  cases a with
  | none =>
    rcases h with rfl | ⟨b, off, e, _⟩
    · exact run_convert_bytes_nil W 88 5 Tryz.underlying88 Tryz.underlying5 _ cap 9 Tryz.underlying9
    · simp at e
  | some a =>
    rcases h with rfl | ⟨b, off, e, _, _, hc⟩
    · refine (run_convert_bytes_string W 88 9 5 _ _ cap Tryz.underlying88 Tryz.underlying5 Tryz.underlying9).trans ?_
      exact run_bytesToString (P := Tryz.prog) W a 0 cap [] (run_loadCells_list (P := Tryz.prog) W a [] (fun j v hj => by simp at hj))
    · obtain rfl : a = ⟨b, off, none⟩ := by simpa using e
      refine run_convert_bytes_arg W 88 5 Tryz.underlying88 Tryz.underlying5 b off _ cap _ (by simp) (fun j hj => ?_) 9 Tryz.underlying9
      rw [hc j hj]
      simp [hj]

/-- The value v tells the text S, also where memory has been made since. -/
def Conv (W : World) (v : Value) (S : ByteArray) : Prop := ∀ W', Below W.heap.size W W' → (convert 88 9 v).run Tryz.prog W' = .ok (.string S) W'

theorem conv_at {W : World} {v : Value} {l : List Nat} (h : BytesAt W.heap.size W v l) : Conv W v (strOfNums (l.map Int.ofNat)) :=
  fun _ hB => conv_bytes (h.below hB)

/-- Bytes that came in, as a row of values. -/
theorem BytesAt.values {n₀ : Nat} {W : World} {a : Addr} {n cap : Nat} {bs : List Nat} (h : BytesAt n₀ W (.slice (some a) n cap) bs) : ∀ j u, (bs.map enc)[j]? = some u → W.cell? (a.add j) = some u := by
  obtain ⟨_, a', cap', e, _, h⟩ := h
  injection e with e1 e2 e3
  subst e1
  rcases h with rfl | ⟨b, off, e, _, _, hc⟩
  · intro j u hj; simp at hj
  · obtain rfl : a = ⟨b, off, none⟩ := by simpa using e
    exact cells_of hc


end Go.Proofs.YtekjlmnnaaodjaaGreat.Seal
