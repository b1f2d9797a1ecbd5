/-
  Bytes and requests in memory; Same, the program's and the document's.
-/
import Derived.Test.YtmpblohagchhaaaRqE
import Derived.Laws.BytesArg
import Derived.Lib.Bytes
namespace Go.Proofs.Ytmpblohagchhaaa.Request
open Go.RowKit
open Span (ret_bool ret_int)

/-- The slice value v holds the bytes bs, in a block from lo on and below hi where there is one. -/
def ByteRow (lo hi : Nat) (W : World) (v : Value) (bs : List Nat) : Prop :=
  (∀ b ∈ bs, b < 256) ∧ ∃ a cap, v = .slice a bs.length cap ∧ (a = none → cap = 0) ∧ (bs = [] ∨ ∃ g off, a = some ⟨g, off, none⟩ ∧ bs.length ≤ cap ∧ lo ≤ g ∧ g < hi ∧ ∀ j, j < bs.length → W.cell? ⟨g, off + j, none⟩ = some (.int .u8 ((bs[j]?.getD 0 : Nat) : Int)))
theorem ByteRow.kept {L : List Nat} {A B : World} {lo hi : Nat} {v : Value} {bs : List Nat} (h : ByteRow lo hi A v bs) (hh : hi ≤ A.heap.size) (hK : Kept L A B) (hL : ∀ k ∈ L, k < lo ∨ hi ≤ k) : ByteRow lo hi B v bs := by
  obtain ⟨hb, a, cap, e, hn, h | ⟨g, off, e2, hl, h1, h2, hc⟩⟩ := h
  · exact ⟨hb, a, cap, e, hn, .inl h⟩
  · refine ⟨hb, a, cap, e, hn, .inr ⟨g, off, e2, hl, h1, h2, fun j hj => ?_⟩⟩
    rw [World.cell?_of_block (w := A) (w' := B) (hK.block g (by omega) (fun hm => by have := hL g hm; omega))]
    exact hc j hj
theorem ByteRow.mono {lo hi lo' hi' : Nat} {W : World} {v : Value} {bs : List Nat} (h : ByteRow lo hi W v bs) (h1 : lo' ≤ lo) (h2 : hi ≤ hi') : ByteRow lo' hi' W v bs := by
  obtain ⟨hb, a, cap, e, hn, h | ⟨g, off, e2, hl, h3, h4, hc⟩⟩ := h
  · exact ⟨hb, a, cap, e, hn, .inl h⟩
  · exact ⟨hb, a, cap, e, hn, .inr ⟨g, off, e2, hl, by omega, by omega, hc⟩⟩
theorem byteRow_nil (lo hi : Nat) (W : World) : ByteRow lo hi W (.slice none 0 0) [] := ⟨by simp, none, 0, rfl, fun _ => rfl, .inl rfl⟩
/-- Some bytes' text. -/
def txt (l : List Nat) : ByteArray := strOfNums (l.map Int.ofNat)
theorem txt_inj {a b : List Nat} (ha : ∀ x ∈ a, x < 256) (hb : ∀ x ∈ b, x < 256) (h : txt a = txt b) : a = b := by
  have h1 := congrArg (fun t => t.data.toList.map UInt8.toNat) h
  simp only [txt, strOfNums_data, List.map_map] at h1
  have e : ∀ l : List Nat, (∀ x ∈ l, x < 256) → l.map (UInt8.toNat ∘ (fun n : Int => UInt8.ofNat n.toNat) ∘ Int.ofNat) = l := fun l hl => by
    conv => rhs; rw [← List.map_id l]
    apply List.map_congr_left
    intro x hx
    have := hl x hx
    simp
    omega
  rw [e a ha, e b hb] at h1
  exact h1
set_option maxRecDepth 100000 in
theorem conv_txt {lo hi : Nat} {W : World} {v : Value} {l : List Nat} (h : ByteRow lo hi W v l) : (convert 26 9 v).run Try.prog W = .ok (.string (txt l)) W := by
  obtain ⟨hb, a, cap, rfl, hn, h⟩ := h
  cases a with
  | none =>
    rcases h with rfl | ⟨b, off, e, _⟩
    · exact run_convert_bytes_nil W 26 5 Try.underlying26 Try.underlying5 _ cap 9 Try.underlying9
    · simp at e
  | some a =>
    rcases h with rfl | ⟨b, off, e, _, _, _, hc⟩
    · refine (run_convert_bytes_string W 26 9 5 _ _ cap Try.underlying26 Try.underlying5 Try.underlying9).trans ?_
      exact run_bytesToString (P := Try.prog) W a 0 cap [] (run_loadCells_list (P := Try.prog) W a [] (fun j v hj => by simp at hj))
    · obtain rfl : a = ⟨b, off, none⟩ := by simpa using e
      refine run_convert_bytes_arg W 26 5 Try.underlying26 Try.underlying5 b off _ cap _ (by simp) (fun j hj => ?_) 9 Try.underlying9
      rw [hc j hj]
      simp [hj]
theorem txt_eq {a b : List Nat} (ha : ∀ x ∈ a, x < 256) (hb : ∀ x ∈ b, x < 256) : ((txt a).toList == (txt b).toList) = decide (a = b) := by
  by_cases h : a = b
  · subst h
    simp
  · rw [decide_eq_false h]
    apply Bool.eq_false_iff.2
    intro e
    have e1 : (txt a).toList = (txt b).toList := by simpa using e
    apply h
    apply txt_inj ha hb
    unfold txt at *
    rw [Lib.strOfNums_toList, Lib.strOfNums_toList] at e1
    have e2 : (strOfNums (a.map Int.ofNat)).data.toList = (strOfNums (b.map Int.ofNat)).data.toList := e1
    have e3 := congrArg List.toArray e2
    simp only [Array.toArray_toList] at e3
    exact congrArg ByteArray.mk e3
set_option maxRecDepth 100000 in
/-- bytes.Equal -/
theorem equal_any (u v : Value) (lo hi lo' hi' : Nat) (a b : List Nat) (w : World) (h : ByteRow lo hi w u a) (k : ByteRow lo' hi' w v b) : Calls Try.prog 20 #[u, v] w fun e w' => e = .returned (.bool (decide (a = b))) ∧ w' = w := by
  have t1 := conv_txt h
  have t2 := conv_txt k
  have hi : Hid (((txt a).toList == (txt b).toList) = decide (a = b)) := txt_eq h.1 k.1
  obtain ⟨_, sa, cap, rfl, _⟩ := h
  obtain ⟨_, sb, cbp, rfl, _⟩ := k
  go_enter Try.func20, Try.ntmps20
  go_wp2_with fail
  go_ret
  exact ⟨ret_bool hi.out, rfl⟩
/-- A request in memory: its numbers, its bytes' slice, and what the bytes are. -/
structure Qv where
  k : Int
  o : Int
  l : Int
  sa : Option Addr
  len : Nat
  cap : Nat
  bs : List Nat
def Qv.val (x : Qv) : Value := .agg #[.int .i64 x.k, .int .i64 x.o, .int .i64 x.l, .slice x.sa x.len x.cap]
def Qv.cells (x : Qv) : List Value := [.int .i64 x.k, .int .i64 x.o, .int .i64 x.l, .slice x.sa x.len x.cap]
def Qv.At (lo hi : Nat) (W : World) (x : Qv) : Prop := ByteRow lo hi W (.slice x.sa x.len x.cap) x.bs
theorem Qv.At.kept {L : List Nat} {A B : World} {lo hi : Nat} {x : Qv} (h : x.At lo hi A) (hh : hi ≤ A.heap.size) (hK : Kept L A B) (hL : ∀ k ∈ L, k < lo ∨ hi ≤ k) : x.At lo hi B := ByteRow.kept h hh hK hL
/-- Are both alike? -/
def sameB (x y : Qv) : Bool := decide (x.k = y.k) && ((decide (x.o = y.o) && decide (x.l = y.l)) && decide (x.bs = y.bs))
theorem sameB_refl (x : Qv) : sameB x x = true := by simp [sameB]
/-- A request's block. -/
def Qv.In (x : Qv) (W : World) (g : Nat) : Prop := Blk W g 28 #[.int .i64 x.k, .int .i64 x.o, .int .i64 x.l, .slice x.sa x.len x.cap]
/-- Two requests in blocks. -/
structure Pair (w : World) (x y : Qv) (g h : Nat) (W : World) : Prop where
  one : x.In W g
  two : y.In W h
  kept : Kept [] w W
theorem pair_new (w : World) (x y : Qv) : Pair w x y w.heap.size (w.heap.size + 1) ((w.alloc (.cells #[.int .i64 x.k, .int .i64 x.o, .int .i64 x.l, .slice x.sa x.len x.cap] 28)).alloc (.cells #[.int .i64 y.k, .int .i64 y.o, .int .i64 y.l, .slice y.sa y.len y.cap] 28)) := by
  have h1 : x.In (w.alloc (.cells #[.int .i64 x.k, .int .i64 x.o, .int .i64 x.l, .slice x.sa x.len x.cap] 28)) w.heap.size := blk_new w 28 _
  have k1 := kept_alloc [] w (.cells #[.int .i64 x.k, .int .i64 x.o, .int .i64 x.l, .slice x.sa x.len x.cap] 28)
  have e1 : (w.alloc (.cells #[.int .i64 x.k, .int .i64 x.o, .int .i64 x.l, .slice x.sa x.len x.cap] 28)).heap.size = w.heap.size + 1 := by simp
  obtain ⟨W, hW⟩ : ∃ W, w.alloc (.cells #[.int .i64 x.k, .int .i64 x.o, .int .i64 x.l, .slice x.sa x.len x.cap] 28) = W := ⟨_, rfl⟩
  rw [hW] at h1 k1 e1 ⊢
  have h2 : y.In (W.alloc (.cells #[.int .i64 y.k, .int .i64 y.o, .int .i64 y.l, .slice y.sa y.len y.cap] 28)) W.heap.size := blk_new W 28 _
  rw [e1] at h2
  exact ⟨Blk.kept h1 (kept_alloc [] W _) (by simp), h2, k1.trans (kept_alloc [] W _)⟩
set_option maxRecDepth 100000 in
set_option maxHeartbeats 4000000 in
/-- Same -/
theorem same_any (x y : Qv) (lo hi lo' hi' : Nat) (w : World) (h : x.At lo hi w) (hh : hi ≤ w.heap.size) (hy : y.At lo' hi' w) (hyy : hi' ≤ w.heap.size) :
    Calls Try.prog 10 #[x.val, y.val] w fun e w' => e = .returned (.bool (sameB x y)) ∧ Kept [] w w' := by
  have hP := pair_new w x y
  have r1 := h.kept hh hP.kept (by simp)
  have r2 := hy.kept hyy hP.kept (by simp)
  have q := equal_any _ _ _ _ _ _ _ _ _ r1 r2
  obtain ⟨k, o, l, sa, len, cap, d⟩ := x
  obtain ⟨k', o', l', sb, len', cap', d'⟩ := y
  have es := fun w => eql_span o l o' l' w
  have hG : Hid (sameB ⟨k, o, l, sa, len, cap, d⟩ ⟨k', o', l', sb, len', cap', d'⟩ = (decide (k = k') && ((decide (o = o') && decide (l = l')) && decide (d = d')))) := rfl
  simp only [Qv.val] at *
  generalize sameB ⟨k, o, l, sa, len, cap, d⟩ ⟨k', o', l', sb, len', cap', d'⟩ = G at *
  generalize hD : decide (d = d') = D at *
  clear hD
  generalize hE : (decide (o = o') && decide (l = l')) = E at *
  clear hE
  obtain ⟨c0, c1, c2, c3⟩ := req_cells4 hP.one
  obtain ⟨e0, e1, e2, e3⟩ := req_cells4 hP.two
  have hk := hP.kept
  simp only at c0 c1 c2 c3 e0 e1 e2 e3
  clear hP r1 r2 h hy
  by_cases gk : k = k'
  · subst gk
    cases E with
    | true =>
      go_enter Try.func10, Try.ntmps10
      go_wp2_with (first | (go_at_call 20; refine q.mono ?_; rintro e w1 ⟨rfl, rfl⟩))
      go_ret
      exact ⟨ret_bool (by rw [hG.out]; simp), hk⟩
    | false =>
      go_enter Try.func10, Try.ntmps10
      go_wp2_with (first | (go_at_call 20; refine q.mono ?_; rintro e w1 ⟨rfl, rfl⟩))
      go_ret
      exact ⟨ret_bool (by rw [hG.out]; simp), hk⟩
  · have hn : Hid (¬ k = k') := gk
    have b0 : (k == k') = false := by simp; omega
    clear gk
    go_enter Try.func10, Try.ntmps10
    go_wp2_with (first | (go_at_call 20; refine q.mono ?_; rintro e w1 ⟨rfl, rfl⟩))
    go_ret
    exact ⟨ret_bool (by rw [hG.out, decide_eq_false hn.out]; simp), hk⟩
set_option maxRecDepth 100000 in
set_option maxHeartbeats 4000000 in
/-- the document's Same -/
theorem rsame_any (x y : Qv) (lo hi lo' hi' : Nat) (w : World) (h : x.At lo hi w) (hh : hi ≤ w.heap.size) (hy : y.At lo' hi' w) (hyy : hi' ≤ w.heap.size) :
    Calls Try.prog 11 #[x.val, y.val] w fun e w' => e = .returned (.bool (sameB x y)) ∧ Kept [] w w' := by
  have hP := pair_new w x y
  have r1 := h.kept hh hP.kept (by simp)
  have r2 := hy.kept hyy hP.kept (by simp)
  have ht : Hid (((txt x.bs).toList == (txt y.bs).toList) = decide (x.bs = y.bs)) := txt_eq h.1 hy.1
  have t1 := conv_txt r1
  have t2 := conv_txt r2
  generalize txt x.bs = T1 at *
  generalize txt y.bs = T2 at *
  obtain ⟨k, o, l, sa, len, cap, d⟩ := x
  obtain ⟨k', o', l', sb, len', cap', d'⟩ := y
  have es := fun w => eql_span o l o' l' w
  have hG : Hid (sameB ⟨k, o, l, sa, len, cap, d⟩ ⟨k', o', l', sb, len', cap', d'⟩ = (decide (k = k') && ((decide (o = o') && decide (l = l')) && decide (d = d')))) := rfl
  simp only [Qv.val] at *
  generalize sameB ⟨k, o, l, sa, len, cap, d⟩ ⟨k', o', l', sb, len', cap', d'⟩ = G at *
  generalize hD : decide (d = d') = D at *
  clear hD
  generalize hE : (decide (o = o') && decide (l = l')) = E at *
  clear hE
  obtain ⟨c0, c1, c2, c3⟩ := req_cells4 hP.one
  obtain ⟨e0, e1, e2, e3⟩ := req_cells4 hP.two
  have hk := hP.kept
  simp only at c0 c1 c2 c3 e0 e1 e2 e3
  clear hP r1 r2 h hy
  by_cases gk : k = k'
  · subst gk
    cases E with
    | true =>
      go_enter Try.func11, Try.ntmps11
      go_wp2_with fail
      go_ret
      exact ⟨ret_bool (by rw [hG.out, ← ht.out]; simp), hk⟩
    | false =>
      go_enter Try.func11, Try.ntmps11
      go_wp2_with fail
      go_ret
      exact ⟨ret_bool (by rw [hG.out]; simp), hk⟩
  · have hn : Hid (¬ k = k') := gk
    have b0 : (k == k') = false := by simp; omega
    clear gk
    go_enter Try.func11, Try.ntmps11
    go_wp2_with fail
    go_ret
    exact ⟨ret_bool (by rw [hG.out, decide_eq_false hn.out]; simp), hk⟩
end Go.Proofs.Ytmpblohagchhaaa.Request
