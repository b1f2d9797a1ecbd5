/-
  Tickets in a row; the walks of Tickets, Get, Remove and Add of twainref15.
-/
import Derived.Test.YtkidaofoljmdoaaTbC
import Derived.Test.YtkidaofoljmdoaaBits1
namespace Go.Proofs.Ytkidaofoljmdoaa.Table
open Go.RowKit

/-- Tickets in a row that a call has made, from block base on. -/
def IdsAt (W : World) (base : Nat) (v : Value) (l : List Int) : Prop := W.ownsRow base 3 1 v l.length (l.map (Value.int .i64))
theorem ids_nil (W : World) (base : Nat) : IdsAt W base (.slice none 0 0) [] := World.ownsRow_nil W base 3 1
theorem IdsAt.kept {K : List Nat} {A B : World} {base : Nat} {v : Value} {l : List Int} (h : IdsAt A base v l) (hk : Kept K A B) (hK : ∀ k ∈ K, k < base) : IdsAt B base v l := by
  refine ⟨h.1, ?_⟩
  rcases h.2 with hn | ⟨g, cap, cur, hv, hb, hg, rest⟩
  · exact .inl hn
  · refine .inr ⟨g, cap, cur, hv, hb, ?_, rest⟩
    rw [hk.block g (Array.getElem?_eq_some_iff.1 hg).1 (fun hm => by have := hK g hm; omega)]
    exact hg
theorem IdsAt.mono {W : World} {base base' : Nat} {v : Value} {l : List Int} (h : IdsAt W base v l) (hb : base' ≤ base) : IdsAt W base' v l := by
  refine ⟨h.1, ?_⟩
  rcases h.2 with hn | ⟨g, cap, cur, hv, hg0, rest⟩
  · exact .inl hn
  · exact .inr ⟨g, cap, cur, hv, by omega, rest⟩
/-- As they read. -/
theorem IdsAt.ints {W : World} {base : Nat} {v : Value} {l : List Int} (h : IdsAt W base v l) : Bits.IntsAt W.heap.size W v l := by
  obtain ⟨_, ⟨rfl, h0⟩ | ⟨g, cap, cur, rfl, hb, hg, h1, h2, h3, h4⟩⟩ := h
  · have : l = [] := by simpa using h0
    subst this
    exact ⟨none, 0, rfl, .inl rfl⟩
  · refine ⟨some ⟨g, 0, none⟩, cap, rfl, .inr ⟨g, 0, rfl, (Array.getElem?_eq_some_iff.1 hg).1, fun j hj => ?_⟩⟩
    have e := congrArg (fun t => t[j]?) h4
    simp only [Nat.mul_one] at e
    rw [List.getElem?_take_of_lt hj, List.getElem?_map, List.getElem?_eq_getElem hj] at e
    rw [cell_of_row W g (0 + j) _ 3 (0, 0) hg]
    simpa [hj] using e
/-- It has a length. -/
theorem IdsAt.slice {W : World} {base : Nat} {v : Value} {l : List Int} (h : IdsAt W base v l) : ∃ a cap, v = .slice a l.length cap := by
  obtain ⟨_, ⟨rfl, h0⟩ | ⟨g, cap, cur, rfl, _⟩⟩ := h
  · exact ⟨none, 0, by rw [h0]⟩
  · exact ⟨_, cap, rfl⟩
section
variable {ops : Array Oper} {rest : List Oper} {o : Oper} {a : Act} {w : World} {Q : Exit → Act → World → Prop}
set_option maxRecDepth 100000 in
/-- A ticket appended. -/
theorem wpList_append_id (hgd : o.guard = none) (s x : Operand) (ho : o.op = .call { callee := .builtin .append, args := #[s, x], argTypes := #[49, 49] })
    (base : Nat) (v : Value) (l : List Int) (id : Int) (q : Nat) (hs : a.eval s = v) (hown : IdsAt w base v l) (hx : a.eval x = .slice (some ⟨q, 0, none⟩) 1 1) (hc : w.cell? ⟨q, 0, none⟩ = some (.int .i64 id)) (hlen : l.length ≤ 2000000) (hb : base ≤ w.heap.size)
    (h : ∀ v' w', IdsAt w' base v' (l ++ [id]) → w.grownBy w' v.ownBlock → wpList Try.prog ops Q rest (a.put o.dst v') w') : wpList Try.prog ops Q (o :: rest) a w := by
  have hi3 : (Try.prog.info? 3).map (fun i => (i.zero, i.size, i.bytes)) = some (some (.int .i64 0), 1, 8) := by kernel_rfl
  obtain ⟨i0, hi, hz0, hz1, hz2⟩ := info_parts hi3
  refine wpList_append_own _ hgd s x 49 ho base 3 i0 (.int .i64 0) 1 8 Try.underlying49 hi hz0 hz1 hz2 rfl (by decide) v l.length (l.map (Value.int .i64)) hs hown ⟨q, 0, none⟩ 1 1 [.int .i64 id] hx rfl ?_ ?_ (by unfold maxLen; omega) (by omega) hb ?_
  · intro j u hu
    have hj : j = 0 := by
      have := (List.getElem?_eq_some_iff.1 hu).1
      simpa using this
    subst hj
    simp at hu
    subst hu
    exact hc
  · intro u hu
    simp at hu
    subst hu
    rfl
  · intro v' w' h3 h4 _
    refine h v' w' ?_ h4
    unfold IdsAt
    rw [List.length_append, List.map_append]
    exact h3
end

set_option maxRecDepth 100000 in
set_option maxHeartbeats 1000000 in
/-- Tickets -/
theorem rtickets_any {lo hi r most : Nat} {P : List (Int × Qv)} (w : World) (h : RTab w lo hi r most P) :
    Calls Try.prog 20 #[.pointer (some ⟨r, 0, none⟩)] w fun e w' => ∃ v, e = .returned v ∧ IdsAt w' w.heap.size v (tks P) ∧ Kept [] w w' := by
  obtain ⟨v, hr, a, cap, rfl, hc, hm, hrow⟩ := h.row
  have hfew : P.length ≤ 16 := Nat.le_trans h.fine.few h.top
  have hih := h.hih
  have cR := (hr.cell 0).trans (show _ = some (Value.slice a P.length cap) from rfl)
  obtain ⟨len, hlen⟩ : ∃ len, P.length = len := ⟨_, rfl⟩
  rw [hlen] at hr hc hfew cR
  replace hlen : Hid (P.length = len) := hlen
  clear hr h
  go_enter Try.func20, Try.ntmps20
  go_wp2_with fail
  go_loopw [11, 3] (fun i u wr => ∃ j : Nat, j ≤ len ∧ i = .int .i64 j ∧ IdsAt wr w.heap.size u (tks (P.take j)) ∧ Kept [] w wr) (fun i _ _ => len - (RowKit.intOf i).toNat)
  case atStart => exact ⟨0, by omega, rfl, ids_nil _ _, Kept.refl _ _⟩
  case round =>
    obtain ⟨j, hj, rfl, hI, hk⟩ := hrel
    by_cases hlt : j < len
    · obtain ⟨-, -, h4⟩ | ⟨b, off, rfl, -, hb, hcs⟩ := hrow
      · have := hlen.out
        rw [h4] at this
        simp at this
        omega
      obtain ⟨⟨yt, y⟩, hy⟩ : ∃ y, P[j]? = some y := ⟨_, List.getElem?_eq_getElem (by rw [hlen.out]; exact hlt)⟩
      have hry := hcs j _ hy
      have cy := fun k v (hv : (rcells (yt, y))[k]? = some v) => (show wr.cell? ⟨b, off + j * 5 + k, none⟩ = some v from (World.cell?_of_block (by exact hk.block b (by omega) (by simp))).trans (hry k v hv))
      have y0 : wr.cell? ⟨b, off + j * 5, none⟩ = some (.int .i64 yt) := cy 0 _ rfl
      have y1 : wr.cell? ⟨b, off + j * 5 + 1, none⟩ = some (.int .i64 y.k) := cy 1 _ rfl
      have y2 : wr.cell? ⟨b, off + j * 5 + 2, none⟩ = some (.int .i64 y.o) := cy 2 _ rfl
      have y3 : wr.cell? ⟨b, off + j * 5 + 3, none⟩ = some (.int .i64 y.l) := cy 3 _ rfl
      have y4 : wr.cell? ⟨b, off + j * 5 + 4, none⟩ = some (.slice y.sa y.len y.cap) := cy 4 _ rfl
      have ej : tks (P.take (j + 1)) = tks (P.take j) ++ [yt] := by
        rw [List.take_add_one, hy]
        simp [tks]
      have hll : Hid ((tks (P.take j)).length ≤ 2000000) := by
        show _ ≤ _
        simp [tks]
        omega
      have kA := kept_alloc [] wr (.cells #[.int .i64 yt, .int .i64 y.k, .int .i64 y.o, .int .i64 y.l, .slice y.sa y.len y.cap] 62)
      have kB := kept_alloc [] (wr.alloc (.cells #[.int .i64 yt, .int .i64 y.k, .int .i64 y.o, .int .i64 y.l, .slice y.sa y.len y.cap] 62)) (.cells #[.int .i64 yt] 3)
      have hn := (blk_new (wr.alloc (.cells #[.int .i64 yt, .int .i64 y.k, .int .i64 y.o, .int .i64 y.l, .slice y.sa y.len y.cap] 62)) 3 #[.int .i64 yt]).cell 0
      rw [show (wr.alloc (.cells #[.int .i64 yt, .int .i64 y.k, .int .i64 y.o, .int .i64 y.l, .slice y.sa y.len y.cap] 62)).heap.size = wr.heap.size + 1 by simp] at hn
      have hn' : Hid _ := hn.trans (show _ = some (Value.int .i64 yt) from rfl)
      have hIB := hI.kept (kA.trans kB) (by simp)
      have hbs := Nat.le_trans hk.size (kA.trans kB).size
      have i1 : (j : Int) < (len : Int) := by omega
      have i2 : (j : Int) < (cap : Int) := by omega
      have hm1 : Hid (len - (j + 1) < len - j) := by show _ < _; omega
      replace ej : Hid _ := ej
      replace hIB : Hid _ := hIB
      replace hbs : Hid _ := hbs
      clear hn hy hry cy hcs
      go_wp2_with (at_builtin; refine wpList_append_id rfl _ _ rfl w.heap.size _ (tks (P.take j)) yt (wr.heap.size + 1) rfl hIB.out rfl hn'.out hll.out hbs.out ?_; intro v1 w1 hI1 hg1; have hk1 := kept_grown hIB.out hg1 w (hk.trans (kA.trans kB)) (Nat.le_refl _); rw [← ej.out] at hI1; clear hg1)
      go_roundw
      case rel => exact ⟨j + 1, by omega, by go_num, hI1, hk1⟩
      case measure => simpa [RowKit.intOf] using hm1.out
    · obtain rfl : j = len := by omega
      have et : P.take j = P := List.take_of_length_le (by rw [hlen.out]; exact Nat.le_refl _)
      rw [et] at hI
      clear hrow et
      go_wp2_with fail
      go_ret
      exact ⟨_, rfl, hI, hk⟩
set_option maxRecDepth 100000 in
set_option maxHeartbeats 1000000 in
/-- Get -/
theorem rget_any {lo hi r most : Nat} {P : List (Int × Qv)} (k : Int) (w : World) (h : RTab w lo hi r most P) (hlen : ∀ x, look P k = some x → x.bs.length ≤ 1000) :
    Calls Try.prog 14 #[.pointer (some ⟨r, 0, none⟩), .int .i64 k] w fun e w' => ∃ y : Qv, e = .returned (.tuple #[y.val, .bool (look P k).isSome]) ∧ y.rq = ((look P k).map Qv.rq).getD rq0 ∧ y.At w.heap.size w'.heap.size w' ∧ Kept [] w w' := by
  have ka := kept_alloc [] w (.cells #[.int .i64 0, .int .i64 0, .int .i64 0, .slice none 0 0] 35)
  have hb0 := blk_new w 35 #[.int .i64 0, .int .i64 0, .int .i64 0, .slice none 0 0]
  have q := rplace_any k _ (h.kept0 ka)
  cases hk : look P k with
  | none =>
    rw [hk] at q
    generalize place P k = n at *
    clear hlen
    go_enter Try.func14, Try.ntmps14
    go_wp2_with (first
      | (go_at_call 24; refine q.mono ?_; rintro e w1 ⟨rfl, hk1⟩; have hb1 := hb0.kept hk1 (by simp))
      | (refine wpList_store_blk rfl 35 _ _ rfl w.heap.size 35 _ [.int .i64 0, .int .i64 0, .int .i64 0, .slice none 0 0] rfl rfl hb1 rfl Try.sizeQ (by simp [Value.oneCell']) ?_; intro w2 hb2 hk2 hz2))
    refine bodyPost_ret (results_req rfl _ _ w.heap.size _ rfl hb2 rfl) rfl ⟨q0, rfl, rfl, q0_at _ _ _, ?_⟩
    exact (ka.trans hk1).young hk2 (Nat.le_refl _)
  | some x =>
    rw [hk] at q
    have hl := hlen x hk
    have hat := look_at h.fine.rise hk
    have hpl := (List.getElem?_eq_some_iff.1 hat).1
    have hx := h.byt _ (List.mem_of_getElem? hat)
    obtain ⟨v, hr, a, cap, rfl, hc, hm, ⟨-, -, h4⟩ | ⟨b, off, rfl, hlo, hb, hcs⟩⟩ := h.row
    · rw [h4] at hat
      simp at hat
    have hfew : P.length ≤ 16 := Nat.le_trans h.fine.few h.top
    have hih := h.hih
    have hry := hcs _ _ hat
    generalize place P k = n at *
    obtain ⟨len, hle⟩ : ∃ len, P.length = len := ⟨_, rfl⟩
    rw [hle] at hr hc hpl hfew
    replace hx : Hid (x.At lo hi w) := hx
    have i1 : (n : Int) < (len : Int) := by omega
    have i2 : (n : Int) < (cap : Int) := by omega
    have hS : ∀ W, Kept [] w W → W.cell? ⟨r, 0, none⟩ = some (.slice (some ⟨b, off, none⟩) len cap) ∧ W.cell? ⟨b, off + n * 5 + 1, none⟩ = some (.int .i64 x.k) ∧ W.cell? ⟨b, off + n * 5 + 2, none⟩ = some (.int .i64 x.o) ∧ W.cell? ⟨b, off + n * 5 + 3, none⟩ = some (.int .i64 x.l) ∧ W.cell? ⟨b, off + n * 5 + 4, none⟩ = some (.slice x.sa x.len x.cap) := fun W hkW =>
      have cy := fun j v (hv : (rcells (k, x))[j]? = some v) => (show W.cell? ⟨b, off + n * 5 + j, none⟩ = some v from (World.cell?_of_block (by exact hkW.block b (by omega) (by simp))).trans (hry j v hv))
      ⟨((hr.kept hkW (by simp)).cell 0).trans rfl, cy 1 _ rfl, cy 2 _ rfl, cy 3 _ rfl, cy 4 _ rfl⟩
    replace hS : Hid _ := hS
    clear hlen hk hat hcs hry hr hle h
    go_enter Try.func14, Try.ntmps14
    go_wp2_with (first
      | (go_at_call 24; refine q.mono ?_; rintro e w1 ⟨rfl, hk1⟩; have hb1 := hb0.kept hk1 (by simp); obtain ⟨s0, s1, s2, s3, s4⟩ := hS.out w1 (ka.trans hk1); have hx1 := hx.out.kept hih (ka.trans hk1) (by simp); have qa := rcopy_any x lo hi w1 hx1 (Nat.le_trans hih (ka.trans hk1).size) (by rw [hx1.len]; exact hl); unfold Qv.val at qa)
      | (go_at_call 25; refine qa.mono ?_; rintro e w2 ⟨y, rfl, hy, hyA, hk2⟩; replace hy : Hid (y.rq = x.rq) := hy; have hb2 := hb1.kept hk2 (by simp))
      | (refine wpList_store_blk rfl 35 _ _ rfl w.heap.size 35 _ [.int .i64 y.k, .int .i64 y.o, .int .i64 y.l, .slice y.sa y.len y.cap] rfl rfl hb2 rfl Try.sizeQ (by simp [Value.oneCell']) ?_; intro w3 hb3 hk3 hz3))
    have hs1 := hk1.size
    simp at hs1
    refine bodyPost_ret (results_req rfl _ _ w.heap.size _ rfl hb3 rfl) rfl ⟨y, rfl, hy.out, (hyA.kept (Nat.le_refl _) hk3 (by simp; omega)).mono (by omega) hk3.size, ?_⟩
    exact ((ka.trans hk1).trans hk2).young hk3 (Nat.le_refl _)
end Go.Proofs.Ytkidaofoljmdoaa.Table
