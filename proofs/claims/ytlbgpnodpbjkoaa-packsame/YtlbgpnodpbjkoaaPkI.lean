/-
  The walk of the document's Bytes.
-/
import Derived.Test.YtlbgpnodpbjkoaaPkH
import Derived.Test.YtlbgpnodpbjkoaaPkF
namespace Go.Proofs.Ytlbgpnodpbjkoaa.Pack
open Go.RowKit
open Seal (enc ret_bool ret_int)
open Seal.Math

section
variable {ops : Array Oper} {rest : List Oper} {o : Oper} {a : Act} {w : World} {Q : Exit → Act → World → Prop}
set_option maxRecDepth 100000 in
/-- append(a, b..) onto a row of the call's own, the length a letter -/
theorem wpList_append_z (hgd : o.guard = none) (s x : Operand) (ho : o.op = .call { callee := .builtin .append, args := #[s, x], argTypes := #[23, 23] })
    (base : Nat) (v u : Value) (lo hi : Nat) (cs bs : List Nat) (hs : a.eval s = v) (hown : Own w base v cs) (hx : a.eval x = u) (hu : ByteRow lo hi w u bs) (hlen : cs.length + bs.length ≤ 1000000)
    (h : ∀ sa z cap w', Own w' base (.slice sa z cap) (cs ++ bs) → w.grownBy w' v.ownBlock → wpList Try.prog ops Q rest (a.put o.dst (.slice sa z cap)) w') : wpList Try.prog ops Q (o :: rest) a w :=
  wpList_append_bytes hgd s x ho base v u lo hi cs bs hs hown.row hown.byt hx hu hlen hown.le fun sa cap w' h1 h2 h3 => h sa _ cap w' ⟨h2, h1.1, Nat.le_trans hown.le h3.size⟩ h3
end
/-- What lies within: the message, and a row of the call's own. -/
structure Bm (w : World) (x : Mv) (base : Nat) (v : Value) (l : List Nat) (W : World) : Prop where
  msg : x.In W w.heap.size
  own : Own W base v l
  kept : Kept [] w W
  lt : w.heap.size < base
theorem Bm.after {w : World} {x : Mv} {base : Nat} {v : Value} {l : List Nat} {A B : World} (t : Bm w x base v l A) (hk : Kept [] A B) : Bm w x base v l B := ⟨t.msg.kept hk (by simp), t.own.kept hk, t.kept.trans hk, t.lt⟩
theorem Bm.new {w : World} {x : Mv} {base : Nat} {v v' : Value} {l l' : List Nat} {A B : World} (t : Bm w x base v l A) (ho : B.ownsRow base 5 1 v' l'.length (l'.map enc)) (hb : ∀ b ∈ l', b < 256) (hk : Kept [] A B) : Bm w x base v' l' B := ⟨t.msg.kept hk (by simp), ⟨ho, hb, Nat.le_trans t.own.le hk.size⟩, t.kept.trans hk, t.lt⟩
theorem Bm.grown {w : World} {x : Mv} {base : Nat} {v v' : Value} {l l' : List Nat} {A B : World} (t : Bm w x base v l A) (ho : Own B base v' l') (hg : A.grownBy B v.ownBlock) : Bm w x base v' l' B :=
  ⟨(hg.block _ t.msg.lt (fun e => by have := (t.own.row.lt _ e.symm).1; have := t.lt; omega)).trans t.msg, ho, kept_grown t.own.row hg w t.kept (Nat.le_of_lt t.lt), t.lt⟩
theorem Own.alloc {A : World} {base : Nat} {v : Value} {l : List Nat} (h : Own A base v l) (ob : Obj) : Own (A.alloc ob) base v l := h.kept (kept_alloc [] A ob)
theorem one_rowC (W : World) (b : Nat) (c : Int) (hc : c = b) (h : b < 256) : ByteRow W.heap.size (W.heap.size + 1) (W.alloc (.cells #[.int .u8 c] 5)) (.slice (some ⟨W.heap.size, 0, none⟩) 1 1) [b] := by
  subst hc
  exact one_row W b h
set_option maxRecDepth 100000 in
set_option maxHeartbeats 4000000 in
/-- twainref17.Bytes -/
theorem refBytes_any (x : Mv) (lo hi : Nat) (w : World) (h : x.At lo hi w) (hh : hi ≤ w.heap.size) (hlen : x.len ≤ 9223372036854775807) :
    Calls Try.prog 11 #[x.val] w fun e w' => ∃ sa z cap, e = .returned (.slice sa z cap) ∧ Own w' w.heap.size (.slice sa z cap) (bytesL x.ms) ∧ Kept [] w w' := by
  have hb0 : x.In (w.alloc (.cells #[.int .i64 x.k, .int .i64 x.i, .int .i64 x.o, .int .u64 (x.m : Int), .bool x.s, .slice x.sa x.len x.cap] 25)) w.heap.size := blk_new w 25 _
  have hk0 := kept_alloc [] w (.cells #[.int .i64 x.k, .int .i64 x.i, .int .i64 x.o, .int .u64 (x.m : Int), .bool x.s, .slice x.sa x.len x.cap] 25)
  have q := refGood_any x h.len hlen (w.alloc (.cells #[.int .i64 x.k, .int .i64 x.i, .int .i64 x.o, .int .u64 (x.m : Int), .bool x.s, .slice x.sa x.len x.cap] 25))
  have hs0 : (w.alloc (.cells #[.int .i64 x.k, .int .i64 x.i, .int .i64 x.o, .int .u64 (x.m : Int), .bool x.s, .slice x.sa x.len x.cap] 25)).heap.size = w.heap.size + 1 := by simp
  obtain ⟨W, hW⟩ : ∃ W, w.alloc (.cells #[.int .i64 x.k, .int .i64 x.i, .int .i64 x.o, .int .u64 (x.m : Int), .bool x.s, .slice x.sa x.len x.cap] 25) = W := ⟨_, rfl⟩
  rw [hW] at hb0 hk0 q hs0
  by_cases hf : Fine x.ms
  · rw [good_in hf] at q
    rw [bytesL_in hf]
    have hfl := fine_len hf
    have hrow : Hid (ByteRow lo hi w (.slice x.sa x.len x.cap) x.d) := h.row
    have hm : Hid (x.m < 18446744073709551616) := h.m
    have hk1 : 1 ≤ x.k := hf.1
    have hk2 : x.k ≤ 8 := hf.2.1
    have hd2 : Hid (x.d.length ≤ 128) := hfl
    clear hfl hf h
    have q1 := hasWas_any x.k
    have q2 := hasId_any x.k
    have q3 := hasOff_any x.k
    have ei : IntKind.u64.wrap x.i = (((x.i % 18446744073709551616).toNat : Nat) : Int) := by rw [IntKind.wrap_u64]; omega
    have hi8 : Hid ((x.i % 18446744073709551616).toNat < 18446744073709551616) := by show _ < _; omega
    obtain ⟨K, hK⟩ : ∃ K : Nat, x.k = K := ⟨x.k.toNat, by omega⟩
    have ek : IntKind.u8.wrap (K : Int) = (K : Int) := by rw [IntKind.wrap_u8]; omega
    have hKt : x.k.toNat = K := by omega
    have hK2 : K < 256 := by omega
    have hH : Hid (hd x.ms = x.k.toNat :: (wasL x.ms ++ (idL x.ms ++ offL x.ms))) := rfl
    have hWL : Hid (wasL x.ms = if x.k = 1 then bit x.s :: be 8 x.m else []) := rfl
    have hIL : Hid (idL x.ms = if 2 ≤ x.k ∧ x.k ≤ 5 then be 8 (x.i % 18446744073709551616).toNat else []) := rfl
    have hOL : Hid (offL x.ms = if x.k = 2 ∨ x.k = 6 ∨ x.k = 7 then be 2 (x.o % 65536).toNat else []) := rfl
    rw [hKt] at hH
    have t0 : Hid (∀ w1 : World, Kept [] W w1 → Bm w x w1.heap.size (.slice (some ⟨w1.heap.size, 0, none⟩) 1 1) [K] (w1.alloc (.cells #[.int .u8 (K : Int)] 5)) ∧ x.In w1 w.heap.size) := fun w1 hk1 => by
      have hs := hk1.size
      refine ⟨⟨(hb0.kept hk1 (by simp)).kept (kept_alloc [] _ _) (by simp), ⟨one_own w1 K, one_byte hK2, by simp⟩, (hk0.trans hk1).trans (kept_alloc [] _ _), by omega⟩, hb0.kept hk1 (by simp)⟩
    obtain ⟨c0, c1, c2, c3, c4, c5⟩ := hb0.six
    clear hKt hs0
    obtain ⟨k, i, o, m, s, sa, len, cap, d⟩ := x
    simp only [Mv.ms, Mv.val] at *
    generalize hd ⟨k, i, o, m, s, d⟩ = H at *
    generalize wasL ⟨k, i, o, m, s, d⟩ = LW at *
    generalize idL ⟨k, i, o, m, s, d⟩ = LI at *
    generalize offL ⟨k, i, o, m, s, d⟩ = LO at *
    generalize (i % 18446744073709551616).toNat = I at *
    subst hK
    replace hk0 : Hid (Kept [] w W) := hk0
    by_cases h1 : K = 1
    · rw [decide_eq_true (by omega : (K : Int) = 1)] at q1
      rw [decide_eq_false (by omega : ¬ (2 ≤ (K : Int) ∧ (K : Int) ≤ 5))] at q2
      rw [decide_eq_false (by omega : ¬ ((K : Int) = 2 ∨ (K : Int) = 6 ∨ (K : Int) = 7))] at q3
      replace hWL : Hid (LW = _) := hWL.out.trans (if_pos (by omega))
      replace hIL : Hid (LI = _) := hIL.out.trans (if_neg (by omega))
      replace hOL : Hid (LO = _) := hOL.out.trans (if_neg (by omega))
      clear h1
      cases s with
      | true =>
        go_enter Try.func11, Try.ntmps11
        go_wp2_with (first
          | (go_at_call 9; refine q.mono ?_; rintro e w1 ⟨rfl, hk1⟩; obtain ⟨hT, hIn1⟩ := t0.out w1 hk1; obtain ⟨W2, hW2⟩ : ∃ W2, w1.alloc (.cells #[.int .u8 (K : Int)] 5) = W2 := ⟨_, rfl⟩; rw [hW2] at hT; obtain ⟨d0, d1, d2, d3, d4, d5⟩ := hIn1.six; obtain ⟨c0, c1, c2, c3, c4, c5⟩ := hT.msg.six; clear q)
          | (go_at_call 21; refine (q1 _).mono ?_; rintro e w5 ⟨rfl, rfl⟩)
          | (go_at_call 22; refine (q2 _).mono ?_; rintro e w5 ⟨rfl, rfl⟩)
          | (go_at_call 23; refine (q3 _).mono ?_; rintro e w5 ⟨rfl, rfl⟩)
          | (at_builtin; refine wpList_append_z rfl _ _ rfl w1.heap.size _ _ _ _ [K] [1] rfl (hT.own.alloc _) rfl (one_rowC _ 1 1 rfl (by decide)) (by simp) ?_; intro sa5 z5 cap5 w5 ho5 hg5; replace hT := (hT.after (kept_alloc [] _ _)).grown ho5 hg5; obtain ⟨c0, c1, c2, c3, c4, c5⟩ := hT.msg.six; clear ho5 hg5)
          | (go_at_call 26; refine (refPut64_row _ _ _ _ _ hT.own.row hT.own.byt (by simp) hm.out hT.own.le).mono ?_; rintro e w6 ⟨v6, rfl, hR6, hk6⟩; replace hT := hT.new hR6 (app_byte hT.own.byt (be_byte _ _)) hk6; obtain ⟨c0, c1, c2, c3, c4, c5⟩ := hT.msg.six; clear hk6 hR6)
          | (at_builtin; refine wpList_append_z rfl _ _ rfl w1.heap.size _ _ lo hi _ d rfl hT.own rfl (hrow.out.kept hh hT.kept (by simp)) (by have := hd2.out; simp [be_length]; omega) ?_; intro sa7 z7 cap7 w7 ho7 hg7; replace hT := hT.grown ho7 hg7; clear ho7 hg7))
        go_ret
        exact ⟨sa7, z7, cap7, rfl, (hT.own.low (Nat.le_of_lt hT.lt)).is (by rw [hH.out, hWL.out, hIL.out, hOL.out]; simp [bit]), hT.kept⟩
      | false =>
        go_enter Try.func11, Try.ntmps11
        go_wp2_with (first
          | (go_at_call 9; refine q.mono ?_; rintro e w1 ⟨rfl, hk1⟩; obtain ⟨hT, hIn1⟩ := t0.out w1 hk1; obtain ⟨W2, hW2⟩ : ∃ W2, w1.alloc (.cells #[.int .u8 (K : Int)] 5) = W2 := ⟨_, rfl⟩; rw [hW2] at hT; obtain ⟨d0, d1, d2, d3, d4, d5⟩ := hIn1.six; obtain ⟨c0, c1, c2, c3, c4, c5⟩ := hT.msg.six; clear q)
          | (go_at_call 21; refine (q1 _).mono ?_; rintro e w5 ⟨rfl, rfl⟩)
          | (go_at_call 22; refine (q2 _).mono ?_; rintro e w5 ⟨rfl, rfl⟩)
          | (go_at_call 23; refine (q3 _).mono ?_; rintro e w5 ⟨rfl, rfl⟩)
          | (at_builtin; refine wpList_append_z rfl _ _ rfl w1.heap.size _ _ _ _ [K] [0] rfl (hT.own.alloc _) rfl (one_rowC _ 0 0 rfl (by decide)) (by simp) ?_; intro sa5 z5 cap5 w5 ho5 hg5; replace hT := (hT.after (kept_alloc [] _ _)).grown ho5 hg5; obtain ⟨c0, c1, c2, c3, c4, c5⟩ := hT.msg.six; clear ho5 hg5)
          | (go_at_call 26; refine (refPut64_row _ _ _ _ _ hT.own.row hT.own.byt (by simp) hm.out hT.own.le).mono ?_; rintro e w6 ⟨v6, rfl, hR6, hk6⟩; replace hT := hT.new hR6 (app_byte hT.own.byt (be_byte _ _)) hk6; obtain ⟨c0, c1, c2, c3, c4, c5⟩ := hT.msg.six; clear hk6 hR6)
          | (at_builtin; refine wpList_append_z rfl _ _ rfl w1.heap.size _ _ lo hi _ d rfl hT.own rfl (hrow.out.kept hh hT.kept (by simp)) (by have := hd2.out; simp [be_length]; omega) ?_; intro sa7 z7 cap7 w7 ho7 hg7; replace hT := hT.grown ho7 hg7; clear ho7 hg7))
        go_ret
        exact ⟨sa7, z7, cap7, rfl, (hT.own.low (Nat.le_of_lt hT.lt)).is (by rw [hH.out, hWL.out, hIL.out, hOL.out]; simp [bit]), hT.kept⟩
    · by_cases h2 : K = 2
      · rw [decide_eq_false (by omega : ¬ (K : Int) = 1)] at q1
        rw [decide_eq_true (by omega : (2 ≤ (K : Int) ∧ (K : Int) ≤ 5))] at q2
        rw [decide_eq_true (by omega : ((K : Int) = 2 ∨ (K : Int) = 6 ∨ (K : Int) = 7))] at q3
        replace hWL : Hid (LW = _) := hWL.out.trans (if_neg (by omega))
        replace hIL : Hid (LI = _) := hIL.out.trans (if_pos (by omega))
        replace hOL : Hid (LO = _) := hOL.out.trans (if_pos (by omega))
        clear h1 h2
        go_enter Try.func11, Try.ntmps11
        go_wp2_with (first
          | (go_at_call 9; refine q.mono ?_; rintro e w1 ⟨rfl, hk1⟩; obtain ⟨hT, hIn1⟩ := t0.out w1 hk1; obtain ⟨W2, hW2⟩ : ∃ W2, w1.alloc (.cells #[.int .u8 (K : Int)] 5) = W2 := ⟨_, rfl⟩; rw [hW2] at hT; obtain ⟨d0, d1, d2, d3, d4, d5⟩ := hIn1.six; obtain ⟨c0, c1, c2, c3, c4, c5⟩ := hT.msg.six; clear q)
          | (go_at_call 21; refine (q1 _).mono ?_; rintro e w5 ⟨rfl, rfl⟩)
          | (go_at_call 22; refine (q2 _).mono ?_; rintro e w5 ⟨rfl, rfl⟩)
          | (go_at_call 23; refine (q3 _).mono ?_; rintro e w5 ⟨rfl, rfl⟩)
          | (go_at_call 26; refine (refPut64_row _ _ _ _ _ hT.own.row hT.own.byt (by simp) hi8.out hT.own.le).mono ?_; rintro e w6 ⟨v6, rfl, hR6, hk6⟩; replace hT := hT.new hR6 (app_byte hT.own.byt (be_byte _ _)) hk6; obtain ⟨c0, c1, c2, c3, c4, c5⟩ := hT.msg.six; clear hk6 hR6)
          | (go_at_call 27; refine (refPut16_row _ _ _ _ _ hT.own.row hT.own.byt (by simp [be_length]) hT.own.le).mono ?_; rintro e w6 ⟨v6, rfl, hR6, hk6⟩; replace hT := hT.new hR6 (app_byte hT.own.byt (be_byte _ _)) hk6; obtain ⟨c0, c1, c2, c3, c4, c5⟩ := hT.msg.six; clear hk6 hR6)
          | (at_builtin; refine wpList_append_z rfl _ _ rfl w1.heap.size _ _ lo hi _ d rfl hT.own rfl (hrow.out.kept hh hT.kept (by simp)) (by have := hd2.out; simp [be_length]; omega) ?_; intro sa7 z7 cap7 w7 ho7 hg7; replace hT := hT.grown ho7 hg7; clear ho7 hg7))
        go_ret
        exact ⟨sa7, z7, cap7, rfl, (hT.own.low (Nat.le_of_lt hT.lt)).is (by rw [hH.out, hWL.out, hIL.out, hOL.out]; simp), hT.kept⟩
      · by_cases h3 : K ≤ 5
        · rw [decide_eq_false (by omega : ¬ (K : Int) = 1)] at q1
          rw [decide_eq_true (by omega : (2 ≤ (K : Int) ∧ (K : Int) ≤ 5))] at q2
          rw [decide_eq_false (by omega : ¬ ((K : Int) = 2 ∨ (K : Int) = 6 ∨ (K : Int) = 7))] at q3
          replace hWL : Hid (LW = _) := hWL.out.trans (if_neg (by omega))
          replace hIL : Hid (LI = _) := hIL.out.trans (if_pos (by omega))
          replace hOL : Hid (LO = _) := hOL.out.trans (if_neg (by omega))
          clear h1 h2 h3
          go_enter Try.func11, Try.ntmps11
          go_wp2_with (first
            | (go_at_call 9; refine q.mono ?_; rintro e w1 ⟨rfl, hk1⟩; obtain ⟨hT, hIn1⟩ := t0.out w1 hk1; obtain ⟨W2, hW2⟩ : ∃ W2, w1.alloc (.cells #[.int .u8 (K : Int)] 5) = W2 := ⟨_, rfl⟩; rw [hW2] at hT; obtain ⟨d0, d1, d2, d3, d4, d5⟩ := hIn1.six; obtain ⟨c0, c1, c2, c3, c4, c5⟩ := hT.msg.six; clear q)
            | (go_at_call 21; refine (q1 _).mono ?_; rintro e w5 ⟨rfl, rfl⟩)
            | (go_at_call 22; refine (q2 _).mono ?_; rintro e w5 ⟨rfl, rfl⟩)
            | (go_at_call 23; refine (q3 _).mono ?_; rintro e w5 ⟨rfl, rfl⟩)
            | (go_at_call 26; refine (refPut64_row _ _ _ _ _ hT.own.row hT.own.byt (by simp) hi8.out hT.own.le).mono ?_; rintro e w6 ⟨v6, rfl, hR6, hk6⟩; replace hT := hT.new hR6 (app_byte hT.own.byt (be_byte _ _)) hk6; obtain ⟨c0, c1, c2, c3, c4, c5⟩ := hT.msg.six; clear hk6 hR6)
            | (at_builtin; refine wpList_append_z rfl _ _ rfl w1.heap.size _ _ lo hi _ d rfl hT.own rfl (hrow.out.kept hh hT.kept (by simp)) (by have := hd2.out; simp [be_length]; omega) ?_; intro sa7 z7 cap7 w7 ho7 hg7; replace hT := hT.grown ho7 hg7; clear ho7 hg7))
          go_ret
          exact ⟨sa7, z7, cap7, rfl, (hT.own.low (Nat.le_of_lt hT.lt)).is (by rw [hH.out, hWL.out, hIL.out, hOL.out]; simp), hT.kept⟩
        · by_cases h6 : K = 6 ∨ K = 7
          · rw [decide_eq_false (by omega : ¬ (K : Int) = 1)] at q1
            rw [decide_eq_false (by omega : ¬ (2 ≤ (K : Int) ∧ (K : Int) ≤ 5))] at q2
            rw [decide_eq_true (by omega : ((K : Int) = 2 ∨ (K : Int) = 6 ∨ (K : Int) = 7))] at q3
            replace hWL : Hid (LW = _) := hWL.out.trans (if_neg (by omega))
            replace hIL : Hid (LI = _) := hIL.out.trans (if_neg (by omega))
            replace hOL : Hid (LO = _) := hOL.out.trans (if_pos (by omega))
            clear h1 h2 h3 h6
            go_enter Try.func11, Try.ntmps11
            go_wp2_with (first
              | (go_at_call 9; refine q.mono ?_; rintro e w1 ⟨rfl, hk1⟩; obtain ⟨hT, hIn1⟩ := t0.out w1 hk1; obtain ⟨W2, hW2⟩ : ∃ W2, w1.alloc (.cells #[.int .u8 (K : Int)] 5) = W2 := ⟨_, rfl⟩; rw [hW2] at hT; obtain ⟨d0, d1, d2, d3, d4, d5⟩ := hIn1.six; obtain ⟨c0, c1, c2, c3, c4, c5⟩ := hT.msg.six; clear q)
              | (go_at_call 21; refine (q1 _).mono ?_; rintro e w5 ⟨rfl, rfl⟩)
              | (go_at_call 22; refine (q2 _).mono ?_; rintro e w5 ⟨rfl, rfl⟩)
              | (go_at_call 23; refine (q3 _).mono ?_; rintro e w5 ⟨rfl, rfl⟩)
              | (go_at_call 27; refine (refPut16_row _ _ _ _ _ hT.own.row hT.own.byt (by simp) hT.own.le).mono ?_; rintro e w6 ⟨v6, rfl, hR6, hk6⟩; replace hT := hT.new hR6 (app_byte hT.own.byt (be_byte _ _)) hk6; obtain ⟨c0, c1, c2, c3, c4, c5⟩ := hT.msg.six; clear hk6 hR6)
              | (at_builtin; refine wpList_append_z rfl _ _ rfl w1.heap.size _ _ lo hi _ d rfl hT.own rfl (hrow.out.kept hh hT.kept (by simp)) (by have := hd2.out; simp [be_length]; omega) ?_; intro sa7 z7 cap7 w7 ho7 hg7; replace hT := hT.grown ho7 hg7; clear ho7 hg7))
            go_ret
            exact ⟨sa7, z7, cap7, rfl, (hT.own.low (Nat.le_of_lt hT.lt)).is (by rw [hH.out, hWL.out, hIL.out, hOL.out]; simp), hT.kept⟩
          · rw [decide_eq_false (by omega : ¬ (K : Int) = 1)] at q1
            rw [decide_eq_false (by omega : ¬ (2 ≤ (K : Int) ∧ (K : Int) ≤ 5))] at q2
            rw [decide_eq_false (by omega : ¬ ((K : Int) = 2 ∨ (K : Int) = 6 ∨ (K : Int) = 7))] at q3
            replace hWL : Hid (LW = _) := hWL.out.trans (if_neg (by omega))
            replace hIL : Hid (LI = _) := hIL.out.trans (if_neg (by omega))
            replace hOL : Hid (LO = _) := hOL.out.trans (if_neg (by omega))
            clear h1 h2 h3 h6
            go_enter Try.func11, Try.ntmps11
            go_wp2_with (first
              | (go_at_call 9; refine q.mono ?_; rintro e w1 ⟨rfl, hk1⟩; obtain ⟨hT, hIn1⟩ := t0.out w1 hk1; obtain ⟨W2, hW2⟩ : ∃ W2, w1.alloc (.cells #[.int .u8 (K : Int)] 5) = W2 := ⟨_, rfl⟩; rw [hW2] at hT; obtain ⟨d0, d1, d2, d3, d4, d5⟩ := hIn1.six; obtain ⟨c0, c1, c2, c3, c4, c5⟩ := hT.msg.six; clear q)
              | (go_at_call 21; refine (q1 _).mono ?_; rintro e w5 ⟨rfl, rfl⟩)
              | (go_at_call 22; refine (q2 _).mono ?_; rintro e w5 ⟨rfl, rfl⟩)
              | (go_at_call 23; refine (q3 _).mono ?_; rintro e w5 ⟨rfl, rfl⟩)
              | (at_builtin; refine wpList_append_z rfl _ _ rfl w1.heap.size _ _ lo hi _ d rfl hT.own rfl (hrow.out.kept hh hT.kept (by simp)) (by have := hd2.out; simp; omega) ?_; intro sa7 z7 cap7 w7 ho7 hg7; replace hT := hT.grown ho7 hg7; clear ho7 hg7))
            go_ret
            exact ⟨sa7, z7, cap7, rfl, (hT.own.low (Nat.le_of_lt hT.lt)).is (by rw [hH.out, hWL.out, hIL.out, hOL.out]; simp), hT.kept⟩
  · rw [good_out hf] at q
    rw [bytesL_out hf]
    obtain ⟨c0, c1, c2, c3, c4, c5⟩ := hb0.six
    replace hk0 : Hid (Kept [] w W) := hk0
    unfold Mv.val at *
    go_enter Try.func11, Try.ntmps11
    go_wp2_with (first
      | (go_at_call 9; refine q.mono ?_; rintro e w1 ⟨rfl, hk1⟩; clear q))
    go_ret
    exact ⟨none, 0, 0, rfl, own_nil _ _ (Nat.le_trans hk0.out.size hk1.size), hk0.out.trans hk1⟩
end Go.Proofs.Ytlbgpnodpbjkoaa.Pack
