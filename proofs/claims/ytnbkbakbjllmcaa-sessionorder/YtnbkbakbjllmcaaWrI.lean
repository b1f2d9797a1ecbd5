import Derived.Test.YtnbkbakbjllmcaaWrB
import Derived.Test.YtnbkbakbjllmcaaWrD
/-
  The walk of the document's Bytes.
-/
namespace Go.Proofs.Ytnbkbakbjllmcaa.Wire
open Go.RowKit
open Seal (enc ret_bool ret_int)
open Seal.Math

/-- What lies within: the packet, and a row of the call's own. -/
structure Bm (w : World) (f t k s a : Int) (d : Value) (base : Nat) (v : Value) (l : List Nat) (W : World) : Prop where
  msg : PIn W w.heap.size f t k s a d
  own : Own W base v l
  kept : Kept [] w W
  lt : w.heap.size < base
theorem Bm.new {w : World} {f t k s a : Int} {d : Value} {base : Nat} {v v' : Value} {l l' : List Nat} {A B : World} (r : Bm w f t k s a d base v l A) (ho : B.ownsRow base 5 1 v' l'.length (l'.map enc)) (hb : ∀ b ∈ l', b < 256) (hk : Kept [] A B) : Bm w f t k s a d base v' l' B := ⟨r.msg.kept hk (by simp), ⟨ho, hb, Nat.le_trans r.own.le hk.size⟩, r.kept.trans hk, r.lt⟩
theorem Bm.grown {w : World} {f t k s a : Int} {d : Value} {base : Nat} {v v' : Value} {l l' : List Nat} {A B : World} (r : Bm w f t k s a d base v l A) (ho : Own B base v' l') (hg : A.grownBy B v.ownBlock) : Bm w f t k s a d base v' l' B :=
  ⟨(hg.block _ (Blk.lt r.msg) (fun e => by have := (r.own.row.lt _ e.symm).1; have := r.lt; omega)).trans r.msg, ho, kept_grown r.own.row hg w r.kept (Nat.le_of_lt r.lt), r.lt⟩
theorem Bm.alloc {w : World} {f t k s a : Int} {d : Value} {base : Nat} {v : Value} {l : List Nat} {A : World} (r : Bm w f t k s a d base v l A) (ob : Obj) : Bm w f t k s a d base v l (A.alloc ob) := ⟨r.msg.kept (kept_alloc [] _ _) (by simp), r.own.alloc ob, r.kept.trans (kept_alloc [] _ _), r.lt⟩
set_option maxRecDepth 100000 in
set_option maxHeartbeats 4000000 in
/-- twainref18.Bytes -/
theorem refBytes_any (x : Pv) (lo hi : Nat) (w : World) (h : x.At lo hi w) (hh : hi ≤ w.heap.size) (hlen : x.len ≤ 9223372036854775807) :
    Calls Try.prog 12 #[x.val] w fun e w' => ∃ v, e = .returned v ∧ Own w' w.heap.size v (bytesL x.ps) ∧ Kept [] w w' := by
  have hb0 : x.In (w.alloc (.cells #[.int .u32 (x.f : Int), .int .u32 (x.t : Int), .int .i64 x.k, .int .i64 x.s, .int .i64 x.a, .slice x.sa x.len x.cap] 47)) w.heap.size := blk_new w 47 _
  have hk0 := kept_alloc [] w (.cells #[.int .u32 (x.f : Int), .int .u32 (x.t : Int), .int .i64 x.k, .int .i64 x.s, .int .i64 x.a, .slice x.sa x.len x.cap] 47)
  have q := refGood_any x h.len hlen (w.alloc (.cells #[.int .u32 (x.f : Int), .int .u32 (x.t : Int), .int .i64 x.k, .int .i64 x.s, .int .i64 x.a, .slice x.sa x.len x.cap] 47))
  obtain ⟨W, hW⟩ : ∃ W, w.alloc (.cells #[.int .u32 (x.f : Int), .int .u32 (x.t : Int), .int .i64 x.k, .int .i64 x.s, .int .i64 x.a, .slice x.sa x.len x.cap] 47) = W := ⟨_, rfl⟩
  rw [hW] at hb0 hk0 q
  by_cases hf : Fine x.ps
  · rw [good_in hf] at q
    rw [bytesL_in hf]
    have hbb : Hid (∀ b ∈ hd x.ps ++ x.d, b < 256) := body_byte hf h.row.1
    have hdl := hd_length x.ps
    have hfl : x.d.length ≤ 200 := fine_len hf
    have hlen4 : Hid ((hd x.ps ++ x.d).length ≤ 2000) := by
      show _ ≤ _
      rw [List.length_append, hdl]
      omega
    have hrow : Hid (ByteRow lo hi w (.slice x.sa x.len x.cap) x.d) := h.row
    have hff : Hid (x.f < 4294967296) := h.f
    have htt : Hid (x.t < 4294967296) := h.t
    have hl := h.len
    have hkn := fine_kind hf
    obtain ⟨-, h2, h3, -⟩ := hf
    clear h
    obtain ⟨f, t, k, s, a, sa, len, cap, d⟩ := x
    simp only [Pv.ps, Pv.val] at *
    obtain ⟨K, rfl⟩ : ∃ K : Nat, k = K := ⟨k.toNat, by omega⟩
    obtain ⟨s, rfl⟩ : ∃ n : Nat, s = n := ⟨s.toNat, by omega⟩
    obtain ⟨a, rfl⟩ : ∃ n : Nat, a = n := ⟨a.toNat, by omega⟩
    have hH : Hid (hd ⟨f, t, K, s, a, d⟩ = be 2 (23 + len) ++ (be 4 f ++ (be 4 t ++ (K :: (be 4 s ++ be 4 a))))) := by
      show _ = _
      rw [hl]
      rfl
    have es : IntKind.u32.wrap (s : Int) = (s : Int) := by rw [IntKind.wrap_u32]; omega
    have ea : IntKind.u32.wrap (a : Int) = (a : Int) := by rw [IntKind.wrap_u32]; omega
    have ek : IntKind.u8.wrap (K : Int) = (K : Int) := by rw [IntKind.wrap_u8]; omega
    have hK : Hid (K < 256) := by show _ < _; omega
    have hss : Hid (s < 4294967296) := by show _ < _; omega
    have haa : Hid (a < 4294967296) := by show _ < _; omega
    have hlen2 : len ≤ 200 := by omega
    have hdd : Hid (d.length ≤ 200) := hfl
    have ez : Hid ((((23 : Int) + (len : Int)) % 65536).toNat = 23 + len) := by show _ = _; omega
    have hs0 := Blk.lt hb0
    have hT0 : Hid (∀ w1, Kept [] W w1 → Bm w f t K s a (.slice sa len cap) w1.heap.size (.slice none 0 0) [] w1) := fun w1 hk1 => ⟨PIn.kept hb0 hk1 (by simp), own_nil _ _ (Nat.le_refl _), hk0.trans hk1, Nat.lt_of_lt_of_le hs0 hk1.size⟩
    have q2 : ∀ A, Calls Try.prog 34 #[.slice none 0 0, .int .i64 (23 + (len : Int))] A fun e w' => ∃ v', e = .returned v' ∧ w'.ownsRow A.heap.size 5 1 v' ([] ++ be 2 (23 + len)).length (([] ++ be 2 (23 + len)).map enc) ∧ Kept [] A w' := fun A => by
      have := refPut16_row A.heap.size (.slice none 0 0) [] (23 + (len : Int)) A ⟨by simp, .inl ⟨rfl, rfl⟩⟩ (by simp) (by simp) (Nat.le_refl _)
      rw [ez.out] at this
      exact this
    obtain ⟨c0, c1, c2, c3, c4, c5⟩ := hb0.six
    replace hl : Hid (len = d.length) := hl
    show Calls _ _ _ _ fun e w' => ∃ v, e = .returned v ∧ Own w' w.heap.size v (Seal.sealed (hd ⟨f, t, K, s, a, d⟩ ++ d)) ∧ Kept [] w w'
    generalize hd ⟨f, t, K, s, a, d⟩ = H at *
    clear hkn h2 h3 hfl hdl hs0 hb0
    go_enter Try.func12, Try.ntmps12
    go_wp2_with (first
      | (go_at_call 33; refine q.mono ?_; rintro e w1 ⟨rfl, hk1⟩; have hT := hT0.out w1 hk1; obtain ⟨c0, c1, c2, c3, c4, c5⟩ := hT.msg.six; clear q)
      | (go_at_call 34; refine (q2 _).mono ?_; rintro e w6 ⟨v1, rfl, hR6, hk6⟩; replace hT := hT.new hR6 (app_byte hT.own.byt (be_byte _ _)) hk6; obtain ⟨c0, c1, c2, c3, c4, c5⟩ := hT.msg.six; clear hk6 hR6 q2)
      | (go_at_call_of 35 (#[v1, .int .u32 (f : Int)] : Array Value); refine (refPut32_row _ _ _ f _ hT.own.row hT.own.byt (by simp [be_length]) hff.out hT.own.le).mono ?_; rintro e w6 ⟨v2, rfl, hR6, hk6⟩; replace hT := hT.new hR6 (app_byte hT.own.byt (be_byte _ _)) hk6; obtain ⟨c0, c1, c2, c3, c4, c5⟩ := hT.msg.six; clear hk6 hR6)
      | (go_at_call_of 35 (#[v2, .int .u32 (t : Int)] : Array Value); refine (refPut32_row _ _ _ t _ hT.own.row hT.own.byt (by simp [be_length]) htt.out hT.own.le).mono ?_; rintro e w6 ⟨v3, rfl, hR6, hk6⟩; replace hT := hT.new hR6 (app_byte hT.own.byt (be_byte _ _)) hk6; obtain ⟨c0, c1, c2, c3, c4, c5⟩ := hT.msg.six; clear hk6 hR6)
      | (at_builtin; refine wpList_append_z rfl _ _ rfl w1.heap.size v3 _ _ _ _ [K] rfl (hT.own.alloc _) rfl (one_rowC _ K _ rfl hK.out) (by simp [be_length]) ?_; intro sa4 z4 cap4 w7 ho7 hg7; replace hT := (hT.alloc _).grown ho7 hg7; obtain ⟨c0, c1, c2, c3, c4, c5⟩ := hT.msg.six; clear ho7 hg7)
      | (go_at_call_of 35 (#[.slice sa4 z4 cap4, .int .u32 (s : Int)] : Array Value); refine (refPut32_row _ _ _ s _ hT.own.row hT.own.byt (by simp [be_length]) hss.out hT.own.le).mono ?_; rintro e w6 ⟨v5, rfl, hR6, hk6⟩; replace hT := hT.new hR6 (app_byte hT.own.byt (be_byte _ _)) hk6; obtain ⟨c0, c1, c2, c3, c4, c5⟩ := hT.msg.six; clear hk6 hR6)
      | (go_at_call_of 35 (#[v5, .int .u32 (a : Int)] : Array Value); refine (refPut32_row _ _ _ a _ hT.own.row hT.own.byt (by simp [be_length]) haa.out hT.own.le).mono ?_; rintro e w6 ⟨v6, rfl, hR6, hk6⟩; replace hT := hT.new hR6 (app_byte hT.own.byt (be_byte _ _)) hk6; obtain ⟨c0, c1, c2, c3, c4, c5⟩ := hT.msg.six; clear hk6 hR6)
      | (at_builtin; refine wpList_append_z rfl _ _ rfl w1.heap.size v6 _ lo hi _ d rfl hT.own rfl (hrow.out.kept hh hT.kept (by simp)) (by have := hdd.out; simp [be_length]; omega) ?_; intro sa8 z8 cap8 w8 ho8 hg8; replace hT := hT.grown ho8 hg8; have ho9 := hT.own.is (show _ = H ++ d by rw [hH.out]; simp); clear ho8 hg8)
      | (go_at_call 36; refine (Seal.refPut5_any _ _ w8 hlen4.out (ho9.byteRow.at (Nat.le_refl _))).mono ?_; rintro e w9 ⟨v9, rfl, hr9, hB9⟩))
    go_ret
    have hk9 := Kept.of_below hB9 []
    refine ⟨v9, rfl, ⟨?_, Seal.sealed_byte _ hbb.out, Nat.le_trans hT.kept.size hk9.size⟩, hT.kept.trans hk9⟩
    rw [Seal.sealed_length]
    exact Seal.owns_le hr9 hT.kept.size
  · rw [good_out hf] at q
    rw [bytesL_out hf]
    obtain ⟨c0, c1, c2, c3, c4, c5⟩ := hb0.six
    replace hk0 : Hid (Kept [] w W) := hk0
    unfold Pv.val at *
    go_enter Try.func12, Try.ntmps12
    go_wp2_with (first
      | (go_at_call 33; refine q.mono ?_; rintro e w1 ⟨rfl, hk1⟩; clear q))
    go_ret
    exact ⟨_, rfl, own_nil _ _ (Nat.le_trans hk0.out.size hk1.size), hk0.out.trans hk1⟩
end Go.Proofs.Ytnbkbakbjllmcaa.Wire

