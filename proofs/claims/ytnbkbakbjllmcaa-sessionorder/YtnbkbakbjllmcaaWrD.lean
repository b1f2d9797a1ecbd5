import Derived.Test.YtnbkbakbjllmcaaWrB
import Derived.Test.YtnbkbakbjllmcaaWrC
/-
  The walks of head and of Bytes.
-/
namespace Go.Proofs.Ytnbkbakbjllmcaa.Wire
open Go.RowKit
open Seal (enc ret_bool ret_int)
open Seal.Math

theorem own_arr {W : World} {g base : Nat} {l : List Nat} (h : Seal.Arr W g 5 l) (hb : base ≤ g) (hl : l.length ≤ 100000) (hB : ∀ b ∈ l, b < 256) : Own W base (.slice (some ⟨g, 0, none⟩) l.length l.length) l :=
  ⟨⟨by simp, .inr ⟨g, l.length, (l.map enc).toArray, rfl, hb, h, Nat.le_refl _, by unfold maxLen; omega, by simp, by rw [Nat.mul_one]; exact List.take_of_length_le (by simp)⟩⟩, hB, Nat.le_of_lt (Nat.lt_of_le_of_lt hb h.lt)⟩
set_option maxRecDepth 100000 in
/-- append(a, b..) onto a row of the call's own at a step of a region that draws its order, the length a letter -/
theorem step_append_z {ops : Array Oper} {o : Oper} {a : Act} {w : World} {K : Act → World → Prop} {Q : Exit → Act → World → Prop} {E : Prop} (hgd : o.guard = none) (s x : Operand)
    (ho : o.op = .call { callee := .builtin .append, args := #[s, x], argTypes := #[34, 34] })
    (base : Nat) (v u : Value) (lo hi : Nat) (cs bs : List Nat) (hs : a.eval s = v) (hown : Own w base v cs) (hx : a.eval x = u) (hu : ByteRow lo hi w u bs) (hlen : cs.length + bs.length ≤ 1000000)
    (h : ∀ sa z cap w', Own w' base (.slice sa z cap) (cs ++ bs) → w.grownBy w' v.ownBlock → K (a.put o.dst (.slice sa z cap)) w') :
    if Region.wanted o (yielded ops a.tmps) = true then Oper.wp Try.prog o a w K Q else E :=
  step_append_bytes hgd s x ho base v u lo hi cs bs hs hown.row hown.byt hx hu hlen hown.le fun sa cap w' h1 h2 h3 => h sa _ cap w' ⟨h2, h1.1, Nat.le_trans hown.le h3.size⟩ h3
set_option maxRecDepth 100000 in
set_option maxHeartbeats 4000000 in
/-- head -/
theorem head_any (x : Pv) (w : World) (hF : Fine x.ps) (hf : x.f < 4294967296) (ht : x.t < 4294967296) (hl : x.len = x.d.length) :
    Calls Try.prog 59 #[x.val] w fun e w' => ∃ v, e = .returned v ∧ Own w' w.heap.size v (hd x.ps) ∧ Kept [] w w' := by
  have hkn := fine_kind hF
  have hln := fine_len hF
  obtain ⟨-, h2, h3, -⟩ := hF
  obtain ⟨f, t, k, s, a, sa, len, cap, d⟩ := x
  simp only [Pv.ps, Pv.val] at *
  obtain ⟨K, rfl⟩ : ∃ K : Nat, k = K := ⟨k.toNat, by omega⟩
  obtain ⟨s, rfl⟩ : ∃ n : Nat, s = n := ⟨s.toNat, by omega⟩
  obtain ⟨a, rfl⟩ : ∃ n : Nat, a = n := ⟨a.toNat, by omega⟩
  have hH : Hid (hd ⟨f, t, K, s, a, d⟩ = be 2 (23 + len) ++ (be 4 f ++ (be 4 t ++ (K :: (be 4 s ++ be 4 a))))) := by
    show _ = _
    rw [hl]
    rfl
  have hb0 : PIn (w.alloc (.cells #[.int .u32 (f : Int), .int .u32 (t : Int), .int .i64 (K : Int), .int .i64 (s : Int), .int .i64 (a : Int), .slice sa len cap] 47)) w.heap.size f t K s a (.slice sa len cap) := blk_new w 47 _
  have hk0 : Hid (Kept [] w ((w.alloc (.cells #[.int .u32 (f : Int), .int .u32 (t : Int), .int .i64 (K : Int), .int .i64 (s : Int), .int .i64 (a : Int), .slice sa len cap] 47)).alloc (.cells #[.slice none 0 0] 113))) := (kept_alloc [] w _).trans (kept_alloc [] _ _)
  have hW0 : Blk ((w.alloc (.cells #[.int .u32 (f : Int), .int .u32 (t : Int), .int .i64 (K : Int), .int .i64 (s : Int), .int .i64 (a : Int), .slice sa len cap] 47)).alloc (.cells #[.slice none 0 0] 113)) (w.heap.size + 1) 113 #[.slice none 0 0] := by
    have := blk_new (w.alloc (.cells #[.int .u32 (f : Int), .int .u32 (t : Int), .int .i64 (K : Int), .int .i64 (s : Int), .int .i64 (a : Int), .slice sa len cap] 47)) 113 #[.slice none 0 0]
    rw [World.size_alloc] at this
    exact this
  have q := lay_any f t K s a sa len cap (w.heap.size + 1) _ hW0 hf ht (by omega) (by omega) (by omega) (by omega)
  rw [← hH.out] at q
  obtain ⟨c0, c1, c2, c3, c4, c5⟩ := (hb0.kept (kept_alloc [] _ (.cells #[.slice none 0 0] 113)) (by simp)).six
  generalize hd ⟨f, t, K, s, a, d⟩ = H at *
  replace hl : Hid (len = d.length) := hl
  clear hb0 hW0 hkn hln h2 h3 hf ht
  go_enter Try.func59, Try.ntmps59
  go_wp2_with (first
    | (go_at_call 71; refine q.mono ?_; rintro e w2 ⟨rfl, v2, hb2, ho2, hk2⟩; have d0 : w2.cell? ⟨w.heap.size + 1, 0, none⟩ = some v2 := (Blk.cell hb2 0).trans rfl; obtain ⟨sa2, z2, cap2, rfl⟩ := ho2.formz))
  go_ret
  exact ⟨_, rfl, ho2.low (by rw [World.size_alloc, World.size_alloc]; omega), hk0.out.young hk2 (by omega)⟩
set_option maxRecDepth 100000 in
set_option maxHeartbeats 4000000 in
/-- Bytes -/
theorem bytes_any (x : Pv) (lo hi : Nat) (w : World) (h : x.At lo hi w) (hh : hi ≤ w.heap.size) (hlen : x.len ≤ 9223372036854775807) :
    Calls Try.prog 43 #[x.val] w fun e w' => ∃ sa cap, e = .returned (.slice sa (bytesL x.ps).length cap) ∧ Own w' w.heap.size (.slice sa (bytesL x.ps).length cap) (bytesL x.ps) ∧ Kept [] w w' := by
  have hb0 : x.In (w.alloc (.cells #[.int .u32 (x.f : Int), .int .u32 (x.t : Int), .int .i64 x.k, .int .i64 x.s, .int .i64 x.a, .slice x.sa x.len x.cap] 47)) w.heap.size := blk_new w 47 _
  have hk0 := kept_alloc [] w (.cells #[.int .u32 (x.f : Int), .int .u32 (x.t : Int), .int .i64 x.k, .int .i64 x.s, .int .i64 x.a, .slice x.sa x.len x.cap] 47)
  have q := good_any x h.len hlen (w.alloc (.cells #[.int .u32 (x.f : Int), .int .u32 (x.t : Int), .int .i64 x.k, .int .i64 x.s, .int .i64 x.a, .slice x.sa x.len x.cap] 47))
  obtain ⟨W, hW⟩ : ∃ W, w.alloc (.cells #[.int .u32 (x.f : Int), .int .u32 (x.t : Int), .int .i64 x.k, .int .i64 x.s, .int .i64 x.a, .slice x.sa x.len x.cap] 47) = W := ⟨_, rfl⟩
  rw [hW] at hb0 hk0 q
  by_cases hf : Fine x.ps
  · rw [good_in hf] at q
    rw [bytesL_in hf]
    have hbb : Hid (∀ b ∈ hd x.ps ++ x.d, b < 256) := body_byte hf h.row.1
    have hdl := hd_length x.ps
    have hfl : x.d.length ≤ 200 := fine_len hf
    have hlen3 : Hid ((hd x.ps).length + x.d.length ≤ 1000000) := by
      show _ ≤ _
      rw [hdl]
      omega
    have hlen4 : Hid ((hd x.ps ++ x.d).length ≤ 2000) := by
      show _ ≤ _
      rw [List.length_append, hdl]
      omega
    have qh := fun W' : World => head_any x W' hf h.f h.t h.len
    have S0 : ∀ A, Kept [] W A → A.cell? ⟨w.heap.size, 0, none⟩ = some (.int .u32 (x.f : Int)) ∧ A.cell? ⟨w.heap.size, 1, none⟩ = some (.int .u32 (x.t : Int)) ∧ A.cell? ⟨w.heap.size, 2, none⟩ = some (.int .i64 x.k) ∧ A.cell? ⟨w.heap.size, 3, none⟩ = some (.int .i64 x.s) ∧ A.cell? ⟨w.heap.size, 4, none⟩ = some (.int .i64 x.a) ∧ A.cell? ⟨w.heap.size, 5, none⟩ = some (.slice x.sa x.len x.cap) := fun A hA => (hb0.kept hA (by simp)).six
    obtain ⟨c0, c1, c2, c3, c4, c5⟩ := S0 W (Kept.refl _ _)
    have hrow : Hid (ByteRow lo hi w (.slice x.sa x.len x.cap) x.d) := h.row
    replace hk0 : Hid (Kept [] w W) := hk0
    have hps : Hid (x.ps.d = x.d) := rfl
    show Calls _ _ _ _ fun e w' => ∃ sa cap, e = .returned (.slice sa (Seal.sealed (hd x.ps ++ x.d)).length cap) ∧ Own w' w.heap.size (.slice sa (Seal.sealed (hd x.ps ++ x.d)).length cap) (Seal.sealed (hd x.ps ++ x.d)) ∧ Kept [] w w'
    generalize hd x.ps = H at *
    unfold Pv.val at *
    clear hfl hdl
    go_enter Try.func43, Try.ntmps43
    go_wp2_with (first
      | (go_at_call 53; refine q.mono ?_; rintro e w1 ⟨rfl, hk1⟩; have hk1' := hk1.trans (kept_drew [] w1); clear q))
    go_region_held3 (fun A => A.cell? ⟨w.heap.size, 0, none⟩ = some (.int .u32 (x.f : Int)) ∧ A.cell? ⟨w.heap.size, 1, none⟩ = some (.int .u32 (x.t : Int)) ∧ A.cell? ⟨w.heap.size, 2, none⟩ = some (.int .i64 x.k) ∧ A.cell? ⟨w.heap.size, 3, none⟩ = some (.int .i64 x.s) ∧ A.cell? ⟨w.heap.size, 4, none⟩ = some (.int .i64 x.a) ∧ A.cell? ⟨w.heap.size, 5, none⟩ = some (.slice x.sa x.len x.cap)) (first
      | exact S0 _ hk1'
      | exact S0 _ hk2'
      | exact S0 _ hk3'
      | exact S0 _ hk4') (first
      | (go_at_call 59; refine (qh _).mono ?_; rintro e w2 ⟨v2, rfl, hR2, hk2⟩; have hk2' := hk1'.trans hk2)
      | (refine step_append_z rfl (.tmp 7) (.tmp 9) rfl w1.drew.heap.size v2 (.slice x.sa x.len x.cap) lo hi H x.d (by simp [Act.eval]) hR2 (by simp [Act.eval]) (hrow.out.kept hh (hk0.out.trans hk2') (by simp)) hlen3.out ?_; intro sa3 z3 cap3 w3 ho3 hg3; have hk3' : Kept [] W w3 := kept_grown hR2.row hg3 W hk2' hk1'.size)
      | (go_at_call 58; refine (Seal.put_any _ _ w3 hlen4.out (ho3.byteRow.at (Nat.le_refl _))).mono ?_; rintro e w4 ⟨g4, rfl, hg4, hA4, hB4⟩; have hk4' := hk3'.trans (Kept.of_below hB4 [])))
    go_wp2_with fail
    go_ret
    have hs := hk0.out.size
    have hsl : (Seal.sealed (H ++ x.d)).length = (H ++ x.d).length + 4 := Seal.sealed_length _
    have h4 := hlen4.out
    refine ⟨some ⟨g4, 0, none⟩, (H ++ x.d).length + 4, by rw [hsl]; simp, ?_, hk0.out.trans hk4'⟩
    have ho := own_arr (base := w.heap.size) hA4 (Nat.le_trans (Nat.le_trans hs hk3'.size) hg4) (by omega) (Seal.sealed_byte _ hbb.out)
    rw [hsl] at ho ⊢
    exact ho
  · rw [good_out hf] at q
    rw [bytesL_out hf]
    obtain ⟨c0, c1, c2, c3, c4, c5⟩ := hb0.six
    replace hk0 : Hid (Kept [] w W) := hk0
    unfold Pv.val at *
    go_enter Try.func43, Try.ntmps43
    go_wp2_with (first
      | (go_at_call 53; refine q.mono ?_; rintro e w1 ⟨rfl, hk1⟩; clear q))
    go_ret
    exact ⟨none, 0, rfl, own_nil _ _ (Nat.le_trans hk0.out.size hk1.size), hk0.out.trans hk1⟩
end Go.Proofs.Ytnbkbakbjllmcaa.Wire

