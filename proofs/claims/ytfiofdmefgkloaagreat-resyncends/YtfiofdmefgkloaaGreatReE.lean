/-
  Begin of a resync.
-/
import Derived.Test.YtfiofdmefgkloaaGreatReD
import Derived.Test.YtfiofdmefgkloaaGreatReO
import Derived.Deep.CutBlock
namespace Go.Proofs.YtfiofdmefgkloaaGreat.Resync
open Go.RowKit
open Math Copying
open Pack (Mv Ms mv0 good)
open Bits.Math (has without elems)

/-- May it be a Greet? -/
def greetB (m : Ms) : Bool := decide (m.k = 1) && good m
set_option maxRecDepth 100000 in
set_option maxHeartbeats 1000000 in
theorem isGreet_any (x : Mv) (hl : x.len = x.d.length) (hlen : x.len ≤ 9223372036854775807) (w : World) :
    Calls Tryz.prog 32 #[x.val] w fun e w' => e = .returned (.bool (greetB x.ms)) ∧ Kept [] w w' := by
  obtain ⟨W0, hW0, hX, hk0, hz⟩ := boxed w x
  have q := Pack.good_any x hl hlen W0
  obtain ⟨a0, a1, a2, a3, a4, a5⟩ := hX.six
  have eg : greetB x.ms = (decide (x.k = 1) && good x.ms) := rfl
  rw [eg]
  generalize good x.ms = G at *
  clear eg hX hl hlen
  obtain ⟨k, i, o, m, s, sa, len, cap, d⟩ := x
  simp only [Mv.val] at *
  by_cases h1 : k = 1
  · subst h1
    go_enter Tryz.func32, Tryz.ntmps32
    go_wp2_with (go_at_call 69; refine q.mono ?_; rintro e w1 ⟨rfl, hk1⟩)
    go_ret
    exact ⟨rfl, hk0.trans hk1⟩
  · have k1 : (k == 1) = false := by simpa using h1
    have k2 : decide (k = 1) = false := by simpa using h1
    clear q
    rw [k2]
    go_enter Tryz.func32, Tryz.ntmps32
    go_wp2_with fail
    go_ret
    exact ⟨rfl, hk0⟩
set_option maxRecDepth 100000 in
theorem isNode_any (n : Int) (w : World) : Calls Tryz.prog 33 #[.int .i64 n] w fun e w' => e = .returned (.bool (decide (n = 0 ∨ n = 1))) ∧ w' = w := by
  by_cases h0 : n = 0
  · have k0 : (n == 0) = true := by simpa using h0
    have e : decide (n = 0 ∨ n = 1) = true := by simp [h0]
    rw [e]
    go_enter Tryz.func33, Tryz.ntmps33
    go_wp2
    go_ret
    exact ⟨rfl, rfl⟩
  · have k0 : (n == 0) = false := by simpa using h0
    by_cases h1 : n = 1
    · have k1 : (n == 1) = true := by simpa using h1
      have e : decide (n = 0 ∨ n = 1) = true := by simp [h1]
      rw [e]
      go_enter Tryz.func33, Tryz.ntmps33
      go_wp2
      go_ret
      exact ⟨rfl, rfl⟩
    · have k1 : (n == 1) = false := by simpa using h1
      have e : decide (n = 0 ∨ n = 1) = false := by simp [h0, h1]
      rw [e]
      go_enter Tryz.func33, Tryz.ntmps33
      go_wp2
      go_ret
      exact ⟨rfl, rfl⟩
set_option maxRecDepth 100000 in
theorem open_tgt (o pl d b1 b2 : Nat) (s : Dk) (e : Bool) (l : Nat) (w : World) (h : ReAt w o pl d b1 b2 ⟨s, false, l, e⟩) :
    Calls Tryz.prog 38 #[.pointer (some ⟨o, 0, none⟩)] w fun x w' => x = .returned (.tuple #[.slice none 0 0, .int .i64 0]) ∧ w' = w := by
  have c2 := h.four.2.2.1
  go_enter Tryz.func38, Tryz.ntmps38
  go_wp2_with fail
  go_ret2
  exact ⟨rfl, rfl⟩
set_option maxRecDepth 100000 in
theorem open_over (o pl d b1 b2 : Nat) (s : Dk) (e : Bool) (w : World) (h : ReAt w o pl d b1 b2 ⟨s, true, 0, e⟩) :
    Calls Tryz.prog 38 #[.pointer (some ⟨o, 0, none⟩)] w fun x w' => ∃ sa n cap, x = .returned (.tuple #[.slice sa n cap, .int .i64 0]) ∧ MRow w.heap.size w' (.slice sa n cap) [bare endM] ∧ ReAt w' o pl d b1 b2 ⟨s, true, 0, true⟩ ∧ Kept [o] w w' := by
  have c0 := h.four.1
  have c2 := h.four.2.2.1
  obtain ⟨m, hp⟩ := h.plan
  have q1 := Plan.over_any w hp
  have q2 := close_any o pl d b1 b2 s true e 0 w h
  have dz : decide ((⟨s, true, 0, e⟩ : Rs).left = 0) = true := by simp
  rw [dz] at q1
  go_enter Tryz.func38, Tryz.ntmps38
  go_wp2_with (first
    | (go_at_call 76; refine q1.mono ?_; rintro x w1 ⟨rfl, rfl⟩)
    | (go_at_call 77; refine q2.mono ?_; rintro x w2 ⟨sa, n, cap, rfl, hr, hR, hk⟩))
  go_ret2
  exact ⟨sa, n, cap, rfl, hr, hR, hk⟩
/-- A message of a row that grows: its bytes lie apart from the row. -/
def Clear (base : Nat) (W : World) (v : Value) (y : Mv) : Prop := ∃ lo hi, base ≤ lo ∧ hi ≤ W.heap.size ∧ y.At lo hi W ∧ ∀ k, v.ownBlock = some k → k < lo ∨ hi ≤ k
theorem Clear.appended {base : Nat} {A B C : World} {v v' : Value} {y : Mv} (h : Clear base A v y) (hk : Kept [] A B) (hk2 : Kept v.ownBlock.toList B C) (ho : ∀ k, v'.ownBlock = some k → v.ownBlock = some k ∨ B.heap.size ≤ k) : Clear base C v' y := by
  obtain ⟨lo, hi, h1, h2, h3, h4⟩ := h
  have h5 := Nat.le_trans h2 hk.size
  refine ⟨lo, hi, h1, Nat.le_trans h5 hk2.size, (h3.kept h2 hk (by simp)).kept h5 hk2 (fun k hm => h4 k (by simpa using hm)), fun k hv => ?_⟩
  rcases ho k hv with g | g
  · exact h4 k g
  · exact .inr (Nat.le_trans h5 g)
theorem Clear.at {base : Nat} {W : World} {v : Value} {y : Mv} (h : Clear base W v y) : y.At base W.heap.size W := by
  obtain ⟨lo, hi, h1, h2, h3, _⟩ := h
  exact h3.mono h1 h2
theorem kept_row {base : Nat} {A B C : World} {v : Value} {P : List Mv} (hr : MRow base B v P) (h : Kept [] A B) (hk : Kept v.ownBlock.toList B C) (hb : A.heap.size ≤ base) : Kept [] A C := by
  refine ⟨hk.os.trans h.os, hk.tape.trans h.tape, hk.output.trans h.output, Nat.le_trans h.size hk.size, fun k hk1 _ => ?_⟩
  refine (hk.block k (Nat.lt_of_lt_of_le hk1 h.size) (fun hm => ?_)).trans (h.block k hk1 (by simp))
  have := (hr.lt k (by simpa using hm)).1
  omega
set_option maxRecDepth 100000 in
set_option maxHeartbeats 8000000 in
theorem open_gives (o pl d b1 b2 : Nat) (s : Dk) (e : Bool) (z : Nat) (hz0 : z ≠ 0) (hg : ∀ x ∈ elems z, gotE s (Span.wOff (x : Nat)) (Span.wLen (x : Nat)) = 0) (w : World) (h : ReAt w o pl d b1 b2 ⟨s, true, z, e⟩) (hp : Plan.PlAt w pl z z) :
    Calls Tryz.prog 38 #[.pointer (some ⟨o, 0, none⟩)] w fun x w' => ∃ sa n cap P, x = .returned (.tuple #[.slice sa n cap, .int .i64 0]) ∧ MRow w.heap.size w' (.slice sa n cap) P ∧ P.map Mv.ms = (elems z).map (fun e : Nat => giveM s (e : Int)) ∧ (∀ y ∈ P, y.At w.heap.size w'.heap.size w') ∧ Kept [] w w' := by
  have c0 := h.four.1
  have c2 := h.four.2.2.1
  have q1 := Plan.over_any w hp
  have q2 := Plan.all_some w hp (by omega)
  have dz : decide (z = 0) = false := by simpa using hz0
  rw [dz] at q1
  have hlen64 : (elems z).length ≤ 64 := by
    have := List.length_filter_le (fun e => z.testBit e) (List.range 64)
    simpa [elems, Bits.Math.lst] using this
  generalize elems z = L at *
  obtain ⟨N, hN⟩ : ∃ N, L.length = N := ⟨_, rfl⟩
  go_enter Tryz.func38, Tryz.ntmps38
  go_wp2_with (first
    | (go_at_call 76; refine q1.mono ?_; rintro x w ⟨rfl, rfl⟩)
    | (go_at_call 78; refine q2.mono ?_; rintro x w2 ⟨v, rfl, hrow, hB⟩; obtain ⟨a, cp, rfl, hat⟩ := Role.owns_at hrow; rw [hN]))
  obtain ⟨hN0, hat', hK2⟩ : Hid (N = N) ∧ Hid (∀ (j e : Nat), L[j]? = some e → ∃ b off, a = some ⟨b, off, none⟩ ∧ w2.cell? ⟨b, off + j, none⟩ = some (.int .i64 (e : Int))) ∧ Kept [] w w2 := ⟨rfl, hat, Kept.of_below hB []⟩
  have hN' : Hid (L.length = N) := hN
  have hN64 : N ≤ 64 := by omega
  have hg' : Hid (∀ x ∈ L, gotE s (Span.wOff (x : Nat)) (Span.wLen (x : Nat)) = 0) := hg
  have hR2 := h.kept0 hK2
  clear hrow hB hat hN0 hN hg hp q1 q2 hz0 dz h
  go_loopw [27, 4] (fun i t wr => ∃ (j : Nat) (sa : Option Addr) (n cap : Nat) (P : List Mv), j ≤ N ∧ i = .int .i64 j ∧ t = .slice sa n cap ∧ MRow w2.heap.size wr (.slice sa n cap) P ∧ P.map Mv.ms = (L.take j).map (fun e : Nat => giveM s (e : Int)) ∧ (∀ y ∈ P, Clear w2.heap.size wr (.slice sa n cap) y) ∧ Kept [] w2 wr) (fun i _ _ => N - (RowKit.intOf i).toNat)
  case atStart => exact ⟨0, none, 0, 0, [], Nat.zero_le _, rfl, rfl, MRow.nil _ _, rfl, by simp, Kept.refl _ _⟩
  case round =>
    obtain ⟨j, sa, n, cap, P, hj, rfl, rfl, hrow, hms, hmem, hK⟩ := hrel
    by_cases hlt : j < N
    · obtain ⟨x, hx⟩ : ∃ x, L[j]? = some x := ⟨_, List.getElem?_eq_getElem (by rw [hN'.out]; exact hlt)⟩
      have ge := hg'.out x (List.mem_of_getElem? hx)
      obtain ⟨bb, off, rfl, hc⟩ := hat'.out j x hx
      replace hc : wr.cell? ⟨bb, off + j, none⟩ = some (.int .i64 (x : Int)) := (World.cell?_of_block (hK.block bb (World.block_lt_of_cell? _ _ hc) (by simp))).trans hc
      have hRr := hR2.kept0 hK
      have c1 := hRr.four.2.1
      have q3 := fun W (hD : DiskAt W d b1 b2 s) => give_any d b1 b2 s (x : Int) W hD
      rw [ge] at q3
      have hstep : Hid ((L.take (j + 1)).map (fun e : Nat => giveM s (e : Int)) = (L.take j).map (fun e : Nat => giveM s (e : Int)) ++ [giveM s (x : Int)]) := by
        show _ = _
        rw [List.take_add_one, hx, List.map_append]
        rfl
      have hPl : Hid (P.length = j) := by
        show _ = _
        have := congrArg List.length hms
        simp at this
        have := hN'.out
        omega
      have kk : (j : Int) < (N : Int) := by omega
      have hm1 : Hid (N - (j + 1) < N - j) := by show _ < _; omega
      have hD := hRr.disk
      clear hx hat'
      generalize giveM s (x : Int) = M at *
      go_wp2_with (first
        | (go_at_call 79; refine (q3 _ hD).mono ?_; rintro r w3 ⟨v, rfl, hvm, hvat, hk3⟩; obtain ⟨vk, vi, vo, vm, vs, vsa, vlen, vcap, vd⟩ := v; simp only [Mv.val]; have hb3 := zero_new w3)
        | (refine wpList_store_blk rfl 26 _ _ rfl w3.heap.size 26 _ [.int .i64 vk, .int .i64 vi, .int .i64 vo, .int .u64 (vm : Int), .bool vs, .slice vsa vlen vcap] rfl rfl hb3 rfl Pack.Tryz.sizeM (by simp [Value.oneCell']) ?_; intro w4 hB4 hk4 hz4; replace hz4 : Hid _ := hz4; have hk34 : Kept [] w3 w4 := (kept_alloc [] w3 _).young hk4 (Nat.le_refl _); have hIn : Mv.In ⟨vk, vi, vo, vm, vs, vsa, vlen, vcap, vd⟩ w4 w3.heap.size := hB4; obtain ⟨x0, x1, x2, x3, x4, x5⟩ := hIn.six; simp only at x0 x1 x2 x3 x4 x5; have hk5 := (hk3.trans hk34).trans (kept_alloc [] w4 (.cells #[.int .i64 vk, .int .i64 vi, .int .i64 vo, .int .u64 (vm : Int), .bool vs, .slice vsa vlen vcap] 26)); have hrow5 := hrow.kept0 hk5; have hl5 := lies_one ⟨vk, vi, vo, vm, vs, vsa, vlen, vcap, vd⟩ w4.heap.size (blk_new w4 26 _ : Mv.In ⟨vk, vi, vo, vm, vs, vsa, vlen, vcap, vd⟩ (w4.alloc (.cells #[.int .i64 vk, .int .i64 vi, .int .i64 vo, .int .u64 (vm : Int), .bool vs, .slice vsa vlen vcap] 26)) w4.heap.size); have hle5 := Nat.le_trans hK.size hk5.size)
        | (refine wpList_append_msgs rfl (.tmp 43) (.tmp 45) rfl w2.heap.size (.slice sa n cap) (.slice (some ⟨w4.heap.size, 0, none⟩) 1 1) P [⟨vk, vi, vo, vm, vs, vsa, vlen, vcap, vd⟩] rfl rfl hrow5 hl5 (by have := hPl.out; have := hN'.out; simp; omega) hle5 ?_; intro sa6 n6 cap6 w6 hr6 hk6 ho6))
      have hK6 := kept_row hrow5 (hK.trans hk5) hk6 (Nat.le_refl _)
      have hms6 : (P ++ [(⟨vk, vi, vo, vm, vs, vsa, vlen, vcap, vd⟩ : Mv)]).map Mv.ms = (L.take (j + 1)).map (fun e : Nat => giveM s (e : Int)) := by
        rw [hstep.out, List.map_append, hms, ← hvm]
        rfl
      have hmem6 : ∀ y ∈ P ++ [(⟨vk, vi, vo, vm, vs, vsa, vlen, vcap, vd⟩ : Mv)], Clear w2.heap.size w6 (.slice sa6 n6 cap6) y := fun y hy => by
        rcases List.mem_append.1 hy with g | g
        · exact (hmem y g).appended hk5 hk6 ho6.out
        · obtain rfl := List.mem_singleton.1 g
          have hk45 : Kept [] w3 (w4.alloc (.cells #[.int .i64 vk, .int .i64 vi, .int .i64 vo, .int .u64 (vm : Int), .bool vs, .slice vsa vlen vcap] 26)) := hk34.trans (kept_alloc [] w4 _)
          have h1 := hvat.kept (Nat.le_refl _) hk45 (by simp)
          refine ⟨wr.heap.size, w3.heap.size, (show w2.heap.size ≤ wr.heap.size from hK.size), Nat.le_trans hk45.size hk6.size, h1.kept hk45.size hk6 (fun k hm => .inl (hrow.lt k (by simpa using hm)).2), fun k hv => ?_⟩
          rcases ho6.out k hv with g | g
          · exact .inl (hrow.lt k g).2
          · exact .inr (Nat.le_trans hk45.size g)
      clear hk5 hk6 hrow5 hl5 hmem hms hrow hvat hvm hB4 hIn
      go_round
      case rel => exact ⟨j + 1, sa6, n6, cap6, _, by omega, by go_num, rfl, hr6, hms6, hmem6, hK6⟩
      case measure => simp [RowKit.intOf]; omega
    · obtain rfl : j = N := by omega
      go_wp2_with fail
      go_ret2
      exact ⟨sa, n, cap, P, rfl, hrow.low hK2.size, by rw [hms, ← hN'.out, List.take_length], fun y hy => (hmem y hy).at.mono hK2.size (Nat.le_refl _), hK2.trans hK⟩
set_option maxRecDepth 100000 in
/-- open -/
theorem open_any (o pl d b1 b2 : Nat) (s : Dk) (g : Bool) (z : Nat) (hg : g = true → ∀ x ∈ elems z, gotE s (Span.wOff (x : Nat)) (Span.wLen (x : Nat)) = 0) (w : World) (h : ReAt w o pl d b1 b2 ⟨s, g, z, false⟩) (hp : Plan.PlAt w pl z z) :
    Calls Tryz.prog 38 #[.pointer (some ⟨o, 0, none⟩)] w fun x w' => ∃ sa n cap P, x = .returned (.tuple #[.slice sa n cap, .int .i64 0]) ∧ MRow w.heap.size w' (.slice sa n cap) P ∧ P.map Mv.ms = beginL s z g ∧ (∀ y ∈ P, y.At w.heap.size w'.heap.size w') ∧ ReAt w' o pl d b1 b2 (beginR s z g) ∧ Kept [o] w w' := by
  have hend : ∀ (lo hi : Nat) (W : World), ∀ y ∈ [bare endM], y.At lo hi W := fun lo hi W y hy => by
    obtain rfl := List.mem_singleton.1 hy
    exact ⟨Pack.byteRow_nil lo hi W, (by show (0 : Nat) < _; decide), (by show _ ≤ (0 : Int); decide), (by show (0 : Int) ≤ _; decide)⟩
  cases g with
  | false =>
    refine (open_tgt o pl d b1 b2 s false z w h).mono fun x w' ⟨hx, hw⟩ => ?_
    subst hw
    exact ⟨none, 0, 0, [], hx, MRow.nil _ _, rfl, by simp, h, Kept.refl _ _⟩
  | true =>
    by_cases hz : z = 0
    · subst hz
      exact (open_over o pl d b1 b2 s false w h).mono fun x w' ⟨sa, n, cap, hx, hr, hR, hk⟩ => ⟨sa, n, cap, _, hx, hr, rfl, hend _ _ _, hR, hk⟩
    · have e1 : beginR s z true = ⟨s, true, z, false⟩ := by simp [beginR, hz]
      have e2 : beginL s z true = (elems z).map (fun e : Nat => giveM s (e : Int)) := by simp [beginL, hz]
      rw [e1, e2]
      exact (open_gives o pl d b1 b2 s false z hz (hg rfl) w h hp).mono fun x w' ⟨sa, n, cap, P, hx, hr, hms, hmem, hk⟩ => ⟨sa, n, cap, P, hx, hr, hms, hmem, h.kept0 hk, hk.mono (by simp)⟩
end Go.Proofs.YtfiofdmefgkloaaGreat.Resync
