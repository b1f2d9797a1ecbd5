/-
  Acts in memory; the walk of OutboxGoes.
-/
import Derived.Test.YtmibcnefonmmgaaOtI
namespace Go.Proofs.Ytmibcnefonmmgaa.Outbox
open Go.RowKit

/-- An act: Acked of n, or Push of bytes. -/
structure Ac where
  b : Bool
  n : Int
  x : Bv
def Ac.cells (a : Ac) : List Value := [.bool a.b, .int .i64 a.n, .slice a.x.sa a.x.len a.x.cap]
structure Ac.Ok (a : Ac) (hi : Nat) (W : World) : Prop where
  len0 : a.x.len ≤ 9223372036854775807
  row : ByteRow hi W (.slice a.x.sa a.x.len a.x.cap) a.x.bs
/-- The acts lie in a slice. -/
def AcsAt (n : Nat) (W : World) (a : Option Addr) (len cap : Nat) (acts : List Ac) : Prop :=
  acts.length = len ∧ (∀ x ∈ acts, x.Ok n W) ∧ (acts = [] ∨ ∃ b off, a = some ⟨b, off, none⟩ ∧ len ≤ cap ∧ b < n ∧ ∀ j x, acts[j]? = some x → ∀ i v, x.cells[i]? = some v → W.cell? ⟨b, off + j * 3 + i, none⟩ = some v)
theorem AcsAt.kept {n : Nat} {L : List Nat} {A B : World} {a : Option Addr} {len cap : Nat} {acts : List Ac} (h : AcsAt n A a len cap acts) (hn : n ≤ A.heap.size) (hK : Kept L A B) (hL : ∀ k ∈ L, n ≤ k) : AcsAt n B a len cap acts := by
  obtain ⟨h1, h2, h3⟩ := h
  refine ⟨h1, fun x hx => ?_, ?_⟩
  · have := h2 x hx
    exact ⟨this.len0, this.row.kept hn hK hL⟩
  · rcases h3 with h3 | ⟨b, off, e, hl, hb, hc⟩
    · exact .inl h3
    · refine .inr ⟨b, off, e, hl, hb, fun j x hx i v hv => ?_⟩
      rw [World.cell?_of_block (w := A) (w' := B) (hK.block b (by omega) (fun hm => by have := hL b hm; omega))]
      exact hc j x hx i v hv
/-- An act of a slice: where it lies. -/
theorem AcsAt.at {n : Nat} {W : World} {a : Option Addr} {len cap : Nat} {acts : List Ac} (h : AcsAt n W a len cap acts) (j : Nat) (hj : j < len) :
    ∃ x, acts[j]? = some x ∧ x.Ok n W ∧ ∃ b off, a = some ⟨b, off, none⟩ ∧ len ≤ cap ∧ W.cell? ⟨b, off + j * 3, none⟩ = some (.bool x.b) ∧ W.cell? ⟨b, off + j * 3 + 1, none⟩ = some (.int .i64 x.n) ∧ W.cell? ⟨b, off + j * 3 + 2, none⟩ = some (.slice x.x.sa x.x.len x.x.cap) := by
  obtain ⟨h1, h2, h3⟩ := h
  obtain ⟨x, hx⟩ : ∃ x, acts[j]? = some x := ⟨_, List.getElem?_eq_getElem (by omega)⟩
  refine ⟨x, hx, h2 x (List.mem_of_getElem? hx), ?_⟩
  rcases h3 with h3 | ⟨b, off, e, hl, hb, hc⟩
  · rw [h3] at h1
    simp at h1
    omega
  · exact ⟨b, off, e, hl, hc j x hx 0 _ rfl, hc j x hx 1 _ rfl, hc j x hx 2 _ rfl⟩
section
variable {ops : Array Oper} {rest : List Oper} {o : Oper} {a : Act} {w : World} {Q : Exit → Act → World → Prop}
set_option maxRecDepth 100000 in
/-- append(nil, x) -/
theorem wpList_append_first (hgd : o.guard = none) (s x : Operand) (ho : o.op = .call { callee := .builtin .append, args := #[s, x], argTypes := #[35, 35] })
    (u q : Nat) (hs : a.eval s = .slice none 0 0) (hx : a.eval x = .slice (some ⟨q, 0, none⟩) 1 1) (hc : w.cell? ⟨q, 0, none⟩ = some (.int .i64 (u : Int)))
    (h : ∀ sa cap w', NRow w.heap.size w' (.slice sa 1 cap) [u] → Kept [] w w' → wpList Try.prog ops Q rest (a.put o.dst (.slice sa 1 cap)) w') : wpList Try.prog ops Q (o :: rest) a w := by
  refine wpList_append_num hgd s x ho w.heap.size (.slice none 0 0) [] u q hs (NRow.nil _ _) hx hc (Nat.zero_le _) (Nat.le_refl _) ?_
  intro v' w' hN hg
  obtain ⟨sa, cap, e, _⟩ := hN.slice
  subst e
  exact h sa cap w' hN (kept_none hg)
end
set_option maxRecDepth 100000 in
set_option maxHeartbeats 1000000 in
theorem goes_none (k : Int) (hk : k < 1 ∨ 64 < k) (a0 : Option Addr) (len cap : Nat) (w : World) :
    Calls Try.prog 4 #[.int .i64 k, .slice a0 len cap] w fun e w' => e = .returned (.bool true) ∧ Kept [] w w' := by
  have q := lives_any w
  have q1 := new_none k hk w
  clear hk
  go_enter Try.func4, Try.ntmps4
  go_wp2_with (first
    | (go_at_call 7; refine q1.mono ?_; rintro e w ⟨rfl, rfl⟩)
    | (go_at_call 6; refine q.mono ?_; rintro e w1 ⟨rfl, hk1⟩))
  go_ret
  exact ⟨rfl, hk1⟩
set_option maxRecDepth 100000 in
set_option maxHeartbeats 1000000 in
theorem goes_early (m : Nat) (h1 : 1 ≤ m) (h2 : m ≤ 64) (a0 : Option Addr) (len cap : Nat) (hl : len ≤ 9223372036854775807) (w : World) (h : 80 < len) :
    Calls Try.prog 4 #[.int .i64 (m : Int), .slice a0 len cap] w fun e w' => e = .returned (.bool true) ∧ Kept [] w w' := by
  have q1 := new_any m h1 h2 w
  have h3 : (80 : Int) < (len : Int) := by omega
  clear h
  go_enter Try.func4, Try.ntmps4
  go_wp2_with (first
    | (go_at_call 7; refine q1.mono ?_; rintro e w1 ⟨rfl, hO, hs1, hk1⟩; clear q1 hs1; have q := lives_any w1)
    | (go_at_call 6; refine q.mono ?_; rintro e w2 ⟨rfl, hk2⟩))
  go_ret
  exact ⟨rfl, hk1.trans hk2⟩
set_option maxRecDepth 100000 in
set_option maxHeartbeats 8000000 in
theorem goes_play (m : Nat) (h1 : 1 ≤ m) (h2 : m ≤ 64) (a0 : Option Addr) (len cap : Nat) (acts : List Ac) (hl : len ≤ 80) (w : World) (hacts : AcsAt w.heap.size w a0 len cap acts) (hbig : ∀ x ∈ acts, x.x.bs.length ≤ 140737488351232) :
    Calls Try.prog 4 #[.int .i64 (m : Int), .slice a0 len cap] w fun e w' => e = .returned (.bool true) ∧ Kept [] w w' := by
  have q1 := new_any m h1 h2 w
  have h3 : ¬ ((80 : Int) < (len : Int)) := by omega
  have hmi : (m : Int) ≤ 64 := by omega
  go_enter Try.func4, Try.ntmps4
  go_wp2_with (first
    | (go_at_call 7; refine q1.mono ?_; rintro e w1 ⟨rfl, hO1, hs1, hk1⟩; replace hs1 : Hid _ := hs1))
  clear q1 hs1
  obtain ⟨o, ho⟩ : ∃ o, w.heap.size = o := ⟨_, rfl⟩
  have ho' : Hid (w.heap.size = o) := ho
  have hO0 : OutAt w1 w.heap.size o none (made m) := ho ▸ hO1
  rw [ho]
  clear ho hO1
  go_loopw [33, 7, 8, 9] (fun i x y z wr => ∃ (j g a p : Nat) (s : Ob) (gr : Option Nat), j ≤ len ∧ i = .int .i64 j ∧ x = .int .i64 (g : Int) ∧ y = .int .i64 (a : Int) ∧ z = .int .i64 (p : Int) ∧ Gone s g a p ∧ Hid (p ≤ j) ∧ Hid (s.w = m) ∧ OutAt wr w.heap.size o gr s ∧ Kept [] w wr) (fun i _ _ _ _ => len - (RowKit.intOf i).toNat)
  case atStart => exact ⟨0, 0, 0, 0, made m, none, by omega, rfl, rfl, rfl, rfl, gone_made m, Nat.le_refl _, rfl, hO0, hk1⟩
  case round =>
    obtain ⟨j, g, a, p, s, gr, hj, rfl, rfl, rfl, rfl, hG, hpj, hw, hO, hk⟩ := hrel
    clear hO0 hk1
    by_cases hlt : j < len
    · obtain ⟨⟨b, n, x⟩, hx, hok, ab, ao, rfl, hac, y0, y1, y2⟩ := (hacts.kept (Nat.le_refl _) hk (by simp)).at j hlt
      have hxb : Hid (x.bs.length ≤ 140737488351232) := hbig _ (List.mem_of_getElem? hx)
      obtain ⟨len0, hxA⟩ := hok
      dsimp only at len0 hxA y0 y1 y2
      have kA := kept_alloc [] wr (.cells #[.bool b, .int .i64 n, .slice x.sa x.len x.cap] 33)
      have hbA := blk_new wr 33 #[.bool b, .int .i64 n, .slice x.sa x.len x.cap]
      have i1 : (j : Int) < (len : Int) := by omega
      have i2 : (j : Int) < (cap : Int) := by omega
      have hm1 : Hid (len - (j + 1) < len - j) := by show _ < _; omega
      have hj1 : Hid (j + 1 ≤ len) := hlt
      have hsm := hG.small
      have hpj' := hpj.out
      have b1 : (g : Int) ≤ 80 := by omega
      have b2 : (a : Int) ≤ 80 := by omega
      have b3 : (p : Int) ≤ 80 := by omega
      have hss : Hid (s.n + s.l.length ≤ 999999) := (by show _ ≤ _; have := hG.first; have := hG.len; omega)
      have hss' : Hid (s.n + s.l.length ≤ 1000000) := (by show _ ≤ _; have := hG.first; have := hG.len; omega)
      have hO1 := hO.kept0 kA
      have hkA := hk.trans kA
      have hxB : Hid (ByteRow w.heap.size (wr.alloc (.cells #[.bool b, .int .i64 n, .slice x.sa x.len x.cap] 33)) (.slice x.sa x.len x.cap) x.bs) := hxA.kept hk.size kA (by simp)
      have hwsz : Hid (w.heap.size ≤ (wr.alloc (.cells #[.bool b, .int .i64 n, .slice x.sa x.len x.cap] 33)).heap.size) := hkA.size
      have hlo : Hid (wr.heap.size ∉ (o :: gr.toList)) := (by
        show ¬ _
        intro hm
        have h5 := hO.lt
        rcases List.mem_cons.1 hm with e | e
        · omega
        · have := (h5.2 _ (by simpa using e)).2.1
          omega)
      have z1 : (wr.alloc (.cells #[.bool b, .int .i64 n, .slice x.sa x.len x.cap] 33)).cell? ⟨wr.heap.size, 1, none⟩ = some (.int .i64 n) := (hbA.cell 1).trans rfl
      clear hacts hbig hx hxA hsm hpj' hO hk hlt hj
      cases b with
      | true =>
        have qa := acked_any _ hO1 hss'.out n
        by_cases hon : (a : Int) < n ∧ n ≤ (g : Int)
        · obtain ⟨o1, o2⟩ := hon
          obtain ⟨N, rfl⟩ : ∃ N : Nat, n = (N : Int) := ⟨n.toNat, by omega⟩
          obtain ⟨k, hL, hG5⟩ := hG.acked (n := N) (by omega) (by omega)
          rw [hL] at qa
          have hw5 : Hid ((s.ack (N : Int)).w = m) := (ack_w s _).trans hw.out
          have o1' : (a : Int) < (N : Int) := o1
          have b4 : (N : Int) ≤ 80 := by omega
          clear hL hG hw
          generalize s.ack (N : Int) = s5 at *
          have hlen3 : Hid ((nums (g + 1) k).length ≤ 1000000) := (by show _ ≤ _; rw [nums_length]; have := hG5.small; have := hpj.out; omega)
          go_wp2_with (first
            | (go_at_call 10; refine qa.mono ?_; rintro e w3 ⟨v3, rfl, hN3, hO3, hk3⟩; have z1 : w3.cell? ⟨wr.heap.size, 1, none⟩ = some (.int .i64 (N : Int)) := ((hbA.kept hk3 hlo.out).cell 1).trans rfl; have hk30 := hO1.young hkA (Nat.le_refl _) hk3; replace hN3 : Hid _ := hN3)
            | (at_builtin; refine wpList_append_nums rfl _ _ rfl _ v3 _ rfl rfl hN3.out hlen3.out ?_; intro sa5 k5 cap5 w5 hN5 hk45; have z1 : w5.cell? ⟨wr.heap.size, 1, none⟩ = some (.int .i64 (N : Int)) := (((hbA.kept hk3 hlo.out).kept hk45 (by simp)).cell 1).trans rfl))
          have hk5 := hk30.trans hk45
          have hO5 := hO3.kept0 hk45
          clear hk3 hk45 hO3 hN3 hO1 hkA hk30 hbA qa
          obtain ⟨sa6, cap6', e6, -⟩ := hN5.slice
          rw [nums_length] at e6
          have hk5e : k = k5 := (by injection e6 with _ e7 _; exact e7.symm)
          subst hk5e
          replace hN5 : Hid (NRow w3.heap.size w5 (.slice sa5 k cap5) (nums (g + 1) k)) := hN5
          clear e6
          obtain ⟨G5, hGe0⟩ : ∃ G5, g + k = G5 := ⟨_, rfl⟩
          rw [hGe0] at hG5
          have hGe : Hid (g + k = G5) := hGe0
          have hpj5 : Hid (p ≤ j + 1) := Nat.le_succ_of_le hpj.out
          clear hGe0 z1
          have hfi := hG5.fine
          rw [hw5.out] at hfi
          have hsm5 := hG5.small
          have hpp := hpj5.out
          have hle5 : len ≤ 80 := hl
          obtain ⟨f1, f2, f3, f4⟩ := hfi
          have t1 : ¬ ((N : Int) + (m : Int) < (G5 : Int)) := by omega
          have t2 : ¬ ((p : Int) < (G5 : Int)) := by omega
          obtain ⟨A6, a6, cap6, P6, hn6, hR6, -, -, -, -, -, -⟩ := hO5.three
          have ql := len_any w5 hR6 hO5.pos
          obtain ⟨L5, hL5⟩ : ∃ L5, s5.l.length = L5 := ⟨_, rfl⟩
          rw [hL5] at ql f4
          have t4 : ((L5 : Int) != (p : Int) - (N : Int)) = false := (by simp; omega)
          have t5 : (p : Int) ≤ 80 := by omega
          have t6 : (N : Int) ≤ 80 := by omega
          have t7 : (G5 : Int) ≤ 80 := by omega
          have t8 : Hid (k ≤ 80) := (by show _ ≤ _; have := hGe.out; omega)
          have hend : ∀ W, Kept [] w5 W → ∃ (j' g' a' p' : Nat) (s' : Ob) (gr' : Option Nat), Hid (j' = j + 1) ∧ Hid (g' = G5) ∧ Hid (a' = N) ∧ Hid (p' = p) ∧ Gone s' g' a' p' ∧ Hid (p' ≤ j') ∧ Hid (s'.w = m) ∧ OutAt W w.heap.size o gr' s' ∧ Kept [] w W := fun W hW => ⟨j + 1, G5, N, p, s5, gr, rfl, rfl, rfl, rfl, hG5, hpj5, hw5, hO5.kept0 hW, hk5.trans hW⟩
          have t3 : Hid (G5 < p → ((G5 : Int) != (N : Int) + (m : Int)) = false) := (by show _ → _; intro h; simp; have := f3 h; omega)
          replace hend : Hid _ := hend
          clear f1 f2 f3 f4 hL5 hn6 hR6 hsm5 hpp hle5
          obtain ⟨wo, rfl⟩ : ∃ wo, wo = wr := ⟨_, rfl⟩
          go_loopw [7, 77] (fun q i wr => ∃ (t y : Nat), t ≤ k ∧ Hid (y = g + t) ∧ i = .int .i64 t ∧ q = .int .i64 (y : Int) ∧ wr = w5) (fun _ i _ => k - (RowKit.intOf i).toNat)
          case atStart => exact ⟨0, g, by omega, rfl, rfl, rfl, rfl⟩
          case round =>
            obtain ⟨t, y, ht, hy, rfl, rfl, rfl⟩ := hrel
            have hyo := hy.out
            have t8' := t8.out
            have y1 : (y : Int) ≤ 1000 := by omega
            by_cases htk : t < k
            · obtain ⟨u, hu⟩ : ∃ u, g + 1 + t = u := ⟨_, rfl⟩
              obtain ⟨g6, e6, _, _, hcu⟩ := hN5.out.at t u (by rw [nums_get (g + 1) k t htk, hu])
              subst e6
              have it1 : (t : Int) < (k : Int) := by omega
              have it2 : (0 : Int) ≤ (t : Int) := by omega
              have it3 : (k : Int) ≤ 80 := by omega
              have hne : ((u : Int) != (y : Int) + 1) = false := (by simp; omega)
              have hm2 : Hid (k - (t + 1) < k - t) := by show _ < _; omega
              have ht1 : Hid (t + 1 ≤ k) := htk
              have hu1 : Hid (u = g + (t + 1)) := (by show _ = _; omega)
              clear hu htk ht hyo t8' hend ql
              go_wp2
              go_roundw
              case rel => exact ⟨t + 1, u, ht1.out, hu1.out, by go_num, rfl, trivial⟩
              case measure => simpa [RowKit.intOf] using hm2.out
            · have hyG : y = G5 := (by have := hGe.out; omega)
              subst hyG
              have it1 : ¬ (t : Int) < (k : Int) := by omega
              have htk' : t = k := by omega
              clear htk ht hyo t8' hy
              by_cases hgp : (y : Int) < (p : Int)
              · have t3' := t3.out (by omega)
                go_wp2_with (first
                  | (go_at_call 16; refine ql.mono ?_; rintro e wr ⟨rfl, rfl⟩))
                obtain ⟨j', g', a', p', s', gr', r1, r2, r3, r4, r5, r6, r7, r8, r9⟩ := hend.out _ (Kept.refl _ _)
                go_roundw
                case rel => exact ⟨j', g', a', p', s', gr', by have := r1.out; have := hj1.out; omega, by rw [r1.out]; go_num, by rw [r2.out], by rw [r3.out], by rw [r4.out], r5, r6, r7, r8, r9⟩
                case measure => simpa [RowKit.intOf] using hm1.out
              · go_wp2_with (first
                  | (go_at_call 16; refine ql.mono ?_; rintro e wr ⟨rfl, rfl⟩))
                obtain ⟨j', g', a', p', s', gr', r1, r2, r3, r4, r5, r6, r7, r8, r9⟩ := hend.out _ (Kept.refl _ _)
                go_roundw
                case rel => exact ⟨j', g', a', p', s', gr', by have := r1.out; have := hj1.out; omega, by rw [r1.out]; go_num, by rw [r2.out], by rw [r3.out], by rw [r4.out], r5, r6, r7, r8, r9⟩
                case measure => simpa [RowKit.intOf] using hm1.out
        · obtain ⟨hL, hS⟩ := hG.not_acked hon
          rw [hL, hS] at qa
          have hon' : ¬ (a : Int) < n ∨ ¬ n ≤ (g : Int) := (by omega)
          clear hL hS
          by_cases hon1 : (a : Int) < n
          · have hon2 : ¬ n ≤ (g : Int) := (by omega)
            clear hon hon'
            have hlen3 : Hid (([] : List Nat).length ≤ 1000000) := Nat.zero_le _
            go_wp2_with (first
              | (go_at_call 10; refine qa.mono ?_; rintro e w3 ⟨v3, rfl, hN3, hO3, hk3⟩; have z1 : w3.cell? ⟨wr.heap.size, 1, none⟩ = some (.int .i64 n) := ((hbA.kept hk3 hlo.out).cell 1).trans rfl; have hk30 := hO1.young hkA (Nat.le_refl _) hk3; replace hN3 : Hid _ := hN3)
              | (at_builtin; refine wpList_append_nums rfl _ _ rfl _ v3 _ rfl rfl hN3.out hlen3.out ?_; intro sa5 k5 cap5 w5 hN5 hk45; have z1 : w5.cell? ⟨wr.heap.size, 1, none⟩ = some (.int .i64 n) := (((hbA.kept hk3 hlo.out).kept hk45 (by simp)).cell 1).trans rfl))
            have hk5 := hk30.trans hk45
            have hO5 := hO3.kept0 hk45
            clear hk3 hk45 hO3 hN3 hO1 hkA hk30 hbA qa
            obtain ⟨sa6, cap6', e6, -⟩ := hN5.slice
            have hk5e : 0 = k5 := (by injection e6 with _ e7 _; exact e7.symm)
            subst hk5e
            replace hN5 : Hid (NRow w3.heap.size w5 (.slice sa5 0 cap5) (nums (g + 1) 0)) := hN5
            clear e6
            have hGe : Hid (g + 0 = g) := rfl
            have hpj5 : Hid (p ≤ j + 1) := Nat.le_succ_of_le hpj.out
            have hG5 := hG
            have hw5 := hw
            clear z1 hG hw
            have hfi := hG5.fine
            rw [hw5.out] at hfi
            have hsm5 := hG5.small
            have hpp := hpj5.out
            have hle5 : len ≤ 80 := hl
            obtain ⟨f1, f2, f3, f4⟩ := hfi
            have t1 : ¬ ((a : Int) + (m : Int) < (g : Int)) := by omega
            have t2 : ¬ ((p : Int) < (g : Int)) := by omega
            obtain ⟨A6, a6, cap6, P6, hn6, hR6, -, -, -, -, -, -⟩ := hO5.three
            have ql := len_any w5 hR6 hO5.pos
            obtain ⟨L5, hL5⟩ : ∃ L5, s.l.length = L5 := ⟨_, rfl⟩
            rw [hL5] at ql f4
            have t4 : ((L5 : Int) != (p : Int) - (a : Int)) = false := (by simp; omega)
            have t5 : (p : Int) ≤ 80 := by omega
            have t6 : (a : Int) ≤ 80 := by omega
            have t7 : (g : Int) ≤ 80 := by omega
            have t8 : Hid (0 ≤ 80) := (by show _ ≤ _; have := hGe.out; omega)
            have hend : ∀ W, Kept [] w5 W → ∃ (j' g' a' p' : Nat) (s' : Ob) (gr' : Option Nat), Hid (j' = j + 1) ∧ Hid (g' = g) ∧ Hid (a' = a) ∧ Hid (p' = p) ∧ Gone s' g' a' p' ∧ Hid (p' ≤ j') ∧ Hid (s'.w = m) ∧ OutAt W w.heap.size o gr' s' ∧ Kept [] w W := fun W hW => ⟨j + 1, g, a, p, s, gr, rfl, rfl, rfl, rfl, hG5, hpj5, hw5, hO5.kept0 hW, hk5.trans hW⟩
            have t3 : Hid (g < p → ((g : Int) != (a : Int) + (m : Int)) = false) := (by show _ → _; intro h; simp; have := f3 h; omega)
            replace hend : Hid _ := hend
            clear f1 f2 f3 f4 hL5 hn6 hR6 hsm5 hpp hle5
            obtain ⟨wo, rfl⟩ : ∃ wo, wo = wr := ⟨_, rfl⟩
            go_loopw [7, 77] (fun q i wr => ∃ (t y : Nat), t ≤ 0 ∧ Hid (y = g + t) ∧ i = .int .i64 t ∧ q = .int .i64 (y : Int) ∧ wr = w5) (fun _ i _ => 0 - (RowKit.intOf i).toNat)
            case atStart => exact ⟨0, g, by omega, rfl, rfl, rfl, rfl⟩
            case round =>
              obtain ⟨t, y, ht, hy, rfl, rfl, rfl⟩ := hrel
              have hyo := hy.out
              have t8' := t8.out
              have y1 : (y : Int) ≤ 1000 := by omega
              by_cases htk : t < 0
              · exact absurd htk (Nat.not_lt_zero _)
              · have hyG : y = g := (by have := hGe.out; omega)
                subst hyG
                have it1 : ¬ (t : Int) < (0 : Int) := by omega
                have htk' : t = 0 := by omega
                clear htk ht hyo t8' hy
                by_cases hgp : (y : Int) < (p : Int)
                · have t3' := t3.out (by omega)
                  go_wp2_with (first
                    | (go_at_call 16; refine ql.mono ?_; rintro e wr ⟨rfl, rfl⟩))
                  obtain ⟨j', g', a', p', s', gr', r1, r2, r3, r4, r5, r6, r7, r8, r9⟩ := hend.out _ (Kept.refl _ _)
                  go_roundw
                  case rel => exact ⟨j', g', a', p', s', gr', by have := r1.out; have := hj1.out; omega, by rw [r1.out]; go_num, by rw [r2.out], by rw [r3.out], by rw [r4.out], r5, r6, r7, r8, r9⟩
                  case measure => simpa [RowKit.intOf] using hm1.out
                · go_wp2_with (first
                    | (go_at_call 16; refine ql.mono ?_; rintro e wr ⟨rfl, rfl⟩))
                  obtain ⟨j', g', a', p', s', gr', r1, r2, r3, r4, r5, r6, r7, r8, r9⟩ := hend.out _ (Kept.refl _ _)
                  go_roundw
                  case rel => exact ⟨j', g', a', p', s', gr', by have := r1.out; have := hj1.out; omega, by rw [r1.out]; go_num, by rw [r2.out], by rw [r3.out], by rw [r4.out], r5, r6, r7, r8, r9⟩
                  case measure => simpa [RowKit.intOf] using hm1.out
          · clear hon hon'
            have hlen3 : Hid (([] : List Nat).length ≤ 1000000) := Nat.zero_le _
            go_wp2_with (first
              | (go_at_call 10; refine qa.mono ?_; rintro e w3 ⟨v3, rfl, hN3, hO3, hk3⟩; have z1 : w3.cell? ⟨wr.heap.size, 1, none⟩ = some (.int .i64 n) := ((hbA.kept hk3 hlo.out).cell 1).trans rfl; have hk30 := hO1.young hkA (Nat.le_refl _) hk3; replace hN3 : Hid _ := hN3)
              | (at_builtin; refine wpList_append_nums rfl _ _ rfl _ v3 _ rfl rfl hN3.out hlen3.out ?_; intro sa5 k5 cap5 w5 hN5 hk45; have z1 : w5.cell? ⟨wr.heap.size, 1, none⟩ = some (.int .i64 n) := (((hbA.kept hk3 hlo.out).kept hk45 (by simp)).cell 1).trans rfl))
            have hk5 := hk30.trans hk45
            have hO5 := hO3.kept0 hk45
            clear hk3 hk45 hO3 hN3 hO1 hkA hk30 hbA qa
            obtain ⟨sa6, cap6', e6, -⟩ := hN5.slice
            have hk5e : 0 = k5 := (by injection e6 with _ e7 _; exact e7.symm)
            subst hk5e
            replace hN5 : Hid (NRow w3.heap.size w5 (.slice sa5 0 cap5) (nums (g + 1) 0)) := hN5
            clear e6
            have hGe : Hid (g + 0 = g) := rfl
            have hpj5 : Hid (p ≤ j + 1) := Nat.le_succ_of_le hpj.out
            have hG5 := hG
            have hw5 := hw
            clear z1 hG hw
            have hfi := hG5.fine
            rw [hw5.out] at hfi
            have hsm5 := hG5.small
            have hpp := hpj5.out
            have hle5 : len ≤ 80 := hl
            obtain ⟨f1, f2, f3, f4⟩ := hfi
            have t1 : ¬ ((a : Int) + (m : Int) < (g : Int)) := by omega
            have t2 : ¬ ((p : Int) < (g : Int)) := by omega
            obtain ⟨A6, a6, cap6, P6, hn6, hR6, -, -, -, -, -, -⟩ := hO5.three
            have ql := len_any w5 hR6 hO5.pos
            obtain ⟨L5, hL5⟩ : ∃ L5, s.l.length = L5 := ⟨_, rfl⟩
            rw [hL5] at ql f4
            have t4 : ((L5 : Int) != (p : Int) - (a : Int)) = false := (by simp; omega)
            have t5 : (p : Int) ≤ 80 := by omega
            have t6 : (a : Int) ≤ 80 := by omega
            have t7 : (g : Int) ≤ 80 := by omega
            have t8 : Hid (0 ≤ 80) := (by show _ ≤ _; have := hGe.out; omega)
            have hend : ∀ W, Kept [] w5 W → ∃ (j' g' a' p' : Nat) (s' : Ob) (gr' : Option Nat), Hid (j' = j + 1) ∧ Hid (g' = g) ∧ Hid (a' = a) ∧ Hid (p' = p) ∧ Gone s' g' a' p' ∧ Hid (p' ≤ j') ∧ Hid (s'.w = m) ∧ OutAt W w.heap.size o gr' s' ∧ Kept [] w W := fun W hW => ⟨j + 1, g, a, p, s, gr, rfl, rfl, rfl, rfl, hG5, hpj5, hw5, hO5.kept0 hW, hk5.trans hW⟩
            have t3 : Hid (g < p → ((g : Int) != (a : Int) + (m : Int)) = false) := (by show _ → _; intro h; simp; have := f3 h; omega)
            replace hend : Hid _ := hend
            clear f1 f2 f3 f4 hL5 hn6 hR6 hsm5 hpp hle5
            obtain ⟨wo, rfl⟩ : ∃ wo, wo = wr := ⟨_, rfl⟩
            go_loopw [7, 77] (fun q i wr => ∃ (t y : Nat), t ≤ 0 ∧ Hid (y = g + t) ∧ i = .int .i64 t ∧ q = .int .i64 (y : Int) ∧ wr = w5) (fun _ i _ => 0 - (RowKit.intOf i).toNat)
            case atStart => exact ⟨0, g, by omega, rfl, rfl, rfl, rfl⟩
            case round =>
              obtain ⟨t, y, ht, hy, rfl, rfl, rfl⟩ := hrel
              have hyo := hy.out
              have t8' := t8.out
              have y1 : (y : Int) ≤ 1000 := by omega
              by_cases htk : t < 0
              · exact absurd htk (Nat.not_lt_zero _)
              · have hyG : y = g := (by have := hGe.out; omega)
                subst hyG
                have it1 : ¬ (t : Int) < (0 : Int) := by omega
                have htk' : t = 0 := by omega
                clear htk ht hyo t8' hy
                by_cases hgp : (y : Int) < (p : Int)
                · have t3' := t3.out (by omega)
                  go_wp2_with (first
                    | (go_at_call 16; refine ql.mono ?_; rintro e wr ⟨rfl, rfl⟩))
                  obtain ⟨j', g', a', p', s', gr', r1, r2, r3, r4, r5, r6, r7, r8, r9⟩ := hend.out _ (Kept.refl _ _)
                  go_roundw
                  case rel => exact ⟨j', g', a', p', s', gr', by have := r1.out; have := hj1.out; omega, by rw [r1.out]; go_num, by rw [r2.out], by rw [r3.out], by rw [r4.out], r5, r6, r7, r8, r9⟩
                  case measure => simpa [RowKit.intOf] using hm1.out
                · go_wp2_with (first
                    | (go_at_call 16; refine ql.mono ?_; rintro e wr ⟨rfl, rfl⟩))
                  obtain ⟨j', g', a', p', s', gr', r1, r2, r3, r4, r5, r6, r7, r8, r9⟩ := hend.out _ (Kept.refl _ _)
                  go_roundw
                  case rel => exact ⟨j', g', a', p', s', gr', by have := r1.out; have := hj1.out; omega, by rw [r1.out]; go_num, by rw [r2.out], by rw [r3.out], by rw [r4.out], r5, r6, r7, r8, r9⟩
                  case measure => simpa [RowKit.intOf] using hm1.out
      | false =>
        have hpn := hG.pushN
        obtain ⟨p1, hp1⟩ : ∃ p1, p + 1 = p1 := ⟨_, rfl⟩
        rw [hp1] at hpn
        have hp2 : (p : Int) + 1 = (p1 : Int) := by omega
        have hp3 : (p1 : Int) ≤ 81 := by omega
        have hp4 : IntKind.i64.wrap (p1 : Int) = (p1 : Int) := (by rw [IntKind.wrap_i64]; omega)
        have hw5 : Hid ((s.push x.bs).w = m) := (push_w s _).trans hw.out
        have qp := push_any _ hO1 hss.out (.slice x.sa x.len x.cap) _ x.bs hxB.out hwsz.out hxb.out
        rw [hpn] at qp
        cases hpb : s.pushB with
        | true =>
          obtain ⟨hG5, hpg⟩ := hG.push_goes x.bs hpb
          rw [hp1] at hG5 hpg
          have hpg' : Hid (p1 = g + 1) := hpg
          clear hpg
          rw [hpb] at qp
          clear hpb hpn
          have hpj5 : Hid (p1 ≤ j + 1) := (by show _ ≤ _; have := hpj.out; omega)
          clear hG hw hp1
          generalize s.push x.bs = s5 at *
          have hc1 : ∀ W : World, Hid ((W.alloc (.cells #[.int .i64 (p1 : Int)] 3)).cell? ⟨W.heap.size, 0, none⟩ = some (.int .i64 (p1 : Int))) := fun W => cell_one_new _ _ _ 0 _ rfl
          go_wp2_with (first
            | (go_at_call 12; refine qp.mono ?_; rintro e w3 ⟨rfl, gr3, hO3, hk3, -⟩; have hk30 := hO1.young hkA (Nat.le_refl _) hk3)
            | (at_builtin; refine wpList_append_first rfl _ _ rfl p1 w3.heap.size rfl rfl (hc1 w3).out ?_; intro sa5 cap5 w5 hN5x hk45))
          have hk35 : Kept [] w3 w5 := (kept_alloc [] w3 _).trans hk45
          have hk5 := hk30.trans hk35
          have hO5 := hO3.kept0 hk35
          obtain ⟨G5, hGe0⟩ : ∃ G5, g + 1 = G5 := ⟨_, rfl⟩
          have hGe : Hid (g + 1 = G5) := hGe0
          have hN5 : Hid (NRow w3.heap.size w5 (.slice sa5 1 cap5) (nums (g + 1) 1)) := (by show NRow _ _ _ _; rw [← hpg'.out]; exact hN5x.mono (by simp))
          rw [hGe0] at hG5
          clear hk35 hk45 hk3 hO3 hO1 hkA hk30 hbA qp hN5x hc1 hGe0 hpg' z1
          have hfi := hG5.fine
          rw [hw5.out] at hfi
          have hsm5 := hG5.small
          have hpp := hpj5.out
          have hle5 : len ≤ 80 := hl
          obtain ⟨f1, f2, f3, f4⟩ := hfi
          have t1 : ¬ ((a : Int) + (m : Int) < (G5 : Int)) := by omega
          have t2 : ¬ ((p1 : Int) < (G5 : Int)) := by omega
          obtain ⟨A6, a6, cap6, P6, hn6, hR6, -, -, -, -, -, -⟩ := hO5.three
          have ql := len_any w5 hR6 hO5.pos
          obtain ⟨L5, hL5⟩ : ∃ L5, s5.l.length = L5 := ⟨_, rfl⟩
          rw [hL5] at ql f4
          have t4 : ((L5 : Int) != (p1 : Int) - (a : Int)) = false := (by simp; omega)
          have t5 : (p1 : Int) ≤ 80 := by omega
          have t6 : (a : Int) ≤ 80 := by omega
          have t7 : (G5 : Int) ≤ 80 := by omega
          have t8 : Hid (1 ≤ 80) := (by show _ ≤ _; have := hGe.out; omega)
          have hend : ∀ W, Kept [] w5 W → ∃ (j' g' a' p' : Nat) (s' : Ob) (gr' : Option Nat), Hid (j' = j + 1) ∧ Hid (g' = G5) ∧ Hid (a' = a) ∧ Hid (p' = p1) ∧ Gone s' g' a' p' ∧ Hid (p' ≤ j') ∧ Hid (s'.w = m) ∧ OutAt W w.heap.size o gr' s' ∧ Kept [] w W := fun W hW => ⟨j + 1, G5, a, p1, s5, gr3, rfl, rfl, rfl, rfl, hG5, hpj5, hw5, hO5.kept0 hW, hk5.trans hW⟩
          have t3 : Hid (G5 < p1 → ((G5 : Int) != (a : Int) + (m : Int)) = false) := (by show _ → _; intro h; simp; have := f3 h; omega)
          replace hend : Hid _ := hend
          clear f1 f2 f3 f4 hL5 hn6 hR6 hsm5 hpp hle5
          obtain ⟨wo, rfl⟩ : ∃ wo, wo = wr := ⟨_, rfl⟩
          go_loopw [7, 77] (fun q i wr => ∃ (t y : Nat), t ≤ 1 ∧ Hid (y = g + t) ∧ i = .int .i64 t ∧ q = .int .i64 (y : Int) ∧ wr = w5) (fun _ i _ => 1 - (RowKit.intOf i).toNat)
          case atStart => exact ⟨0, g, by omega, rfl, rfl, rfl, rfl⟩
          case round =>
            obtain ⟨t, y, ht, hy, rfl, rfl, rfl⟩ := hrel
            have hyo := hy.out
            have t8' := t8.out
            have y1 : (y : Int) ≤ 1000 := by omega
            by_cases htk : t < 1
            · obtain ⟨u, hu⟩ : ∃ u, g + 1 + t = u := ⟨_, rfl⟩
              obtain ⟨g6, e6, _, _, hcu⟩ := hN5.out.at t u (by rw [nums_get (g + 1) 1 t htk, hu])
              subst e6
              have it1 : (t : Int) < (1 : Int) := by omega
              have it2 : (0 : Int) ≤ (t : Int) := by omega
              have it3 : (1 : Int) ≤ 80 := by omega
              have hne : ((u : Int) != (y : Int) + 1) = false := (by simp; omega)
              have hm2 : Hid (1 - (t + 1) < 1 - t) := by show _ < _; omega
              have ht1 : Hid (t + 1 ≤ 1) := htk
              have hu1 : Hid (u = g + (t + 1)) := (by show _ = _; omega)
              clear hu htk ht hyo t8' hend ql
              go_wp2
              go_roundw
              case rel => exact ⟨t + 1, u, ht1.out, hu1.out, by go_num, rfl, trivial⟩
              case measure => simpa [RowKit.intOf] using hm2.out
            · have hyG : y = G5 := (by have := hGe.out; omega)
              subst hyG
              have it1 : ¬ (t : Int) < (1 : Int) := by omega
              have htk' : t = 1 := by omega
              clear htk ht hyo t8' hy
              by_cases hgp : (y : Int) < (p1 : Int)
              · have t3' := t3.out (by omega)
                go_wp2_with (first
                  | (go_at_call 16; refine ql.mono ?_; rintro e wr ⟨rfl, rfl⟩))
                obtain ⟨j', g', a', p', s', gr', r1, r2, r3, r4, r5, r6, r7, r8, r9⟩ := hend.out _ (Kept.refl _ _)
                go_roundw
                case rel => exact ⟨j', g', a', p', s', gr', by have := r1.out; have := hj1.out; omega, by rw [r1.out]; go_num, by rw [r2.out], by rw [r3.out], by rw [r4.out], r5, r6, r7, r8, r9⟩
                case measure => simpa [RowKit.intOf] using hm1.out
              · go_wp2_with (first
                  | (go_at_call 16; refine ql.mono ?_; rintro e wr ⟨rfl, rfl⟩))
                obtain ⟨j', g', a', p', s', gr', r1, r2, r3, r4, r5, r6, r7, r8, r9⟩ := hend.out _ (Kept.refl _ _)
                go_roundw
                case rel => exact ⟨j', g', a', p', s', gr', by have := r1.out; have := hj1.out; omega, by rw [r1.out]; go_num, by rw [r2.out], by rw [r3.out], by rw [r4.out], r5, r6, r7, r8, r9⟩
                case measure => simpa [RowKit.intOf] using hm1.out
        | false =>
          have hG5 := hG.push_waits x.bs hpb
          rw [hp1] at hG5
          rw [hpb] at qp
          clear hpb hpn
          have hpj5 : Hid (p1 ≤ j + 1) := (by show _ ≤ _; have := hpj.out; omega)
          clear hG hw hp1
          generalize s.push x.bs = s5 at *
          go_wp2_with (first
            | (go_at_call 12; refine qp.mono ?_; rintro e w3 ⟨rfl, gr3, hO3, hk3, -⟩; have hk30 := hO1.young hkA (Nat.le_refl _) hk3))
          have hk5 := hk30
          have hO5 := hO3
          have hGe : Hid (g + 0 = g) := rfl
          have hN5 : Hid (NRow w3.heap.size w3 (.slice none 0 0) (nums (g + 1) 0)) := NRow.nil _ _
          clear hk3 hO3 hO1 hkA hk30 hbA qp z1
          obtain ⟨w5, rfl⟩ : ∃ w5, w5 = w3 := ⟨_, rfl⟩
          have hfi := hG5.fine
          rw [hw5.out] at hfi
          have hsm5 := hG5.small
          have hpp := hpj5.out
          have hle5 : len ≤ 80 := hl
          obtain ⟨f1, f2, f3, f4⟩ := hfi
          have t1 : ¬ ((a : Int) + (m : Int) < (g : Int)) := by omega
          have t2 : ¬ ((p1 : Int) < (g : Int)) := by omega
          obtain ⟨A6, a6, cap6, P6, hn6, hR6, -, -, -, -, -, -⟩ := hO5.three
          have ql := len_any w5 hR6 hO5.pos
          obtain ⟨L5, hL5⟩ : ∃ L5, s5.l.length = L5 := ⟨_, rfl⟩
          rw [hL5] at ql f4
          have t4 : ((L5 : Int) != (p1 : Int) - (a : Int)) = false := (by simp; omega)
          have t5 : (p1 : Int) ≤ 80 := by omega
          have t6 : (a : Int) ≤ 80 := by omega
          have t7 : (g : Int) ≤ 80 := by omega
          have t8 : Hid (0 ≤ 80) := (by show _ ≤ _; have := hGe.out; omega)
          have hend : ∀ W, Kept [] w5 W → ∃ (j' g' a' p' : Nat) (s' : Ob) (gr' : Option Nat), Hid (j' = j + 1) ∧ Hid (g' = g) ∧ Hid (a' = a) ∧ Hid (p' = p1) ∧ Gone s' g' a' p' ∧ Hid (p' ≤ j') ∧ Hid (s'.w = m) ∧ OutAt W w.heap.size o gr' s' ∧ Kept [] w W := fun W hW => ⟨j + 1, g, a, p1, s5, gr3, rfl, rfl, rfl, rfl, hG5, hpj5, hw5, hO5.kept0 hW, hk5.trans hW⟩
          have t3 : Hid (g < p1 → ((g : Int) != (a : Int) + (m : Int)) = false) := (by show _ → _; intro h; simp; have := f3 h; omega)
          replace hend : Hid _ := hend
          clear f1 f2 f3 f4 hL5 hn6 hR6 hsm5 hpp hle5
          obtain ⟨wo, rfl⟩ : ∃ wo, wo = wr := ⟨_, rfl⟩
          go_loopw [7, 77] (fun q i wr => ∃ (t y : Nat), t ≤ 0 ∧ Hid (y = g + t) ∧ i = .int .i64 t ∧ q = .int .i64 (y : Int) ∧ wr = w5) (fun _ i _ => 0 - (RowKit.intOf i).toNat)
          case atStart => exact ⟨0, g, by omega, rfl, rfl, rfl, rfl⟩
          case round =>
            obtain ⟨t, y, ht, hy, rfl, rfl, rfl⟩ := hrel
            have hyo := hy.out
            have t8' := t8.out
            have y1 : (y : Int) ≤ 1000 := by omega
            by_cases htk : t < 0
            · exact absurd htk (Nat.not_lt_zero _)
            · have hyG : y = g := (by have := hGe.out; omega)
              subst hyG
              have it1 : ¬ (t : Int) < (0 : Int) := by omega
              have htk' : t = 0 := by omega
              clear htk ht hyo t8' hy
              by_cases hgp : (y : Int) < (p1 : Int)
              · have t3' := t3.out (by omega)
                go_wp2_with (first
                  | (go_at_call 16; refine ql.mono ?_; rintro e wr ⟨rfl, rfl⟩))
                obtain ⟨j', g', a', p', s', gr', r1, r2, r3, r4, r5, r6, r7, r8, r9⟩ := hend.out _ (Kept.refl _ _)
                go_roundw
                case rel => exact ⟨j', g', a', p', s', gr', by have := r1.out; have := hj1.out; omega, by rw [r1.out]; go_num, by rw [r2.out], by rw [r3.out], by rw [r4.out], r5, r6, r7, r8, r9⟩
                case measure => simpa [RowKit.intOf] using hm1.out
              · go_wp2_with (first
                  | (go_at_call 16; refine ql.mono ?_; rintro e wr ⟨rfl, rfl⟩))
                obtain ⟨j', g', a', p', s', gr', r1, r2, r3, r4, r5, r6, r7, r8, r9⟩ := hend.out _ (Kept.refl _ _)
                go_roundw
                case rel => exact ⟨j', g', a', p', s', gr', by have := r1.out; have := hj1.out; omega, by rw [r1.out]; go_num, by rw [r2.out], by rw [r3.out], by rw [r4.out], r5, r6, r7, r8, r9⟩
                case measure => simpa [RowKit.intOf] using hm1.out
    · obtain rfl : j = len := by omega
      have q := lives_any wr
      have i1 : ¬ ((j : Int) < (j : Int)) := by omega
      clear hacts
      go_wp2_with (go_at_call 6; refine q.mono ?_; rintro e w2 ⟨rfl, hk2⟩)
      go_ret
      exact ⟨rfl, hk.trans hk2⟩
end Go.Proofs.Ytmibcnefonmmgaa.Outbox
