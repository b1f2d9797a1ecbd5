/-
  The walk of LaterActs.
-/
import Derived.Test.YthlnhmdeoapoeaaLtY
import Derived.Test.YthlnhmdeoapoeaaLtX
namespace Go.Proofs.Ythlnhmdeoapoeaa.Later
open Go.RowKit
open Clash (Ow OwsAt)

set_option maxRecDepth 100000 in
/-- LaterActs, of too many -/
theorem acts_early (a0 : Option Addr) (len cap : Nat) (o l : Int) (hl : len ≤ 9223372036854775807) (w : World) (h : 60 < len) :
    Calls Try.prog 3 #[.slice a0 len cap, .agg #[.int .i64 o, .int .i64 l]] w fun e w' => e = .returned (.bool true) ∧ Kept [] w w' := by
  have ka := kept_alloc [] w (.cells #[.int .i64 o, .int .i64 l] 24)
  have q := lives_any (w.alloc (.cells #[.int .i64 o, .int .i64 l] 24))
  have i1 : (60 : Int) < (len : Int) := by omega
  go_enter Try.func3, Try.ntmps3
  go_wp2_with (go_at_call 6; refine q.mono ?_; rintro e w1 ⟨rfl, hk1⟩)
  go_ret
  exact ⟨rfl, ka.trans hk1⟩
set_option maxRecDepth 100000 in
set_option maxHeartbeats 8000000 in
/-- LaterActs -/
theorem acts_play (a0 : Option Addr) (len cap : Nat) (acts : List Ac) (hl : len ≤ 60) (o l : Int) (w : World) (hacts : AcsAt w.heap.size w a0 len cap acts) :
    Calls Try.prog 3 #[.slice a0 len cap, .agg #[.int .i64 o, .int .i64 l]] w fun e w' => e = .returned (.bool true) ∧ Kept [] w w' := by
  have i0 : ¬ (60 : Int) < (len : Int) := by omega
  have ka := kept_alloc [] w (.cells #[.int .i64 o, .int .i64 l] 24)
  have hb0 := blk_new w 24 #[.int .i64 o, .int .i64 l]
  have qn := new_any (w.alloc (.cells #[.int .i64 o, .int .i64 l] 24))
  have hcap : 0 < len → len ≤ cap := hacts.cap
  have hA : Hid (∀ W, Kept [] w W → AcsAt w.heap.size W a0 len cap acts) := fun W hk => hacts.kept (Nat.le_refl _) hk
  clear hacts
  go_enter Try.func3, Try.ntmps3
  go_upto_region 4 with (go_at_call 7; refine qn.mono ?_; rintro e w1 ⟨rfl, hQ1, hz1, hk1⟩; replace hz1 : Hid _ := hz1; clear qn)
  have kr := kept_alloc [] w1 (.cells #[.slice none 0 0] 31)
  have hbR := blk_new w1 31 #[.slice none 0 0]
  have hT0 : Two (w1.alloc (.cells #[.slice none 0 0] 31)) w.heap.size (w.alloc (.cells #[.int .i64 o, .int .i64 l] 24)).heap.size w1.heap.size [] [] :=
    ⟨⟨_, (hQ1.lower ka.size).kept0 kr⟩, ⟨none, ⟨⟨_, [], hbR, row_nil _ _ _, rfl, by simp⟩, (ka.trans hk1).size⟩⟩⟩
  have hS0 := (hb0.kept hk1 (by simp)).kept kr (by simp)
  have hk0 := (ka.trans hk1).trans kr
  obtain ⟨q, hq⟩ : ∃ q, (w.alloc (.cells #[.int .i64 o, .int .i64 l] 24)).heap.size = q := ⟨_, rfl⟩
  obtain ⟨r, hr⟩ : ∃ r, w1.heap.size = r := ⟨_, rfl⟩
  have hq' : w.heap.size + 1 = q := by rw [← hq]; simp
  obtain ⟨W0, hW0⟩ : ∃ W0, w1.alloc (.cells #[.slice none 0 0] 31) = W0 := ⟨_, rfl⟩
  rw [hq, hr] at hT0
  rw [hW0] at hT0 hS0 hk0
  try rw [hW0]
  try rw [hq]
  try rw [hq']
  try rw [hr]
  clear hq hq' hr hW0 hQ1 hb0 hk1 kr hbR ka hz1
  go_wp2_with fail
  go_loopw [22] (fun i wr => ∃ (k : Nat) (L : List Lw), i = .int .i64 k ∧ k ≤ len ∧ Two wr w.heap.size q r L L ∧ L.length ≤ k ∧ Blk wr w.heap.size 24 #[.int .i64 o, .int .i64 l] ∧ Kept [] w wr) (fun i _ => len - (RowKit.intOf i).toNat)
  case atStart => exact ⟨0, [], rfl, Nat.zero_le _, hT0, Nat.le_refl _, hS0, hk0⟩
  case round =>
    obtain ⟨k, L, rfl, hk, hT, hLk, hS, hkr⟩ := hrel
    by_cases hlt : k < len
    · obtain ⟨x, b, off, hx, hok, rfl, d0, d1, d2, d3, d4, d5⟩ := (hA.out wr hkr).at hlt
      have i1 : (k : Int) < (len : Int) := by omega
      have i2 := hcap (by omega)
      have i3 : (k : Int) < 9223372036854775807 := by omega
      have kA := kept_alloc [] wr (.cells #[.bool x.nx, .int .i64 x.id, .int .i64 x.o, .int .i64 x.l, .slice x.sa x.len x.cap, .slice x.oa x.olen x.ocap] 35)
      have hbA := blk_new wr 35 #[.bool x.nx, .int .i64 x.id, .int .i64 x.o, .int .i64 x.l, .slice x.sa x.len x.cap, .slice x.oa x.olen x.ocap]
      have hok1 := hok.kept hkr.size kA
      have hTA := hT.kept0 kA
      have hSA := hS.kept kA (by simp)
      have hkA := hkr.trans kA
      have hm1 : Hid (len - (k + 1) < len - k) := (by show _ < _; omega)
      have hlo : w.heap.size ≤ wr.heap.size := hkr.size
      obtain ⟨A, hAe⟩ : ∃ A, wr.heap.size = A := ⟨_, rfl⟩
      rw [hAe] at hbA hlo
      by_cases hbig : 200 < x.len ∨ 40 < x.olen
      · have q := lives_any (wr.alloc (.cells #[.bool x.nx, .int .i64 x.id, .int .i64 x.o, .int .i64 x.l, .slice x.sa x.len x.cap, .slice x.oa x.olen x.ocap] 35))
        clear hAe hbA hlo
        rcases Nat.lt_or_ge 200 x.len with h2 | h2
        · have j1 : (200 : Int) < (x.len : Int) := by omega
          go_wp2_with (go_at_call 6; refine q.mono ?_; rintro e w5 ⟨rfl, hk5⟩)
          go_ret
          exact ⟨rfl, hkA.trans hk5⟩
        · have j1 : ¬ (200 : Int) < (x.len : Int) := by omega
          have j2 : (40 : Int) < (x.olen : Int) := by omega
          go_wp2_with (go_at_call 6; refine q.mono ?_; rintro e w5 ⟨rfl, hk5⟩)
          go_ret
          exact ⟨rfl, hkA.trans hk5⟩
      · have j1 : ¬ (200 : Int) < (x.len : Int) := by omega
        have j2 : ¬ (40 : Int) < (x.olen : Int) := by omega
        have hxb : Hid (x.bs.length ≤ 140737488351232) := (by show _ ≤ _; rw [hok1.blen]; omega)
        have hol : Hid (x.olen ≤ 100) := (by show _ ≤ _; omega)
        obtain ⟨nx, xid, xo, xl, xsa, xlen, xcap, xbs, xoa, xolen, xocap, XO⟩ := x
        simp only at d0 d1 d2 d3 d4 d5 hbA hok1 hTA hSA hkA hxb hol j1 j2 kA
        have cA : Hid (∀ V, Blk V A 35 #[.bool nx, .int .i64 xid, .int .i64 xo, .int .i64 xl, .slice xsa xlen xcap, .slice xoa xolen xocap] → V.cell? ⟨A, 0, none⟩ = some (.bool nx) ∧ V.cell? ⟨A, 1, none⟩ = some (.int .i64 xid) ∧ V.cell? ⟨A, 2, none⟩ = some (.int .i64 xo) ∧ V.cell? ⟨A, 3, none⟩ = some (.int .i64 xl) ∧ V.cell? ⟨A, 4, none⟩ = some (.slice xsa xlen xcap) ∧ V.cell? ⟨A, 5, none⟩ = some (.slice xoa xolen xocap)) := fun V hb => ⟨(hb.cell 0).trans rfl, (hb.cell 1).trans rfl, (hb.cell 2).trans rfl, (hb.cell 3).trans rfl, (hb.cell 4).trans rfl, (hb.cell 5).trans rfl⟩
        have hokH : Hid (∀ V, Kept [] w V → (Ac.mk nx xid xo xl xsa xlen xcap xbs xoa xolen xocap XO).Ok w.heap.size V) := fun V hv => (hA.out V hv).2.1 _ (List.mem_of_getElem? hx)
        have hw0 : Hid (∀ V, Kept [] w V → w.heap.size ≤ V.heap.size) := fun V hv => hv.size
        go_upto_region 7 with fail
        try rw [hAe]
        obtain ⟨W1, hW1⟩ : ∃ W1, wr.alloc (.cells #[.bool nx, .int .i64 xid, .int .i64 xo, .int .i64 xl, .slice xsa xlen xcap, .slice xoa xolen xocap] 35) = W1 := ⟨_, rfl⟩
        rw [hW1] at hbA hTA hSA hkA hok1
        try rw [hW1]
        obtain ⟨c0, c1, c2, c3, c4, c5⟩ := cA.out W1 hbA
        have fl : Hid (L.length ≤ 1000) := (by show _ ≤ _; omega)
        clear hW1 hAe hx hok d0 d1 d2 d3 d4 d5 hT hS hkr kA hok1
        cases nx with
        | false =>
          have qp := two_push hTA xid xo xl (by have := fl.out; omega) (.slice xsa xlen xcap) w.heap.size xbs (hokH.out W1 hkA).row (hw0.out W1 hkA) hxb.out
          go_upto_region 17 with (first
            | (go_at_call 11; refine qp.mono ?_; rintro e w3 ⟨rfl, hT3, hf3⟩; have hk3 : Kept [] w w3 := hf3.past hkA (Nat.le_refl _); have hb3 := hf3.blk _ _ _ hbA (by decide); obtain ⟨c0, c1, c2, c3, c4, c5⟩ := cA.out w3 hb3; have hS3 := hf3.blk _ _ _ hSA (by decide); have qd := two_rpush hT3 xid xo xl (by have := fl.out; omega) (.slice xsa xlen xcap) w.heap.size xbs (hokH.out w3 hk3).row (hw0.out w3 hk3) hxb.out; clear qp)
            | (go_at_call 12; refine qd.mono ?_; rintro e wc ⟨rfl, hT4, hf4⟩; have hk4 : Kept [] w wc := hf4.past hk3 (Nat.le_refl _); have hS4 := hf4.blk _ _ _ hS3 (by decide); clear qd))
          obtain ⟨L4, hL4⟩ : ∃ L4, L ++ [⟨xid, xo, xl, xbs⟩] = L4 := ⟨_, rfl⟩
          have hl4k : L4.length ≤ k + 1 := by rw [← hL4]; simp; omega
          rw [hL4] at hT4
          clear hL4 hf3 hf4 hS3 hb3 hT3 hTA hSA hbA hkA hk3
          have hl4 : L4.length ≤ 1000 := by omega
          have hlk : ∀ W, Kept [] wc W → Look W q r L4 o l := fun W hk => two_look (hT4.kept0 hk) hl4 o l
          obtain ⟨ra, rc, hrc⟩ := two_rcell hT4
          obtain ⟨n4, hn4⟩ : ∃ n, L4.length = n := ⟨_, rfl⟩
          have ql : Hid (∀ W, Kept [] wc W → Calls Try.prog 13 #[.pointer (some ⟨q, 0, none⟩)] W fun e w' => e = .returned (.int .i64 (n4 : Int)) ∧ Kept [] W w') := fun W hk => hn4 ▸ (hlk W hk).len
          obtain ⟨ob, hob⟩ : ∃ ob, overL L4 o l = ob := ⟨_, rfl⟩
          have qo : Hid (∀ W, Kept [] wc W → Calls Try.prog 14 #[.pointer (some ⟨q, 0, none⟩), .agg #[.int .i64 o, .int .i64 l]] W fun e w' => e = .returned (.bool ob) ∧ Kept [] W w') := fun W hk => hob ▸ (hlk W hk).over
          have qro : Hid (∀ W, Kept [] wc W → Calls Try.prog 15 #[.pointer (some ⟨r, 0, none⟩), .agg #[.int .i64 o, .int .i64 l]] W fun e w' => e = .returned (.bool ob) ∧ Kept [] W w') := fun W hk => hob ▸ (hlk W hk).rover
          have qs : Hid (∀ W, Kept [] wc W → Calls Try.prog 17 #[.pointer (some ⟨q, 0, none⟩)] W fun e w' => ∃ v, e = .returned v ∧ SpsAt w' v (sps L4) ∧ Kept [] W w') := fun W hk => (hlk W hk).spans
          have qrs : Hid (∀ W, Kept [] wc W → Calls Try.prog 18 #[.pointer (some ⟨r, 0, none⟩)] W fun e w' => ∃ v, e = .returned v ∧ SpsAt w' v (sps L4) ∧ Kept [] W w') := fun W hk => (hlk W hk).rspans
          have hsl : Hid ((sps L4).length ≤ 1000000) := (by show _ ≤ _; simp [sps]; omega)
          rw [hn4] at hrc
          replace hrc : Hid (∀ V, Kept [] wc V → V.cell? ⟨r, 0, none⟩ = some (.slice ra n4 rc)) := hrc
          have hsp : Hid (∀ W, Kept [] wc W → W.cell? ⟨w.heap.size, 0, none⟩ = some (.int .i64 o) ∧ W.cell? ⟨w.heap.size, 1, none⟩ = some (.int .i64 l)) := fun W hk => ⟨((hS4.kept hk (by simp)).cell 0).trans rfl, ((hS4.kept hk (by simp)).cell 1).trans rfl⟩
          replace hT4 : Hid (Two wc w.heap.size q r L4 L4) := hT4
          replace hS4 : Hid (Blk wc w.heap.size 24 #[.int .i64 o, .int .i64 l]) := hS4
          replace hl4k : Hid (L4.length ≤ k + 1) := hl4k
          clear hlk hob hn4 hl4
          refine wp_region_held_drew (S := fun W => Kept [] wc W) (by kernel_rfl) (kept_drew [] wc) (fun hP => ?_)
          have hH := hP
          clear hP
          refine wpAnyH_take (i := 0) (oi := { dst := some 97, op := Op.move (Operand.tmp 5), type := 26, pos := "law.go:53", after := #[], guard := none }) (v := (.pointer (some ⟨q, 0, none⟩))) rfl (by kernel_rfl) (by kernel_rfl) (by kernel_rfl) (fun _ _ _ h => h) (Or.inl ⟨by rfl, fun W hSw => by go_simp⟩) hH ?_
          try simp only [Act.put, List.setIfInBounds_toArray, List.set_cons_zero, List.set_cons_succ]
          refine wpAnyH_take (i := 2) (oi := { dst := some 99, op := Op.move (Operand.tmp 6), type := 28, pos := "law.go:53", after := #[], guard := none }) (v := (.pointer (some ⟨r, 0, none⟩))) rfl (by kernel_rfl) (by kernel_rfl) (by kernel_rfl) (fun _ _ _ h => h) (Or.inl ⟨by rfl, fun W hSw => by go_simp⟩) hH ?_
          try simp only [Act.put, List.setIfInBounds_toArray, List.set_cons_zero, List.set_cons_succ]
          refine wpAnyH_take (i := 3) (oi := { dst := some 100, op := Op.nilCheck (Operand.tmp 99), type := 0, pos := "law.go:53", after := #[{ on := 2, ground := Ground.data }], guard := none }) (v := (.pointer (some ⟨r, 0, none⟩))) rfl (by kernel_rfl) (by kernel_rfl) (by kernel_rfl) (fun _ _ _ h => h) (Or.inl ⟨by rfl, fun W hSw => by go_simp⟩) hH ?_
          try simp only [Act.put, List.setIfInBounds_toArray, List.set_cons_zero, List.set_cons_succ]
          refine wpAnyH_take (i := 4) (oi := { dst := some 101, op := Op.fieldAddr 31 (Operand.tmp 100) 0, type := 0, pos := "law.go:53", after := #[{ on := 3, ground := Ground.data }], guard := none }) (v := (.pointer (some ⟨r, 0, none⟩))) rfl (by kernel_rfl) (by kernel_rfl) (by kernel_rfl) (fun _ _ _ h => h) (Or.inl ⟨by rfl, fun W hSw => by go_simp⟩) hH ?_
          try simp only [Act.put, List.setIfInBounds_toArray, List.set_cons_zero, List.set_cons_succ]
          refine wpAnyH_take (i := 5) (oi := { dst := some 102, op := Op.load 29 (Operand.tmp 101), type := 29, pos := "law.go:53", after := #[{ on := 4, ground := Ground.data }], guard := none }) (v := (.slice ra n4 rc)) rfl (by kernel_rfl) (by kernel_rfl) (by kernel_rfl) (fun _ _ _ h => h) (Or.inl ⟨by rfl, fun W hSw => by have c5 := hrc.out W hSw; go_simp⟩) hH ?_
          try simp only [Act.put, List.setIfInBounds_toArray, List.set_cons_zero, List.set_cons_succ]
          refine wpAnyH_take (i := 6) (oi := { dst := some 103, op := Op.call { callee := Callee.builtin Builtin.len, args := #[Operand.tmp 102], argTypes := #[29] }, type := 3, pos := "law.go:53", after := #[{ on := 5, ground := Ground.data }], guard := none }) (v := (.int .i64 (n4 : Int))) rfl (by kernel_rfl) (by kernel_rfl) (by kernel_rfl) (fun _ _ _ h => h) (Or.inl ⟨by rfl, fun W hSw => by go_simp⟩) hH ?_
          try simp only [Act.put, List.setIfInBounds_toArray, List.set_cons_zero, List.set_cons_succ]
          refine wpAnyH_ready (rs := [1]) (by kernel_rfl) (by simp) ?_
          refine AllReadyH.cons (o := { dst := some 98, op := Op.call { callee := Callee.value (Operand.func 13), args := #[Operand.tmp 97], argTypes := #[26] }, type := 3, pos := "law.go:53", after := #[{ on := 0, ground := Ground.data }], guard := none }) rfl (fun K hK => ?_) AllReadyH.nil
          go_simp
          refine (ql.out _ hH).mono ?_
          rintro e wk1 ⟨rfl, k1⟩
          go_wp2_with fail
          have hH1 := hH.trans k1
          refine hK.out _ _ hH1 (fun _ => ?_)
          replace hH := hH1
          clear hK K hH1
          try simp only [Act.put, List.setIfInBounds_toArray, List.set_cons_zero, List.set_cons_succ]
          refine wpAnyH_take (i := 7) (oi := { dst := some 104, op := Op.binOp BinOp.neq 3 (Operand.tmp 98) (Operand.tmp 103) 3, type := 4, pos := "law.go:53", after := #[{ on := 1, ground := Ground.data }, { on := 6, ground := Ground.data }], guard := none }) (v := (.bool false)) rfl (by kernel_rfl) (by kernel_rfl) (by kernel_rfl) (fun _ _ _ h => h) (Or.inl ⟨by rfl, fun W hSw => by go_simp⟩) hH ?_
          try simp only [Act.put, List.setIfInBounds_toArray, List.set_cons_zero, List.set_cons_succ]
          refine wpAnyH_take (i := 8) (oi := { dst := some 105, op := Op.move (Operand.tmp 104), type := 4, pos := "law.go:53", after := #[{ on := 7, ground := Ground.data }, { on := 1, ground := Ground.chain }], guard := none }) (v := (.bool false)) rfl (by kernel_rfl) (by kernel_rfl) (by kernel_rfl) (fun _ _ _ h => h) (Or.inl ⟨by rfl, fun W hSw => by go_simp⟩) hH ?_
          try simp only [Act.put, List.setIfInBounds_toArray, List.set_cons_zero, List.set_cons_succ]
          refine wpAnyH_take (i := 9) (oi := { dst := some 106, op := Op.move (Operand.tmp 5), type := 26, pos := "law.go:53", after := #[{ on := 8, ground := Ground.guard }], guard := some (8, false) }) (v := (.pointer (some ⟨q, 0, none⟩))) rfl (by kernel_rfl) (by kernel_rfl) (by kernel_rfl) (fun _ _ _ h => h) (Or.inl ⟨by rfl, fun W hSw => by go_simp⟩) hH ?_
          try simp only [Act.put, List.setIfInBounds_toArray, List.set_cons_zero, List.set_cons_succ]
          refine wpAnyH_take (i := 10) (oi := { dst := some 107, op := Op.load 24 (Operand.tmp 3), type := 24, pos := "law.go:53", after := #[{ on := 8, ground := Ground.guard }], guard := some (8, false) }) (v := (.agg #[.int .i64 o, .int .i64 l])) rfl (by kernel_rfl) (by kernel_rfl) (by kernel_rfl) (fun _ _ _ h => h) (Or.inl ⟨by rfl, fun W hSw => by obtain ⟨s0, s1⟩ := hsp.out W hSw; go_simp⟩) hH ?_
          try simp only [Act.put, List.setIfInBounds_toArray, List.set_cons_zero, List.set_cons_succ]
          refine wpAnyH_take (i := 12) (oi := { dst := some 109, op := Op.move (Operand.tmp 6), type := 28, pos := "law.go:53", after := #[{ on := 8, ground := Ground.guard }], guard := some (8, false) }) (v := (.pointer (some ⟨r, 0, none⟩))) rfl (by kernel_rfl) (by kernel_rfl) (by kernel_rfl) (fun _ _ _ h => h) (Or.inl ⟨by rfl, fun W hSw => by go_simp⟩) hH ?_
          try simp only [Act.put, List.setIfInBounds_toArray, List.set_cons_zero, List.set_cons_succ]
          refine wpAnyH_take (i := 13) (oi := { dst := some 110, op := Op.load 24 (Operand.tmp 3), type := 24, pos := "law.go:53", after := #[{ on := 8, ground := Ground.guard }], guard := some (8, false) }) (v := (.agg #[.int .i64 o, .int .i64 l])) rfl (by kernel_rfl) (by kernel_rfl) (by kernel_rfl) (fun _ _ _ h => h) (Or.inl ⟨by rfl, fun W hSw => by obtain ⟨s0, s1⟩ := hsp.out W hSw; go_simp⟩) hH ?_
          try simp only [Act.put, List.setIfInBounds_toArray, List.set_cons_zero, List.set_cons_succ]
          refine wpAnyH_ready (rs := [11]) (by kernel_rfl) (by simp) ?_
          refine AllReadyH.cons (o := { dst := some 108, op := Op.call { callee := Callee.value (Operand.func 14), args := #[Operand.tmp 106, Operand.tmp 107], argTypes := #[26, 24] }, type := 4, pos := "law.go:53", after := #[{ on := 9, ground := Ground.data }, { on := 10, ground := Ground.data }, { on := 8, ground := Ground.chain }, { on := 8, ground := Ground.guard }], guard := some (8, false) }) rfl (fun K hK => ?_) AllReadyH.nil
          go_simp
          refine (qo.out _ hH).mono ?_
          rintro e wk2 ⟨rfl, k2⟩
          go_wp2_with fail
          have hH1 := hH.trans k2
          refine hK.out _ _ hH1 (fun _ => ?_)
          replace hH := hH1
          clear hK K hH1
          try simp only [Act.put, List.setIfInBounds_toArray, List.set_cons_zero, List.set_cons_succ]
          refine wpAnyH_ready (rs := [14]) (by kernel_rfl) (by simp) ?_
          refine AllReadyH.cons (o := { dst := some 111, op := Op.call { callee := Callee.value (Operand.func 15), args := #[Operand.tmp 109, Operand.tmp 110], argTypes := #[28, 24] }, type := 4, pos := "law.go:53", after := #[{ on := 12, ground := Ground.data }, { on := 13, ground := Ground.data }, { on := 11, ground := Ground.chain }, { on := 8, ground := Ground.guard }], guard := some (8, false) }) rfl (fun K hK => ?_) AllReadyH.nil
          go_simp
          refine (qro.out _ hH).mono ?_
          rintro e wk3 ⟨rfl, k3⟩
          go_wp2_with fail
          have hH1 := hH.trans k3
          refine hK.out _ _ hH1 (fun _ => ?_)
          replace hH := hH1
          clear hK K hH1
          try simp only [Act.put, List.setIfInBounds_toArray, List.set_cons_zero, List.set_cons_succ]
          refine wpAnyH_take (i := 15) (oi := { dst := some 112, op := Op.binOp BinOp.neq 4 (Operand.tmp 108) (Operand.tmp 111) 4, type := 4, pos := "law.go:53", after := #[{ on := 11, ground := Ground.data }, { on := 14, ground := Ground.data }, { on := 8, ground := Ground.guard }], guard := some (8, false) }) (v := (.bool false)) rfl (by kernel_rfl) (by kernel_rfl) (by kernel_rfl) (fun _ _ _ h => h) (Or.inl ⟨by rfl, fun W hSw => by go_simp⟩) hH ?_
          try simp only [Act.put, List.setIfInBounds_toArray, List.set_cons_zero, List.set_cons_succ]
          refine wpAnyH_take (i := 16) (oi := { dst := some 113, op := Op.pick (Operand.tmp 105) (Operand.const (Value.bool true)) (Operand.tmp 112), type := 4, pos := "law.go:53", after := #[{ on := 8, ground := Ground.data }, { on := 15, ground := Ground.data }], guard := none }) (v := (.bool false)) rfl (by kernel_rfl) (by kernel_rfl) (by kernel_rfl) (fun _ _ _ h => h) (Or.inl ⟨by rfl, fun W hSw => by go_simp⟩) hH ?_
          try simp only [Act.put, List.setIfInBounds_toArray, List.set_cons_zero, List.set_cons_succ]
          refine wpAnyH_take (i := 17) (oi := { dst := some 114, op := Op.move (Operand.tmp 113), type := 4, pos := "law.go:53", after := #[{ on := 16, ground := Ground.data }, { on := 14, ground := Ground.chain }], guard := none }) (v := (.bool false)) rfl (by kernel_rfl) (by kernel_rfl) (by kernel_rfl) (fun _ _ _ h => h) (Or.inl ⟨by rfl, fun W hSw => by go_simp⟩) hH ?_
          try simp only [Act.put, List.setIfInBounds_toArray, List.set_cons_zero, List.set_cons_succ]
          refine wpAnyH_take (i := 18) (oi := { dst := some 115, op := Op.move (Operand.tmp 5), type := 26, pos := "law.go:53", after := #[{ on := 17, ground := Ground.guard }], guard := some (17, false) }) (v := (.pointer (some ⟨q, 0, none⟩))) rfl (by kernel_rfl) (by kernel_rfl) (by kernel_rfl) (fun _ _ _ h => h) (Or.inl ⟨by rfl, fun W hSw => by go_simp⟩) hH ?_
          try simp only [Act.put, List.setIfInBounds_toArray, List.set_cons_zero, List.set_cons_succ]
          refine wpAnyH_take (i := 20) (oi := { dst := some 117, op := Op.move (Operand.tmp 6), type := 28, pos := "law.go:53", after := #[{ on := 17, ground := Ground.guard }], guard := some (17, false) }) (v := (.pointer (some ⟨r, 0, none⟩))) rfl (by kernel_rfl) (by kernel_rfl) (by kernel_rfl) (fun _ _ _ h => h) (Or.inl ⟨by rfl, fun W hSw => by go_simp⟩) hH ?_
          try simp only [Act.put, List.setIfInBounds_toArray, List.set_cons_zero, List.set_cons_succ]
          refine wpAnyH_ready (rs := [19]) (by kernel_rfl) (by simp) ?_
          refine AllReadyH.cons (o := { dst := some 116, op := Op.call { callee := Callee.value (Operand.func 17), args := #[Operand.tmp 115], argTypes := #[26] }, type := 50, pos := "law.go:53", after := #[{ on := 18, ground := Ground.data }, { on := 17, ground := Ground.chain }, { on := 17, ground := Ground.guard }], guard := some (17, false) }) rfl (fun K hK => ?_) AllReadyH.nil
          go_simp
          refine (qs.out _ hH).mono ?_
          rintro e wk4 ⟨v1, rfl, hv1, k4⟩
          go_wp2_with fail
          have hH1 := hH.trans k4
          refine hK.out _ _ hH1 (fun _ => ?_)
          replace hH := hH1
          clear hK K hH1
          try simp only [Act.put, List.setIfInBounds_toArray, List.set_cons_zero, List.set_cons_succ]
          refine wpAnyH_ready (rs := [21]) (by kernel_rfl) (by simp) ?_
          refine AllReadyH.cons (o := { dst := some 118, op := Op.call { callee := Callee.value (Operand.func 18), args := #[Operand.tmp 117], argTypes := #[28] }, type := 50, pos := "law.go:53", after := #[{ on := 20, ground := Ground.data }, { on := 19, ground := Ground.chain }, { on := 17, ground := Ground.guard }], guard := some (17, false) }) rfl (fun K hK => ?_) AllReadyH.nil
          go_simp
          refine (qrs.out _ hH).mono ?_
          rintro e wk5 ⟨v2, rfl, hv2, k5⟩
          go_wp2_with fail
          have hH1 := hH.trans k5
          refine hK.out _ _ hH1 (fun _ => ?_)
          replace hH := hH1
          clear hK K hH1
          try simp only [Act.put, List.setIfInBounds_toArray, List.set_cons_zero, List.set_cons_succ]
          refine wpAnyH_ready (rs := [22]) (by kernel_rfl) (by simp) ?_
          refine AllReadyH.cons (o := { dst := some 119, op := Op.call { callee := Callee.value (Operand.func 16), args := #[Operand.tmp 116, Operand.tmp 118], argTypes := #[50, 50] }, type := 4, pos := "law.go:53", after := #[{ on := 19, ground := Ground.data }, { on := 21, ground := Ground.data }, { on := 21, ground := Ground.chain }, { on := 17, ground := Ground.guard }], guard := some (17, false) }) rfl (fun K hK => ?_) AllReadyH.nil
          go_simp
          refine (same_spans v1 v2 (sps L4) hsl.out _ (hv1.kept k5) hv2).mono ?_
          rintro e wk6 ⟨rfl, k6⟩
          go_wp2_with fail
          have hH1 := hH.trans k6
          refine hK.out _ _ hH1 (fun _ => ?_)
          replace hH := hH1
          clear hK K hH1
          try simp only [Act.put, List.setIfInBounds_toArray, List.set_cons_zero, List.set_cons_succ]
          refine wpAnyH_take (i := 23) (oi := { dst := some 120, op := Op.unOp UnOp.not 4 (Operand.tmp 119), type := 4, pos := "law.go:53", after := #[{ on := 22, ground := Ground.data }, { on := 17, ground := Ground.guard }], guard := some (17, false) }) (v := (.bool false)) rfl (by kernel_rfl) (by kernel_rfl) (by kernel_rfl) (fun _ _ _ h => h) (Or.inl ⟨by rfl, fun W hSw => by go_simp⟩) hH ?_
          try simp only [Act.put, List.setIfInBounds_toArray, List.set_cons_zero, List.set_cons_succ]
          refine wpAnyH_take (i := 24) (oi := { dst := some 121, op := Op.pick (Operand.tmp 114) (Operand.const (Value.bool true)) (Operand.tmp 120), type := 4, pos := "law.go:53", after := #[{ on := 17, ground := Ground.data }, { on := 23, ground := Ground.data }], guard := none }) (v := (.bool false)) rfl (by kernel_rfl) (by kernel_rfl) (by kernel_rfl) (fun _ _ _ h => h) (Or.inl ⟨by rfl, fun W hSw => by go_simp⟩) hH ?_
          try simp only [Act.put, List.setIfInBounds_toArray, List.set_cons_zero, List.set_cons_succ]
          refine wpAnyH_done (by kernel_rfl) ?_ _
          go_wp2_with fail
          go_roundw
          case rel => exact ⟨k + 1, L4, by go_num, by omega, hT4.out.kept0 hH, hl4k.out, hS4.out.kept hH (by simp), hk4.trans hH⟩
          case measure => simpa [RowKit.intOf] using hm1.out
        | true =>
          have qw := Clash.owns_any xoa xolen xocap XO hol.out W1 (hokH.out W1 hkA).ows
          go_upto_region 12 with (first
            | (go_at_call 9; refine qw.mono ?_; rintro e w2 ⟨v2, rfl, hO2, hk2⟩; obtain ⟨ua, uc, rfl, hu⟩ := hO2.ows; have qp := two_next (hTA.kept0 hk2) (by have := fl.out; omega) ua XO.length uc XO hu (by have := hu.1; have := hol.out; have := (hokH.out W1 hkA).ows.1; simp only at this; omega); clear qw hO2)
            | (go_at_call 8; refine qp.mono ?_; rintro e w3 ⟨y1, rfl, hy1, hyA1, hT3, hf3⟩; have hk3 : Kept [] w w3 := hf3.past (hkA.trans hk2) (Nat.le_refl _); have hb3 := hf3.blk _ _ _ (hbA.kept hk2 (by simp)) (by decide); have hS3 := hf3.blk _ _ _ (hSA.kept hk2 (by simp)) (by decide); unfold Lv.val; have ky := kept_alloc [] w3 (.cells #[.int .i64 y1.id, .int .i64 y1.o, .int .i64 y1.l, .slice y1.sa y1.len y1.cap] 37); have bY := blk_new w3 37 #[.int .i64 y1.id, .int .i64 y1.o, .int .i64 y1.l, .slice y1.sa y1.len y1.cap]; obtain ⟨c0, c1, c2, c3, c4, c5⟩ := cA.out _ (hb3.kept ky (by simp)); have qd := two_rnext (hT3.kept0 ky) (by have := fl.out; omega) xoa xolen xocap XO (hokH.out _ (hk3.trans ky)).ows (by have := hol.out; omega); clear qp)
            | (go_at_call 10; refine qd.mono ?_; rintro e w4 ⟨y2, rfl, hy2, hyA2, hT4, hf4, hr4, hF4⟩; unfold Lv.val; clear qd))
          have e12 := hy1.trans hy2.symm
          obtain ⟨yi, yo, yl, ys1, yn1, yc1, ybs⟩ := y1
          obtain ⟨yi2, yo2, yl2, ys2, yn2, yc2, ybs2⟩ := y2
          simp only [Lv.lw] at e12
          injection e12 with e1 e2 e3 e4
          subst e1 e2 e3 e4
          simp only at bY hyA1 hyA2 ky hT4 hf4 hr4 hF4 ⊢
          have ky2 := kept_alloc [] w4 (.cells #[.int .i64 yi, .int .i64 yo, .int .i64 yl, .slice ys2 yn2 yc2] 42)
          have bYb := blk_new w4 42 #[.int .i64 yi, .int .i64 yo, .int .i64 yl, .slice ys2 yn2 yc2]
          have bYa := (bY.kept hr4 (hF4.ne bY (by decide))).kept ky2 (by simp)
          have cv1 := conv_txt (Byt.row (Byt.kept (Byt.kept (Byt.kept hyA1 ky (foot_nil [] _) (by simp)) hr4 hF4 (by decide)) ky2 (foot_nil [] _) (by simp)))
          have cv2 := conv_txt (Byt.row (Byt.kept hyA2 ky2 (foot_nil [] _) (by simp)))
          have hT4' := hT4.kept0 ky2
          have hS4 := (hf4.blk _ _ _ (hS3.kept ky (by simp)) (by decide)).kept ky2 (by simp)
          have hk4 : Kept [] w _ := (hf4.past (hk3.trans ky) (Nat.le_refl _)).trans ky2
          obtain ⟨B1, hB1⟩ : ∃ B1, w3.heap.size = B1 := ⟨_, rfl⟩
          obtain ⟨B2, hB2⟩ : ∃ B2, w4.heap.size = B2 := ⟨_, rfl⟩
          rw [hB1] at bYa
          rw [hB2] at bYb
          try rw [hB1]
          try rw [hB2]
          obtain ⟨wc, hwc⟩ : ∃ wc, w4.alloc (.cells #[.int .i64 yi, .int .i64 yo, .int .i64 yl, .slice ys2 yn2 yc2] 42) = wc := ⟨_, rfl⟩
          rw [hwc] at bYa bYb cv1 cv2 hT4' hS4 hk4
          try rw [hwc]
          have f0 := (bYa.cell 0).trans (show _ = some (Value.int .i64 yi) from rfl)
          have f1 := (bYa.cell 1).trans (show _ = some (Value.int .i64 yo) from rfl)
          have f2 := (bYa.cell 2).trans (show _ = some (Value.int .i64 yl) from rfl)
          have f3 := (bYa.cell 3).trans (show _ = some (Value.slice ys1 yn1 yc1) from rfl)
          have g0 := (bYb.cell 0).trans (show _ = some (Value.int .i64 yi) from rfl)
          have g1 := (bYb.cell 1).trans (show _ = some (Value.int .i64 yo) from rfl)
          have g2 := (bYb.cell 2).trans (show _ = some (Value.int .i64 yl) from rfl)
          have g3 := (bYb.cell 3).trans (show _ = some (Value.slice ys2 yn2 yc2) from rfl)
          have qe := neq_span yo yl wc
          obtain ⟨L4, hL4⟩ : ∃ L4, leftL XO L = L4 := ⟨_, rfl⟩
          have hl4k : L4.length ≤ k + 1 := by rw [← hL4]; have := leftL_length XO L; omega
          rw [hL4] at hT4'
          generalize wentB XO L = zb at *
          generalize txt ybs = tt at *
          clear hL4 hf3 hf4 hS3 hb3 hT3 hTA hSA hbA hkA hk3 hwc hB1 hB2 hT4 hy1 hy2 hyA1 hyA2 hu ky bY hr4 hF4 ky2 hk2 c0 c1 c2 c3 c4 c5
          have hT4 := hT4'
          clear hT4'
          go_upto_region 17 with fail
          clear f0 f1 f2 f3 g0 g1 g2 g3 cv1 cv2 qe bYa bYb
          have hl4 : L4.length ≤ 1000 := by omega
          have hlk : ∀ W, Kept [] wc W → Look W q r L4 o l := fun W hk => two_look (hT4.kept0 hk) hl4 o l
          obtain ⟨ra, rc, hrc⟩ := two_rcell hT4
          obtain ⟨n4, hn4⟩ : ∃ n, L4.length = n := ⟨_, rfl⟩
          have ql : Hid (∀ W, Kept [] wc W → Calls Try.prog 13 #[.pointer (some ⟨q, 0, none⟩)] W fun e w' => e = .returned (.int .i64 (n4 : Int)) ∧ Kept [] W w') := fun W hk => hn4 ▸ (hlk W hk).len
          obtain ⟨ob, hob⟩ : ∃ ob, overL L4 o l = ob := ⟨_, rfl⟩
          have qo : Hid (∀ W, Kept [] wc W → Calls Try.prog 14 #[.pointer (some ⟨q, 0, none⟩), .agg #[.int .i64 o, .int .i64 l]] W fun e w' => e = .returned (.bool ob) ∧ Kept [] W w') := fun W hk => hob ▸ (hlk W hk).over
          have qro : Hid (∀ W, Kept [] wc W → Calls Try.prog 15 #[.pointer (some ⟨r, 0, none⟩), .agg #[.int .i64 o, .int .i64 l]] W fun e w' => e = .returned (.bool ob) ∧ Kept [] W w') := fun W hk => hob ▸ (hlk W hk).rover
          have qs : Hid (∀ W, Kept [] wc W → Calls Try.prog 17 #[.pointer (some ⟨q, 0, none⟩)] W fun e w' => ∃ v, e = .returned v ∧ SpsAt w' v (sps L4) ∧ Kept [] W w') := fun W hk => (hlk W hk).spans
          have qrs : Hid (∀ W, Kept [] wc W → Calls Try.prog 18 #[.pointer (some ⟨r, 0, none⟩)] W fun e w' => ∃ v, e = .returned v ∧ SpsAt w' v (sps L4) ∧ Kept [] W w') := fun W hk => (hlk W hk).rspans
          have hsl : Hid ((sps L4).length ≤ 1000000) := (by show _ ≤ _; simp [sps]; omega)
          rw [hn4] at hrc
          replace hrc : Hid (∀ V, Kept [] wc V → V.cell? ⟨r, 0, none⟩ = some (.slice ra n4 rc)) := hrc
          have hsp : Hid (∀ W, Kept [] wc W → W.cell? ⟨w.heap.size, 0, none⟩ = some (.int .i64 o) ∧ W.cell? ⟨w.heap.size, 1, none⟩ = some (.int .i64 l)) := fun W hk => ⟨((hS4.kept hk (by simp)).cell 0).trans rfl, ((hS4.kept hk (by simp)).cell 1).trans rfl⟩
          replace hT4 : Hid (Two wc w.heap.size q r L4 L4) := hT4
          replace hS4 : Hid (Blk wc w.heap.size 24 #[.int .i64 o, .int .i64 l]) := hS4
          replace hl4k : Hid (L4.length ≤ k + 1) := hl4k
          clear hlk hob hn4 hl4
          refine wp_region_held_drew (S := fun W => Kept [] wc W) (by kernel_rfl) (kept_drew [] wc) (fun hP => ?_)
          have hH := hP
          clear hP
          refine wpAnyH_take (i := 0) (oi := { dst := some 97, op := Op.move (Operand.tmp 5), type := 26, pos := "law.go:53", after := #[], guard := none }) (v := (.pointer (some ⟨q, 0, none⟩))) rfl (by kernel_rfl) (by kernel_rfl) (by kernel_rfl) (fun _ _ _ h => h) (Or.inl ⟨by rfl, fun W hSw => by go_simp⟩) hH ?_
          try simp only [Act.put, List.setIfInBounds_toArray, List.set_cons_zero, List.set_cons_succ]
          refine wpAnyH_take (i := 2) (oi := { dst := some 99, op := Op.move (Operand.tmp 6), type := 28, pos := "law.go:53", after := #[], guard := none }) (v := (.pointer (some ⟨r, 0, none⟩))) rfl (by kernel_rfl) (by kernel_rfl) (by kernel_rfl) (fun _ _ _ h => h) (Or.inl ⟨by rfl, fun W hSw => by go_simp⟩) hH ?_
          try simp only [Act.put, List.setIfInBounds_toArray, List.set_cons_zero, List.set_cons_succ]
          refine wpAnyH_take (i := 3) (oi := { dst := some 100, op := Op.nilCheck (Operand.tmp 99), type := 0, pos := "law.go:53", after := #[{ on := 2, ground := Ground.data }], guard := none }) (v := (.pointer (some ⟨r, 0, none⟩))) rfl (by kernel_rfl) (by kernel_rfl) (by kernel_rfl) (fun _ _ _ h => h) (Or.inl ⟨by rfl, fun W hSw => by go_simp⟩) hH ?_
          try simp only [Act.put, List.setIfInBounds_toArray, List.set_cons_zero, List.set_cons_succ]
          refine wpAnyH_take (i := 4) (oi := { dst := some 101, op := Op.fieldAddr 31 (Operand.tmp 100) 0, type := 0, pos := "law.go:53", after := #[{ on := 3, ground := Ground.data }], guard := none }) (v := (.pointer (some ⟨r, 0, none⟩))) rfl (by kernel_rfl) (by kernel_rfl) (by kernel_rfl) (fun _ _ _ h => h) (Or.inl ⟨by rfl, fun W hSw => by go_simp⟩) hH ?_
          try simp only [Act.put, List.setIfInBounds_toArray, List.set_cons_zero, List.set_cons_succ]
          refine wpAnyH_take (i := 5) (oi := { dst := some 102, op := Op.load 29 (Operand.tmp 101), type := 29, pos := "law.go:53", after := #[{ on := 4, ground := Ground.data }], guard := none }) (v := (.slice ra n4 rc)) rfl (by kernel_rfl) (by kernel_rfl) (by kernel_rfl) (fun _ _ _ h => h) (Or.inl ⟨by rfl, fun W hSw => by have c5 := hrc.out W hSw; go_simp⟩) hH ?_
          try simp only [Act.put, List.setIfInBounds_toArray, List.set_cons_zero, List.set_cons_succ]
          refine wpAnyH_take (i := 6) (oi := { dst := some 103, op := Op.call { callee := Callee.builtin Builtin.len, args := #[Operand.tmp 102], argTypes := #[29] }, type := 3, pos := "law.go:53", after := #[{ on := 5, ground := Ground.data }], guard := none }) (v := (.int .i64 (n4 : Int))) rfl (by kernel_rfl) (by kernel_rfl) (by kernel_rfl) (fun _ _ _ h => h) (Or.inl ⟨by rfl, fun W hSw => by go_simp⟩) hH ?_
          try simp only [Act.put, List.setIfInBounds_toArray, List.set_cons_zero, List.set_cons_succ]
          refine wpAnyH_ready (rs := [1]) (by kernel_rfl) (by simp) ?_
          refine AllReadyH.cons (o := { dst := some 98, op := Op.call { callee := Callee.value (Operand.func 13), args := #[Operand.tmp 97], argTypes := #[26] }, type := 3, pos := "law.go:53", after := #[{ on := 0, ground := Ground.data }], guard := none }) rfl (fun K hK => ?_) AllReadyH.nil
          go_simp
          refine (ql.out _ hH).mono ?_
          rintro e wk1 ⟨rfl, k1⟩
          go_wp2_with fail
          have hH1 := hH.trans k1
          refine hK.out _ _ hH1 (fun _ => ?_)
          replace hH := hH1
          clear hK K hH1
          try simp only [Act.put, List.setIfInBounds_toArray, List.set_cons_zero, List.set_cons_succ]
          refine wpAnyH_take (i := 7) (oi := { dst := some 104, op := Op.binOp BinOp.neq 3 (Operand.tmp 98) (Operand.tmp 103) 3, type := 4, pos := "law.go:53", after := #[{ on := 1, ground := Ground.data }, { on := 6, ground := Ground.data }], guard := none }) (v := (.bool false)) rfl (by kernel_rfl) (by kernel_rfl) (by kernel_rfl) (fun _ _ _ h => h) (Or.inl ⟨by rfl, fun W hSw => by go_simp⟩) hH ?_
          try simp only [Act.put, List.setIfInBounds_toArray, List.set_cons_zero, List.set_cons_succ]
          refine wpAnyH_take (i := 8) (oi := { dst := some 105, op := Op.move (Operand.tmp 104), type := 4, pos := "law.go:53", after := #[{ on := 7, ground := Ground.data }, { on := 1, ground := Ground.chain }], guard := none }) (v := (.bool false)) rfl (by kernel_rfl) (by kernel_rfl) (by kernel_rfl) (fun _ _ _ h => h) (Or.inl ⟨by rfl, fun W hSw => by go_simp⟩) hH ?_
          try simp only [Act.put, List.setIfInBounds_toArray, List.set_cons_zero, List.set_cons_succ]
          refine wpAnyH_take (i := 9) (oi := { dst := some 106, op := Op.move (Operand.tmp 5), type := 26, pos := "law.go:53", after := #[{ on := 8, ground := Ground.guard }], guard := some (8, false) }) (v := (.pointer (some ⟨q, 0, none⟩))) rfl (by kernel_rfl) (by kernel_rfl) (by kernel_rfl) (fun _ _ _ h => h) (Or.inl ⟨by rfl, fun W hSw => by go_simp⟩) hH ?_
          try simp only [Act.put, List.setIfInBounds_toArray, List.set_cons_zero, List.set_cons_succ]
          refine wpAnyH_take (i := 10) (oi := { dst := some 107, op := Op.load 24 (Operand.tmp 3), type := 24, pos := "law.go:53", after := #[{ on := 8, ground := Ground.guard }], guard := some (8, false) }) (v := (.agg #[.int .i64 o, .int .i64 l])) rfl (by kernel_rfl) (by kernel_rfl) (by kernel_rfl) (fun _ _ _ h => h) (Or.inl ⟨by rfl, fun W hSw => by obtain ⟨s0, s1⟩ := hsp.out W hSw; go_simp⟩) hH ?_
          try simp only [Act.put, List.setIfInBounds_toArray, List.set_cons_zero, List.set_cons_succ]
          refine wpAnyH_take (i := 12) (oi := { dst := some 109, op := Op.move (Operand.tmp 6), type := 28, pos := "law.go:53", after := #[{ on := 8, ground := Ground.guard }], guard := some (8, false) }) (v := (.pointer (some ⟨r, 0, none⟩))) rfl (by kernel_rfl) (by kernel_rfl) (by kernel_rfl) (fun _ _ _ h => h) (Or.inl ⟨by rfl, fun W hSw => by go_simp⟩) hH ?_
          try simp only [Act.put, List.setIfInBounds_toArray, List.set_cons_zero, List.set_cons_succ]
          refine wpAnyH_take (i := 13) (oi := { dst := some 110, op := Op.load 24 (Operand.tmp 3), type := 24, pos := "law.go:53", after := #[{ on := 8, ground := Ground.guard }], guard := some (8, false) }) (v := (.agg #[.int .i64 o, .int .i64 l])) rfl (by kernel_rfl) (by kernel_rfl) (by kernel_rfl) (fun _ _ _ h => h) (Or.inl ⟨by rfl, fun W hSw => by obtain ⟨s0, s1⟩ := hsp.out W hSw; go_simp⟩) hH ?_
          try simp only [Act.put, List.setIfInBounds_toArray, List.set_cons_zero, List.set_cons_succ]
          refine wpAnyH_ready (rs := [11]) (by kernel_rfl) (by simp) ?_
          refine AllReadyH.cons (o := { dst := some 108, op := Op.call { callee := Callee.value (Operand.func 14), args := #[Operand.tmp 106, Operand.tmp 107], argTypes := #[26, 24] }, type := 4, pos := "law.go:53", after := #[{ on := 9, ground := Ground.data }, { on := 10, ground := Ground.data }, { on := 8, ground := Ground.chain }, { on := 8, ground := Ground.guard }], guard := some (8, false) }) rfl (fun K hK => ?_) AllReadyH.nil
          go_simp
          refine (qo.out _ hH).mono ?_
          rintro e wk2 ⟨rfl, k2⟩
          go_wp2_with fail
          have hH1 := hH.trans k2
          refine hK.out _ _ hH1 (fun _ => ?_)
          replace hH := hH1
          clear hK K hH1
          try simp only [Act.put, List.setIfInBounds_toArray, List.set_cons_zero, List.set_cons_succ]
          refine wpAnyH_ready (rs := [14]) (by kernel_rfl) (by simp) ?_
          refine AllReadyH.cons (o := { dst := some 111, op := Op.call { callee := Callee.value (Operand.func 15), args := #[Operand.tmp 109, Operand.tmp 110], argTypes := #[28, 24] }, type := 4, pos := "law.go:53", after := #[{ on := 12, ground := Ground.data }, { on := 13, ground := Ground.data }, { on := 11, ground := Ground.chain }, { on := 8, ground := Ground.guard }], guard := some (8, false) }) rfl (fun K hK => ?_) AllReadyH.nil
          go_simp
          refine (qro.out _ hH).mono ?_
          rintro e wk3 ⟨rfl, k3⟩
          go_wp2_with fail
          have hH1 := hH.trans k3
          refine hK.out _ _ hH1 (fun _ => ?_)
          replace hH := hH1
          clear hK K hH1
          try simp only [Act.put, List.setIfInBounds_toArray, List.set_cons_zero, List.set_cons_succ]
          refine wpAnyH_take (i := 15) (oi := { dst := some 112, op := Op.binOp BinOp.neq 4 (Operand.tmp 108) (Operand.tmp 111) 4, type := 4, pos := "law.go:53", after := #[{ on := 11, ground := Ground.data }, { on := 14, ground := Ground.data }, { on := 8, ground := Ground.guard }], guard := some (8, false) }) (v := (.bool false)) rfl (by kernel_rfl) (by kernel_rfl) (by kernel_rfl) (fun _ _ _ h => h) (Or.inl ⟨by rfl, fun W hSw => by go_simp⟩) hH ?_
          try simp only [Act.put, List.setIfInBounds_toArray, List.set_cons_zero, List.set_cons_succ]
          refine wpAnyH_take (i := 16) (oi := { dst := some 113, op := Op.pick (Operand.tmp 105) (Operand.const (Value.bool true)) (Operand.tmp 112), type := 4, pos := "law.go:53", after := #[{ on := 8, ground := Ground.data }, { on := 15, ground := Ground.data }], guard := none }) (v := (.bool false)) rfl (by kernel_rfl) (by kernel_rfl) (by kernel_rfl) (fun _ _ _ h => h) (Or.inl ⟨by rfl, fun W hSw => by go_simp⟩) hH ?_
          try simp only [Act.put, List.setIfInBounds_toArray, List.set_cons_zero, List.set_cons_succ]
          refine wpAnyH_take (i := 17) (oi := { dst := some 114, op := Op.move (Operand.tmp 113), type := 4, pos := "law.go:53", after := #[{ on := 16, ground := Ground.data }, { on := 14, ground := Ground.chain }], guard := none }) (v := (.bool false)) rfl (by kernel_rfl) (by kernel_rfl) (by kernel_rfl) (fun _ _ _ h => h) (Or.inl ⟨by rfl, fun W hSw => by go_simp⟩) hH ?_
          try simp only [Act.put, List.setIfInBounds_toArray, List.set_cons_zero, List.set_cons_succ]
          refine wpAnyH_take (i := 18) (oi := { dst := some 115, op := Op.move (Operand.tmp 5), type := 26, pos := "law.go:53", after := #[{ on := 17, ground := Ground.guard }], guard := some (17, false) }) (v := (.pointer (some ⟨q, 0, none⟩))) rfl (by kernel_rfl) (by kernel_rfl) (by kernel_rfl) (fun _ _ _ h => h) (Or.inl ⟨by rfl, fun W hSw => by go_simp⟩) hH ?_
          try simp only [Act.put, List.setIfInBounds_toArray, List.set_cons_zero, List.set_cons_succ]
          refine wpAnyH_take (i := 20) (oi := { dst := some 117, op := Op.move (Operand.tmp 6), type := 28, pos := "law.go:53", after := #[{ on := 17, ground := Ground.guard }], guard := some (17, false) }) (v := (.pointer (some ⟨r, 0, none⟩))) rfl (by kernel_rfl) (by kernel_rfl) (by kernel_rfl) (fun _ _ _ h => h) (Or.inl ⟨by rfl, fun W hSw => by go_simp⟩) hH ?_
          try simp only [Act.put, List.setIfInBounds_toArray, List.set_cons_zero, List.set_cons_succ]
          refine wpAnyH_ready (rs := [19]) (by kernel_rfl) (by simp) ?_
          refine AllReadyH.cons (o := { dst := some 116, op := Op.call { callee := Callee.value (Operand.func 17), args := #[Operand.tmp 115], argTypes := #[26] }, type := 50, pos := "law.go:53", after := #[{ on := 18, ground := Ground.data }, { on := 17, ground := Ground.chain }, { on := 17, ground := Ground.guard }], guard := some (17, false) }) rfl (fun K hK => ?_) AllReadyH.nil
          go_simp
          refine (qs.out _ hH).mono ?_
          rintro e wk4 ⟨v1, rfl, hv1, k4⟩
          go_wp2_with fail
          have hH1 := hH.trans k4
          refine hK.out _ _ hH1 (fun _ => ?_)
          replace hH := hH1
          clear hK K hH1
          try simp only [Act.put, List.setIfInBounds_toArray, List.set_cons_zero, List.set_cons_succ]
          refine wpAnyH_ready (rs := [21]) (by kernel_rfl) (by simp) ?_
          refine AllReadyH.cons (o := { dst := some 118, op := Op.call { callee := Callee.value (Operand.func 18), args := #[Operand.tmp 117], argTypes := #[28] }, type := 50, pos := "law.go:53", after := #[{ on := 20, ground := Ground.data }, { on := 19, ground := Ground.chain }, { on := 17, ground := Ground.guard }], guard := some (17, false) }) rfl (fun K hK => ?_) AllReadyH.nil
          go_simp
          refine (qrs.out _ hH).mono ?_
          rintro e wk5 ⟨v2, rfl, hv2, k5⟩
          go_wp2_with fail
          have hH1 := hH.trans k5
          refine hK.out _ _ hH1 (fun _ => ?_)
          replace hH := hH1
          clear hK K hH1
          try simp only [Act.put, List.setIfInBounds_toArray, List.set_cons_zero, List.set_cons_succ]
          refine wpAnyH_ready (rs := [22]) (by kernel_rfl) (by simp) ?_
          refine AllReadyH.cons (o := { dst := some 119, op := Op.call { callee := Callee.value (Operand.func 16), args := #[Operand.tmp 116, Operand.tmp 118], argTypes := #[50, 50] }, type := 4, pos := "law.go:53", after := #[{ on := 19, ground := Ground.data }, { on := 21, ground := Ground.data }, { on := 21, ground := Ground.chain }, { on := 17, ground := Ground.guard }], guard := some (17, false) }) rfl (fun K hK => ?_) AllReadyH.nil
          go_simp
          refine (same_spans v1 v2 (sps L4) hsl.out _ (hv1.kept k5) hv2).mono ?_
          rintro e wk6 ⟨rfl, k6⟩
          go_wp2_with fail
          have hH1 := hH.trans k6
          refine hK.out _ _ hH1 (fun _ => ?_)
          replace hH := hH1
          clear hK K hH1
          try simp only [Act.put, List.setIfInBounds_toArray, List.set_cons_zero, List.set_cons_succ]
          refine wpAnyH_take (i := 23) (oi := { dst := some 120, op := Op.unOp UnOp.not 4 (Operand.tmp 119), type := 4, pos := "law.go:53", after := #[{ on := 22, ground := Ground.data }, { on := 17, ground := Ground.guard }], guard := some (17, false) }) (v := (.bool false)) rfl (by kernel_rfl) (by kernel_rfl) (by kernel_rfl) (fun _ _ _ h => h) (Or.inl ⟨by rfl, fun W hSw => by go_simp⟩) hH ?_
          try simp only [Act.put, List.setIfInBounds_toArray, List.set_cons_zero, List.set_cons_succ]
          refine wpAnyH_take (i := 24) (oi := { dst := some 121, op := Op.pick (Operand.tmp 114) (Operand.const (Value.bool true)) (Operand.tmp 120), type := 4, pos := "law.go:53", after := #[{ on := 17, ground := Ground.data }, { on := 23, ground := Ground.data }], guard := none }) (v := (.bool false)) rfl (by kernel_rfl) (by kernel_rfl) (by kernel_rfl) (fun _ _ _ h => h) (Or.inl ⟨by rfl, fun W hSw => by go_simp⟩) hH ?_
          try simp only [Act.put, List.setIfInBounds_toArray, List.set_cons_zero, List.set_cons_succ]
          refine wpAnyH_done (by kernel_rfl) ?_ _
          go_wp2_with fail
          go_roundw
          case rel => exact ⟨k + 1, L4, by go_num, by omega, hT4.out.kept0 hH, hl4k.out, hS4.out.kept hH (by simp), hk4.trans hH⟩
          case measure => simpa [RowKit.intOf] using hm1.out
    · obtain rfl : k = len := by omega
      have i1 : ¬ ((k : Int) < (k : Int)) := by omega
      have q := lives_any wr
      go_wp2_with (go_at_call 6; refine q.mono ?_; rintro e w5 ⟨rfl, hk5⟩)
      go_ret
      exact ⟨rfl, hkr.trans hk5⟩
end Go.Proofs.Ythlnhmdeoapoeaa.Later
