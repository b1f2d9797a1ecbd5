/-
  WaitFirst's walk.
-/
import Derived.Test.YtfmhifhgmkffhaaWtF
namespace Go.Proofs.Ytfmhifhgmkffhaa.Wait
open Go.RowKit

theorem Lies.set {W : World} {g : Nat} {L : List It} (h : Lies W g L) {j : Nat} {x : It} (hx : L[j]? = some x) (k : Int) :
    Lies (W.setCell ⟨g, j * 4 + 1, none⟩ (.int .i64 k)) g (L.set j ⟨x.t, k, x.o, x.l⟩) := by
  obtain ⟨cur, hg, hc⟩ := h
  refine ⟨_, hg.set (j * 4 + 1) _, fun i y hy n v hv => ?_⟩
  have hj : j < L.length := (List.getElem?_eq_some_iff.1 hx).1
  have hn : n < 4 := by
    have := (List.getElem?_eq_some_iff.1 hv).1
    simpa [It.cells] using this
  have hsz : j * 4 + 1 < cur.size := by
    have := hc j x hx 1 _ rfl
    exact (Array.getElem?_eq_some_iff.1 this).1
  rw [Array.getElem?_setIfInBounds]
  by_cases e : i = j
  · subst e
    rw [List.getElem?_set_self hj] at hy
    cases hy
    by_cases e1 : n = 1
    · subst e1
      rw [if_pos rfl, if_pos hsz]
      exact hv
    · rw [if_neg (by omega)]
      have h2 : x.cells[n]? = some v := by
        rw [← hv]
        match n, hn, e1 with
        | 0, _, _ => rfl
        | 2, _, _ => rfl
        | 3, _, _ => rfl
      exact hc i x hx n v h2
  · rw [if_neg (by omega)]
    rw [List.getElem?_set_ne (by omega)] at hy
    exact hc i y hy n v hv
/-- A row that the call itself made. -/
def Rows (W : World) (base : Nat) (a : Option Addr) (M : List It) : Prop := (a = none ∧ M = []) ∨ ∃ g, a = some ⟨g, 0, none⟩ ∧ base ≤ g ∧ Lies W g M
theorem Rows.its {W : World} {base : Nat} {a : Option Addr} {M : List It} (h : Rows W base a M) {len cap : Nat} (hl : M.length = len) (hc : len ≤ cap) : ItsAt W a len cap M := by
  subst hl
  rcases h with ⟨rfl, rfl⟩ | ⟨g, rfl, _, hL⟩
  · exact ⟨rfl, hc, .inl rfl⟩
  · exact hL.its hc

set_option maxRecDepth 100000 in
set_option maxHeartbeats 1000000 in
theorem first_early (a : Option Addr) (len cap : Nat) (h : 40 < len) (w : World) :
    Calls Try.prog 4 #[.slice a len cap] w fun e w' => e = .returned (.bool true) ∧ Kept [] w w' := by
  have q := lives_any w
  have h3 : (40 : Int) < (len : Int) := by omega
  clear h
  go_enter Try.func4, Try.ntmps4
  go_wp2_with (go_at_call 5; refine q.mono ?_; rintro e w1 ⟨rfl, hk1⟩)
  go_ret
  exact ⟨rfl, hk1⟩

set_option maxRecDepth 100000 in
set_option maxHeartbeats 4000000 in
theorem first_play (a0 : Option Addr) (len cap0 : Nat) (L : List It) (hl : len ≤ 40) (w : World) (hL : ItsAt w a0 len cap0 L) :
    Calls Try.prog 4 #[.slice a0 len cap0] w fun e w' => e = .returned (.bool true) ∧ Kept [] w w' := by
  have q := items_any a0 len cap0 L hl w hL
  have h3 : ¬ ((40 : Int) < (len : Int)) := by omega
  have hlen := hL.1
  clear hL
  go_enter Try.func4, Try.ntmps4
  go_upto_region 3 with fail
  go_wp2_with (go_at_call 6; refine q.mono ?_; rintro e w1 ⟨v, rfl, hO, hk1⟩; obtain ⟨a, cap, e1, hcap, hR⟩ := hO.open; rw [hlen] at e1 hcap; subst e1; clear q hO)
  have hR0 : Rows w1 w.heap.size a L := by
    rcases hR with ⟨h1, _, h2⟩ | h
    · exact .inl ⟨h1, h2⟩
    · exact .inr h
  replace hlen : Hid (L.length = len) := hlen
  clear hR
  go_loopw [15] (fun i wr => ∃ (kk : Nat) (M : List It), kk ≤ len ∧ i = .int .i64 kk ∧ Rows wr w.heap.size a M ∧ Hid (M.length = len) ∧ Hid (∀ (j : Nat) (x : It), j < kk → M[j]? = some x → 0 ≤ x.k ∧ x.k ≤ 2) ∧ Kept [] w wr) (fun i _ => len - (RowKit.intOf i).toNat)
  case atStart => exact ⟨0, L, Nat.zero_le _, rfl, hR0, hlen, fun j x hj => absurd hj (Nat.not_lt_zero _), hk1⟩
  case round =>
    obtain ⟨kk, M, hkk, rfl, hR, hM, hA, hk⟩ := hrel
    clear hR0 hk1
    by_cases hlt : kk < len
    · obtain ⟨⟨xt, xk, xo, xl⟩, hx⟩ : ∃ x, M[kk]? = some x := ⟨_, List.getElem?_eq_getElem (by rw [hM.out]; exact hlt)⟩
      obtain ⟨g, rfl, hg, hLi⟩ : ∃ g, a = some ⟨g, 0, none⟩ ∧ w.heap.size ≤ g ∧ Lies wr g M := by
        rcases hR with ⟨_, rfl⟩ | h
        · simp at hx
        · exact h
      obtain ⟨cur, hB, hc⟩ := id hLi
      have c1 : wr.cell? ⟨g, kk * 4 + 1, none⟩ = some (.int .i64 xk) := by
        rw [hB.cell]
        exact hc kk _ hx 1 _ rfl
      have fz := hB.frozen (kk * 4 + 1)
      have qa := abs_any xk wr
      have i1 : (kk : Int) < (len : Int) := by omega
      have hm1 : Hid (len - (kk + 1) < len - kk) := by show _ < _; omega
      replace hx : Hid (M[kk]? = some ⟨xt, xk, xo, xl⟩) := hx
      clear hB hc hR
      go_wp2_with (go_at_call 11; refine qa.mono ?_; rintro e w2 ⟨A, rfl, hA0, rfl⟩)
      go_roundw
      case rel =>
        refine ⟨kk + 1, M.set kk ⟨xt, A % 3, xo, xl⟩, by omega, by go_num, .inr ⟨g, rfl, hg, hLi.set hx.out _⟩, ?_, fun j y hj hy => ?_, hk.young (kept_set (L := [g]) (by simp) _ _ _) hg⟩
        · show _ = _
          rw [List.length_set]
          exact hM.out
        · by_cases e : j = kk
          · subst e
            rw [List.getElem?_set_self (by rw [hM.out]; exact hlt)] at hy
            cases hy
            show 0 ≤ A % 3 ∧ A % 3 ≤ 2
            omega
          · rw [List.getElem?_set_ne (by omega)] at hy
            exact hA.out j y (by omega) hy
      case measure => simpa [RowKit.intOf] using hm1.out
    · have i1 : ¬ ((kk : Int) < (len : Int)) := by omega
      obtain rfl : kk = len := by omega
      have hI := hR.its hM.out hcap
      have hkd : Hid (∀ x ∈ M, 0 ≤ x.k ∧ x.k ≤ 2) := fun x hx => by
        obtain ⟨j, hj⟩ := List.getElem?_of_mem hx
        exact hA.out j x (by rw [← hM.out]; exact (List.getElem?_eq_some_iff.1 hj).1) hj
      obtain ⟨wX, rfl⟩ : ∃ wX, wX = wr := ⟨_, rfl⟩
      have qm := fun W (k : Kept [] wX W) j (hj : j < kk) => may_in j a none none kk cap 0 0 0 0 M [] [] hj (by omega) (by omega) (by omega) W (hI.kept k) (its_nil _) (sps_nil _)
      have ql := fun W => lives_any W
      clear hA hR
      go_upto_region 9 with fail
      go_cut [37] from 30 to 37 (fun r W => r = .bool false ∧ Kept [] wX W)
      case first =>
        by_cases h0 : kk = 0
        · have h0' : ¬ ((0 : Int) < (kk : Int)) := by omega
          clear qm h0
          go_wp2_with fail
          go_meet
          exact ⟨rfl, Kept.refl _ _⟩
        · have h0' : (0 : Int) < (kk : Int) := by omega
          have q0 := qm wX (Kept.refl _ _) 0 (by omega)
          rw [may_head (by rw [hM.out]; omega) hkd.out] at q0
          clear qm
          go_wp2_with (go_at_call 7; refine q0.mono ?_; rintro e w2 ⟨rfl, hk2⟩)
          go_meet
          exact ⟨rfl, hk2⟩
      case rest =>
        obtain ⟨rfl, hkc⟩ := hcut
        go_wp2_with fail
        go_loopw [40] (fun i wr => ∃ ii : Nat, ii ≤ kk ∧ i = .int .i64 ii ∧ Kept [] wX wr) (fun i _ => kk - (RowKit.intOf i).toNat)
        case atStart => exact ⟨0, Nat.zero_le _, rfl, hkc⟩
        case round =>
          obtain ⟨ii, hii, rfl, hk2⟩ := hrel
          clear hkc
          by_cases hlt : ii < kk
          · have i2 : (ii : Int) < (kk : Int) := by omega
            obtain ⟨wo, rfl⟩ : ∃ wo, wo = wr := ⟨_, rfl⟩
            go_wp2_with fail
            go_loopw [6] (fun i wr => ∃ jj : Nat, jj ≤ ii ∧ i = .int .i64 jj ∧ Kept [] wX wr) (fun i _ => ii - (RowKit.intOf i).toNat)
            case atStart => exact ⟨0, Nat.zero_le _, rfl, hk2⟩
            case round =>
              obtain ⟨jj, hjj, rfl, hk3⟩ := hrel
              clear hk2
              by_cases hlt2 : jj < ii
              · obtain ⟨⟨xt, xk, xo, xl⟩, b, off, hx, rfl, hb, hcx⟩ := hI.at hlt
                obtain ⟨⟨yt, yk, yo, yl⟩, b', off', hy, e0, hb', hcy⟩ := hI.at (Nat.lt_trans hlt2 hlt)
                simp only at hcx hcy
                obtain ⟨rfl, rfl⟩ : b = b' ∧ off = off' := by simpa using e0
                have i3 : (jj : Int) < (ii : Int) := by omega
                have i4 : (jj : Int) < (kk : Int) := by omega
                have hm1 : Hid (ii - (jj + 1) < ii - jj) := by show _ < _; omega
                have hx' : Hid (M[ii]? = some ⟨xt, xk, xo, xl⟩) := hx
                have hy' : Hid (M[jj]? = some ⟨yt, yk, yo, yl⟩) := hy
                have hkd3 := hk3.trans (kept_drew [] wr)
                have hcells : ∀ W, Kept [] wX W → W.cell? ⟨b, off + jj * 4 + 1, none⟩ = some (.int .i64 yk) ∧ W.cell? ⟨b, off + ii * 4 + 1, none⟩ = some (.int .i64 xk) ∧ W.cell? ⟨b, off + jj * 4 + 2, none⟩ = some (.int .i64 yo) ∧ W.cell? ⟨b, off + jj * 4 + 3, none⟩ = some (.int .i64 yl) ∧ W.cell? ⟨b, off + ii * 4 + 2, none⟩ = some (.int .i64 xo) ∧ W.cell? ⟨b, off + ii * 4 + 3, none⟩ = some (.int .i64 xl) := fun W hkW =>
                  ⟨(hcy W hkW).2.1, (hcx W hkW).2.1, (hcy W hkW).2.2.1, (hcy W hkW).2.2.2, (hcx W hkW).2.2.1, (hcx W hkW).2.2.2⟩
                have cD := fun n => hcells (wr.drewN n) (hk3.trans (kept_drewN [] _ n))
                clear e0 hx hy hcx hcy hI
                by_cases h1y : yk = 1
                · subst h1y
                  by_cases h2x : xk = 2
                  · subst h2x
                    clear qm hcells
                    go_wp2_with fail
                    go_quiet (fail)
                    go_wp2_with fail
                    go_roundw
                    case rel => exact ⟨jj + 1, by omega, by go_num, hk3.trans (kept_drewN [] _ _)⟩
                    case measure => simpa [RowKit.intOf] using hm1.out
                  · have h2b : (xk != 2) = true := by simp [h2x]
                    have q := fun V => meets_any yo yl xo xl V
                    cases hv : meetsB yo yl xo xl with
                    | true =>
                      rw [hv] at q
                      have qn := fun W (k : Kept [] wX W) => qm W k ii hlt
                      rw [may_behind hx'.out hy'.out hlt2 rfl hv] at qn
                      clear qm cD
                      go_wp2_with fail
                      go_region_held3 (fun W => W.cell? ⟨b, off + jj * 4 + 1, none⟩ = some (.int .i64 1) ∧ W.cell? ⟨b, off + ii * 4 + 1, none⟩ = some (.int .i64 xk) ∧ W.cell? ⟨b, off + jj * 4 + 2, none⟩ = some (.int .i64 yo) ∧ W.cell? ⟨b, off + jj * 4 + 3, none⟩ = some (.int .i64 yl) ∧ W.cell? ⟨b, off + ii * 4 + 2, none⟩ = some (.int .i64 xo) ∧ W.cell? ⟨b, off + ii * 4 + 3, none⟩ = some (.int .i64 xl)) (exact hcells _ hkd3) (first
                        | (go_at_call 12; refine (q _).mono ?_; rintro e w2 ⟨rfl, hk4⟩; replace hkd3 := hkd3.trans hk4)
                        | (go_at_call 7; refine (qn _ hkd3).mono ?_; rintro e w4 ⟨rfl, hk5⟩; replace hkd3 := hkd3.trans hk5))
                      go_wp2_with fail
                      go_roundw
                      case rel => exact ⟨jj + 1, by omega, by go_num, hkd3⟩
                      case measure => simpa [RowKit.intOf] using hm1.out
                    | false =>
                      rw [hv] at q
                      clear qm
                      go_upto_region 17 with fail
                      go_cut [79] from 43 to 79 (fun r W => r = .bool false ∧ Kept [] wX W)
                      case first =>
                        clear cD hm1
                        refine wp_region_held_drew (S := fun W => Kept [] wX W) (by kernel_rfl) hkd3 (fun hP => ?_)
                        have hH := hP
                        clear hP
                        refine wpAnyH_take (i := 0) (oi := { dst := some 48, op := Op.move (Operand.tmp 3), type := 27, pos := "law.go:61", after := #[], guard := none }) (v := (.slice (some ⟨b, off, none⟩) kk cap)) rfl (by kernel_rfl) (by kernel_rfl) (by kernel_rfl) (fun _ _ _ h => h) (Or.inl ⟨by rfl, fun W hSw => by go_simp⟩) hH ?_
                        try simp only [Act.put, List.setIfInBounds_toArray, List.set_cons_zero, List.set_cons_succ]
                        refine wpAnyH_take (i := 1) (oi := { dst := some 49, op := Op.move (Operand.tmp 6), type := 3, pos := "law.go:61", after := #[], guard := none }) (v := (.int .i64 (jj : Int))) rfl (by kernel_rfl) (by kernel_rfl) (by kernel_rfl) (fun _ _ _ h => h) (Or.inl ⟨by rfl, fun W hSw => by go_simp⟩) hH ?_
                        try simp only [Act.put, List.setIfInBounds_toArray, List.set_cons_zero, List.set_cons_succ]
                        refine wpAnyH_take (i := 2) (oi := { dst := some 50, op := Op.indexAddr 27 (Operand.tmp 48) (Operand.tmp 49), type := 0, pos := "law.go:61", after := #[{ on := 0, ground := Ground.data }, { on := 1, ground := Ground.data }], guard := none }) (v := (.pointer (some ⟨b, off + jj * 4, none⟩))) rfl (by kernel_rfl) (by kernel_rfl) (by kernel_rfl) (fun _ _ _ h => h) (Or.inl ⟨by rfl, fun W hSw => by go_simp⟩) hH ?_
                        try simp only [Act.put, List.setIfInBounds_toArray, List.set_cons_zero, List.set_cons_succ]
                        refine wpAnyH_take (i := 3) (oi := { dst := some 51, op := Op.fieldAddr 39 (Operand.tmp 50) 1, type := 0, pos := "law.go:61", after := #[{ on := 2, ground := Ground.data }], guard := none }) (v := (.pointer (some ⟨b, off + jj * 4 + 1, none⟩))) rfl (by kernel_rfl) (by kernel_rfl) (by kernel_rfl) (fun _ _ _ h => h) (Or.inl ⟨by rfl, fun W hSw => by go_simp⟩) hH ?_
                        try simp only [Act.put, List.setIfInBounds_toArray, List.set_cons_zero, List.set_cons_succ]
                        refine wpAnyH_take (i := 4) (oi := { dst := some 52, op := Op.load 3 (Operand.tmp 51), type := 3, pos := "law.go:61", after := #[{ on := 3, ground := Ground.data }], guard := none }) (v := (.int .i64 1)) rfl (by kernel_rfl) (by kernel_rfl) (by kernel_rfl) (fun _ _ _ h => h) (Or.inl ⟨by rfl, fun W hSw => by obtain ⟨y1, x1, y2, y3, x2, x3⟩ := hcells W hSw; go_simp⟩) hH ?_
                        try simp only [Act.put, List.setIfInBounds_toArray, List.set_cons_zero, List.set_cons_succ]
                        refine wpAnyH_take (i := 5) (oi := { dst := some 53, op := Op.binOp BinOp.eql 3 (Operand.tmp 52) (Operand.const (Value.int IntKind.i64 1)) 3, type := 4, pos := "law.go:61", after := #[{ on := 4, ground := Ground.data }], guard := none }) (v := (.bool true)) rfl (by kernel_rfl) (by kernel_rfl) (by kernel_rfl) (fun _ _ _ h => h) (Or.inl ⟨by rfl, fun W hSw => by go_simp⟩) hH ?_
                        try simp only [Act.put, List.setIfInBounds_toArray, List.set_cons_zero, List.set_cons_succ]
                        refine wpAnyH_take (i := 6) (oi := { dst := some 54, op := Op.move (Operand.tmp 53), type := 4, pos := "law.go:61", after := #[{ on := 5, ground := Ground.data }], guard := none }) (v := (.bool true)) rfl (by kernel_rfl) (by kernel_rfl) (by kernel_rfl) (fun _ _ _ h => h) (Or.inl ⟨by rfl, fun W hSw => by go_simp⟩) hH ?_
                        try simp only [Act.put, List.setIfInBounds_toArray, List.set_cons_zero, List.set_cons_succ]
                        refine wpAnyH_take (i := 7) (oi := { dst := some 55, op := Op.move (Operand.tmp 3), type := 27, pos := "law.go:61", after := #[{ on := 6, ground := Ground.guard }], guard := some (6, true) }) (v := (.slice (some ⟨b, off, none⟩) kk cap)) rfl (by kernel_rfl) (by kernel_rfl) (by kernel_rfl) (fun _ _ _ h => h) (Or.inl ⟨by rfl, fun W hSw => by go_simp⟩) hH ?_
                        try simp only [Act.put, List.setIfInBounds_toArray, List.set_cons_zero, List.set_cons_succ]
                        refine wpAnyH_take (i := 8) (oi := { dst := some 56, op := Op.move (Operand.tmp 5), type := 3, pos := "law.go:61", after := #[{ on := 6, ground := Ground.guard }], guard := some (6, true) }) (v := (.int .i64 (ii : Int))) rfl (by kernel_rfl) (by kernel_rfl) (by kernel_rfl) (fun _ _ _ h => h) (Or.inl ⟨by rfl, fun W hSw => by go_simp⟩) hH ?_
                        try simp only [Act.put, List.setIfInBounds_toArray, List.set_cons_zero, List.set_cons_succ]
                        refine wpAnyH_take (i := 9) (oi := { dst := some 57, op := Op.indexAddr 27 (Operand.tmp 55) (Operand.tmp 56), type := 0, pos := "law.go:61", after := #[{ on := 7, ground := Ground.data }, { on := 8, ground := Ground.data }, { on := 6, ground := Ground.guard }], guard := some (6, true) }) (v := (.pointer (some ⟨b, off + ii * 4, none⟩))) rfl (by kernel_rfl) (by kernel_rfl) (by kernel_rfl) (fun _ _ _ h => h) (Or.inl ⟨by rfl, fun W hSw => by go_simp⟩) hH ?_
                        try simp only [Act.put, List.setIfInBounds_toArray, List.set_cons_zero, List.set_cons_succ]
                        refine wpAnyH_take (i := 10) (oi := { dst := some 58, op := Op.fieldAddr 39 (Operand.tmp 57) 1, type := 0, pos := "law.go:61", after := #[{ on := 9, ground := Ground.data }, { on := 6, ground := Ground.guard }], guard := some (6, true) }) (v := (.pointer (some ⟨b, off + ii * 4 + 1, none⟩))) rfl (by kernel_rfl) (by kernel_rfl) (by kernel_rfl) (fun _ _ _ h => h) (Or.inl ⟨by rfl, fun W hSw => by go_simp⟩) hH ?_
                        try simp only [Act.put, List.setIfInBounds_toArray, List.set_cons_zero, List.set_cons_succ]
                        refine wpAnyH_take (i := 11) (oi := { dst := some 59, op := Op.load 3 (Operand.tmp 58), type := 3, pos := "law.go:61", after := #[{ on := 10, ground := Ground.data }, { on := 6, ground := Ground.guard }], guard := some (6, true) }) (v := (.int .i64 xk)) rfl (by kernel_rfl) (by kernel_rfl) (by kernel_rfl) (fun _ _ _ h => h) (Or.inl ⟨by rfl, fun W hSw => by obtain ⟨y1, x1, y2, y3, x2, x3⟩ := hcells W hSw; go_simp⟩) hH ?_
                        try simp only [Act.put, List.setIfInBounds_toArray, List.set_cons_zero, List.set_cons_succ]
                        refine wpAnyH_take (i := 12) (oi := { dst := some 60, op := Op.binOp BinOp.neq 3 (Operand.tmp 59) (Operand.const (Value.int IntKind.i64 2)) 3, type := 4, pos := "law.go:61", after := #[{ on := 11, ground := Ground.data }, { on := 6, ground := Ground.guard }], guard := some (6, true) }) (v := (.bool true)) rfl (by kernel_rfl) (by kernel_rfl) (by kernel_rfl) (fun _ _ _ h => h) (Or.inl ⟨by rfl, fun W hSw => by go_simp⟩) hH ?_
                        try simp only [Act.put, List.setIfInBounds_toArray, List.set_cons_zero, List.set_cons_succ]
                        refine wpAnyH_take (i := 13) (oi := { dst := some 61, op := Op.pick (Operand.tmp 54) (Operand.tmp 60) (Operand.const (Value.bool false)), type := 4, pos := "law.go:61", after := #[{ on := 6, ground := Ground.data }, { on := 12, ground := Ground.data }], guard := none }) (v := (.bool true)) rfl (by kernel_rfl) (by kernel_rfl) (by kernel_rfl) (fun _ _ _ h => h) (Or.inl ⟨by rfl, fun W hSw => by go_simp⟩) hH ?_
                        try simp only [Act.put, List.setIfInBounds_toArray, List.set_cons_zero, List.set_cons_succ]
                        refine wpAnyH_take (i := 14) (oi := { dst := some 62, op := Op.move (Operand.tmp 61), type := 4, pos := "law.go:61", after := #[{ on := 13, ground := Ground.data }, { on := 6, ground := Ground.chain }], guard := none }) (v := (.bool true)) rfl (by kernel_rfl) (by kernel_rfl) (by kernel_rfl) (fun _ _ _ h => h) (Or.inl ⟨by rfl, fun W hSw => by go_simp⟩) hH ?_
                        try simp only [Act.put, List.setIfInBounds_toArray, List.set_cons_zero, List.set_cons_succ]
                        refine wpAnyH_take (i := 15) (oi := { dst := some 63, op := Op.move (Operand.tmp 3), type := 27, pos := "law.go:61", after := #[{ on := 14, ground := Ground.guard }], guard := some (14, true) }) (v := (.slice (some ⟨b, off, none⟩) kk cap)) rfl (by kernel_rfl) (by kernel_rfl) (by kernel_rfl) (fun _ _ _ h => h) (Or.inl ⟨by rfl, fun W hSw => by go_simp⟩) hH ?_
                        try simp only [Act.put, List.setIfInBounds_toArray, List.set_cons_zero, List.set_cons_succ]
                        refine wpAnyH_take (i := 16) (oi := { dst := some 64, op := Op.move (Operand.tmp 6), type := 3, pos := "law.go:61", after := #[{ on := 14, ground := Ground.guard }], guard := some (14, true) }) (v := (.int .i64 (jj : Int))) rfl (by kernel_rfl) (by kernel_rfl) (by kernel_rfl) (fun _ _ _ h => h) (Or.inl ⟨by rfl, fun W hSw => by go_simp⟩) hH ?_
                        try simp only [Act.put, List.setIfInBounds_toArray, List.set_cons_zero, List.set_cons_succ]
                        refine wpAnyH_take (i := 17) (oi := { dst := some 65, op := Op.indexAddr 27 (Operand.tmp 63) (Operand.tmp 64), type := 0, pos := "law.go:61", after := #[{ on := 15, ground := Ground.data }, { on := 16, ground := Ground.data }, { on := 14, ground := Ground.guard }], guard := some (14, true) }) (v := (.pointer (some ⟨b, off + jj * 4, none⟩))) rfl (by kernel_rfl) (by kernel_rfl) (by kernel_rfl) (fun _ _ _ h => h) (Or.inl ⟨by rfl, fun W hSw => by go_simp⟩) hH ?_
                        try simp only [Act.put, List.setIfInBounds_toArray, List.set_cons_zero, List.set_cons_succ]
                        refine wpAnyH_take (i := 18) (oi := { dst := some 66, op := Op.fieldAddr 39 (Operand.tmp 65) 2, type := 0, pos := "law.go:61", after := #[{ on := 17, ground := Ground.data }, { on := 14, ground := Ground.guard }], guard := some (14, true) }) (v := (.pointer (some ⟨b, off + jj * 4 + 2, none⟩))) rfl (by kernel_rfl) (by kernel_rfl) (by kernel_rfl) (fun _ _ _ h => h) (Or.inl ⟨by rfl, fun W hSw => by go_simp⟩) hH ?_
                        try simp only [Act.put, List.setIfInBounds_toArray, List.set_cons_zero, List.set_cons_succ]
                        refine wpAnyH_take (i := 19) (oi := { dst := some 67, op := Op.load 37 (Operand.tmp 66), type := 37, pos := "law.go:61", after := #[{ on := 18, ground := Ground.data }, { on := 14, ground := Ground.guard }], guard := some (14, true) }) (v := (.agg #[.int .i64 yo, .int .i64 yl])) rfl (by kernel_rfl) (by kernel_rfl) (by kernel_rfl) (fun _ _ _ h => h) (Or.inl ⟨by rfl, fun W hSw => by obtain ⟨y1, x1, y2, y3, x2, x3⟩ := hcells W hSw; go_simp⟩) hH ?_
                        try simp only [Act.put, List.setIfInBounds_toArray, List.set_cons_zero, List.set_cons_succ]
                        refine wpAnyH_take (i := 20) (oi := { dst := some 68, op := Op.move (Operand.tmp 3), type := 27, pos := "law.go:61", after := #[{ on := 14, ground := Ground.guard }], guard := some (14, true) }) (v := (.slice (some ⟨b, off, none⟩) kk cap)) rfl (by kernel_rfl) (by kernel_rfl) (by kernel_rfl) (fun _ _ _ h => h) (Or.inl ⟨by rfl, fun W hSw => by go_simp⟩) hH ?_
                        try simp only [Act.put, List.setIfInBounds_toArray, List.set_cons_zero, List.set_cons_succ]
                        refine wpAnyH_take (i := 21) (oi := { dst := some 69, op := Op.move (Operand.tmp 5), type := 3, pos := "law.go:61", after := #[{ on := 14, ground := Ground.guard }], guard := some (14, true) }) (v := (.int .i64 (ii : Int))) rfl (by kernel_rfl) (by kernel_rfl) (by kernel_rfl) (fun _ _ _ h => h) (Or.inl ⟨by rfl, fun W hSw => by go_simp⟩) hH ?_
                        try simp only [Act.put, List.setIfInBounds_toArray, List.set_cons_zero, List.set_cons_succ]
                        refine wpAnyH_take (i := 22) (oi := { dst := some 70, op := Op.indexAddr 27 (Operand.tmp 68) (Operand.tmp 69), type := 0, pos := "law.go:61", after := #[{ on := 20, ground := Ground.data }, { on := 21, ground := Ground.data }, { on := 14, ground := Ground.guard }], guard := some (14, true) }) (v := (.pointer (some ⟨b, off + ii * 4, none⟩))) rfl (by kernel_rfl) (by kernel_rfl) (by kernel_rfl) (fun _ _ _ h => h) (Or.inl ⟨by rfl, fun W hSw => by go_simp⟩) hH ?_
                        try simp only [Act.put, List.setIfInBounds_toArray, List.set_cons_zero, List.set_cons_succ]
                        refine wpAnyH_take (i := 23) (oi := { dst := some 71, op := Op.fieldAddr 39 (Operand.tmp 70) 2, type := 0, pos := "law.go:61", after := #[{ on := 22, ground := Ground.data }, { on := 14, ground := Ground.guard }], guard := some (14, true) }) (v := (.pointer (some ⟨b, off + ii * 4 + 2, none⟩))) rfl (by kernel_rfl) (by kernel_rfl) (by kernel_rfl) (fun _ _ _ h => h) (Or.inl ⟨by rfl, fun W hSw => by go_simp⟩) hH ?_
                        try simp only [Act.put, List.setIfInBounds_toArray, List.set_cons_zero, List.set_cons_succ]
                        refine wpAnyH_take (i := 24) (oi := { dst := some 72, op := Op.load 37 (Operand.tmp 71), type := 37, pos := "law.go:61", after := #[{ on := 23, ground := Ground.data }, { on := 14, ground := Ground.guard }], guard := some (14, true) }) (v := (.agg #[.int .i64 xo, .int .i64 xl])) rfl (by kernel_rfl) (by kernel_rfl) (by kernel_rfl) (fun _ _ _ h => h) (Or.inl ⟨by rfl, fun W hSw => by obtain ⟨y1, x1, y2, y3, x2, x3⟩ := hcells W hSw; go_simp⟩) hH ?_
                        try simp only [Act.put, List.setIfInBounds_toArray, List.set_cons_zero, List.set_cons_succ]
                        refine wpAnyH_ready (rs := [25]) (by kernel_rfl) (by simp) ?_
                        refine AllReadyH.cons (o := { dst := some 73, op := Op.call { callee := Callee.value (Operand.func 12), args := #[Operand.tmp 67, Operand.tmp 72], argTypes := #[37, 37] }, type := 4, pos := "law.go:61", after := #[{ on := 19, ground := Ground.data }, { on := 24, ground := Ground.data }, { on := 14, ground := Ground.chain }, { on := 14, ground := Ground.guard }], guard := some (14, true) }) rfl (fun K hK => ?_) AllReadyH.nil
                        go_simp
                        refine (q _).mono ?_
                        rintro e w2 ⟨rfl, hk4⟩
                        go_wp2_with fail
                        have hH1 := hH.trans hk4
                        refine hK.out _ _ hH1 (fun _ => ?_)
                        replace hH := hH1
                        clear hK K hH1
                        try simp only [Act.put, List.setIfInBounds_toArray, List.set_cons_zero, List.set_cons_succ]
                        refine wpAnyH_take (i := 26) (oi := { dst := some 74, op := Op.pick (Operand.tmp 62) (Operand.tmp 73) (Operand.const (Value.bool false)), type := 4, pos := "law.go:61", after := #[{ on := 14, ground := Ground.data }, { on := 25, ground := Ground.data }], guard := none }) (v := (.bool false)) rfl (by kernel_rfl) (by kernel_rfl) (by kernel_rfl) (fun _ _ _ h => h) (Or.inl ⟨by rfl, fun W hSw => by go_simp⟩) hH ?_
                        try simp only [Act.put, List.setIfInBounds_toArray, List.set_cons_zero, List.set_cons_succ]
                        refine wpAnyH_take (i := 27) (oi := { dst := some 75, op := Op.move (Operand.tmp 74), type := 4, pos := "law.go:61", after := #[{ on := 26, ground := Ground.data }, { on := 25, ground := Ground.chain }], guard := none }) (v := (.bool false)) rfl (by kernel_rfl) (by kernel_rfl) (by kernel_rfl) (fun _ _ _ h => h) (Or.inl ⟨by rfl, fun W hSw => by go_simp⟩) hH ?_
                        try simp only [Act.put, List.setIfInBounds_toArray, List.set_cons_zero, List.set_cons_succ]
                        refine wpAnyH_take (i := 28) (oi := { dst := some 76, op := Op.move (Operand.tmp 3), type := 27, pos := "law.go:61", after := #[{ on := 27, ground := Ground.guard }], guard := some (27, true) }) (v := undef) rfl (by kernel_rfl) (by kernel_rfl) (by kernel_rfl) (fun _ _ _ h => h) (Or.inr ⟨by rfl, rfl⟩) hH ?_
                        try simp only [Act.put, List.setIfInBounds_toArray, List.set_cons_zero, List.set_cons_succ]
                        refine wpAnyH_take (i := 29) (oi := { dst := some 77, op := Op.move (Operand.tmp 5), type := 3, pos := "law.go:61", after := #[{ on := 27, ground := Ground.guard }], guard := some (27, true) }) (v := undef) rfl (by kernel_rfl) (by kernel_rfl) (by kernel_rfl) (fun _ _ _ h => h) (Or.inr ⟨by rfl, rfl⟩) hH ?_
                        try simp only [Act.put, List.setIfInBounds_toArray, List.set_cons_zero, List.set_cons_succ]
                        refine wpAnyH_take (i := 30) (oi := { dst := some 78, op := Op.call { callee := Callee.value (Operand.func 7), args := #[Operand.tmp 76, Operand.tmp 77, Operand.const (Value.slice none 0 0), Operand.const (Value.slice none 0 0)], argTypes := #[27, 3, 27, 23] }, type := 4, pos := "law.go:61", after := #[{ on := 28, ground := Ground.data }, { on := 29, ground := Ground.data }, { on := 27, ground := Ground.chain }, { on := 27, ground := Ground.guard }], guard := some (27, true) }) (v := undef) rfl (by kernel_rfl) (by kernel_rfl) (by kernel_rfl) (fun _ _ _ h => h) (Or.inr ⟨by rfl, rfl⟩) hH ?_
                        try simp only [Act.put, List.setIfInBounds_toArray, List.set_cons_zero, List.set_cons_succ]
                        refine wpAnyH_take (i := 31) (oi := { dst := some 79, op := Op.pick (Operand.tmp 75) (Operand.tmp 78) (Operand.const (Value.bool false)), type := 4, pos := "law.go:61", after := #[{ on := 27, ground := Ground.data }, { on := 30, ground := Ground.data }], guard := none }) (v := (.bool false)) rfl (by kernel_rfl) (by kernel_rfl) (by kernel_rfl) (fun _ _ _ h => h) (Or.inl ⟨by rfl, fun W hSw => by go_simp⟩) hH ?_
                        try simp only [Act.put, List.setIfInBounds_toArray, List.set_cons_zero, List.set_cons_succ]
                        refine wpAnyH_done (by kernel_rfl) ?_ _
                        go_wp2_with fail
                        go_meet
                        exact ⟨rfl, hH⟩
                      case rest =>
                        obtain ⟨rfl, hkc⟩ := hcut
                        go_wp2_with fail
                        go_roundw
                        case rel => exact ⟨jj + 1, by omega, by go_num, hkc⟩
                        case measure => simpa [RowKit.intOf] using hm1.out
                · have h1b : (yk == 1) = false := by simp [h1y]
                  clear qm hcells
                  go_wp2_with fail
                  go_quiet (fail)
                  go_wp2_with fail
                  go_roundw
                  case rel => exact ⟨jj + 1, by omega, by go_num, hk3.trans (kept_drewN [] _ _)⟩
                  case measure => simpa [RowKit.intOf] using hm1.out
              · have i3 : ¬ ((jj : Int) < (ii : Int)) := by omega
                have hm1 : Hid (kk - (ii + 1) < kk - ii) := by show _ < _; omega
                clear qm hI
                go_wp2_with fail
                go_roundw
                case rel => exact ⟨ii + 1, by omega, by go_num, hk3⟩
                case measure => simpa [RowKit.intOf] using hm1.out
          · have i2 : ¬ ((ii : Int) < (kk : Int)) := by omega
            have q := ql wr
            clear qm hI
            go_wp2_with (go_at_call 5; refine q.mono ?_; rintro e w2 ⟨rfl, hk3⟩)
            go_ret
            exact ⟨rfl, (hk.trans hk2).trans hk3⟩
end Go.Proofs.Ytfmhifhgmkffhaa.Wait
