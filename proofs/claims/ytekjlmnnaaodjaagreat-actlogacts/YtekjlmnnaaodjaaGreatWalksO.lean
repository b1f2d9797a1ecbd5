/-
  The walks of the document's disk: keep, Flush, Crash.
-/
import Derived.Test.YtekjlmnnaaodjaaGreatWalksN
namespace Go.Proofs.YtekjlmnnaaodjaaGreat
open Go.RowKit Go.Maps Go.Shelf
open Math

/-- Behind the first i cells. -/
def midS (s : Dk) (mask i : Nat) : Dk :=
  { s with safe := fun k => if 0 ≤ k ∧ k < (i : Int) then settled s mask k else s.safe k, fresh := fun k => if 0 ≤ k ∧ k < (i : Int) then none else s.fresh k }
theorem midS_start (s : Dk) (mask : Nat) : midS s mask 0 = s := by
  unfold midS
  have e : ∀ k : Int, (0 ≤ k ∧ k < ((0 : Nat) : Int)) = False := fun k => by
    simp only [eq_iff_iff, iff_false]
    omega
  simp only [e, if_false]
theorem valid_midS {s : Dk} (h : Valid s) (mask i : Nat) : Valid (midS s mask i) := by
  refine ⟨h.pos, h.top, fun k x hx => ?_, fun k => ?_, fun k hk => ?_, h.low, h.high⟩
  · simp only [midS] at hx
    split at hx
    · cases hx
    · exact h.fresh k x hx
  · show Sec (if _ then _ else _)
    split
    · exact settled_sec h mask k
    · exact h.safe k
  · show (if _ then _ else _) = _
    split
    · exact settled_out h mask k hk
    · exact h.out k hk
/-- The same as rows. -/
theorem midS_other {s : Dk} {mask i k : Nat} (hk : k ≠ i) : rc (midS s mask (i + 1)) k = rc (midS s mask i) k := by
  have e : ((0 : Int) ≤ (k : Int) ∧ (k : Int) < ((i + 1 : Nat) : Int)) ↔ ((0 : Int) ≤ (k : Int) ∧ (k : Int) < (i : Int)) := by omega
  simp only [rc, midS, e]
theorem midS_at (s : Dk) (mask i : Nat) : rc (midS s mask i) i = rc s i := by
  have e : ¬ ((0 : Int) ≤ (i : Int) ∧ (i : Int) < (i : Int)) := by omega
  simp only [rc, midS, e, if_false]
theorem midS_next (s : Dk) (mask i : Nat) : rc (midS s mask (i + 1)) i = ⟨settled s mask i, nought, false⟩ := by
  have e : ((0 : Int) ≤ (i : Int) ∧ (i : Int) < ((i + 1 : Nat) : Int)) := by omega
  simp only [rc, midS, e, if_true, and_self]
  rfl
theorem midS_none {s : Dk} {mask i : Nat} (h : s.fresh i = none) : rc (midS s mask (i + 1)) = rc (midS s mask i) := by
  funext k
  by_cases e : k = i
  · subst e
    rw [midS_next, midS_at]
    simp [rc, h, settled_none h]
  · exact midS_other e
theorem midS_end (s : Dk) (mask : Nat) : ∀ k, k < s.size → rc (spent s mask) k = rc (midS s mask s.size) k := fun k hk => by
  have e : ((0 : Int) ≤ (k : Int) ∧ (k : Int) < (s.size : Int)) := by omega
  simp only [rc, midS, e, if_true, and_self]
  rfl

section
variable {ops : Array Oper} {rest : List Oper} {o : Oper} {a : Act} {w : World} {Q : Exit → Act → World → Prop}
set_option maxRecDepth 100000 in
/-- What is cached, stored. -/
theorem wpList_store_fresh (hgd : o.guard = none) (x y : Operand) (ho : o.op = .store 52 x y) (r g cap : Nat) (s : Dk) (F : Nat → Rc) (i : Nat) (l : List Nat) (h0 : RefF w r g cap s F) (hi : i < s.size) (hl : Sec l)
    (hx : a.eval x = .pointer (some ⟨g, i * 33 + 16, none⟩)) (hy : a.eval y = .agg (l.map enc).toArray)
    (h : ∀ w', RefF w' r g cap s (upF F i { F i with b := l }) → Kept [g] w w' → Hid (w'.heap.size = w.heap.size) → wpList Tryz.prog ops Q rest (a.put o.dst undef) w') : wpList Tryz.prog ops Q (o :: rest) a w := by
  obtain ⟨p1, p2, p3, p4⟩ := h0.setFresh i hi l hl
  refine wpList_store_mid hgd 52 x y ho g (i * 33 + 16) (l.map enc).toArray hx hy ?_ (by simpa [hl.1] using Tryz.size52) (all_oneCell_toArray (enc_one _)) ?_
  · simpa using p4
  · exact h _ p1 p2 p3
end

set_option maxRecDepth 100000 in
set_option maxHeartbeats 4000000 in
/-- keep -/
theorem keep_any (r g cap : Nat) (s : Dk) (all : Bool) (mask em : Nat) (hm : mask < 18446744073709551616) (hem : ∀ i, (all || bit mask i) = bit em i) (w : World) (h : RefAt w r g cap s) :
    Calls Tryz.prog 24 #[.pointer (some ⟨r, 0, none⟩), .bool all, .int .u64 (mask : Int)] w fun e w' => e = .returned (.tuple #[]) ∧ RefAt w' r g cap (spent s em) ∧ Kept [r, g] w w' := by
  have hv := h.2
  have c0 := h.1.four.1
  have htop := hv.top
  have hne := h.1.ne
  obtain ⟨N, hN⟩ : ∃ N, s.size = N := ⟨_, rfl⟩
  have HN : Hid (s.size = N) := hN
  rw [hN] at c0 htop
  have hR0 : RefF w r g cap s (rc (midS s em 0)) := by rw [midS_start]; exact h.1
  have hfin : Hid (∀ W, RefF W r g cap s (rc (midS s em N)) → RefAt W r g cap (spent s em)) := fun W hW => ⟨hW.congr rfl rfl rfl rfl (fun k hk => by rw [← hN]; exact midS_end s em k hk) (fun k => rc_ok (valid_spent hv em) k), valid_spent hv em⟩
  clear h hN
  go_enter Tryz.func24, Tryz.ntmps24
  go_wp2
  go_loopw [15, 6] (fun i c wr => ∃ k : Nat, k ≤ N ∧ i = .int .i64 k ∧ c = .int .i64 ((below s.fresh k).length : Nat) ∧ RefF wr r g cap s (rc (midS s em k)) ∧ Kept [r, g] w wr) (fun i _ _ => N - (RowKit.intOf i).toNat)
  case atStart => exact ⟨0, by omega, rfl, rfl, hR0, Kept.refl _ _⟩
  case round =>
    obtain ⟨k, hk, rfl, rfl, hR, hK⟩ := hrel
    clear c0 hR0
    by_cases hlt : k < N
    · have kk : (k : Int) < (N : Int) := by omega
      have hks : k < s.size := by rw [HN.out]; exact hlt
      have hm1 : Hid (N - (k + 1) < N - k) := by show _ < _; omega
      have c0 := hR.four.1
      rw [HN.out] at c0
      have cf := hR.cachedAt k hks
      rw [midS_at] at cf
      have hbs := below_succ s.fresh k
      have hbl := below_length s.fresh k
      cases hf : s.fresh k with
      | none =>
        simp only [rc, hf, Option.isSome_none] at cf
        rw [hf] at hbs
        simp only [Option.isSome_none, Bool.false_eq_true, if_false] at hbs
        rw [← midS_none hf] at hR
        replace hbs : Hid _ := hbs
        go_wp2
        go_roundw
        case rel => exact ⟨k + 1, by omega, rfl, by rw [hbs.out], hR, hK⟩
        case measure => simpa [RowKit.intOf] using hm1.out
      | some x =>
        simp only [rc, hf, Option.isSome_some] at cf
        have hx := (hv.fresh k x hf).2.2
        rw [hf] at hbs
        simp only [Option.isSome_some, if_true] at hbs
        replace hbs : Hid _ := hbs
        obtain ⟨c, hc⟩ : ∃ c, (below s.fresh k).length = c := ⟨_, rfl⟩
        have HC : Hid ((below s.fresh k).length = c) := hc
        rw [hc] at hbl ⊢
        clear hc
        have hec := hem c
        clear hem
        obtain ⟨d, hd⟩ : ∃ d, c % 64 = d := ⟨_, rfl⟩
        have hcm : (c : Int) % 64 = (d : Int) := by omega
        have hbit : bit mask c = decide ((mask / 2 ^ d) % 2 = 1) := by unfold bit; rw [hd]
        clear hd
        go_wp2
        go_loopw [8, 9] (fun m i wq => ∃ j : Nat, j ≤ d ∧ m = .int .u64 ((mask / 2 ^ j : Nat) : Int) ∧ i = .int .i64 j ∧ wq = wr) (fun _ i _ => d - (RowKit.intOf i).toNat)
        case atStart => exact ⟨0, by omega, by simp, rfl, rfl⟩
        case round =>
          obtain ⟨j, hj, rfl, rfl, rfl⟩ := hrel
          by_cases hlj : j < d
          · have kj : (j : Int) < (d : Int) := by omega
            have hm2 : Hid (d - (j + 1) < d - j) := by show _ < _; omega
            have hq : Hid (((mask / 2 ^ j : Nat) : Int) / 2 = ((mask / 2 ^ (j + 1) : Nat) : Int)) := by
              show _ = _
              rw [Nat.pow_succ, ← Nat.div_div_eq_div_mul]
              omega
            have hlq : mask / 2 ^ j < 18446744073709551616 := Nat.lt_of_le_of_lt (Nat.div_le_self _ _) hm
            generalize mask / 2 ^ j = q at *
            go_wp2
            go_roundw
            case rel => exact ⟨j + 1, by omega, by first | exact congrArg (Value.int .u64) hq.out | (simp; exact hq.out), (by first | rfl | trivial), (by first | rfl | trivial)⟩
            case measure => simpa [RowKit.intOf] using hm2.out
          · have hjd : j = d := by omega
            subst hjd
            have hlq : mask / 2 ^ j < 18446744073709551616 := Nat.lt_of_le_of_lt (Nat.div_le_self _ _) hm
            have hset : settled s em (k : Int) = if bit em c then x else s.safe k := by
              unfold settled
              rw [hf]
              simp only [Int.toNat_natCast, HC.out]
            generalize mask / 2 ^ j = q at hbit hlq ⊢
            cases hall : all with
            | true =>
              subst hall
              have hbe : bit em c = true := by rw [← hec]; rfl
              have hD1 := hR.drew
              obtain ⟨p1, p2, p3, p4⟩ := hD1.setSafe k hks x hx
              have cr : wr.drew.rangeAt g (k * 33 + 16) (x.map enc) := by
                have := hD1.freshAt k hks
                rw [midS_at] at this
                simp only [rc, hf, Option.getD_some] at this
                exact this
              have cr2 : (wr.drew.setCells g (k * 33) (x.map enc)).rangeAt g (k * 33 + 16) (x.map enc) := by
                have := p1.freshAt k hks
                rw [upF_same, midS_at] at this
                simp only [rc, hf, Option.getD_some] at this
                exact this
              have c01 : wr.drew.cell? ⟨r, 0, none⟩ = some (.slice (some ⟨g, 0, none⟩) N cap) := by
                have := hD1.four.1
                rwa [HN.out] at this
              have c02 : (wr.drew.setCells g (k * 33) (x.map enc)).cell? ⟨r, 0, none⟩ = some (.slice (some ⟨g, 0, none⟩) N cap) := by
                have := p1.four.1
                rwa [HN.out] at this
              have HR1 : Hid (wr.drew.cell? ⟨r, 0, none⟩ = some (.slice (some ⟨g, 0, none⟩) N cap) ∧ wr.drew.rangeAt g (k * 33 + 16) (x.map enc)) := ⟨c01, cr⟩
              have HR2 : Hid ((wr.drew.setCells g (k * 33) (x.map enc)).cell? ⟨r, 0, none⟩ = some (.slice (some ⟨g, 0, none⟩) N cap) ∧ (wr.drew.setCells g (k * 33) (x.map enc)).rangeAt g (k * 33 + 16) (x.map enc)) := ⟨c02, cr2⟩
              have h1 := enc_one x
              have hu := Tryz.underlying52
              have hsz : (Tryz.prog.info? 52).map (·.size) = some (x.map enc).length := by rw [List.length_map, hx.1]; exact Tryz.size52
              have hk1 : Kept [g] wr (wr.drew.setCells g (k * 33) (x.map enc)) := (kept_drew _ _).trans p2
              replace p1 : Hid _ := p1
              clear p2 p3 cr cr2
              go_wp2_with fail
              generalize hcs : x.map enc = cs at hsz h1 p4 HR1 HR2 c01 c02 hk1 p1 ⊢
              replace hcs : Hid _ := hcs
              go_region_held3 (fun W => W.cell? ⟨r, 0, none⟩ = some (.slice (some ⟨g, 0, none⟩) N cap) ∧ W.rangeAt g (k * 33 + 16) cs) (first | exact HR1.out | exact HR2.out) (fail)
              have hR2 := p1.out
              generalize wr.drew.setCells g (k * 33) cs = w2 at hR2 hk1 c02 ⊢
              clear HR1 HR2 p1 p4 c01 hcs hD1 h1 hu hsz
              go_wp2_with (first
                | (refine wpList_store_fresh rfl _ _ rfl r g cap s _ k nought hR2 hks sec_nought rfl rfl ?_; intro w3 hR3 hk3 hz3; obtain ⟨hR4, hk4, hfr⟩ := hR3.setFlag k hks false; have cf3 := hR3.cachedAt k hks; have c03 := hR3.four.1; rw [HN.out] at c03))
              go_roundw
              case rel =>
                refine ⟨k + 1, by omega, rfl, by rw [hbs.out, List.length_append, HC.out]; rfl, ?_, ((hK.trans (hk1.mono (by simp))).trans (hk3.mono (by simp))).trans (hk4.mono (by simp))⟩
                refine hR4.congr rfl rfl rfl rfl (fun k' _ => ?_) (fun k' => rc_ok (valid_midS hv em _) k')
                by_cases e : k' = k
                · subst e
                  rw [midS_next, hset]
                  simp only [upF_same, rc, hbe, if_true]
                · simp only [upF_other _ _ e]
                  exact midS_other e
              case measure => simpa [RowKit.intOf] using hm1.out
            | false =>
              subst hall
              by_cases hb : q % 2 = 1
              · have e1 : ((q : Int) % 2 == 1) = true := by simp; omega
                have hbe : bit em c = true := by rw [← hec, hbit]; simp [hb]
                have hD1 := hR.drew
                obtain ⟨p1, p2, p3, p4⟩ := hD1.setSafe k hks x hx
                have cr : wr.drew.rangeAt g (k * 33 + 16) (x.map enc) := by
                  have := hD1.freshAt k hks
                  rw [midS_at] at this
                  simp only [rc, hf, Option.getD_some] at this
                  exact this
                have cr2 : (wr.drew.setCells g (k * 33) (x.map enc)).rangeAt g (k * 33 + 16) (x.map enc) := by
                  have := p1.freshAt k hks
                  rw [upF_same, midS_at] at this
                  simp only [rc, hf, Option.getD_some] at this
                  exact this
                have c01 : wr.drew.cell? ⟨r, 0, none⟩ = some (.slice (some ⟨g, 0, none⟩) N cap) := by
                  have := hD1.four.1
                  rwa [HN.out] at this
                have c02 : (wr.drew.setCells g (k * 33) (x.map enc)).cell? ⟨r, 0, none⟩ = some (.slice (some ⟨g, 0, none⟩) N cap) := by
                  have := p1.four.1
                  rwa [HN.out] at this
                have HR1 : Hid (wr.drew.cell? ⟨r, 0, none⟩ = some (.slice (some ⟨g, 0, none⟩) N cap) ∧ wr.drew.rangeAt g (k * 33 + 16) (x.map enc)) := ⟨c01, cr⟩
                have HR2 : Hid ((wr.drew.setCells g (k * 33) (x.map enc)).cell? ⟨r, 0, none⟩ = some (.slice (some ⟨g, 0, none⟩) N cap) ∧ (wr.drew.setCells g (k * 33) (x.map enc)).rangeAt g (k * 33 + 16) (x.map enc)) := ⟨c02, cr2⟩
                have h1 := enc_one x
                have hu := Tryz.underlying52
                have hsz : (Tryz.prog.info? 52).map (·.size) = some (x.map enc).length := by rw [List.length_map, hx.1]; exact Tryz.size52
                have hk1 : Kept [g] wr (wr.drew.setCells g (k * 33) (x.map enc)) := (kept_drew _ _).trans p2
                replace p1 : Hid _ := p1
                clear p2 p3 cr cr2
                go_wp2_with fail
                generalize hcs : x.map enc = cs at hsz h1 p4 HR1 HR2 c01 c02 hk1 p1 ⊢
                replace hcs : Hid _ := hcs
                go_region_held3 (fun W => W.cell? ⟨r, 0, none⟩ = some (.slice (some ⟨g, 0, none⟩) N cap) ∧ W.rangeAt g (k * 33 + 16) cs) (first | exact HR1.out | exact HR2.out) (fail)
                have hR2 := p1.out
                generalize wr.drew.setCells g (k * 33) cs = w2 at hR2 hk1 c02 ⊢
                clear HR1 HR2 p1 p4 c01 hcs hD1 h1 hu hsz
                go_wp2_with (first
                  | (refine wpList_store_fresh rfl _ _ rfl r g cap s _ k nought hR2 hks sec_nought rfl rfl ?_; intro w3 hR3 hk3 hz3; obtain ⟨hR4, hk4, hfr⟩ := hR3.setFlag k hks false; have cf3 := hR3.cachedAt k hks; have c03 := hR3.four.1; rw [HN.out] at c03))
                go_roundw
                case rel =>
                  refine ⟨k + 1, by omega, rfl, by rw [hbs.out, List.length_append, HC.out]; rfl, ?_, ((hK.trans (hk1.mono (by simp))).trans (hk3.mono (by simp))).trans (hk4.mono (by simp))⟩
                  refine hR4.congr rfl rfl rfl rfl (fun k' _ => ?_) (fun k' => rc_ok (valid_midS hv em _) k')
                  by_cases e : k' = k
                  · subst e
                    rw [midS_next, hset]
                    simp only [upF_same, rc, hbe, if_true]
                  · simp only [upF_other _ _ e]
                    exact midS_other e
                case measure => simpa [RowKit.intOf] using hm1.out
              · have e1 : ((q : Int) % 2 == 1) = false := by simp; omega
                have hbe : bit em c = false := by rw [← hec, hbit]; simp [hb]
                go_wp2_with (first
                  | (refine wpList_store_fresh rfl _ _ rfl r g cap s _ k nought hR hks sec_nought rfl rfl ?_; intro w3 hR3 hk3 hz3; obtain ⟨hR4, hk4, hfr⟩ := hR3.setFlag k hks false; have cf3 := hR3.cachedAt k hks; have c03 := hR3.four.1; rw [HN.out] at c03))
                go_roundw
                case rel =>
                  refine ⟨k + 1, by omega, rfl, by rw [hbs.out, List.length_append, HC.out]; rfl, ?_, (hK.trans (hk3.mono (by simp))).trans (hk4.mono (by simp))⟩
                  refine hR4.congr rfl rfl rfl rfl (fun k' _ => ?_) (fun k' => rc_ok (valid_midS hv em _) k')
                  by_cases e : k' = k
                  · subst e
                    rw [midS_next, hset]
                    simp only [upF_same, midS_at, hbe, Bool.false_eq_true, if_false]
                    rfl
                  · simp only [upF_other _ _ e]
                    exact midS_other e
                case measure => simpa [RowKit.intOf] using hm1.out
    · obtain rfl : k = N := by omega
      go_wp2
      go_end0
      exact ⟨rfl, hfin.out _ hR, hK⟩

set_option maxRecDepth 100000 in
/-- Flush -/
theorem refFlush_any (r g cap : Nat) (s : Dk) (hops : s.ops ≤ 1000000) (w : World) (h : RefAt w r g cap s) :
    Calls Tryz.prog 40 #[.pointer (some ⟨r, 0, none⟩)] w fun e w' => e = .returned (.int .i64 (flushE s : Nat)) ∧ RefAt w' r g cap (flushS s) ∧ Kept [r, g] w w' := by
  have q2 := burns_any r g cap s w hops h
  unfold flushE flushS
  by_cases hn : worn s = true
  · rw [if_pos hn, if_pos hn]
    rw [hn, if_pos rfl] at q2
    go_enter Tryz.func40, Tryz.ntmps40
    go_wp2_with (first
      | (go_at_call 55; refine q2.mono ?_; rintro e w1 ⟨rfl, hD, hk⟩))
    go_ret
    exact ⟨rfl, hD, hk.mono (by simp)⟩
  · rw [if_neg hn, if_neg hn]
    replace hn : worn s = false := by simpa using hn
    rw [hn] at q2
    simp only [Bool.false_eq_true, if_false] at q2
    go_enter Tryz.func40, Tryz.ntmps40
    go_wp2_with (first
      | (go_at_call 55; refine q2.mono ?_; rintro e w1 ⟨rfl, hD, hk⟩)
      | (go_at_call 24; refine (keep_any r g cap (done s) true 0 full (by omega) (fun i => by rw [full_bit]; rfl) w1 hD).mono ?_; rintro e w2 ⟨rfl, hD2, hk2⟩))
    go_ret
    exact ⟨rfl, hD2, (hk.mono (by simp)).trans hk2⟩
set_option maxRecDepth 100000 in
/-- Crash -/
theorem refCrash_any (r g cap : Nat) (s : Dk) (mask : Nat) (hm : mask < 18446744073709551616) (w : World) (h : RefAt w r g cap s) :
    Calls Tryz.prog 10 #[.pointer (some ⟨r, 0, none⟩), .int .u64 (mask : Int)] w fun e w' => e = .returned (.tuple #[]) ∧ RefAt w' r g cap (crashed s mask) ∧ Kept [r, g] w w' := by
  have q2 := keep_any r g cap s false mask mask hm (fun i => by simp) w h
  go_enter Tryz.func10, Tryz.ntmps10
  go_wp2_with (first
    | (go_at_call 24; refine q2.mono ?_; rintro e w2 ⟨rfl, hD2, hk2⟩; obtain ⟨-, c1, c2, -⟩ := hD2.1.four; have f1 := hD2.1.frozen 1; have f2 := hD2.1.frozen 2))
  go_end0
  have hF := (hD2.setBroken false).setFuse (k := -1) (by omega) (by omega)
  rw [show nf (-1) = -1 from rfl] at hF
  exact ⟨rfl, hF, (hk2.trans (kept_set (by simp) _ _ _)).trans (kept_set (by simp) _ _ _)⟩
end Go.Proofs.YtekjlmnnaaodjaaGreat
