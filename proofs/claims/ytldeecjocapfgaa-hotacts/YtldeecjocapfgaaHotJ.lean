/-
  The walk of the document's Use.
-/
import Derived.Test.YtldeecjocapfgaaHotI
namespace Go.Proofs.Ytldeecjocapfgaa.Hot
open Go.RowKit
open Bits Bits.Math

set_option maxRecDepth 100000 in
set_option maxHeartbeats 1000000 in
/-- of what does not fit -/
theorem ruse_bad (p n₀ most : Nat) (v : Value) (l : List Nat) (need busy : Nat) (hn : need < 18446744073709551616) (hb : busy < 18446744073709551616) (w : World) (h : RefAt w p n₀ most v l) (hf : fits most need busy l = false) :
    Calls Try.prog 14 #[.pointer (some ⟨p, 0, none⟩), .int .u64 (need : Int), .int .u64 (busy : Int)] w fun e w' => e = .returned (.tuple #[.bool false, .bool false]) ∧ Below w.heap.size w w' := by
  have q := rfits_any p n₀ most v l need busy hn hb w h
  rw [hf] at q
  clear h
  go_enter Try.func14, Try.ntmps14
  go_wp2_with (go_at_call 10; refine q.mono ?_; rintro e w1 ⟨rfl, hB1⟩)
  go_ret2
  exact ⟨rfl, hB1⟩

/-- Within the document's Use. -/
structure Rid (w W : World) (p n₀ most : Nat) (v : Value) (l : List Nat) : Prop where
  set : RefAt W p n₀ most v l
  kept : Kept [p] w W
  start : p < w.heap.size
theorem Rid.below {w W W' : World} {p n₀ most : Nat} {v : Value} {l : List Nat} (h : Rid w W p n₀ most v l) (hB : Below W.heap.size W W') : Rid w W' p n₀ most v l :=
  ⟨h.set.below hB, h.kept.trans (Kept.of_below hB _), h.start⟩
theorem Rid.put {w W : World} {p n₀ most : Nat} {v v' : Value} {l l' : List Nat} (h : Rid w W p n₀ most v l) (hn : Nums n₀ W v' l') (hg : Good l') : Rid w (W.setCell ⟨p, 0, none⟩ v') p n₀ most v' l' :=
  ⟨h.set.put hn hg, h.kept.trans (kept_set (by simp) _ _ _), h.start⟩
/-- One round of the first loop. -/
theorem evict_go {most need busy : Nat} {k r : List Nat} {e : Nat} (h : (over most need (k ++ e :: r) && may need busy e) = true) : evict most need busy k (e :: r) = evict most need busy k r := by
  conv => lhs; unfold evict
  rw [if_pos h]
theorem evict_stay {most need busy : Nat} {k r : List Nat} {e : Nat} (h : (over most need (k ++ e :: r) && may need busy e) = false) : evict most need busy k (e :: r) = evict most need busy (k ++ [e]) r := by
  conv => lhs; unfold evict
  rw [if_neg (by rw [h]; simp)]

theorem good_gone {l d : List Nat} (h : Good l) (hd : Good d) : Good (gone l d ++ d) := by
  constructor
  · rw [List.nodup_append]
    refine ⟨(h.sub (gone_sub l d)).nodup, hd.nodup, fun a ha b hb e => ?_⟩
    subst e
    unfold gone at ha
    simp at ha
    exact ha.2 hb
  · intro x hx
    rcases List.mem_append.1 hx with h1 | h1
    · exact h.lt x ((gone_sub l d).subset h1)
    · exact hd.lt x h1

set_option maxRecDepth 100000 in
set_option maxHeartbeats 4000000 in
/-- of what fits -/
theorem ruse_ok (p n₀ most : Nat) (v : Value) (l : List Nat) (need busy : Nat) (hn : need < 18446744073709551616) (hb : busy < 18446744073709551616) (w : World) (h : RefAt w p n₀ most v l) (hf : fits most need busy l = true) :
    Calls Try.prog 14 #[.pointer (some ⟨p, 0, none⟩), .int .u64 (need : Int), .int .u64 (busy : Int)] w fun e w' =>
      e = .returned (.tuple #[.bool (((mask (used most need busy l) : Nat) : Int) != ((mask l : Nat) : Int)), .bool true]) ∧ (∃ v', RefAt w' p n₀ most v' (used most need busy l)) ∧ Kept [p] w w' := by
  have q := rfits_any p n₀ most v l need busy hn hb w h
  rw [hf] at q
  have hg := h.good
  have hgl := hg.len
  have hR : Rid w w p n₀ most v l := ⟨h, Kept.refl _ _, h.cells.lt⟩
  obtain ⟨a, cap, rfl, -⟩ := id h.nums
  clear h hf
  go_enter Try.func14, Try.ntmps14
  go_wp2_with (first
    | (go_at_call 10; refine q.mono ?_; clear q; rintro e w1 ⟨rfl, hB1⟩; replace hR := hR.below hB1; clear hB1)
    | (go_at_call 16; refine (rmask_any _ _ _ _ _ _ hR.set).mono ?_; rintro e w1 ⟨rfl, rfl⟩; have c0 := (hR.below ((Below.refl _ w1).alloc (Nat.le_refl _) (.cells #[] 3))).set.cell.1; have r0 : Hid ((w1.alloc (.cells #[] 3)).ownsRow w1.heap.size 3 1 (.slice (some ⟨w1.heap.size, 0, none⟩) 0 0) ([] : List Nat).length (([] : List Nat).map enc)) := (World.ownsRow_made w1 #[] 0 (Nat.le_refl _) (by unfold maxLen; omega) rfl))
    | (at_builtin; refine wpList_append_nums rfl _ _ rfl w1.heap.size n₀ _ _ [] l rfl r0.out rfl (hR.set.nums.kept (kept_alloc [] w1 _) (by simp)) (by simpa using (by omega)) (by simp) ?_; intro vO w2 hr hgr; have hB2 : Below w1.heap.size w1 w2 := ((Below.refl w1.heap.size w1).alloc (Nat.le_refl _) _).trans (below_grown r0.out hgr (Nat.le_refl _) (by simp)); have nO : Nums w.heap.size w2 vO l := nums_of_owns hr hR.kept.size; replace hR := hR.below hB2; obtain ⟨aO, capO, eO, -⟩ := id nO; subst eO; clear hr hgr r0 c0 hB2))
  obtain ⟨m, hm⟩ : ∃ m, l.length = m := ⟨_, rfl⟩
  have HM : Hid (l.length = m) := hm
  rw [hm] at nO hgl hR ⊢
  clear hm
  go_loopw [29] (fun i wr => ∃ (k : Nat) (v1 : Value) (K : List Nat), k ≤ m ∧ i = .int .i64 k ∧ Rid w wr p n₀ most v1 (K ++ l.drop k) ∧ evict most need busy K (l.drop k) = evict most need busy [] l ∧ Nums w.heap.size wr (.slice aO m capO) l) (fun i _ => m - (intOf i).toNat)
  case atStart => exact ⟨0, _, [], Nat.zero_le _, rfl, by simpa using hR, by simp, nO⟩
  case round =>
    clear hR nO
    obtain ⟨k, v1, K, hk, rfl, hR, hev, nO⟩ := hrel
    by_cases hlt : k < m
    · have hkl : k < l.length := by rw [HM.out]; exact hlt
      obtain ⟨bO, oO, rfl, hcx⟩ := nO.cell_at hkl
      have hd : l.drop k = (l[k]?.getD 0) :: l.drop (k + 1) := by rw [List.drop_eq_getElem_cons hkl]; simp [hkl]
      have hx64 : l[k]?.getD 0 < 64 := by
        have := hg.lt l[k] (List.getElem_mem hkl)
        simpa [hkl] using this
      rw [hd] at hR hev
      clear hd
      generalize l[k]?.getD 0 = x at *
      have HE : Hid (evict most need busy K (x :: l.drop (k + 1)) = evict most need busy [] l) := hev
      have hq1 := has_nat (s := need) hx64
      have hq2 := has_nat (s := busy) hx64
      have qo := fun W hS => over_any p n₀ most v1 (K ++ x :: l.drop (k + 1)) need hn W hS
      have q1 := fun W => refHas_any need (x : Int) W hn
      have q2 := fun W => refHas_any busy (x : Int) W hb
      simp only [hq1] at q1
      simp only [hq2] at q2
      clear hev hq1 hq2
      have hap : (K ++ [x]) ++ l.drop (k + 1) = K ++ x :: l.drop (k + 1) := by simp
      have HAP : Hid ((K ++ [x]) ++ l.drop (k + 1) = K ++ x :: l.drop (k + 1)) := hap
      clear hap
      cases ho : over most need (K ++ x :: l.drop (k + 1)) with
      | false =>
        have HS : Hid (evict most need busy (K ++ [x]) (l.drop (k + 1)) = evict most need busy [] l) := (evict_stay (by rw [ho]; rfl)).symm.trans HE.out
        simp only [ho] at qo
        clear ho q1 q2
        go_wp2_with (first
          | (go_at_call 30; refine (qo _ hR.set).mono ?_; clear qo; rintro e w3 ⟨rfl, hB3⟩; replace hR := hR.below hB3; replace nO := nO.kept (Kept.of_below hB3 []) (by simp)))
        go_roundw
        case rel => exact ⟨k + 1, v1, K ++ [x], by omega, by go_num, by rw [HAP.out]; exact hR, HS.out, nO⟩
        case measure => simp [intOf]; omega
      | true =>
        simp only [ho] at qo
        cases en : need.testBit x with
        | true =>
          have HS : Hid (evict most need busy (K ++ [x]) (l.drop (k + 1)) = evict most need busy [] l) := (evict_stay (by simp [may, en])).symm.trans HE.out
          simp only [en] at q1
          clear ho q2 en
          go_wp2_with (first
            | (go_at_call 30; refine (qo _ hR.set).mono ?_; clear qo; rintro e w3 ⟨rfl, hB3⟩; replace hR := hR.below hB3; replace nO := nO.kept (Kept.of_below hB3 []) (by simp))
            | (go_at_call 22; refine (q1 _).mono ?_; clear q1; rintro e w3 ⟨rfl, rfl⟩))
          go_roundw
          case rel => exact ⟨k + 1, v1, K ++ [x], by omega, by go_num, by rw [HAP.out]; exact hR, HS.out, nO⟩
          case measure => simp [intOf]; omega
        | false =>
          cases eb : busy.testBit x with
          | true =>
            have HS : Hid (evict most need busy (K ++ [x]) (l.drop (k + 1)) = evict most need busy [] l) := (evict_stay (by simp [may, eb])).symm.trans HE.out
            simp only [en] at q1
            simp only [eb] at q2
            clear ho en eb
            go_wp2_with (first
              | (go_at_call 30; refine (qo _ hR.set).mono ?_; clear qo; rintro e w3 ⟨rfl, hB3⟩; replace hR := hR.below hB3; replace nO := nO.kept (Kept.of_below hB3 []) (by simp))
              | (go_at_call 22; refine (q1 _).mono ?_; clear q1; rintro e w3 ⟨rfl, rfl⟩)
              | (go_at_call 22; refine (q2 _).mono ?_; clear q2; rintro e w3 ⟨rfl, rfl⟩))
            go_roundw
            case rel => exact ⟨k + 1, v1, K ++ [x], by omega, by go_num, by rw [HAP.out]; exact hR, HS.out, nO⟩
            case measure => simp [intOf]; omega
          | false =>
            have HS : Hid (evict most need busy K (l.drop (k + 1)) = evict most need busy [] l) := (evict_go (by simp [may, en, eb, ho])).symm.trans HE.out
            have hfp := filter_parts hR.set.good.nodup
            have qw := fun W hS => without_any p n₀ most v1 (K ++ x :: l.drop (k + 1)) x W hS
            simp only [hfp] at qw
            have gK : Good (K ++ l.drop (k + 1)) := by rw [← hfp]; exact hR.set.good.sub List.filter_sublist
            simp only [en] at q1
            simp only [eb] at q2
            clear ho en eb hfp
            go_wp2_with (first
              | (go_at_call 30; refine (qo _ hR.set).mono ?_; clear qo; rintro e w3 ⟨rfl, hB3⟩; replace hR := hR.below hB3; replace nO := nO.kept (Kept.of_below hB3 []) (by simp))
              | (go_at_call 22; refine (q1 _).mono ?_; clear q1; rintro e w3 ⟨rfl, rfl⟩)
              | (go_at_call 22; refine (q2 _).mono ?_; clear q2; rintro e w3 ⟨rfl, rfl⟩)
              | (go_at_call 31; refine (qw _ hR.set).mono ?_; clear qw; rintro e w4 ⟨v4, rfl, hr, hB4⟩; have n4 := nums_of_owns hr hR.set.high; obtain ⟨a4, cap4, e4, -⟩ := id n4; subst e4; replace hR := hR.below hB4; replace nO := nO.kept (Kept.of_below hB4 []) (by simp); have f4 := hR.set.cells.frozen 0; have c4 := hR.set.cell.1; clear hr))
            have hst := hR.start
            have hR2 := hR.put n4 gK
            rw [List.length_append, List.length_drop] at hR2
            replace nO := nO.kept (kept_set (L := [p]) (g := p) (by simp) _ 0 (.slice a4 (K.length + (l.length - (k + 1))) cap4)) (by simpa using hst)
            go_roundw
            case rel => exact ⟨k + 1, _, K, by omega, by go_num, hR2, HS.out, nO⟩
            case measure => simp [intOf]; omega
    · obtain rfl : k = m := by omega
      have hdn : l.drop k = [] := List.drop_of_length_le (by rw [HM.out]; exact Nat.le_refl _)
      rw [hdn, List.append_nil] at hR
      have H1 : Hid (K = evict most need busy [] l) := (show K = evict most need busy [] l by rw [← hev, hdn]; rfl)
      have gK := hR.set.good
      clear hdn hev nO
      have qE := fun W => refList_any need W hn
      have gE := Good.elems need
      have HE : Hid (gone K (elems need) ++ elems need = used most need busy l) := (show gone K (elems need) ++ elems need = used most need busy l by
        unfold used
        rw [← H1.out, gone_elems gK.lt])
      obtain ⟨E, hE⟩ : ∃ E, elems need = E := ⟨_, rfl⟩
      simp only [hE] at qE
      rw [hE] at gE HE
      have hEl := gE.len
      clear hE
      go_wp2_with (first
        | (go_at_call 19; refine (qE _).mono ?_; clear qE; rintro e w5 ⟨v5, rfl, hr, hB5⟩; have nE := nums_of_owns hr hR.kept.size; obtain ⟨aE, capE, eE, -⟩ := id nE; subst eE; replace hR := hR.below hB5; clear hr hB5))
      obtain ⟨mE, hmE⟩ : ∃ mE, E.length = mE := ⟨_, rfl⟩
      have HN : Hid (E.length = mE) := hmE
      rw [hmE] at nE hEl ⊢
      clear hmE
      go_loopw [58] (fun i wr => ∃ (j : Nat) (v2 : Value), j ≤ mE ∧ i = .int .i64 j ∧ Rid w wr p n₀ most v2 (gone K (E.take j) ++ E.take j) ∧ Nums w.heap.size wr (.slice aE mE capE) E) (fun i _ => mE - (intOf i).toNat)
      case atStart => exact ⟨0, v1, Nat.zero_le _, rfl, by simpa [gone_nil] using hR, nE⟩
      case round =>
        clear hR nE
        obtain ⟨j, v2, hj, rfl, hR, nE⟩ := hrel
        by_cases hjt : j < mE
        · have hjE : j < E.length := by rw [HN.out]; exact hjt
          obtain ⟨bE, oE, rfl, hcx⟩ := nE.cell_at hjE
          obtain ⟨x, hx⟩ : ∃ x, E[j]?.getD 0 = x := ⟨_, rfl⟩
          have hx2 : E[j] = x := by simpa [hjE] using hx
          have hnx : x ∉ E.take j := by rw [← hx2]; exact take_not_mem gE.nodup hjE
          have HS : Hid ((gone K (E.take j) ++ E.take j).filter (fun y => y != x) ++ [x] = gone K (E.take (j + 1)) ++ E.take (j + 1)) := (show (gone K (E.take j) ++ E.take j).filter (fun y => y != x) ++ [x] = gone K (E.take (j + 1)) ++ E.take (j + 1) by
            rw [ref_snoc K (E.take j) x hnx, List.take_succ_eq_append_getElem hjE, hx2])
          have gN : Good (gone K (E.take (j + 1)) ++ E.take (j + 1)) := good_gone gK (gE.sub (List.take_sublist _ _))
          rw [hx] at hcx
          have qw := fun W hS => without_any p n₀ most v2 (gone K (E.take j) ++ E.take j) x W hS
          have hFl : ((gone K (E.take j) ++ E.take j).filter (fun y => y != x)).length ≤ 64 := Nat.le_trans (List.length_filter_le _ _) hR.set.good.len
          clear hx hx2 hnx
          generalize hF : (gone K (E.take j) ++ E.take j).filter (fun y => y != x) = F at *
          obtain ⟨i0, hi, hz0, hz1, hz2⟩ := info_parts Try.info3
          clear hF
          have s6 := hR.set.high
          obtain ⟨G, hG⟩ : ∃ G, gone K (E.take (j + 1)) ++ E.take (j + 1) = G := ⟨_, rfl⟩
          rw [hG] at HS gN
          have HG : Hid (gone K (E.take (j + 1)) ++ E.take (j + 1) = G) := hG
          clear hG
          go_wp2_with (first
            | (go_at_call 31; refine (qw _ hR.set).mono ?_; clear qw; rintro e w6 ⟨v6, rfl, hr, hB6⟩; have z6 := hB6.size)
            | (at_builtin; refine wpList_append_own _ rfl _ _ 40 rfl wr.heap.size 3 i0 (.int .i64 0) 1 8 Try.underlying40 hi hz0 hz1 hz2 rfl (by decide) _ _ _ rfl (hr.alloc _) ⟨World.heap _ |>.size, 0, none⟩ 1 1 [.int .i64 (x : Int)] rfl rfl (cell_one_new _ _ _) (by simp [Value.oneCell']) (by unfold maxLen; omega) (by omega) (by simp; omega) ?_; intro v7 w7 hr7 hg7 _; have hB7 : Below wr.heap.size wr w7 := below_append (Nat.le_refl _) hB6 hr hg7; have hr8 : w7.ownsRow wr.heap.size 3 1 v7 G.length (G.map enc) := (by rw [← HS.out, List.length_append, List.map_append]; exact hr7); have n8 := nums_of_owns hr8 s6; obtain ⟨a8, cap8, e8, -⟩ := id n8; subst e8; replace hR := hR.below hB7; replace nE := nE.kept (Kept.of_below hB7 []) (by simp); have f8 := hR.set.cells.frozen 0; have c8 := hR.set.cell.1; clear hr hr7 hr8 hg7 hB6 hB7 z6))
          have hst := hR.start
          have hR2 := hR.put n8 gN
          replace nE := nE.kept (kept_set (L := [p]) (g := p) (by simp) _ 0 (.slice a8 G.length cap8)) (by simpa using hst)
          go_roundw
          case rel => exact ⟨j + 1, _, by omega, by go_num, by rw [HG.out]; exact hR2, nE⟩
          case measure => simp [intOf]; omega
        · obtain rfl : j = mE := by omega
          rw [List.take_of_length_le (by rw [HN.out]; exact Nat.le_refl _), HE.out] at hR
          go_wp2_with (first
            | (go_at_call 16; refine (rmask_any _ _ _ _ _ _ hR.set).mono ?_; rintro e w' ⟨rfl, rfl⟩))
          go_ret2
          exact ⟨rfl, ⟨_, hR.set⟩, hR.kept⟩

end Go.Proofs.Ytldeecjocapfgaa.Hot
