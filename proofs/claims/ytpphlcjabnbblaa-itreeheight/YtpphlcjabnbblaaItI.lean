import Derived.Test.YtpphlcjabnbblaaItH
/-
  The walk of ItreeFinds, of any tree that does what is asked (Spec).
-/
namespace Go.Proofs.Ytpphlcjabnbblaa.Itree
open Go.RowKit

/-- What is taken out is gone, and may come back. -/
theorem del_gone {L : List It} (h : Sorted L) (x : It) : there (delL L x) x = false := by
  cases hT : there L x with
  | false => rw [del_not hT]; exact hT
  | true =>
    obtain ⟨A, B, rfl⟩ := List.append_of_mem ((there_iff h x).1 hT)
    rw [del_mid h]
    obtain ⟨s1, s2, s3⟩ := sorted_append.1 h
    exact (there_not (fun a ha => s3 a ha x (by simp)) (sorted_cons.1 s2).1).2
theorem ov_some {L : List It} {x : It} (hx : x ∈ L) (hg : good x = true) : 0 < (ovL L x.o x.l).length := List.length_pos_of_mem (ov_mem hx (over_self hg))

set_option maxRecDepth 100000 in
set_option maxHeartbeats 1000000 in
/-- ItreeFinds, of what is let go -/
theorem finds_early (hlives : ∀ w, Calls Try.prog 7 #[] w fun e w' => e = .returned (.bool true) ∧ Kept [] w w') (x : It) (at_ : Int) (a0 : Option Addr) (len cap : Nat) (hno : 100 < len) (w : World) :
    Calls Try.prog 5 #[.slice a0 len cap, .agg #[.int .i64 x.o, .int .i64 x.l, .int .i64 at_, .int .i64 x.i]] w fun e w' => e = .returned (.bool true) ∧ Kept [] w w' := by
  have g1 : (100 : Int) < (len : Int) := by omega
  have hk0 := ((kept_alloc [] w (.cells #[.int .i64 x.o, .int .i64 x.l, .int .i64 at_, .int .i64 x.i] 45)).trans (kept_alloc [] _ (.cells #[.int .i64 x.o, .int .i64 x.l] 24))).trans (kept_drew [] _)
  go_enter Try.func5, Try.ntmps5
  go_wp2_with fail
  go_region
  go_wp2_with (first
    | (go_at_call 7; refine (hlives _).mono ?_; rintro e w3 ⟨rfl, hk3⟩))
  go_ret
  exact ⟨rfl, hk0.trans hk3⟩

set_option maxRecDepth 100000 in
set_option maxHeartbeats 8000000 in
/-- ItreeFinds, of a play -/
theorem finds_play {T : World → Nat → List Nat → List It → Prop} (hS : Spec T) (hlives : ∀ w, Calls Try.prog 7 #[] w fun e w' => e = .returned (.bool true) ∧ Kept [] w w') (x : It) (hx : x.Ok) (at_ : Int) (ha0 : -9223372036854775808 ≤ at_) (ha1 : at_ ≤ 9223372036854775807)
    (a0 : Option Addr) (len cap0 : Nat) (acts : List Sa) (hlen : len ≤ 100) (w : World) (hacts : ActsAt w.heap.size w a0 len cap0 acts) :
    Calls Try.prog 5 #[.slice a0 len cap0, .agg #[.int .i64 x.o, .int .i64 x.l, .int .i64 at_, .int .i64 x.i]] w fun e w' => e = .returned (.bool true) ∧ Kept [] w w' := by
  have g1 : ¬ ((100 : Int) < (len : Int)) := by omega
  have hka := kept_alloc [] w (.cells #[.int .i64 x.o, .int .i64 x.l, .int .i64 at_, .int .i64 x.i] 45)
  have hkb := kept_alloc [] (w.alloc (.cells #[.int .i64 x.o, .int .i64 x.l, .int .i64 at_, .int .i64 x.i] 45)) (.cells #[.int .i64 x.o, .int .i64 x.l] 24)
  have hb0 := (blk_new (w.alloc (.cells #[.int .i64 x.o, .int .i64 x.l, .int .i64 at_, .int .i64 x.i] 45)) 24 #[.int .i64 x.o, .int .i64 x.l]).kept (kept_drew [] _) (by simp)
  rw [show (w.alloc (.cells #[.int .i64 x.o, .int .i64 x.l, .int .i64 at_, .int .i64 x.i] 45)).heap.size = w.heap.size + 1 by simp] at hb0
  have hk0 := (hka.trans hkb).trans (kept_drew [] _)
  have hz0 : w.heap.size + 2 ≤ (((w.alloc (.cells #[.int .i64 x.o, .int .i64 x.l, .int .i64 at_, .int .i64 x.i] 45)).alloc (.cells #[.int .i64 x.o, .int .i64 x.l] 24)).drew).heap.size := by simp
  clear hka hkb
  go_enter Try.func5, Try.ntmps5
  go_wp2_with fail
  go_region
  generalize ((w.alloc (.cells #[.int .i64 x.o, .int .i64 x.l, .int .i64 at_, .int .i64 x.i] 45)).alloc (.cells #[.int .i64 x.o, .int .i64 x.l] 24)).drew = W0 at *
  have hacts0 := hacts.below (hk0.below (Nat.le_refl _) (by simp))
  have fO : ∀ W, Kept [] W0 W → W.cell? ⟨w.heap.size + 1, 0, none⟩ = some (.int .i64 x.o) := fun W hk => ((hb0.kept hk (by simp)).cell 0).trans rfl
  have fL : ∀ W, Kept [] W0 W → W.cell? ⟨w.heap.size + 1, 1, none⟩ = some (.int .i64 x.l) := fun W hk => ((hb0.kept hk (by simp)).cell 1).trans rfl
  have qm := hS.make W0
  go_wp2_with (first
    | (go_at_call 8; refine qm.mono ?_; rintro e w4 ⟨p, F0, rfl, hT, hF, hk4⟩))
  have hSo : Solo T w4 W0.heap.size p F0 [] := ⟨hT, Sorted.nil, hF⟩
  clear qm hT hF hacts hb0
  go_loopw [26] (fun i wr => ∃ (j : Nat) (F : List Nat) (L : List It), j ≤ len ∧ i = .int .i64 j ∧ Solo T wr W0.heap.size p F L ∧ L.length ≤ j ∧ Kept [] W0 wr) (fun i _ => len - (RowKit.intOf i).toNat)
  case atStart => exact ⟨0, F0, [], by omega, rfl, hSo, by simp, hk4⟩
  case round =>
    obtain ⟨j, F, L, hj, rfl, hD, hLj, hK⟩ := hrel
    clear hSo hk4
    by_cases hlt : j < len
    · obtain ⟨hal, haok, hnil | ⟨blk, off, rfl, hcap, hblk, hcs⟩⟩ := hacts0.below ((hK.below (Nat.le_refl _) (by simp)).mono hk0.size)
      · rw [hnil] at hal
        simp at hal
        omega
      obtain ⟨a, ha⟩ : ∃ a, acts[j]? = some a := ⟨_, List.getElem?_eq_getElem (by rw [hal]; exact hlt)⟩
      have hok := haok a (List.mem_of_getElem? ha)
      have hr : Hid (wr.rangeAt blk (off + j * 4) a.cells) := hcs j a ha
      have kk4 : (j : Int) < (len : Int) := by omega
      have kcap : (j : Int) < (cap0 : Int) := by omega
      have hm1 : Hid (len - (j + 1) < len - j) := by show _ < _; omega
      have hz1 : Blk (wr.alloc (.cells #[.bool false, .int .i64 0, .int .i64 0, .int .i64 0] 33)) wr.heap.size 33 #[.bool false, .int .i64 0, .int .i64 0, .int .i64 0] := blk_new wr 33 _
      have hsz : Hid (a.cells.length = 4) := rfl
      clear hcs hal haok hacts0 ha
      have qi := fun W (h : T W p F L) => hS.insert W p F L a.x h hD.sorted (by omega) hok.x_
      have hL1 : (insL L a.x).length ≤ j + 1 := by
        have := ins_length L a.x
        split at this <;> omega
      have hs1 := ins_sorted hD.sorted a.x
      generalize insL L a.x = L1 at *
      generalize insOk L a.x = res at *
      go_wp2_with (first
        | refine wpList_load_mid rfl 33 _ rfl blk (off + j * 4) rfl a.cells _ hr.out Try.underlying33 rfl (by rw [hsz.out]; exact Try.size33) ?_
        | (refine wpList_store_blk rfl 33 _ _ rfl wr.heap.size 33 _ a.cells rfl rfl hz1 hsz.out (by rw [hsz.out]; exact Try.size33) a.one ?_; intro w7 hB7 hk7 hz7; have hk07 : Kept [] wr w7 := (kept_alloc [] wr _).young hk7 (Nat.le_refl _); replace hz7 : Hid _ := hz7; obtain ⟨c0, c1, c2, c3⟩ := Sa.range hB7; have hD7 := hD.kept hS hk07; have hK7 := hK.trans hk07)
        | (go_at_call 11; refine (qi _ hD7.tree).mono ?_; rintro e w8 ⟨F', rfl, hT8', hF8, hk8⟩; have hT8 := hD7.turned hK7.size hT8' hF8 hs1; have hK8 := hD7.old hK7 hk8; clear qi hT8' hF8 hk8))
      go_roundw
      case rel => exact ⟨j + 1, F', L1, by omega, by go_num, hT8, by omega, hK8⟩
      case measure => simpa [RowKit.intOf] using hm1.out
    · have i0 : ¬ ((j : Int) < (len : Int)) := by omega
      have c0 := fO _ hK
      have c1 := fL _ hK
      have qx := hS.insert wr p F L x hD.tree hD.sorted (by omega) hx
      have hs2 := ins_sorted hD.sorted x
      have hL2 : (insL L x).length ≤ 101 := by
        have := ins_length L x
        split at this <;> omega
      have hin : good x = true → x ∈ insL L x := fun hg => ins_there_after hD.sorted hg
      clear hacts0
      generalize insL L x = L2 at *
      generalize insOk L x = res at *
      by_cases hg : good x = true
      · have hx2 := hin hg
        have hp := hg
        unfold good at hp
        simp at hp
        have hpl := Span.Math.of_plain hp.1
        have e1 : 0 ≤ x.o := by omega
        have e2 : x.o ≤ 1073741824 := by omega
        have e3 : 1 ≤ x.l := by omega
        have e4 : x.l ≤ 1073741824 := by omega
        clear hin hp hpl
        go_upto_region 14 with (first
          | (go_at_call 11; refine qx.mono ?_; rintro e w5 ⟨F1, rfl, hT5', hF5, hk5⟩; have hD5 := hD.turned hK.size hT5' hF5 hs2; have hK5 := hD.old hK hk5; have d0 := fO _ hK5; have d1 := fL _ hK5; clear hT5' hF5 hk5 qx))
        clear c0 c1 hD hLj hK i0 hlt hj
        go_cut [88] from 62 to 89 (fun v W => v = .bool false ∧ Kept [] w5 W)
        case first =>
          by_cases t1 : at_ < 0
          · have t1' : ¬ (0 ≤ at_) := by omega
            go_wp2_with fail
            go_meet
            exact ⟨rfl, Kept.refl _ _⟩
          · have t1' : 0 ≤ at_ := by omega
            by_cases t2 : at_ < x.l
            · have hwide : x.o + at_ < 9223372036854775808 := by omega
              have hwide' : -9223372036854775808 ≤ x.o + at_ := by omega
              have qo := hS.overlaps w5 p F1 L2 (x.o + at_) 1 hD5.tree hs2 (by omega) ⟨by simp only []; omega, by simp only []; omega, by simp only []; omega, by simp only []; omega, by simp only []; omega, by simp only []; omega⟩
              have hle : (ovL L2 (x.o + at_) 1).length ≤ 1000000 := by
                unfold ovL
                rw [List.length_map]
                exact Nat.le_trans (List.length_filter_le _ _) (by omega)
              by_cases t3 : x.o + at_ ≤ 1073741824
              · have hmem : decide (x.i ∈ ovL L2 (x.o + at_) 1) = true := decide_eq_true (ov_mem hx2 (over_sector hg t1' t2 t3))
                have qh := fun v W (h : Bits.IntsAt W.heap.size W v (ovL L2 (x.o + at_) 1)) => has14_any v _ x.i W hle h
                rw [hmem] at qh
                clear hmem hle hx2
                go_wp2_with (first
                  | (go_at_call 16; refine qo.mono ?_; rintro e w6 ⟨v6, rfl, hI6, hk6⟩; have d0' := fO _ (hK5.trans hk6); replace hI6 : Hid _ := hI6)
                  | (go_at_call 22; refine (qh _ _ hI6.out).mono ?_; rintro e w7 ⟨rfl, rfl⟩))
                go_meet
                exact ⟨rfl, hk6⟩
              · have hmem : ovL L2 (x.o + at_) 1 = [] := ov_not_plain (Span.Math.plain_not (by omega))
                have qh := fun v W (h : Bits.IntsAt W.heap.size W v (ovL L2 (x.o + at_) 1)) => has14_any v _ x.i W hle h
                have hd : decide (x.i ∈ ovL L2 (x.o + at_) 1) = false := by rw [hmem]; simp
                rw [hd] at qh
                have t4 : decide (x.o + at_ ≤ 1073741824) = false := by simp; omega
                clear hmem hle hx2 hd
                go_wp2_with (first
                  | (go_at_call 16; refine qo.mono ?_; rintro e w6 ⟨v6, rfl, hI6, hk6⟩; have d0' := fO _ (hK5.trans hk6); replace hI6 : Hid _ := hI6)
                  | (go_at_call 22; refine (qh _ _ hI6.out).mono ?_; rintro e w7 ⟨rfl, rfl⟩))
                go_meet
                exact ⟨rfl, hk6⟩
            · go_wp2_with fail
              go_meet
              exact ⟨rfl, Kept.refl _ _⟩
        case rest =>
          obtain ⟨rfl, hkc⟩ := hcut
          have hDc := hD5.kept hS hkc
          have hKc := hK5.trans hkc
          have cc0 := fO _ hKc
          have cc1 := fL _ hKc
          have hT2 : there L2 x = true := (there_iff hs2 x).2 hx2
          have hi2 := ins_there (L := L2) (x := x) (.inl hT2)
          have hs3 := del_sorted hs2 x
          have hg3 := del_gone hs2 x
          have hl3 := del_length L2 x
          have hd3 : delL (delL L2 x) x = delL L2 x := del_not hg3
          have hok3 : insOk (delL L2 x) x = true := by
            unfold insOk
            rw [hg, hg3]
            rfl
          have hl5 := ins_length (delL L2 x) x
          rw [hok3] at hl5
          have q1 := hS.overlaps wc p F1 L2 x.o x.l hDc.tree hs2 (by omega) ⟨hx.o0, hx.o1, hx.l0, hx.l1, by simp only []; omega, by simp only []; omega⟩
          have hle : (ovL L2 x.o x.l).length ≤ 1000000 := by
            unfold ovL
            rw [List.length_map]
            exact Nat.le_trans (List.length_filter_le _ _) (by omega)
          have q2 := fun v W (h : Bits.IntsAt W.heap.size W v (ovL L2 x.o x.l)) => has14_any v _ x.i W hle h
          rw [decide_eq_true (ov_mem hx2 (over_self hg))] at q2
          have q3 := fun W (h : T W p F1 L2) => hS.any W p F1 L2 x.o x.l h hs2 (by omega) ⟨hx.o0, hx.o1, hx.l0, hx.l1, by simp only []; omega, by simp only []; omega⟩
          rw [decide_eq_true (ov_some hx2 hg)] at q3
          have q4 := fun W (h : T W p F1 L2) => hS.insert W p F1 L2 x h hs2 (by omega) hx
          rw [hi2.1, hi2.2] at q4
          have q5 := fun W F (h : T W p F L2) => hS.delete W p F L2 x h hs2 (by omega) hx
          rw [hT2] at q5
          have q6 := fun W F (h : T W p F (delL L2 x)) => hS.delete W p F (delL L2 x) x h hs3 (by omega) hx
          rw [hg3, hd3] at q6
          have q7 := fun W F (h : T W p F (delL L2 x)) => hS.len W p F (delL L2 x) h (by omega)
          have q8 := fun W F (h : T W p F (delL L2 x)) => hS.insert W p F (delL L2 x) x h hs3 (by omega) hx
          rw [hok3] at q8
          have q9 := fun W F (h : T W p F (insL (delL L2 x) x)) => hS.len W p F (insL (delL L2 x) x) h (by simp at hl5; omega)
          have hs5 := ins_sorted hs3 x
          rw [hl5] at q9
          simp only [if_true, Int.natCast_succ] at q9
          generalize insL (delL L2 x) x = L5 at *
          have hl3' : (delL L2 x).length ≤ 101 := by omega
          generalize delL L2 x = L3 at *
          clear hT2 hi2 hg3 hd3 hok3 hl5 hl3 hle hx2 hg hx
          go_wp2_with (first
            | (go_at_call 16; refine q1.mono ?_; rintro e w6 ⟨v6, rfl, hI6, hk6⟩; clear q1; have hD6 := hDc.kept hS hk6; have hK6 := hKc.trans hk6; have m0 := fO _ hK6; have m1 := fL _ hK6; replace hI6 : Hid _ := hI6)
            | (go_at_call 22; refine (q2 _ _ hI6.out).mono ?_; rintro e w6 ⟨rfl, rfl⟩)
            | (go_at_call 17; refine (q3 _ hD6.tree).mono ?_; rintro e w7 ⟨rfl, hk7⟩; have hD7 := hD6.kept hS hk7; have hK7 := hK6.trans hk7; have n0 := fO _ hK7; have n1 := fL _ hK7)
            | (go_at_call 11; refine (q4 _ hD7.tree).mono ?_; rintro e w8 ⟨F8, rfl, hT8, hF8, hk8⟩; clear q4; have hD8 := hD7.turned hK7.size hT8 hF8 hs2; have hK8 := hD7.old hK7 hk8; have o0 := fO _ hK8; have o1 := fL _ hK8; clear hT8 hF8)
            | (go_at_call 9; refine (q5 _ _ hD8.tree).mono ?_; rintro e w9 ⟨F9, rfl, hT9, hF9, hk9⟩; clear q5; have hD9 := hD8.turned hK8.size hT9 hF9 hs3; have hK9 := hD8.old hK8 hk9; have p0 := fO _ hK9; have p1 := fL _ hK9; clear hT9 hF9)
            | (go_at_call 9; refine (q6 _ _ hD9.tree).mono ?_; rintro e w10 ⟨F10, rfl, hT10, hF10, hk10⟩; clear q6; have hD10 := hD9.turned hK9.size hT10 hF10 hs3; have hK10 := hD9.old hK9 hk10; have r0 := fO _ hK10; have r1 := fL _ hK10; clear hT10 hF10)
            | (go_at_call 14; refine (q7 _ _ hD10.tree).mono ?_; rintro e w11 ⟨rfl, hk11⟩; clear q7; have hD11 := hD10.kept hS hk11; have hK11 := hK10.trans hk11; have s0 := fO _ hK11; have s1 := fL _ hK11)
            | (go_at_call 11; refine (q8 _ _ hD11.tree).mono ?_; rintro e w12 ⟨F12, rfl, hT12, hF12, hk12⟩; clear q8; have hD12 := hD11.turned hK11.size hT12 hF12 hs5; have hK12 := hD11.old hK11 hk12; clear hT12 hF12)
            | (go_at_call 14; refine (q9 _ _ hD12.tree).mono ?_; rintro e w13 ⟨rfl, hk13⟩)
            | (go_at_call 7; refine (hlives _).mono ?_; rintro e w14 ⟨rfl, hk14⟩))
          go_ret
          exact ⟨rfl, ((hk0.trans hK12).trans hk13).trans hk14⟩
      · rcases (show ¬ (0 ≤ x.o) ∨ (0 ≤ x.o ∧ ¬ (x.o ≤ 1073741824)) ∨ (0 ≤ x.o ∧ x.o ≤ 1073741824 ∧ ¬ (1 ≤ x.l)) ∨ (0 ≤ x.o ∧ x.o ≤ 1073741824 ∧ 1 ≤ x.l ∧ ¬ (x.l ≤ 1073741824)) by
            by_cases h1 : 0 ≤ x.o ∧ x.o ≤ 1073741824 ∧ 1 ≤ x.l ∧ x.l ≤ 1073741824
            · exact absurd (by unfold good; rw [Span.Math.plain_of (by omega)]; simp; omega) hg
            · omega) with e1 | ⟨e1, e2⟩ | ⟨e1, e2, e3⟩ | ⟨e1, e2, e3, e4⟩
        all_goals clear hg hin
        all_goals try (have e5 : decide (x.l ≤ 1073741824) = false := by simp; omega)
        all_goals
          go_wp2_with (first
            | (go_at_call 11; refine qx.mono ?_; rintro e w5 ⟨F1, rfl, hT5', hF5, hk5⟩; have hK5 := hD.old hK hk5; have d0 := fO _ hK5; have d1 := fL _ hK5; clear hT5' hF5 hk5)
            | (go_at_call 7; refine (hlives _).mono ?_; rintro e w6 ⟨rfl, hk6⟩))
          go_ret
          exact ⟨rfl, (hk0.trans hK5).trans hk6⟩
end Go.Proofs.Ytpphlcjabnbblaa.Itree

