/-
 What is to be tried again goes: resend.
-/
import Derived.Test.YtoaeficfmcncjaaGreatM41
namespace Go.Proofs.YtoaeficfmcncjaaGreat.Mirror
open Go.RowKit
open Math
open Flight (Fw Fv FlAt Off WAt Listed turnL)
open Later (Lw Lv QAt Foot RowAt kindP overL)
open Pack (Ms Mv)
theorem turnL_length (L : List (Int × Fw)) (t s : Int) : (turnL L t s).length = L.length := by
 unfold turnL
 split
 ·exact Flight.setSt_length _ _ _
 ·rfl
theorem resend_over {q : List Lw} {w : Lw} {ws : List Lw} {d : Dk} {F : List (Int × Fw)} {acc : List Lw} (h : overL q w.o w.l = true) : resendR q (w :: ws) d F acc = resendR q ws d F acc := by
 simp only [resendR, h, if_true]
theorem resend_goes {q : List Lw} {w : Lw} {ws : List Lw} {d : Dk} {F : List (Int × Fw)} {acc : List Lw} (h : overL q w.o w.l = false) (hE : storeE d w = 0) : resendR q (w :: ws) d F acc = resendR q ws (storeS d w) (turnL F w.id 0) (acc ++ [w]) := by
 simp [resendR, h, hE]
theorem resend_fails {q : List Lw} {w : Lw} {ws : List Lw} {d : Dk} {F : List (Int × Fw)} {acc : List Lw} (h : overL q w.o w.l = false) (hE : storeE d w ≠ 0) : resendR q (w :: ws) d F acc = (storeS d w, F, acc, storeE d w) := by
 simp [resendR, h, hE]
variable {lo m d b1 b2 f b p q h hi : Nat} {F : List Nat} {gr : Option Nat} {M : Mr}
set_option maxRecDepth 100000 in
set_option maxHeartbeats 8000000 in
theorem resend_op (w : World) (H : MiOp w lo m d b1 b2 f b p q h hi F gr M) (hF : M.fly.length ≤ 600) (hL : M.lat.length ≤ 900000) (hops : M.d.ops + 1030 * M.fly.length ≤ 900000000000000) :
  Calls Tryz.prog 83 #[.pointer (some ⟨m, 0, none⟩)] w fun e w' => ∃ v P gp, e = .returned (.tuple #[v, .int .i64 ((resendR M.lat (againL M.fly) M.d M.fly []).2.2.2 : Nat)]) ∧ ORow w.heap.size w' v P gp ∧ P.map Lv.lw = (resendR M.lat (againL M.fly) M.d M.fly []).2.2.1 ∧ MiOp w' lo m d b1 b2 f b p q h hi F gr { M with d := (resendR M.lat (againL M.fly) M.d M.fly []).1, fly := (resendR M.lat (againL M.fly) M.d M.fly []).2.1 } ∧ Kept (own m f b q h F gr ++ [d, b1, b2]) w w' ∧ P.length ≤ M.fly.length := by
 have q1 := again_any w ⟨f, b, p, q, h, hi, F, gr, rfl, H⟩ hF
 have hlt := H.all_lt
 have hsz : M.d.size ≤ 1024 := H.disk.valid.top
 have hgood := H.fly.good
 have hfit := H.fly.fit
 obtain ⟨A, hA⟩ : ∃ A, own m f b q h F gr ++ [d, b1, b2] = A := ⟨_, rfl⟩
 have hdA : ∀ k ∈ [d, b1, b2], k ∈ A := fun k hk => by rw [← hA]; exact List.mem_append.2 (.inr hk)
 have hbA : b ∈ A := by rw [← hA]; simp [own]
 have hmA : m ∉ [d, b1, b2] ∧ m ∉ [b] := by
  have h1 := H.lows.1
  have h2 := H.old
  refine ⟨by simp; omega, ?_⟩
  have := (H.sepF b (by simp)).1
  simpa using Ne.symm this
 rw [hA] at hlt ⊢
 obtain ⟨AL, hAL⟩ : ∃ AL, againL M.fly = AL := ⟨_, rfl⟩
 have hALl : AL.length ≤ M.fly.length := by rw [← hAL]; unfold againL; rw [List.length_map]; exact List.length_filter_le _ _
 have hALm : ∀ x ∈ AL, 1 ≤ x.id ∧ x.id ≤ 9223372036854775807 ∧ Span.Math.plain x.o x.l = true := fun x hx => by
  rw [← hAL] at hx
  obtain ⟨c, hc, rfl⟩ := List.mem_map.1 hx
  have hc := (List.mem_filter.1 hc).1
  exact ⟨(hfit.low c hc).1, (hfit.low c hc).2, (hgood.fine c hc).2.1⟩
 rw [hAL] at q1 ⊢
 obtain ⟨R, hR⟩ : ∃ R, resendR M.lat AL M.d M.fly [] = R := ⟨_, rfl⟩
 rw [hR]
 replace hA : Hid _ := hA
 replace hmA : Hid _ := hmA
 have HH : Hid (MiOp w lo m d b1 b2 f b p q h hi F gr M) := H
 clear H hgood hfit
 go_enter Tryz.func83, Tryz.ntmps83
 go_upto_region 3 with (first
  | (go_at_call 84; refine q1.mono ?_; clear q1; rintro e w1 ⟨vs, PS, gs, rfl, hOs, hPS, hk1⟩; obtain ⟨sa, sn, scap, rfl, hsn⟩ : ∃ sa sn scap, vs = .slice sa sn scap ∧ Hid (sn = PS.length) := (by obtain ⟨a, c, e, _⟩ := hOs.row; exact ⟨a, _, c, e, rfl⟩)))
 have hsc : sn ≤ scap := by
  obtain ⟨a, c, e, h1, _⟩ := hOs.row
  have := hsn.out
  injection e with _ e2 e3
  omega
 have H1 := HH.out.kept hk1 (by simp) (clean_nil _)
 have hPl : PS.length = AL.length := by rw [← hPS]; simp
 have hsn6 : sn ≤ M.fly.length := by have := hsn.out; omega
 replace hPl : Hid _ := hPl
 have hk01 : Hid (Kept [] w w1) := hk1
 have hW1 : Hid (w.heap.size ≤ w1.heap.size) := hk1.size
 replace hlt : Hid (∀ k ∈ A, k < w.heap.size) := hlt
 replace hdA : Hid (∀ k ∈ [d, b1, b2], k ∈ A) := hdA
 replace hbA : Hid (b ∈ A) := hbA
 replace hR : Hid _ := hR
 clear hk1
 go_loopw [11, 4] (fun i t wr => ∃ (j : Nat) (dd : Dk) (FF : List (Int × Fw)) (P : List Lv) (gp : Option Nat) (ta : Option Addr) (tn tc : Nat), j ≤ sn ∧ i = .int .i64 j ∧ t = .slice ta tn tc ∧ MiOp wr lo m d b1 b2 f b p q h hi F gr { M with d := dd, fly := FF } ∧ ORow w1.heap.size wr (.slice ta tn tc) P gp ∧ resendR M.lat (AL.drop j) dd FF (P.map Lv.lw) = R ∧ FF.length = M.fly.length ∧ P.length ≤ j ∧ dd.ops ≤ M.d.ops + 1030 * j ∧ dd.size ≤ 1024 ∧ Kept A w1 wr) (fun i _ _ => sn - (RowKit.intOf i).toNat)
 case atStart => exact ⟨0, M.d, M.fly, [], none, none, 0, 0, Nat.zero_le _, rfl, rfl, H1, ORow.nil _ _, hR.out, rfl, Nat.le_refl _, by omega, hsz, Kept.refl _ _⟩
 case round =>
  clear H1
  obtain ⟨j, dd, FF, P, gp, ta, tn, tc, hj, rfl, rfl, hMi, hO4, hap, hFF, hPj, hdo, hds, hK⟩ := hrel
  by_cases hlt2 : j < sn
  ·obtain ⟨x, hx⟩ : ∃ x, PS[j]? = some x := ⟨_, List.getElem?_eq_getElem (by have := hsn.out; omega)⟩
   have hgs : ∀ g, gs = some g → g ∉ A := fun g hg hm => by
    have h1 := hlt.out g hm
    have h2 := (hOs.row.low g hg).1
    omega
   have hclA1 : Clean w1 A := by
    rw [← hA.out]
    exact (HH.out.kept hk01.out (by simp) (clean_nil _)).clean.app (disk_clean (HH.out.kept hk01.out (by simp) (clean_nil _)).disk)
   have hOr := hOs.kept hK hgs hclA1
   obtain ⟨g, off, rfl, hg, hr⟩ := row_range hOr.row hx
   have hxm := List.mem_of_getElem? hx
   have hxA : AL[j]? = some x.lw := by rw [← hPS, List.getElem?_map, hx]; rfl
   obtain ⟨i1, i2, i3⟩ := hALm x.lw (List.mem_of_getElem? hxA)
   have hdrop : AL.drop j = x.lw :: AL.drop (j + 1) := by
    have hl := (List.getElem?_eq_some_iff.1 hxA)
    rw [List.drop_eq_getElem_cons hl.1, hl.2]
   rw [hdrop] at hap
   have kk : (j : Int) < (sn : Int) := by omega
   have kc : (j : Int) < (scap : Int) := by omega
   have hm1 : Hid (sn - (j + 1) < sn - j) := by show _ < _; omega
   have hbx := hOr.byt x hxm
   have h0 := zero_lw wr
   have ka := kept_alloc [] wr (.cells #[.int .i64 0, .int .i64 0, .int .i64 0, .slice none 0 0] 152)
   replace hr : Hid _ := hr
   clear hx hdrop hxm hxA
   obtain ⟨xid, xo, xl, xsa, xlen, xcap, xbs⟩ := x
   simp only [Lv.cells] at hr
   simp only [Lv.lw] at hap i1 i2 i3
   go_upto_region 5 with (first
    | refine wpList_load_mid rfl 152 _ rfl g (off + j * 4) rfl [.int .i64 xid, .int .i64 xo, .int .i64 xl, .slice xsa xlen xcap] _ hr.out Tryz.underlying152 rfl size_lw ?_
    | (refine wpList_store_blk rfl 152 _ _ rfl wr.heap.size 152 _ [.int .i64 xid, .int .i64 xo, .int .i64 xl, .slice xsa xlen xcap] rfl rfl h0 rfl size_lw (by simp [Value.oneCell']) ?_; intro w3 hB3 hk3 hz3))
   have k3 : Kept [] wr w3 := ka.young hk3 (Nat.le_refl _)
   obtain ⟨N6, hN6⟩ : ∃ N6, wr.heap.size = N6 := ⟨_, rfl⟩
   rw [hN6] at hB3 ⊢
   have H3 := hMi.kept (k3.trans (kept_drew [] w3)) (by simp) (clean_nil _)
   have hbox := H3.box
   have hS : Hid (∀ (L : List Nat) W, m ∉ L → N6 ∉ L → Kept L w3.drew W → W.cell? ⟨m, 0, none⟩ = some (.pointer (some ⟨f, 0, none⟩)) ∧ W.cell? ⟨m, 1, none⟩ = some (.pointer (some ⟨q, 0, none⟩)) ∧ W.cell? ⟨N6, 0, none⟩ = some (.int .i64 xid) ∧ W.cell? ⟨N6, 1, none⟩ = some (.int .i64 xo) ∧ W.cell? ⟨N6, 2, none⟩ = some (.int .i64 xl) ∧ W.cell? ⟨N6, 3, none⟩ = some (.slice xsa xlen xcap)) := fun L W hm hn hk => by
    have e1 := hbox.kept hk hm
    have e2 := (hB3.kept (kept_drew [] w3) (by simp)).kept hk hn
    exact ⟨(e1.cell 0).trans rfl, (e1.cell 1).trans rfl, (e2.cell 0).trans rfl, (e2.cell 1).trans rfl, (e2.cell 2).trans rfl, (e2.cell 3).trans rfl⟩
   have q5 := Later.over_any xo xl w3.drew H3.lat (by show M.lat.length ≤ _; omega)
   have hN6A : Hid (N6 ∉ A) := fun hm => by
    have h1 := hlt.out N6 hm
    have h2 := hW1.out
    have h3 := hK.size
    omega
   obtain ⟨ov, hov⟩ : ∃ ov, overL M.lat xo xl = ov := ⟨_, rfl⟩
   simp only [] at q5
   rw [hov] at q5
   replace hov : Hid _ := hov
   replace hap : Hid _ := hap
   replace hMi : Hid (MiOp wr lo m d b1 b2 f b p q h hi F gr { M with d := dd, fly := FF }) := hMi
   have H3h : Hid (MiOp w3.drew lo m d b1 b2 f b p q h hi F gr { M with d := dd, fly := FF }) := H3
   have k3h : Hid (Kept [] wr w3.drew) := k3.trans (kept_drew [] w3)
   clear hB3 hbox hk3 hz3 h0 ka H3 hr k3
   refine wp_region_held_drew (S := fun W => Kept [] w3.drew W) (by kernel_rfl) (Kept.refl _ _) (fun hP => ?_)
   have hH := hP
   clear hP
   refine tJ 0 ⟨some 15, _, _, _, _, _⟩ (.pointer (some ⟨m, 0, none⟩)) rfl hH ?_
   refine tJ 1 ⟨some 16, _, _, _, _, _⟩ (.pointer (some ⟨m, 0, none⟩)) rfl hH ?_
   refine tJ 2 ⟨some 17, _, _, _, _, _⟩ (.pointer (some ⟨m, 1, none⟩)) rfl hH ?_
   refine tI 3 ⟨some 18, _, _, _, _, _⟩ (.pointer (some ⟨q, 0, none⟩)) rfl (fun W hSw => by obtain ⟨c0, c1, s0, s1, s2, s3⟩ := hS.out _ _ (by simp) (by simp) (hSw); go_simp) hH ?_
   refine tJ 4 ⟨some 19, _, _, _, _, _⟩ (.pointer (some ⟨N6, 1, none⟩)) rfl hH ?_
   refine tI 5 ⟨some 20, _, _, _, _, _⟩ (.agg #[.int .i64 xo, .int .i64 xl]) rfl (fun W hSw => by obtain ⟨c0, c1, s0, s1, s2, s3⟩ := hS.out _ _ (by simp) (by simp) (hSw); go_simp) hH ?_
   refine tC 6 (o := ⟨some 21, _, _, _, _, _⟩) rfl (fun K hK => ?_)
   go_simp
   refine (q5).mono ?_
   rintro e w5 ⟨rfl, hk5⟩
   go_wp2_with fail
   refine hK.out _ _ (hH.trans hk5) (fun hH => ?_)
   clear hK K
   refine wpAnyH_done (by kernel_rfl) ?_ _
   have kr5 : Kept [] wr w5 := k3h.out.trans hk5
   cases ov with
   | true =>
    go_wp2
    go_round
    case rel => exact ⟨j + 1, dd, FF, P, gp, ta, tn, tc, by omega, by go_num, rfl, hMi.out.kept kr5 (by simp) (clean_nil _), hO4.kept0 kr5, by rw [← hap.out, resend_over hov.out], hFF, by omega, by omega, hds, hK.trans (kr5.mono (by simp))⟩
    case measure => simp [RowKit.intOf]; omega
   | false =>
    have hap' := hap.out
    have H5 := hMi.out.kept kr5 (by simp) (clean_nil _)
    have hb5 := (clean_nil _).byt kr5 hbx
    have hclA : Clean w5 A := by
     rw [← hA.out]
     exact H5.clean.app (disk_clean H5.disk)
    have q6 := store_op ⟨xid, xo, xl, xsa, xlen, xcap, xbs⟩ A w5 H5 hdA.out (bts_later hb5 hclA) (by show dd.ops ≤ _; omega)
    have so := storeS_ops hds ⟨xid, xo, xl, xbs⟩
    have hgpA : ∀ g, gp = some g → g ∉ A := fun g hg hm => by
     have := hlt.out g hm
     have := hW1.out
     have := (hO4.row.low g hg).1
     omega
    have hO5 := hO4.kept0 kr5
    unfold Lv.val Lv.lw at q6
    simp only [] at q6 so
    obtain ⟨c0, c1, s0, s1, s2, s3⟩ := hS.out [] w5 (by simp) (by simp) hk5
    have hT : Hid ((m ∉ [d, b1, b2, b] ∧ N6 ∉ [d, b1, b2, b])) := by
     have h1 := hmA.out
     have h2 := hN6A.out
     refine ⟨fun hm => ?_, fun hm => ?_⟩
     ·simp only [List.mem_cons, List.not_mem_nil, or_false, not_or] at h1 hm
      rcases hm with e | e | e | e
      ·exact h1.1.1 e
      ·exact h1.1.2.1 e
      ·exact h1.1.2.2 e
      ·exact h1.2 e
     ·simp only [List.mem_cons, List.not_mem_nil, or_false] at hm
      rcases hm with e | e | e | e
      ·exact h2 (by rw [e]; exact hdA.out d (by simp))
      ·exact h2 (by rw [e]; exact hdA.out b1 (by simp))
      ·exact h2 (by rw [e]; exact hdA.out b2 (by simp))
      ·exact h2 (by rw [e]; exact hbA.out)
    by_cases hE : storeE dd ⟨xid, xo, xl, xbs⟩ = 0
    ·rw [resend_goes hov.out hE] at hap'
     rw [hE] at q6
     replace hap' : Hid _ := hap'
     have hP9 : Hid (P.length + 1 ≤ 1000000) := by show _ ≤ _; omega
     go_upto_region 9 with (first
      | (go_at_call 73; refine q6.mono ?_; clear q6; rintro e w7 ⟨rfl, H7, hk7⟩))
     have H7d := H7.kept (kept_drew [] w7) (by simp) (clean_nil _)
     have kA7 := hk7.mono hdA.out
     have hTs : Hid (∀ k ∈ [d, b1, b2], k ∈ [d, b1, b2, b]) := fun k hk => by simp at hk ⊢; omega
     have hTs2 : Hid (∀ k ∈ [b], k ∈ [d, b1, b2, b]) := fun k hk => by simp at hk ⊢; omega
     have k37 : Kept [d, b1, b2] w3.drew w7.drew := ((hk5.mono (by simp)).trans hk7).trans (kept_drew _ w7)
     have q9 := Flight.turn_any xid 0 (by omega) i2 w7.drew H7d.fly (by show FF.length ≤ _; omega)
     replace H7d : Hid (MiOp w7.drew lo m d b1 b2 f b p q h hi F gr { M with d := storeS dd ⟨xid, xo, xl, xbs⟩, fly := FF }) := H7d
     clear H7 c0 c1 s0 s1 s2 s3
     simp only [] at q9
     refine wp_region_held_drew (S := fun W => Kept [b] w7.drew W) (by kernel_rfl) (Kept.refl _ _) (fun hP => ?_)
     have hH := hP
     clear hP
     refine tJ 0 ⟨some 29, _, _, _, _, _⟩ (.pointer (some ⟨m, 0, none⟩)) rfl hH ?_
     refine tJ 1 ⟨some 30, _, _, _, _, _⟩ (.pointer (some ⟨m, 0, none⟩)) rfl hH ?_
     refine tJ 2 ⟨some 31, _, _, _, _, _⟩ (.pointer (some ⟨m, 0, none⟩)) rfl hH ?_
     refine tI 3 ⟨some 32, _, _, _, _, _⟩ (.pointer (some ⟨f, 0, none⟩)) rfl (fun W hSw => by obtain ⟨c0, c1, s0, s1, s2, s3⟩ := hS.out _ _ hT.out.1 hT.out.2 ((k37.mono hTs.out).trans (hSw.mono hTs2.out)); go_simp) hH ?_
     refine tJ 4 ⟨some 33, _, _, _, _, _⟩ (.pointer (some ⟨N6, 0, none⟩)) rfl hH ?_
     refine tI 5 ⟨some 34, _, _, _, _, _⟩ (.int .i64 xid) rfl (fun W hSw => by obtain ⟨c0, c1, s0, s1, s2, s3⟩ := hS.out _ _ hT.out.1 hT.out.2 ((k37.mono hTs.out).trans (hSw.mono hTs2.out)); go_simp) hH ?_
     refine tC 6 (o := ⟨some 35, _, _, _, _, _⟩) rfl (fun K hK => ?_)
     go_simp
     refine (q9).mono ?_
     rintro e w9 ⟨rfl, hF9, hk9⟩
     go_wp2_with fail
     refine hK.out _ _ (hH.trans hk9) (fun hH => ?_)
     clear hK K
     refine wpAnyH_done (by kernel_rfl) ?_ _
     have k79 : Kept A w7 w9 := ((kept_drew [] w7).mono (by simp)).trans (hk9.mono (fun k hk => by rw [List.mem_singleton] at hk; rw [hk]; exact hbA.out))
     have H9 := (H7d.out.flew hF9 (fun j h => .inl h) (hk9.mono (by simp))).1
     have hO9 : ORow w1.heap.size w9 (.slice ta tn tc) P gp := by
      have hclb : Clean w7 A := by
       rw [← hA.out]
       have := H7d.out.kept (kept_undrew w7) (by simp) (clean_nil _)
       exact this.clean.app (disk_clean this.disk)
      exact (hO5.kept kA7 hgpA hclA).kept k79 hgpA hclb
     have hx9 : Later.Byt w9 (.slice xsa xlen xcap) xbs := by
      have hclb : Clean w7 A := by
       rw [← hA.out]
       have := H7d.out.kept (kept_undrew w7) (by simp) (clean_nil _)
       exact this.clean.app (disk_clean this.disk)
      exact hclb.byt k79 (hclA.byt kA7 hb5)
     obtain ⟨c0, c1, s0, s1, s2, s3⟩ := hS.out [d, b1, b2, b] w9 hT.out.1 hT.out.2 ((k37.mono hTs.out).trans (hk9.mono hTs2.out))
     have hBn := blk_new w9 152 #[.int .i64 xid, .int .i64 xo, .int .i64 xl, .slice xsa xlen xcap]
     have kb := kept_alloc [] w9 (.cells #[.int .i64 xid, .int .i64 xo, .int .i64 xl, .slice xsa xlen xcap] 152)
     have hK9 : Kept A w1 w9 := (hK.trans (kr5.mono (by simp))).trans (kA7.trans k79)
     clear hMi hF9 hk9 q9
     go_wp2_with (first
      | (refine Later.wpList_append_row kindP rfl (.tmp 36) (.tmp 38) rfl w1.heap.size (.slice ta tn tc) P [⟨xid, xo, xl, xsa, xlen, xcap, xbs⟩] gp ⟨w9.heap.size, 0, none⟩ 1 1 rfl rfl rfl (hO9.row.kept0 kb) (Later.one_lies hBn) hP9.out (Nat.le_trans hK9.size kb.size) ?_; intro sa6 n6 cap6 w6 gr6 hr6 hk6 hn6))
     have hgpl : ∀ g ∈ gp.toList, w1.heap.size ≤ g := fun g hg => (hO4.row.low g (by simpa using hg)).1
     have hcl6 := row_clean (hO9.row.kept0 kb)
     have hK6 : Kept A w1 w6 := (hK9.trans (kb.mono (by simp))).youngs hk6 (fun g hg => .inr (hgpl g hg))
     have H6 := (H9.kept kb (by simp) (clean_nil _)).kept hk6 (by rw [hA.out]; exact fun g hg hm => by { have h1 := hlt.out g hg; have h2 := hW1.out; have h3 := hgpl g hm; omega }) hcl6
     have hO6 : ORow w1.heap.size w6 (.slice sa6 n6 cap6) (P ++ [⟨xid, xo, xl, xsa, xlen, xcap, xbs⟩]) gr6 := by
      refine ⟨hr6, fun x hx => ?_⟩
      rcases List.mem_append.1 hx with h2 | h2
      ·exact hcl6.byt hk6 ((hO9.kept0 kb).byt x h2)
      ·rw [List.mem_singleton] at h2
       subst h2
       exact hcl6.byt hk6 ((clean_nil _).byt kb hx9)
     have hds6 := H6.disk.valid.top
     have hTl := turnL_length FF xid 0
     go_round
     case rel => exact ⟨j + 1, storeS dd ⟨xid, xo, xl, xbs⟩, turnL FF xid 0, _, gr6, sa6, n6, cap6, by omega, by go_num, rfl, H6, hO6, by rw [List.map_append]; exact hap'.out, by omega, by simp; omega, by omega, hds6, hK6⟩
     case measure => simp [RowKit.intOf]; omega
    ·rw [resend_fails hov.out hE] at hap'
     obtain ⟨E, hEE⟩ : ∃ E, storeE dd ⟨xid, xo, xl, xbs⟩ = E := ⟨_, rfl⟩
     rw [hEE] at q6 hap'
     have hE1 : ¬ ((E : Int) = 0) := by rw [hEE] at hE; omega
     replace hap' : Hid _ := hap'
     clear hE
     go_wp2_with (first
      | (go_at_call 73; refine q6.mono ?_; clear q6; rintro e w7 ⟨rfl, H7, hk7⟩; have kA7 := hk7.mono hdA.out))
     go_ret2
     rw [← hap'.out]
     refine ⟨_, P, gp, rfl, ?_, rfl, H7, (hk01.out.mono (by simp)).trans ((hK.trans (kr5.mono (by simp))).trans kA7), by omega⟩
     exact ⟨(hO5.kept kA7 hgpA hclA).row.mono hW1.out, (hO5.kept kA7 hgpA hclA).byt⟩
  ·obtain rfl : j = sn := by omega
   have hd0 : AL.drop j = [] := List.drop_of_length_le (by have := hsn.out; have := hPl.out; omega)
   rw [hd0] at hap
   have hap2 : (dd, FF, P.map Lv.lw, 0) = R := hap
   replace hap2 : Hid _ := hap2
   clear hap
   go_wp2
   go_ret2
   rw [← hap2.out]
   exact ⟨_, P, gp, rfl, ⟨hO4.row.mono hW1.out, hO4.byt⟩, rfl, hMi, (hk01.out.mono (by simp)).trans hK, by omega⟩
end Go.Proofs.YtoaeficfmcncjaaGreat.Mirror
namespace Go.Proofs.YtoaeficfmcncjaaGreat.Mirror
open Go.RowKit
open Math
open Flight (Fw Fv FlAt Off)
open Later (Lw Lv QAt Foot RowAt)
open Pack (Ms Mv)
theorem heat_ops (M : Mr) (o l : Int) : (heatD M o l).ops ≤ M.d.ops + 2 := by
 have h : ∀ s : Dk, ∀ z, (logS s z).ops ≤ s.ops + 2 := fun s z => by
  unfold logS
  split
  ·omega
  split
  ·omega
  unfold putS
  split
  ·split
   ·omega
   ·unfold putsS
    have h1 := wroteS_ops s (putK s 2 4) (putX s 2 4 z)
    split
    ·unfold flushS
     split
     ·exact Nat.le_trans h1 (by omega)
     ·show (wroteS s (putK s 2 4) (putX s 2 4 z)).ops + 1 ≤ _
      omega
    ·omega
  ·omega
 unfold heatD
 split
 ·exact h _ _
 ·omega
set_option maxRecDepth 100000 in
theorem tell_one (x : Lv) (W : World) (g : Nat) (hB : Blk W g 152 #[.int .i64 x.id, .int .i64 x.o, .int .i64 x.l, .slice x.sa x.len x.cap]) (hb : Later.ByteRow W.heap.size W (.slice x.sa x.len x.cap) x.bs) (hl : x.bs.length ≤ 140737488351232) :
  Calls Tryz.prog 72 #[.int .i64 2, .slice (some ⟨g, 0, none⟩) 1 1] W fun e w' => ∃ sT nT cT Q, e = .returned (.slice sT nT cT) ∧ Told W.heap.size w' (.slice sT nT cT) [msgOf 2 x.lw] Q ∧ Kept [] W w' := by
 have h1 : ∀ y ∈ [x], Later.ByteRow W.heap.size W (.slice y.sa y.len y.cap) y.bs := fun y hy => by
  rw [List.mem_singleton] at hy
  rw [hy]
  exact hb
 have h2 : ∀ y ∈ [x], y.bs.length ≤ 140737488351232 := fun y hy => by
  rw [List.mem_singleton] at hy
  rw [hy]
  exact hl
 have h4 : LRow 0 W (.slice (some ⟨g, 0, none⟩) 1 1) [x] (some g) := ⟨row_one hB (Nat.zero_le _), h1⟩
 have h3 := tell_data (some ⟨g, 0, none⟩) 1 1 [x] 0 (some g) W h4 h2 (by simp)
 simp only [List.map_cons, List.map_nil] at h3
 refine h3.mono ?_
 rintro e w' ⟨v, Q, rfl, hT, hk⟩
 obtain ⟨sT, cT, rfl⟩ := hT.row.form
 exact ⟨sT, _, cT, Q, rfl, hT, hk⟩
variable {lo m d b1 b2 : Nat} {K : List Nat} {M : Mr}
set_option maxRecDepth 100000 in
theorem store_go (t o l : Int) (a : Option Addr) (n cap : Nat) (bs : List Nat) (E2 : Nat) (hE2 : storeE (heatD M o l) ⟨t, o, l, bs⟩ = E2) (w : World) (H : MiAt w lo m d b1 b2 K { M with d := heatD M o l, hot := heatH M o l }) (hx : Bts w (K ++ [d, b1, b2]) (.slice a n cap) bs) (hops : M.d.ops ≤ 800000000000000) : Calls Tryz.prog 73 #[.pointer (some ⟨m, 0, none⟩), .agg #[.int .i64 t, .int .i64 o, .int .i64 l, .slice a n cap]] w fun e w' => e = .returned (.int .i64 (E2 : Nat)) ∧ MiAt w' lo m d b1 b2 K { M with d := storeS (heatD M o l) ⟨t, o, l, bs⟩, hot := heatH M o l } ∧ Kept [d, b1, b2] w w' := by
 have ho : (heatD M o l).ops ≤ 900000000000000 := Nat.le_trans (heat_ops M o l) (by omega)
 subst hE2
 obtain ⟨D, hD⟩ : ∃ D, heatD M o l = D := ⟨_, rfl⟩
 rw [hD] at H ho ⊢
 have h := store_any ⟨t, o, l, a, n, cap, bs⟩ (K ++ [d, b1, b2]) w H (fun k hk => List.mem_append.2 (.inr hk)) hx ho
 exact h
set_option maxRecDepth 100000 in
theorem add_to (t o l : Int) (a : Option Addr) (n cap : Nat) (bs : List Nat) (h0 : -9223372036854775808 ≤ t) (h1 : t ≤ 9223372036854775807) (ht : 1 ≤ t) (hp : Span.Math.plain o l = true) (hl : 1 ≤ l) (n1 : (Table.look M.fly t).isSome = false) (n2 : Flight.busy M.fly o l = false) (w : World) (H : MiAt w lo m d b1 b2 K M) (hx : Bts w (K ++ [d, b1, b2]) (.slice a n cap) bs) (hxl : bs.length ≤ 140737488351232) (hF : M.fly.length ≤ 600) :
  ∃ f, w.cell? ⟨m, 0, none⟩ = some (.pointer (some ⟨f, 0, none⟩)) ∧ ∀ W, Kept [] w W → Calls Tryz.prog 74 #[.pointer (some ⟨f, 0, none⟩), .int .i64 t, .agg #[.int .i64 o, .int .i64 l], .slice a n cap] W fun e w' => ∃ K', e = .returned (.bool true) ∧ w'.cell? ⟨m, 0, none⟩ = some (.pointer (some ⟨f, 0, none⟩)) ∧ Goes W w' lo m d b1 b2 K K' { M with fly := Flight.addL M.fly t o l bs } := by
 obtain ⟨f, b, p, q, h, hi, F, gr, rfl, H⟩ := H
 refine ⟨f, H.five.1, fun W hW => ?_⟩
 replace H := H.kept hW (by simp) (clean_nil _)
 have hlo : lo ≤ W.heap.size := by have := (H.low m (by simp [own])); omega
 have hO : (Itree.It.mk o l t).Ok := Flight.it_ok hp h0 h1
 have hok : Flight.addOk M.fly t o l = true := by
  have e : (Table.look M.fly t).isNone = true := by
   cases hh : Table.look M.fly t <;> simp [hh] at n1 ⊢
  simp [Flight.addOk, e, n2, hp, ht, hl]
 have hX : ∀ k ∈ F, k ∈ own m f b q h F gr ++ [d, b1, b2] := fun k hk => by simp [own, hk]
 have q := Flight.add_any t o l (.slice a n cap) bs h0 h1 hO W H.fly hF hlo (fun V hV => ((hx.kept0 hW).kept (hV.mono hX) (fun _ h => .inl h)).fl) hxl
 rw [hok] at q
 refine q.mono ?_
 rintro e w' ⟨F', rfl, hf, hn, hk⟩
 obtain ⟨h2, h3, h4⟩ := H.flew hf hn hk
 exact ⟨_, rfl, h2.five.1, ⟨⟨_, _, _, _, _, _, _, _, rfl, h2⟩, h3, h4.mono (fun k hk => List.mem_append.2 (.inl hk))⟩⟩
def Six (W : World) (N m : Nat) (fp v : Value) (E : Nat) (o l : Int) : Prop := (W.cell? ⟨N, 0, none⟩ = some (.int .i64 o) ∧ W.cell? ⟨N, 1, none⟩ = some (.int .i64 l)) ∧ W.cell? ⟨N + 1, 0, none⟩ = some v ∧ W.cell? ⟨N + 1 + 1, 0, none⟩ = some (.int .i64 (E : Int)) ∧ W.cell? ⟨m, 0, none⟩ = some fp
theorem Six.of {W : World} {N m : Nat} {fp v : Value} {E : Nat} {o l : Int} (h0 : Blk W N 44 #[.int .i64 o, .int .i64 l]) (h1 : Blk W (N + 1) 76 #[v]) (h2 : Blk W (N + 1 + 1) 28 #[.int .i64 (E : Int)]) (h3 : W.cell? ⟨m, 0, none⟩ = some fp) : Six W N m fp v E o l :=
 ⟨⟨(h0.cell 0).trans rfl, (h0.cell 1).trans rfl⟩, (h1.cell 0).trans rfl, (h2.cell 0).trans rfl, h3⟩
theorem again_set {W : World} {N m g : Nat} {ty : TypeId} {fp v u : Value} {E : Nat} {o l : Int} (h0 : Blk W N 44 #[.int .i64 o, .int .i64 l]) (h1 : Blk W (N + 1) 76 #[v]) (h2 : Blk W (N + 1 + 1) 28 #[.int .i64 (E : Int)]) (h3 : W.cell? ⟨m, 0, none⟩ = some fp) (hg : g = N + 1 ∧ u = v ∨ g = N + 1 + 1 ∧ u = .int .i64 (E : Int)) (hm : m ≠ g) (hb : Blk W g ty #[u]) :
  ∃ V, W.setCell ⟨g, 0, none⟩ u = V ∧ Blk V N 44 #[.int .i64 o, .int .i64 l] ∧ Blk V (N + 1) 76 #[v] ∧ Blk V (N + 1 + 1) 28 #[.int .i64 (E : Int)] ∧ V.cell? ⟨m, 0, none⟩ = some fp ∧ Kept [g] W V := by
 have k : Kept [g] W (W.setCell ⟨g, 0, none⟩ u) := kept_set (by simp) _ _ _
 have c : (W.setCell ⟨g, 0, none⟩ u).cell? ⟨m, 0, none⟩ = some fp := by
  rw [← h3]
  exact World.cell?_setCell_far W ⟨g, 0, none⟩ ⟨m, 0, none⟩ u (fun e => hm e.symm)
 refine ⟨_, rfl, h0.kept k (by simp; omega), ?_, ?_, c, k⟩
 ·rcases hg with ⟨rfl, rfl⟩ | ⟨rfl, rfl⟩
  ·exact h1.set 0 _
  ·exact h1.kept k (by simp)
 ·rcases hg with ⟨rfl, rfl⟩ | ⟨rfl, rfl⟩
  ·exact h2.kept k (by simp)
  ·exact h2.set 0 _
end Go.Proofs.YtoaeficfmcncjaaGreat.Mirror
