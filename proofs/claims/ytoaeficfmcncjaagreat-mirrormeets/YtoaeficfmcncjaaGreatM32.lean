/-
 The walk of Push.
-/
import Derived.Test.YtoaeficfmcncjaaGreatM18
import Derived.Test.YtoaeficfmcncjaaGreatM31
namespace Go.Proofs.YtoaeficfmcncjaaGreat.Later
open Go.RowKit
theorem one_lies {W : World} {t : TypeId} {g : Nat} {id o l : Int} {sa : Option Addr} {len cap : Nat} {bs : List Nat} (h : Blk W g t #[.int .i64 id, .int .i64 o, .int .i64 l, .slice sa len cap]) : ∀ j u, (cellsL [⟨id, o, l, sa, len, cap, bs⟩])[j]? = some u → W.cell? ((⟨g, 0, none⟩ : Addr).add j) = some u := fun j u hu => by
 rw [Go.WideShapes.add_plain, Nat.zero_add, h.cell]
 have e : cellsL [⟨id, o, l, sa, len, cap, bs⟩] = [.int .i64 id, .int .i64 o, .int .i64 l, .slice sa len cap] := rfl
 rw [e] at hu
 simpa using hu
theorem fin_push {w X w5 w6 w8 : World} {base q : Nat} {gr gr6 : Option Nat} {L : List Lw} {P : List Lv} {id o l : Int} {bs : List Nat} {sa4 sa6 : Option Addr} {n4 cap4 n6 cap6 : Nat} (h : QAt w base q gr L) (hl : P.map Lv.lw = L) (hat : ∀ x ∈ P, x.At w) (k1 : Kept [] w X) (k5 : Kept [] X w5) (hB5 : Byt w5 (.slice sa4 n4 cap4) bs)
  (hr6 : RowAt 152 base w6 (.slice sa6 n6 cap6) (P ++ [⟨id, o, l, sa4, n4, cap4, bs⟩]) gr6) (k6 : Kept gr.toList w5 w6) (hg6 : ∀ g, gr6 = some g → gr = some g ∨ w5.heap.size ≤ g) (hb8 : Raw w8 q sa6 n6 cap6) (k8 : Kept [q] w6 w8) :
  QAt w8 base q gr6 (L ++ [⟨id, o, l, bs⟩]) ∧ Kept (q :: gr.toList) w w8 ∧ (∀ g, gr6 = some g → gr = some g ∨ w.heap.size ≤ g) := by
 have k05 := k1.trans k5
 have hQ5 := h.kept0 k05
 have f5 := hQ5.foot
 have hlt := hQ5.lt
 have f6 : Foot [188, 152] w5 gr.toList := fun k hk => f5 k (List.mem_cons_of_mem _ hk)
 have hq6 : Foot [188] w6 [q] := by
  obtain ⟨v, P', b1, _⟩ := hQ5.blk
  exact Foot.cons (foot_nil _ _) (b1.kept k6 (fun hm => (hlt.2 q (by simpa using hm)).2.2 rfl)) (by simp)
 have hgq : ∀ g, gr6 = some g → g ≠ q := fun g hg e => by
  rcases hg6 g hg with h1 | h1
  ·exact (hlt.2 g h1).2.2 e
  ·have := hlt.1
   omega
 refine ⟨⟨⟨_, _, hb8, hr6.kept k8 (fun g hg => by simpa using hgq g hg), by rw [List.map_append, hl]; rfl, fun x hx => ?_⟩, h.low⟩, ((k05.mono (by simp)).trans (k6.mono (fun k hk => List.mem_cons_of_mem _ hk))).trans (k8.mono (by simp)), fun g hg => (hg6 g hg).imp (fun h => h) (fun h => Nat.le_trans k05.size h)⟩
 rcases List.mem_append.1 hx with hx | hx
 ·exact (((hat x hx).kept0 k05).kept k6 f6 (by decide)).kept k8 hq6 (by decide)
 ·simp at hx
  subst hx
  exact (Byt.kept hB5 k6 f6 (by decide)).kept k8 hq6 (by decide)
set_option maxRecDepth 100000 in
set_option maxHeartbeats 4000000 in
theorem push_any {base q : Nat} {gr : Option Nat} {L : List Lw} (id o l : Int) (w : World) (h : QAt w base q gr L) (hs : L.length ≤ 999999) (v : Value) (hi : Nat) (bs : List Nat) (hv : ByteRow hi w v bs) (hhi : hi ≤ w.heap.size) (hlen : bs.length ≤ 140737488351232) :
  Calls Tryz.prog 145 #[.pointer (some ⟨q, 0, none⟩), .int .i64 id, .agg #[.int .i64 o, .int .i64 l], v] w fun e w' => e = .returned (.bool true) ∧ ∃ gr', QAt w' base q gr' (L ++ [⟨id, o, l, bs⟩]) ∧ Kept (q :: gr.toList) w w' ∧ (∀ g, gr' = some g → gr = some g ∨ w.heap.size ≤ g) := by
 obtain ⟨a, cap, P, hR, hr, hl, hat, hPl, hc1, hc2⟩ := h.three
 have hlt := h.lt
 have hno : Hid (q ∉ gr.toList) := fun hm => (hlt.2 q (by simpa using hm)).2.2 rfl
 have hbase : Hid (base ≤ w.heap.size) := (by show _ ≤ _; have := hlt.1; have := h.low; omega)
 have hPs : Hid (P.length + ([⟨0, 0, 0, none, 0, 0, []⟩] : List Lv).length ≤ 1000000) := (by show _ ≤ _; simp; omega)
 have ka := kept_alloc [] w (.cells #[.int .i64 o, .int .i64 l] 44)
 have hbA := blk_new w 44 #[.int .i64 o, .int .i64 l]
 obtain ⟨B, hB⟩ : ∃ B, w.heap.size = B := ⟨_, rfl⟩
 have hBg : Hid (B ∉ gr.toList) := fun hm => by have := (hlt.2 B (by simpa using hm)).2.1; omega
 have hBq : Hid (B ∉ [q]) := fun hm => by have := hlt.1; simp at hm; omega
 rw [hB] at hbA
 obtain ⟨W1, hW1⟩ : ∃ W1, w.alloc (.cells #[.int .i64 o, .int .i64 l] 44) = W1 := ⟨_, rfl⟩
 rw [hW1] at ka hbA
 have qm := made_any W1 (hR.kept ka (by simp))
 have hk1 : Hid (Kept [] w W1.drew) := ka.trans (kept_drew [] W1)
 have hbD := hbA.kept (kept_drew [] W1) (by simp)
 have hR1 := hR.kept hk1.out (by simp)
 have hr1 := hr.kept0 hk1.out
 have hvD : Hid (ByteRow hi W1.drew v bs) := hv.kept hhi hk1.out (by simp)
 have hhiD : Hid (hi ≤ W1.drew.heap.size) := Nat.le_trans hhi hk1.out.size
 have hSB : Hid (∀ W, Blk W B 44 #[.int .i64 o, .int .i64 l] → W.cell? ⟨B, 0, none⟩ = some (.int .i64 o) ∧ W.cell? ⟨B, 1, none⟩ = some (.int .i64 l)) := fun W hb => ⟨(hb.cell 0).trans rfl, (hb.cell 1).trans rfl⟩
 have hf0 : Hid (∀ (sa4 : Option Addr) (n4 cap4 : Nat) (w6 w8 : World) (gr6 : Option Nat) (sa6 : Option Addr) (n6 cap6 : Nat) {X w5 : World}, Kept [] w X → Kept [] X w5 → Byt w5 (.slice sa4 n4 cap4) bs → RowAt 152 base w6 (.slice sa6 n6 cap6) (P ++ [⟨id, o, l, sa4, n4, cap4, bs⟩]) gr6 → Kept gr.toList w5 w6 → (∀ g, gr6 = some g → gr = some g ∨ w5.heap.size ≤ g) → Raw w8 q sa6 n6 cap6 → Kept [q] w6 w8 → QAt w8 base q gr6 (L ++ [⟨id, o, l, bs⟩]) ∧ Kept (q :: gr.toList) w w8 ∧ (∀ g, gr6 = some g → gr = some g ∨ w.heap.size ≤ g)) :=
  fun _ _ _ _ _ _ _ _ _ {_ _} k1 k5 b5 r6 k6 g6 b8 k8 => fin_push h hl hat k1 k5 b5 r6 k6 g6 b8 k8
 replace hlen : Hid (bs.length ≤ 140737488351232) := hlen
 obtain ⟨n, hn⟩ : ∃ n, L.length = n := ⟨_, rfl⟩
 rw [hn] at hR1 hr1
 obtain ⟨c0, c1⟩ := hR1.two
 replace hB : Hid (w.heap.size = B) := hB
 replace hW1 : Hid (w.alloc (.cells #[.int .i64 o, .int .i64 l] 44) = W1) := hW1
 clear hR hr hat hl h hlt hv hhi hs hPl hc1 hc2 hn hbA ka
 go_enter Tryz.func145, Tryz.ntmps145
 go_upto_region 1 with fail
 rw [hW1.out, hB.out]
 go_upto_region 3 with (go_at_call 175; refine qm.mono ?_; rintro e W1 ⟨rfl, rfl⟩)
 clear qm
 refine wp_region_held_drew (S := fun W => W.cell? ⟨B, 0, none⟩ = some (.int .i64 o) ∧ W.cell? ⟨B, 1, none⟩ = some (.int .i64 l)) (by kernel_rfl) (hSB.out _ hbD) (fun hP => ?_)
 have hH := hP
 clear hP
 refine tJ 0 ⟨some 12, _, _, _, _, _⟩ (.pointer (some ⟨q, 0, none⟩)) rfl hH ?_
 refine tJ 1 ⟨some 13, _, _, _, _, _⟩ (.pointer (some ⟨q, 0, none⟩)) rfl hH ?_
 refine tJ 2 ⟨some 14, _, _, _, _, _⟩ (.pointer (some ⟨q, 0, none⟩)) rfl hH ?_
 refine tJ 3 ⟨some 15, _, _, _, _, _⟩ (.pointer (some ⟨q, 1, none⟩)) rfl hH ?_
 refine tJ 5 ⟨some 17, _, _, _, _, _⟩ (.int .i64 id) rfl hH ?_
 refine tI 6 ⟨some 18, _, _, _, _, _⟩ (.agg #[.int .i64 o, .int .i64 l]) rfl (fun W hSw => by obtain ⟨t0, t1⟩ := hSw; go_simp) hH ?_
 refine tJ 7 ⟨some 19, _, _, _, _, _⟩ v rfl hH ?_
 refine wpAnyH_ready (rs := [4, 8]) (by kernel_rfl) (by simp) ?_
 refine AllReadyH.cons (o := ⟨some 16, _, _, _, _, _⟩) rfl (fun KK hKK => ?_) (AllReadyH.cons (o := ⟨some 20, _, _, _, _, _⟩) rfl (fun KK hKK => ?_) AllReadyH.nil)
 ·go_simp
  refine hKK.out _ _ hH (fun _ => ?_)
  clear hKK KK
  refine wpAnyH_ready (rs := [8]) (by kernel_rfl) (by simp) ?_
  refine AllReadyH.cons (o := ⟨some 20, _, _, _, _, _⟩) rfl (fun KK hKK => ?_) AllReadyH.nil
  go_simp
  refine (clone_any v hi bs _ hvD.out hhiD.out hlen.out).mono ?_
  rintro e w4 ⟨sa4, n4, cap4, rfl, hB4, hk4⟩
  go_wp2_with fail
  have hb4 := hbD.kept hk4 (by simp)
  have hH4 := hSB.out w4 hb4
  refine hKK.out _ _ hH4 (fun _ => ?_)
  replace hH := hH4
  have hR4 := hR1.kept hk4 (by simp)
  obtain ⟨d0, d1⟩ := hR4.two
  clear hKK KK hH4
  refine tJ 9 ⟨some 21, _, _, _, _, _⟩ (.agg #[.int .i64 id, .int .i64 o, .int .i64 l, .slice sa4 n4 cap4]) rfl hH ?_
  refine wpAnyH_ready (rs := [10]) (by kernel_rfl) (by simp) ?_
  refine AllReadyH.cons (o := ⟨some 22, _, _, _, _, _⟩) rfl (fun KK hKK => ?_) AllReadyH.nil
  go_simp
  have hk5 := kept_alloc [] w4 (.cells #[.int .i64 id, .int .i64 o, .int .i64 l, .slice sa4 n4 cap4] 152)
  have hb5 := hb4.kept hk5 (by simp)
  have hH5 := hSB.out _ hb5
  refine hKK.out _ _ hH5 (fun _ => ?_)
  replace hH := hH5
  have hR5 := hR4.kept hk5 (by simp)
  have hr5 := hr1.kept0 (hk4.trans hk5)
  have hB5 := Byt.kept hB4 hk5 (foot_nil [] _) (by simp)
  have hn5 := blk_new w4 152 #[.int .i64 id, .int .i64 o, .int .i64 l, .slice sa4 n4 cap4]
  obtain ⟨e0, e1⟩ := hR5.two
  clear hKK KK hH5
  refine wpAnyH_ready (rs := [11]) (by kernel_rfl) (by simp) ?_
  refine AllReadyH.cons (o := ⟨some 23, _, _, _, _, _⟩) rfl (fun KK hKK => ?_) AllReadyH.nil
  refine step_append_row kindP rfl (.tmp 16) (.tmp 22) rfl base (.slice a n cap) P [⟨id, o, l, sa4, n4, cap4, bs⟩] gr ⟨w4.heap.size, 0, none⟩ 1 1 (by simp [Act.eval]) (by simp [Act.eval]) rfl hr5 (one_lies hn5) hPs.out (Nat.le_trans hbase.out (hk1.out.trans (hk4.trans hk5)).size) ?_
  intro sa6 n6 cap6 w6 gr6 hr6 hk6 hg6
  have hR6 := hR5.kept hk6 hno.out
  have hb6 := hb5.kept hk6 hBg.out
  have f1 := Blk.frozen hR6 1
  obtain ⟨e0, e1⟩ := hR6.two
  have hH6 := hSB.out _ hb6
  refine hKK.out _ _ hH6 (fun _ => ?_)
  replace hH := hH6
  clear hKK KK hH6
  refine tJ 12 ⟨some 24, _, _, _, _, _⟩ (.pointer (some ⟨q, 0, none⟩)) rfl hH ?_
  refine tJ 13 ⟨some 25, _, _, _, _, _⟩ (.pointer (some ⟨q, 1, none⟩)) rfl hH ?_
  refine wpAnyH_ready (rs := [14]) (by kernel_rfl) (by simp) ?_
  refine AllReadyH.cons (o := ⟨none, _, _, _, _, _⟩) rfl (fun KK hKK => ?_) AllReadyH.nil
  go_simp
  have hH8 := hSB.out _ (hb6.kept (kept_set (L := [q]) (g := q) (by simp) w6 1 (.slice sa6 n6 cap6)) hBq.out)
  refine hKK.out _ _ hH8 (fun _ => ?_)
  clear hKK KK hH8
  refine wpAnyH_done (by kernel_rfl) ?_ _
  have hb8 : Raw (w6.setCell ⟨q, 1, none⟩ (.slice sa6 n6 cap6)) q sa6 n6 cap6 := Blk.set hR6 1 _
  have hk8 : Kept [q] w6 (w6.setCell ⟨q, 1, none⟩ (.slice sa6 n6 cap6)) := kept_set (by simp) _ _ _
  obtain ⟨w8, hw8⟩ : ∃ w8, w6.setCell ⟨q, 1, none⟩ (.slice sa6 n6 cap6) = w8 := ⟨_, rfl⟩
  rw [hw8] at hb8 hk8 ⊢
  have hfin := hf0.out _ _ _ w6 w8 gr6 _ _ _ hk1.out (hk4.trans hk5) hB5 hr6 hk6 hg6 hb8 hk8
  clear hw8 f1 e0 e1 hr6 hR6 hr5 hR5 hB5 hk6 hk8 hg6 hR4
  go_wp2_with fail
  go_ret
  exact ⟨rfl, gr6, hfin⟩
 ·go_simp
  refine (clone_any v hi bs _ hvD.out hhiD.out hlen.out).mono ?_
  rintro e w4 ⟨sa4, n4, cap4, rfl, hB4, hk4⟩
  go_wp2_with fail
  have hb4 := hbD.kept hk4 (by simp)
  have hH4 := hSB.out w4 hb4
  refine hKK.out _ _ hH4 (fun _ => ?_)
  replace hH := hH4
  have hR4 := hR1.kept hk4 (by simp)
  obtain ⟨d0, d1⟩ := hR4.two
  clear hKK KK hH4
  refine tJ 9 ⟨some 21, _, _, _, _, _⟩ (.agg #[.int .i64 id, .int .i64 o, .int .i64 l, .slice sa4 n4 cap4]) rfl hH ?_
  refine wpAnyH_ready (rs := [4, 10]) (by kernel_rfl) (by simp) ?_
  refine AllReadyH.cons (o := ⟨some 16, _, _, _, _, _⟩) rfl (fun KK hKK => ?_) (AllReadyH.cons (o := ⟨some 22, _, _, _, _, _⟩) rfl (fun KK hKK => ?_) AllReadyH.nil)
  ·go_simp
   refine hKK.out _ _ hH (fun _ => ?_)
   clear hKK KK
   refine wpAnyH_ready (rs := [10]) (by kernel_rfl) (by simp) ?_
   refine AllReadyH.cons (o := ⟨some 22, _, _, _, _, _⟩) rfl (fun KK hKK => ?_) AllReadyH.nil
   go_simp
   have hk5 := kept_alloc [] w4 (.cells #[.int .i64 id, .int .i64 o, .int .i64 l, .slice sa4 n4 cap4] 152)
   have hb5 := hb4.kept hk5 (by simp)
   have hH5 := hSB.out _ hb5
   refine hKK.out _ _ hH5 (fun _ => ?_)
   replace hH := hH5
   have hR5 := hR4.kept hk5 (by simp)
   have hr5 := hr1.kept0 (hk4.trans hk5)
   have hB5 := Byt.kept hB4 hk5 (foot_nil [] _) (by simp)
   have hn5 := blk_new w4 152 #[.int .i64 id, .int .i64 o, .int .i64 l, .slice sa4 n4 cap4]
   obtain ⟨e0, e1⟩ := hR5.two
   clear hKK KK hH5
   refine wpAnyH_ready (rs := [11]) (by kernel_rfl) (by simp) ?_
   refine AllReadyH.cons (o := ⟨some 23, _, _, _, _, _⟩) rfl (fun KK hKK => ?_) AllReadyH.nil
   refine step_append_row kindP rfl (.tmp 16) (.tmp 22) rfl base (.slice a n cap) P [⟨id, o, l, sa4, n4, cap4, bs⟩] gr ⟨w4.heap.size, 0, none⟩ 1 1 (by simp [Act.eval]) (by simp [Act.eval]) rfl hr5 (one_lies hn5) hPs.out (Nat.le_trans hbase.out (hk1.out.trans (hk4.trans hk5)).size) ?_
   intro sa6 n6 cap6 w6 gr6 hr6 hk6 hg6
   have hR6 := hR5.kept hk6 hno.out
   have hb6 := hb5.kept hk6 hBg.out
   have f1 := Blk.frozen hR6 1
   obtain ⟨e0, e1⟩ := hR6.two
   have hH6 := hSB.out _ hb6
   refine hKK.out _ _ hH6 (fun _ => ?_)
   replace hH := hH6
   clear hKK KK hH6
   refine tJ 12 ⟨some 24, _, _, _, _, _⟩ (.pointer (some ⟨q, 0, none⟩)) rfl hH ?_
   refine tJ 13 ⟨some 25, _, _, _, _, _⟩ (.pointer (some ⟨q, 1, none⟩)) rfl hH ?_
   refine wpAnyH_ready (rs := [14]) (by kernel_rfl) (by simp) ?_
   refine AllReadyH.cons (o := ⟨none, _, _, _, _, _⟩) rfl (fun KK hKK => ?_) AllReadyH.nil
   go_simp
   have hH8 := hSB.out _ (hb6.kept (kept_set (L := [q]) (g := q) (by simp) w6 1 (.slice sa6 n6 cap6)) hBq.out)
   refine hKK.out _ _ hH8 (fun _ => ?_)
   clear hKK KK hH8
   refine wpAnyH_done (by kernel_rfl) ?_ _
   have hb8 : Raw (w6.setCell ⟨q, 1, none⟩ (.slice sa6 n6 cap6)) q sa6 n6 cap6 := Blk.set hR6 1 _
   have hk8 : Kept [q] w6 (w6.setCell ⟨q, 1, none⟩ (.slice sa6 n6 cap6)) := kept_set (by simp) _ _ _
   obtain ⟨w8, hw8⟩ : ∃ w8, w6.setCell ⟨q, 1, none⟩ (.slice sa6 n6 cap6) = w8 := ⟨_, rfl⟩
   rw [hw8] at hb8 hk8 ⊢
   have hfin := hf0.out _ _ _ w6 w8 gr6 _ _ _ hk1.out (hk4.trans hk5) hB5 hr6 hk6 hg6 hb8 hk8
   clear hw8 f1 e0 e1 hr6 hR6 hr5 hR5 hB5 hk6 hk8 hg6 hR4
   go_wp2_with fail
   go_ret
   exact ⟨rfl, gr6, hfin⟩
  ·go_simp
   have hk5 := kept_alloc [] w4 (.cells #[.int .i64 id, .int .i64 o, .int .i64 l, .slice sa4 n4 cap4] 152)
   have hb5 := hb4.kept hk5 (by simp)
   have hH5 := hSB.out _ hb5
   refine hKK.out _ _ hH5 (fun _ => ?_)
   replace hH := hH5
   have hR5 := hR4.kept hk5 (by simp)
   have hr5 := hr1.kept0 (hk4.trans hk5)
   have hB5 := Byt.kept hB4 hk5 (foot_nil [] _) (by simp)
   have hn5 := blk_new w4 152 #[.int .i64 id, .int .i64 o, .int .i64 l, .slice sa4 n4 cap4]
   obtain ⟨e0, e1⟩ := hR5.two
   clear hKK KK hH5
   refine wpAnyH_ready (rs := [4]) (by kernel_rfl) (by simp) ?_
   refine AllReadyH.cons (o := ⟨some 16, _, _, _, _, _⟩) rfl (fun KK hKK => ?_) AllReadyH.nil
   go_simp
   refine hKK.out _ _ hH (fun _ => ?_)
   clear hKK KK
   refine wpAnyH_ready (rs := [11]) (by kernel_rfl) (by simp) ?_
   refine AllReadyH.cons (o := ⟨some 23, _, _, _, _, _⟩) rfl (fun KK hKK => ?_) AllReadyH.nil
   refine step_append_row kindP rfl (.tmp 16) (.tmp 22) rfl base (.slice a n cap) P [⟨id, o, l, sa4, n4, cap4, bs⟩] gr ⟨w4.heap.size, 0, none⟩ 1 1 (by simp [Act.eval]) (by simp [Act.eval]) rfl hr5 (one_lies hn5) hPs.out (Nat.le_trans hbase.out (hk1.out.trans (hk4.trans hk5)).size) ?_
   intro sa6 n6 cap6 w6 gr6 hr6 hk6 hg6
   have hR6 := hR5.kept hk6 hno.out
   have hb6 := hb5.kept hk6 hBg.out
   have f1 := Blk.frozen hR6 1
   obtain ⟨e0, e1⟩ := hR6.two
   have hH6 := hSB.out _ hb6
   refine hKK.out _ _ hH6 (fun _ => ?_)
   replace hH := hH6
   clear hKK KK hH6
   refine tJ 12 ⟨some 24, _, _, _, _, _⟩ (.pointer (some ⟨q, 0, none⟩)) rfl hH ?_
   refine tJ 13 ⟨some 25, _, _, _, _, _⟩ (.pointer (some ⟨q, 1, none⟩)) rfl hH ?_
   refine wpAnyH_ready (rs := [14]) (by kernel_rfl) (by simp) ?_
   refine AllReadyH.cons (o := ⟨none, _, _, _, _, _⟩) rfl (fun KK hKK => ?_) AllReadyH.nil
   go_simp
   have hH8 := hSB.out _ (hb6.kept (kept_set (L := [q]) (g := q) (by simp) w6 1 (.slice sa6 n6 cap6)) hBq.out)
   refine hKK.out _ _ hH8 (fun _ => ?_)
   clear hKK KK hH8
   refine wpAnyH_done (by kernel_rfl) ?_ _
   have hb8 : Raw (w6.setCell ⟨q, 1, none⟩ (.slice sa6 n6 cap6)) q sa6 n6 cap6 := Blk.set hR6 1 _
   have hk8 : Kept [q] w6 (w6.setCell ⟨q, 1, none⟩ (.slice sa6 n6 cap6)) := kept_set (by simp) _ _ _
   obtain ⟨w8, hw8⟩ : ∃ w8, w6.setCell ⟨q, 1, none⟩ (.slice sa6 n6 cap6) = w8 := ⟨_, rfl⟩
   rw [hw8] at hb8 hk8 ⊢
   have hfin := hf0.out _ _ _ w6 w8 gr6 _ _ _ hk1.out (hk4.trans hk5) hB5 hr6 hk6 hg6 hb8 hk8
   clear hw8 f1 e0 e1 hr6 hR6 hr5 hR5 hB5 hk6 hk8 hg6 hR4
   go_wp2_with fail
   go_ret
   exact ⟨rfl, gr6, hfin⟩
end Go.Proofs.YtoaeficfmcncjaaGreat.Later
