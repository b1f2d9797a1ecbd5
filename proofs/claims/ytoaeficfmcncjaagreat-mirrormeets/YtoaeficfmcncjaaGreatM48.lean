/-
 The next message comes to a side; it goes on.
-/
import Derived.Test.YtoaeficfmcncjaaGreatM47
namespace Go.Proofs.YtoaeficfmcncjaaGreat.Mirror
open Go.RowKit
open Math
open Resync (MRow Lies)
open Pack (Ms Mv)
def Past (n : Nat) (A B : World) : Prop := ∃ X, Kept X A B ∧ ∀ k ∈ X, n ≤ k
theorem Past.of {n : Nat} {A B : World} {X : List Nat} (h : Kept X A B) (hX : ∀ k ∈ X, n ≤ k) : Past n A B := ⟨X, h, hX⟩
theorem Past.trans {n : Nat} {A B C : World} (h : Past n A B) (k : Past n B C) : Past n A C := by
 obtain ⟨X, h1, h2⟩ := h
 obtain ⟨Y, k1, k2⟩ := k
 exact ⟨X ++ Y, (h1.mono (fun k hk => List.mem_append.2 (.inl hk))).trans (k1.mono (fun k hk => List.mem_append.2 (.inr hk))), fun k hk => (List.mem_append.1 hk).elim (h2 k) (k2 k)⟩
theorem Past.size {n : Nat} {A B : World} (h : Past n A B) : A.heap.size ≤ B.heap.size := by
 obtain ⟨X, h1, _⟩ := h
 exact h1.size
theorem Past.kept {A B : World} (h : Past A.heap.size A B) : Kept [] A B := by
 obtain ⟨X, h1, h2⟩ := h
 exact (Kept.refl [] A).youngs h1 fun k hk => .inr (h2 k hk)
theorem byt_young {A B : World} {v : Value} {bs : List Nat} (hk : Kept [] A B) (h : Later.Byt A v bs) : Later.Byt B v bs := (clean_nil A).byt hk h
set_option maxRecDepth 100000 in
theorem build_none (W : World) : (Instr.buildSlice 76 0 #[]).run Tryz.prog W = .ok (.slice (some ⟨W.heap.size, 0, none⟩) 0 0) (W.alloc (.cells #[] 47)) := by
 obtain ⟨i0, hi, h⟩ := Option.map_eq_some_iff.1 Resync.Tryz.infoM
 simp [Instr.buildSlice, run_underlying Resync.Tryz.undMs, sizeOf, typeInfo, hi, newRow, Instr.fill]
 rw [show Array.range 0 = #[] from by apply Array.eq_empty_of_size_eq_zero; simp]
 simp
theorem row_empty {base g : Nat} {W : World} (h : Blk W g 47 #[]) (hg : base ≤ g) : MRow base W (.slice (some ⟨g, 0, none⟩) 0 0) [] :=
 ⟨by simp [Resync.cellsM], .inr ⟨g, 0, _, rfl, hg, h, Nat.le_refl _, by unfold maxLen; omega, rfl, rfl⟩⟩
theorem lies_tail {base q n ca : Nat} {W : World} {z : Mv} {P : List Mv} {sb : Option Addr} (h : MRow base W (.slice (some ⟨q, 0, none⟩) (n + 1) ca) (z :: P)) (hsb : (if ca = 1 then some (⟨q, 0, none⟩ : Addr) else some ⟨q, 6, none⟩) = sb) : Lies W (.slice sb n (ca - 1)) P := by
 obtain ⟨h1, h2, h3⟩ := h.len
 have hn : n = P.length := by simpa using h1
 obtain ⟨sa, cap, e, _, _, _, h4⟩ := h.lies
 injection e with e1 e2 e3
 subst hn
 have hne : sb ≠ none := by
  rw [← hsb]
  split <;> simp
 refine ⟨_, _, rfl, fun e => absurd e hne, by omega, by omega, ?_⟩
 by_cases hc : ca = 1
 ·left
  exact List.eq_nil_of_length_eq_zero (by omega)
 rw [if_neg hc] at hsb
 rcases h4 with h4 | ⟨g, off, e4, hg, h4⟩
 ·cases h4
 ·rw [e4] at e1
  injection e1 with e1
  injection e1 with e5 e6
  subst e5 e6
  refine .inr ⟨q, 6, hsb.symm, hg, fun j u hj => ?_⟩
  have := h4 (6 + j) u (by
   have e : Resync.cellsM (z :: P) = z.cells ++ Resync.cellsM P := rfl
   rw [e, List.getElem?_append_right (by simp [Mv.cells])]
   simpa [Mv.cells] using hj)
  simpa using this
variable {base g : Nat} {x y : Ad} {K L : List Nat} {vo vt : Value} {M N : Mr} {wo wt : List Ms} {P Q : List Mv}
section
set_option maxRecDepth 100000
set_option maxHeartbeats 4000000 in
theorem step0_none (w : World) (H : PairIn w base g 0 x y K L vo vt M N [] wt P Q) (hb : base ≤ w.heap.size) (he : goE M = 0) (hF : M.fly.length ≤ 600) (hL : M.lat.length ≤ 900000) (hO : M.d.ops + 1030 * M.lat.length + 1030 * M.fly.length ≤ 800000000000000) (hlen : wt.length + (goO M).length ≤ 1000000) :
  Calls Tryz.prog 30 #[.pointer (some ⟨g, 0, none⟩), .int .i64 0] w fun e w' => e = .returned (.tuple #[]) ∧ ∃ K' vo' vt' P' Q', PairIn w' base g 0 x y K' L vo' vt' (goS M) N [] (wt ++ goO M) P' Q' ∧ Past base w w' := by
 have hP : P = [] := by simpa using H.ro.is
 subst hP
 obtain ⟨oa, oc, rfl⟩ := H.ro.row.form
 have qg := go_any w H.own hF hL (by omega)
 rw [he] at qg
 have c4 := (H.box.cell 4).trans (show _ = some (Value.slice oa 0 oc) from rfl)
 have c0 := (H.box.cell 0).trans (show _ = some (Value.pointer (some ⟨x.m, 0, none⟩)) from rfl)
 have H1 : PairIn w base g 0 x y K L (.slice oa 0 oc) vt M N [] wt [] Q := H
 have hb1 := hb
 have hlen2 := hlen
 go_enter Tryz.func30, Tryz.ntmps30
 go_wp2_with (first
  | (go_at_call 35; refine qg.mono ?_; clear qg; rintro e w2 ⟨v2, Q2, K2, rfl, hT2, hG2⟩; have hp2 := Past.of (n := base) hG2.kept (fun k hk => H1.low.2.1 k hk); have H2 := H1.goes hb1 hG2; have hb2 := Nat.le_trans hb1 hG2.kept.size; have qw := went0 v2 _ Q2 _ w2 H2 hT2 (fun k hk e => by have h1 := (hT2.row.lt k hk).1; have h2 := H1.box.lt; omega) hb2 hlen2)
  | (go_at_call 32; refine qw.mono ?_; clear qw; rintro e w3 ⟨rfl, v3, H3, hk3, hn3⟩; have hp3 := Past.of (n := base) hk3 (fun k hk => by rcases List.mem_cons.1 hk with h | h; exact h ▸ H2.low.1; exact (H2.rt.row.lt k (by simpa using h)).1)))
 go_end0
 exact ⟨rfl, K2, _, v3, [], _, H3, hp2.trans hp3⟩
set_option maxHeartbeats 8000000 in
theorem step0_some (m0 : Ms) (ws : List Ms) (w : World) (H : PairIn w base g 0 x y K L vo vt M N (m0 :: ws) wt P Q) (hb : base ≤ w.heap.size) (hi : -9223372036854775808 ≤ m0.i ∧ m0.i ≤ 9223372036854775807) (hd : m0.d.length ≤ 1000) (he : tkE M m0 = 0) (he2 : goE (tkS M m0) = 0) (hF : M.fly.length ≤ 600) (hL : M.lat.length ≤ 900000) (hO : M.d.ops + 1030 * M.lat.length + 1030 * M.fly.length ≤ 800000000000000) (hF2 : (tkS M m0).fly.length ≤ 600) (hL2 : (tkS M m0).lat.length ≤ 900000) (hO2 : (tkS M m0).d.ops + 1030 * (tkS M m0).lat.length + 1030 * (tkS M m0).fly.length ≤ 900000000000000) (hws : ws.length ≤ 1000000) (hlen1 : wt.length + (tkO M m0).length ≤ 1000000) (hlen : (wt ++ tkO M m0).length + (goO (tkS M m0)).length ≤ 1000000) :
  Calls Tryz.prog 30 #[.pointer (some ⟨g, 0, none⟩), .int .i64 0] w fun e w' => e = .returned (.tuple #[]) ∧ ∃ K' vo' vt' P' Q', PairIn w' base g 0 x y K' L vo' vt' (goS (tkS M m0)) N ws (wt ++ tkO M m0 ++ goO (tkS M m0)) P' Q' ∧ Past base w w' := by
 obtain ⟨z, P', rfl⟩ : ∃ z P', P = z :: P' := by
  cases P with
  | nil => have := H.ro.is; simp at this
  | cons z P' => exact ⟨z, P', rfl⟩
 obtain ⟨hz, hP'⟩ : z.ms = m0 ∧ P'.map Mv.ms = ws := by
  have := H.ro.is
  simpa using this
 subst hz hP'
 obtain ⟨zk, zi, zo, zm, zs, zsa, zlen, zcap, zd⟩ := z
 obtain ⟨oa, ca, rfl⟩ := H.ro.row.form
 obtain ⟨q, rfl, hq, hr0⟩ := H.ro.row.at 0 _ rfl
 obtain ⟨n, hn⟩ : ∃ n, P'.length = n := ⟨_, rfl⟩
 simp only [List.length_cons, hn] at H ⊢
 have hcap := H.ro.row.len.2.1
 have hPl : Hid (([] : List Mv).length + P'.length ≤ 1000000) := by show 0 + _ ≤ _; rw [Nat.zero_add]; simpa using hws
 have hr : Hid (w.rangeAt q 0 (Mv.cells ⟨zk, zi, zo, zm, zs, zsa, zlen, zcap, zd⟩)) := (show w.rangeAt q 0 (Mv.cells ⟨zk, zi, zo, zm, zs, zsa, zlen, zcap, zd⟩) by simpa using hr0)
 have hcs : Hid (∀ v ∈ Mv.cells ⟨zk, zi, zo, zm, zs, zsa, zlen, zcap, zd⟩, v.oneCell' = true) := Resync.cells_single _
 have hb0 : Blk (w.alloc (.cells #[.int .i64 0, .int .i64 0, .int .i64 0, .int .u64 0, .bool false, .slice none 0 0] 47)) w.heap.size 47 #[.int .i64 0, .int .i64 0, .int .i64 0, .int .u64 0, .bool false, .slice none 0 0] := blk_new _ _ _
 have c4 := (H.box.cell 4).trans (show _ = some (Value.slice (some ⟨q, 0, none⟩) (n + 1) ca) from rfl)
 have kn : (0 : Int) < ((n + 1 : Nat) : Int) := by omega
 have kn2 : (0 : Int) < (n : Int) + 1 := by omega
 have kc : (0 : Int) < (ca : Int) := by omega
 have HH : Hid (PairIn w base g 0 x y K L (.slice (some ⟨q, 0, none⟩) (n + 1) ca) vt M N _ wt _ Q) := H
 clear H hr0
 go_enter Tryz.func30, Tryz.ntmps30
 go_upto_region 2 with (first
  | refine wpList_load_mid rfl 47 _ rfl q 0 rfl (Mv.cells ⟨zk, zi, zo, zm, zs, zsa, zlen, zcap, zd⟩) _ hr.out Tryz.underlying47 rfl Pack.Tryz.sizeM ?_
  | (refine wpList_store_blk rfl 47 _ _ rfl w.heap.size 47 _ (Mv.cells ⟨zk, zi, zo, zm, zs, zsa, zlen, zcap, zd⟩) rfl rfl hb0 rfl Pack.Tryz.sizeM hcs.out ?_; intro w3 hB3 hk3 hz3; have hk3' : Kept [] w w3 := (kept_alloc [] w _).young hk3 (Nat.le_refl _); have hI3 : Mv.In ⟨zk, zi, zo, zm, zs, zsa, zlen, zcap, zd⟩ w3 w.heap.size := hB3))
 obtain ⟨nb, hnb⟩ : ∃ nb, w.heap.size = nb := ⟨_, rfl⟩
 rw [hnb] at hI3 ⊢
 replace hnb : Hid (w.heap.size = nb) := hnb
 have H3 := HH.out.kept0 hk3'
 have H4' := H3.kept0 (kept_drew [] w3)
 have hI4' := hI3.kept (kept_drew [] w3) (by simp)
 have hk4' : Kept [] w w3.drew := hk3'.trans (kept_drew [] w3)
 have hbs4' : base ≤ w3.drew.heap.size := Nat.le_trans hb hk4'.size
 obtain ⟨w4, hw4⟩ : ∃ w4, w3.drew = w4 := ⟨_, rfl⟩
 rw [hw4] at H4' hI4' hk4' hbs4'
 have H4 : PairIn w4 base g 0 x y K L (.slice (some ⟨q, 0, none⟩) (n + 1) ca) vt M N _ wt _ Q := H4'
 have hbs4 : Hid (base ≤ w4.heap.size) := hbs4'
 have hbt4 : Hid (Bts w4 (K ++ [x.d, x.b1, x.b2]) (.slice zsa zlen zcap) zd) := H4.bts (z := ⟨zk, zi, zo, zm, zs, zsa, zlen, zcap, zd⟩) (by simp)
 clear H3 H4' hb0 hr hcs kn kc kn2
 have hxl : zd.length ≤ 140737488351232 := by have h1 : zd.length ≤ 1000 := hd; omega
 simp only [Act.put]
 have hn1 : (1 : Int) ≤ (n : Int) + 1 := by omega
 obtain ⟨sb, hsb'⟩ : ∃ sb, (if ca = 1 then some (⟨q, 0, none⟩ : Addr) else some ⟨q, 6, none⟩) = sb := ⟨_, rfl⟩
 have hsb : Hid ((if ca = 1 then some (⟨q, 0, none⟩ : Addr) else some ⟨q, 6, none⟩) = sb) := hsb'
 go_cut [] from 26 to 71 (fun W => ∃ vo', PairIn W base g 0 x y K L vo' vt M N (P'.map Mv.ms) wt P' Q ∧ Mv.In ⟨zk, zi, zo, zm, zs, zsa, zlen, zcap, zd⟩ W nb ∧ Past base w W ∧ Bts W (K ++ [x.d, x.b1, x.b2]) (.slice zsa zlen zcap) zd)
 case first =>
  refine wp_region_held_drew (S := fun _ => True) (by kernel_rfl) trivial (fun hP => ?_)
  have hH := hP
  clear hP
  refine tJ 0 ⟨some 26, _, _, _, _, _⟩ (.pointer (some ⟨g, 0, none⟩)) rfl hH ?_
  refine tJ 1 ⟨some 27, _, _, _, _, _⟩ (.int .i64 0) rfl hH ?_
  refine tJ 3 ⟨some 29, _, _, _, _, _⟩ (.pointer (some ⟨g, 0, none⟩)) rfl hH ?_
  refine tJ 4 ⟨some 30, _, _, _, _, _⟩ (.int .i64 0) rfl hH ?_
  refine tJ 5 ⟨some 31, _, _, _, _, _⟩ (.pointer (some ⟨g, 0, none⟩)) rfl hH ?_
  refine tJ 6 ⟨some 32, _, _, _, _, _⟩ (.pointer (some ⟨g, 4, none⟩)) rfl hH ?_
  refine tJ 7 ⟨some 33, _, _, _, _, _⟩ (.pointer (some ⟨g, 4, none⟩)) rfl hH ?_
  refine tJ 11 ⟨some 37, _, _, _, _, _⟩ (.pointer (some ⟨g, 0, none⟩)) rfl hH ?_
  refine tJ 12 ⟨some 38, _, _, _, _, _⟩ (.pointer (some ⟨g, 4, none⟩)) rfl hH ?_
  refine wpAnyH_ready (rs := [2, 8]) (by kernel_rfl) (by simp) ?_
  refine AllReadyH.cons (o := ⟨some 28, _, _, _, _, _⟩) rfl (fun K hK => ?_) (AllReadyH.cons (o := ⟨some 34, _, _, _, _, _⟩) rfl (fun K hK => ?_) AllReadyH.nil)
  ·have hbs := build_none w4
   obtain ⟨w5, e5, k5, hb5⟩ : ∃ V, w4.alloc (.cells #[] 47) = V ∧ Kept [] w4 V ∧ Blk V w4.heap.size 47 #[] := ⟨_, rfl, kept_alloc [] _ _, blk_new _ _ _⟩
   go_simp
   refine hK.out _ _ trivial (fun hH => ?_)
   clear hK K
   have H5 := H4.kept0 k5
   have hro5 := H5.ro.row
   refine tC 8 (o := ⟨some 34, _, _, _, _, _⟩) rfl (fun K hK => ?_)
   have s0 := (H5.box.cell 4).trans (show _ = some (Value.slice (some ⟨q, 0, none⟩) (n + 1) ca) from rfl)
   go_simp
   refine hK.out _ _ trivial (fun hH => ?_)
   clear hK K
   clear s0
   refine tJ 9 ⟨some 35, _, _, _, _, _⟩ (.slice sb n (ca - 1)) rfl hH ?_
   refine tC 10 (o := ⟨some 36, _, _, _, _, _⟩) rfl (fun K hK => ?_)
   refine Resync.step_append_msgs rfl (.tmp 28) (.tmp 35) rfl base (.slice (some ⟨w4.heap.size, 0, none⟩) 0 0) (.slice sb n (ca - 1)) [] P' (by simp [Act.eval]) (by simp [Act.eval]) (row_empty hb5 hbs4.out) (lies_tail hro5 hsb.out) hPl.out (Nat.le_trans hbs4.out k5.size) ?_
   intro sV nV cV w9 hV hk9 ho9
   refine hK.out _ _ trivial (fun hH => ?_)
   clear hK K
   rw [List.nil_append] at hV
   have hb9 := H5.box.kept hk9 (fun hm => by have h1 := H4.box.lt; have h2 : g = w4.heap.size := (by simpa [Value.ownBlock] using hm); omega)
   refine tJ 13 ⟨some 39, _, _, _, _, _⟩ (.pointer (some ⟨g, 4, none⟩)) rfl hH ?_
   refine tC 14 (o := ⟨none, _, _, _, _, _⟩) rfl (fun K hK => ?_)
   have f9 := hb9.frozen 4
   have x9 := (hb9.cell 4).trans (show _ = some (Value.slice (some ⟨q, 0, none⟩) (n + 1) ca) from rfl)
   obtain ⟨wV, eV, kV, hBV⟩ : ∃ V, w9.setCell ⟨g, 4, none⟩ (.slice sV nV cV) = V ∧ Kept [g] w9 V ∧ Blk V g 79 (cells7 0 x.m y.m x.d y.d (.slice sV nV cV) vt) := ⟨_, rfl, kept_set (by simp) _ _ _, hb9.set 4 _⟩
   go_simp
   refine hK.out _ _ trivial (fun hH => ?_)
   clear hK K
   refine wpAnyH_done (by kernel_rfl) ?_ _
   have hkE : Kept [] w4 w9 := k5.youngs hk9 (fun k hk => .inr (by have h3 : k = w4.heap.size := (by simpa [Value.ownBlock] using hk); omega))
   go_wp2_with fail
   go_meet
   case rel =>
    have hroV : Told base w9 (.slice sV nV cV) (P'.map Mv.ms) P' := ⟨hV, rfl, fun u hu => byt_young hkE (H4.ro.byt u (by simp [hu]))⟩
    have HV : PairIn wV base g 0 x y K L (.slice sV nV cV) vt M N (P'.map Mv.ms) wt P' Q := ((H4.swap (by simp)).grown (hkE.mono (by simp)) hroV (fun k hk => .inr (by rcases ho9.out k hk with h | h; (have h3 : w4.heap.size = k := by simpa [Value.ownBlock] using h); omega; have := k5.size; omega)) kV hBV).swap (by simp)
    exact ⟨_, HV, (hI4'.kept hkE (by simp)).kept kV (by have h8 := hnb.out; have h9 := HH.out.box.lt; simp; omega), (Past.of (n := base) (hk4'.trans hkE) (by simp)).trans (Past.of kV (by simpa using H4.low.1)), bts_later ((box_clean hb9).byt kV (byt_young hkE (H4.ro.byt ⟨zk, zi, zo, zm, zs, zsa, zlen, zcap, zd⟩ (by simp)))) HV.own.clean⟩
  ·have s0 := (H4.box.cell 4).trans (show _ = some (Value.slice (some ⟨q, 0, none⟩) (n + 1) ca) from rfl)
   go_simp
   refine hK.out _ _ trivial (fun hH => ?_)
   clear hK K
   clear s0
   refine tJ 9 ⟨some 35, _, _, _, _, _⟩ (.slice sb n (ca - 1)) rfl hH ?_
   refine tC 2 (o := ⟨some 28, _, _, _, _, _⟩) rfl (fun K hK => ?_)
   have hbs := build_none w4
   obtain ⟨w5, e5, k5, hb5⟩ : ∃ V, w4.alloc (.cells #[] 47) = V ∧ Kept [] w4 V ∧ Blk V w4.heap.size 47 #[] := ⟨_, rfl, kept_alloc [] _ _, blk_new _ _ _⟩
   go_simp
   refine hK.out _ _ trivial (fun hH => ?_)
   clear hK K
   have H5 := H4.kept0 k5
   have hro5 := H5.ro.row
   refine tC 10 (o := ⟨some 36, _, _, _, _, _⟩) rfl (fun K hK => ?_)
   refine Resync.step_append_msgs rfl (.tmp 28) (.tmp 35) rfl base (.slice (some ⟨w4.heap.size, 0, none⟩) 0 0) (.slice sb n (ca - 1)) [] P' (by simp [Act.eval]) (by simp [Act.eval]) (row_empty hb5 hbs4.out) (lies_tail hro5 hsb.out) hPl.out (Nat.le_trans hbs4.out k5.size) ?_
   intro sV nV cV w9 hV hk9 ho9
   refine hK.out _ _ trivial (fun hH => ?_)
   clear hK K
   rw [List.nil_append] at hV
   have hb9 := H5.box.kept hk9 (fun hm => by have h1 := H4.box.lt; have h2 : g = w4.heap.size := (by simpa [Value.ownBlock] using hm); omega)
   refine tJ 13 ⟨some 39, _, _, _, _, _⟩ (.pointer (some ⟨g, 4, none⟩)) rfl hH ?_
   refine tC 14 (o := ⟨none, _, _, _, _, _⟩) rfl (fun K hK => ?_)
   have f9 := hb9.frozen 4
   have x9 := (hb9.cell 4).trans (show _ = some (Value.slice (some ⟨q, 0, none⟩) (n + 1) ca) from rfl)
   obtain ⟨wV, eV, kV, hBV⟩ : ∃ V, w9.setCell ⟨g, 4, none⟩ (.slice sV nV cV) = V ∧ Kept [g] w9 V ∧ Blk V g 79 (cells7 0 x.m y.m x.d y.d (.slice sV nV cV) vt) := ⟨_, rfl, kept_set (by simp) _ _ _, hb9.set 4 _⟩
   go_simp
   refine hK.out _ _ trivial (fun hH => ?_)
   clear hK K
   refine wpAnyH_done (by kernel_rfl) ?_ _
   have hkE : Kept [] w4 w9 := k5.youngs hk9 (fun k hk => .inr (by have h3 : k = w4.heap.size := (by simpa [Value.ownBlock] using hk); omega))
   go_wp2_with fail
   go_meet
   case rel =>
    have hroV : Told base w9 (.slice sV nV cV) (P'.map Mv.ms) P' := ⟨hV, rfl, fun u hu => byt_young hkE (H4.ro.byt u (by simp [hu]))⟩
    have HV : PairIn wV base g 0 x y K L (.slice sV nV cV) vt M N (P'.map Mv.ms) wt P' Q := ((H4.swap (by simp)).grown (hkE.mono (by simp)) hroV (fun k hk => .inr (by rcases ho9.out k hk with h | h; (have h3 : w4.heap.size = k := by simpa [Value.ownBlock] using h); omega; have := k5.size; omega)) kV hBV).swap (by simp)
    exact ⟨_, HV, (hI4'.kept hkE (by simp)).kept kV (by have h8 := hnb.out; have h9 := HH.out.box.lt; simp; omega), (Past.of (n := base) (hk4'.trans hkE) (by simp)).trans (Past.of kV (by simpa using H4.low.1)), bts_later ((box_clean hb9).byt kV (byt_young hkE (H4.ro.byt ⟨zk, zi, zo, zm, zs, zsa, zlen, zcap, zd⟩ (by simp)))) HV.own.clean⟩
 case rest =>
  obtain ⟨vo', HV, hzV, hpV, hbtV⟩ := hcut
  obtain ⟨oV, cV, rfl⟩ := HV.ro.row.form
  obtain ⟨nV, hnV⟩ : ∃ n, P'.length = n := ⟨_, rfl⟩
  rw [hnV] at HV
  have hbV : base ≤ wc.heap.size := Nat.le_trans hb hpV.size
  have qt := take_any ⟨zk, zi, zo, zm, zs, zsa, zlen, zcap, zd⟩ hi.1 hi.2 wc.drew (HV.kept0 (kept_drew [] wc)).own (hbtV.kept0 (kept_drew [] wc)) hxl hF (by omega) (by omega)
  rw [he] at qt
  simp only [Mv.val] at qt
  have hgx : Hid (g ∉ K ++ [x.d, x.b1, x.b2]) := HV.gs.1
  have hnx : Hid (nb ∉ K ++ [x.d, x.b1, x.b2]) := fun hm => HV.own.no_msg nb hm _ hzV
  clear H4 HH hi hd hws hcap hPl hI3 hI4' hk4' hbs4' hk3' hw4 hB3 hk3 hz3 hbtV
  go_wp2_with fail
  refine wp_region_held_drew (S := fun W => Blk W g 79 (cells7 0 x.m y.m x.d y.d (.slice oV nV cV) vt) ∧ Mv.In ⟨zk, zi, zo, zm, zs, zsa, zlen, zcap, zd⟩ W nb) (by kernel_rfl) ⟨HV.box.kept (kept_drew [] _) (by simp), hzV.kept (kept_drew [] _) (by simp)⟩ (fun hP => ?_)
  have hH := hP
  clear hP
  refine tJ 0 ⟨some 41, _, _, _, _, _⟩ (.pointer (some ⟨g, 0, none⟩)) rfl hH ?_
  refine tJ 1 ⟨some 42, _, _, _, _, _⟩ (.int .i64 0) rfl hH ?_
  refine tJ 2 ⟨some 43, _, _, _, _, _⟩ (.pointer (some ⟨g, 0, none⟩)) rfl hH ?_
  refine tJ 3 ⟨some 44, _, _, _, _, _⟩ (.pointer (some ⟨g, 0, none⟩)) rfl hH ?_
  refine tJ 4 ⟨some 45, _, _, _, _, _⟩ (.pointer (some ⟨g, 0, none⟩)) rfl hH ?_
  refine tI 5 ⟨some 46, _, _, _, _, _⟩ (.pointer (some ⟨x.m, 0, none⟩)) rfl (fun W hSw => by have s0 := (hSw.1.cell 0).trans (show _ = some (Value.pointer (some ⟨x.m, 0, none⟩)) from rfl); go_simp) hH ?_
  refine tI 6 ⟨some 47, _, _, _, _, _⟩ (.agg #[.int .i64 zk, .int .i64 zi, .int .i64 zo, .int .u64 (zm : Int), .bool zs, .slice zsa zlen zcap]) rfl (fun W hSw => by obtain ⟨s1, s2, s3, s4, s5, s6⟩ := hSw.2.six; go_simp) hH ?_
  refine tC 7 (o := ⟨some 48, _, _, _, _, _⟩) rfl (fun K hK => ?_)
  go_simp
  refine (qt).mono ?_
  rintro e w7 ⟨vi, v7, Q7, K7, rfl, hI7, hT7, hG7⟩
  go_wp2_with fail
  have hH1 := (And.intro (hH.1.kept hG7.kept hgx.out) (hH.2.kept hG7.kept hnx.out))
  refine hK.out _ _ hH1 (fun hH => ?_)
  clear hH1
  clear hK K
  refine tJ 8 ⟨some 40, _, _, _, _, _⟩ (.tuple #[vi, v7, .int .i64 0]) rfl hH ?_
  refine tJ 9 ⟨some 49, _, _, _, _, _⟩ vi rfl hH ?_
  refine tJ 10 ⟨some 50, _, _, _, _, _⟩ v7 rfl hH ?_
  refine tJ 11 ⟨some 51, _, _, _, _, _⟩ (.int .i64 0) rfl hH ?_
  refine tJ 12 ⟨some 5, _, _, _, _, _⟩ vi rfl hH ?_
  refine tJ 13 ⟨some 6, _, _, _, _, _⟩ v7 rfl hH ?_
  refine tJ 14 ⟨some 7, _, _, _, _, _⟩ (.int .i64 0) rfl hH ?_
  refine wpAnyH_done (by kernel_rfl) ?_ _
  have HD := HV.kept0 (kept_drew [] wc)
  have hbD : base ≤ wc.drew.heap.size := hbV
  have H6 := HD.goes hbD hG7
  have hp7 : Past base wc w7 := (Past.of (kept_drew [] wc) (by simp)).trans (Past.of hG7.kept (fun k hk => HD.low.2.1 k hk))
  have hb7 : base ≤ w7.heap.size := Nat.le_trans hbV hp7.size
  have qv := went0 v7 _ Q7 _ w7 H6 hT7 (fun k hk e => by have h1 := (hT7.row.lt k hk).1; have h2 := HD.box.lt; omega) hb7 hlen1
  have qgo := fun W (h : MiAt W x.lo x.m x.d x.b1 x.b2 K7 _) => go_any (M := tkS M (Mv.ms ⟨zk, zi, zo, zm, zs, zsa, zlen, zcap, zd⟩)) W h hF2 hL2 hO2
  simp only [he2] at qgo
  clear qt hH hF hL hO
  go_wp2_with (first
   | (go_at_call 32; refine qv.mono ?_; clear qv; rintro e w8 ⟨rfl, v8, H8, hk8, hn8⟩; have hp8 := Past.of (n := base) hk8 (fun k hk => by rcases List.mem_cons.1 hk with h | h; exact h ▸ H6.low.1; exact (H6.rt.row.lt k (by simpa using h)).1); have hb8 := Nat.le_trans hb7 hk8.size; have c8 := (H8.box.cell 0).trans (show _ = some (Value.pointer (some ⟨x.m, 0, none⟩)) from rfl))
   | (go_at_call 35; refine (qgo _ H8.own).mono ?_; clear qgo; rintro e w9 ⟨v9, Q9, K9, rfl, hT9, hG9⟩; have hp9 := Past.of (n := base) hG9.kept (fun k hk => H8.low.2.1 k hk); have H9 := H8.goes hb8 hG9; have hb9 := Nat.le_trans hb8 hG9.kept.size; have qw := went0 v9 _ Q9 _ w9 H9 hT9 (fun k hk e => by have h1 := (hT9.row.lt k hk).1; have h2 := H8.box.lt; omega) hb9 hlen)
   | (go_at_call 32; refine qw.mono ?_; clear qw; rintro e w10 ⟨rfl, v10, H10, hk10, hn10⟩; have hp10 := Past.of (n := base) hk10 (fun k hk => by rcases List.mem_cons.1 hk with h | h; exact h ▸ H9.low.1; exact (H9.rt.row.lt k (by simpa using h)).1)))
  go_end0
  exact ⟨rfl, K9, _, v10, P', _, H10, (((hpV.trans hp7).trans hp8).trans hp9).trans hp10⟩
set_option maxHeartbeats 4000000 in
theorem step1_none (w : World) (H : PairIn w base g 1 x y K L vo vt M N [] wt P Q) (hb : base ≤ w.heap.size) (he : goE M = 0) (hF : M.fly.length ≤ 600) (hL : M.lat.length ≤ 900000) (hO : M.d.ops + 1030 * M.lat.length + 1030 * M.fly.length ≤ 800000000000000) (hlen : wt.length + (goO M).length ≤ 1000000) :
  Calls Tryz.prog 30 #[.pointer (some ⟨g, 0, none⟩), .int .i64 1] w fun e w' => e = .returned (.tuple #[]) ∧ ∃ K' vo' vt' P' Q', PairIn w' base g 1 x y K' L vo' vt' (goS M) N [] (wt ++ goO M) P' Q' ∧ Past base w w' := by
 have hP : P = [] := by simpa using H.ro.is
 subst hP
 obtain ⟨oa, oc, rfl⟩ := H.ro.row.form
 have qg := go_any w H.own hF hL (by omega)
 rw [he] at qg
 have c4 := (H.box.cell 5).trans (show _ = some (Value.slice oa 0 oc) from rfl)
 have c0 := (H.box.cell 1).trans (show _ = some (Value.pointer (some ⟨x.m, 0, none⟩)) from rfl)
 have H1 : PairIn w base g 1 x y K L (.slice oa 0 oc) vt M N [] wt [] Q := H
 have hb1 := hb
 have hlen2 := hlen
 go_enter Tryz.func30, Tryz.ntmps30
 go_wp2_with (first
  | (go_at_call 35; refine qg.mono ?_; clear qg; rintro e w2 ⟨v2, Q2, K2, rfl, hT2, hG2⟩; have hp2 := Past.of (n := base) hG2.kept (fun k hk => H1.low.2.1 k hk); have H2 := H1.goes hb1 hG2; have hb2 := Nat.le_trans hb1 hG2.kept.size; have qw := went1 v2 _ Q2 _ w2 H2 hT2 (fun k hk e => by have h1 := (hT2.row.lt k hk).1; have h2 := H1.box.lt; omega) hb2 hlen2)
  | (go_at_call 32; refine qw.mono ?_; clear qw; rintro e w3 ⟨rfl, v3, H3, hk3, hn3⟩; have hp3 := Past.of (n := base) hk3 (fun k hk => by rcases List.mem_cons.1 hk with h | h; exact h ▸ H2.low.1; exact (H2.rt.row.lt k (by simpa using h)).1)))
 go_end0
 exact ⟨rfl, K2, _, v3, [], _, H3, hp2.trans hp3⟩
set_option maxHeartbeats 8000000 in
theorem step1_some (m0 : Ms) (ws : List Ms) (w : World) (H : PairIn w base g 1 x y K L vo vt M N (m0 :: ws) wt P Q) (hb : base ≤ w.heap.size) (hi : -9223372036854775808 ≤ m0.i ∧ m0.i ≤ 9223372036854775807) (hd : m0.d.length ≤ 1000) (he : tkE M m0 = 0) (he2 : goE (tkS M m0) = 0) (hF : M.fly.length ≤ 600) (hL : M.lat.length ≤ 900000) (hO : M.d.ops + 1030 * M.lat.length + 1030 * M.fly.length ≤ 800000000000000) (hF2 : (tkS M m0).fly.length ≤ 600) (hL2 : (tkS M m0).lat.length ≤ 900000) (hO2 : (tkS M m0).d.ops + 1030 * (tkS M m0).lat.length + 1030 * (tkS M m0).fly.length ≤ 900000000000000) (hws : ws.length ≤ 1000000) (hlen1 : wt.length + (tkO M m0).length ≤ 1000000) (hlen : (wt ++ tkO M m0).length + (goO (tkS M m0)).length ≤ 1000000) :
  Calls Tryz.prog 30 #[.pointer (some ⟨g, 0, none⟩), .int .i64 1] w fun e w' => e = .returned (.tuple #[]) ∧ ∃ K' vo' vt' P' Q', PairIn w' base g 1 x y K' L vo' vt' (goS (tkS M m0)) N ws (wt ++ tkO M m0 ++ goO (tkS M m0)) P' Q' ∧ Past base w w' := by
 obtain ⟨z, P', rfl⟩ : ∃ z P', P = z :: P' := by
  cases P with
  | nil => have := H.ro.is; simp at this
  | cons z P' => exact ⟨z, P', rfl⟩
 obtain ⟨hz, hP'⟩ : z.ms = m0 ∧ P'.map Mv.ms = ws := by
  have := H.ro.is
  simpa using this
 subst hz hP'
 obtain ⟨zk, zi, zo, zm, zs, zsa, zlen, zcap, zd⟩ := z
 obtain ⟨oa, ca, rfl⟩ := H.ro.row.form
 obtain ⟨q, rfl, hq, hr0⟩ := H.ro.row.at 0 _ rfl
 obtain ⟨n, hn⟩ : ∃ n, P'.length = n := ⟨_, rfl⟩
 simp only [List.length_cons, hn] at H ⊢
 have hcap := H.ro.row.len.2.1
 have hPl : Hid (([] : List Mv).length + P'.length ≤ 1000000) := by show 0 + _ ≤ _; rw [Nat.zero_add]; simpa using hws
 have hr : Hid (w.rangeAt q 0 (Mv.cells ⟨zk, zi, zo, zm, zs, zsa, zlen, zcap, zd⟩)) := (show w.rangeAt q 0 (Mv.cells ⟨zk, zi, zo, zm, zs, zsa, zlen, zcap, zd⟩) by simpa using hr0)
 have hcs : Hid (∀ v ∈ Mv.cells ⟨zk, zi, zo, zm, zs, zsa, zlen, zcap, zd⟩, v.oneCell' = true) := Resync.cells_single _
 have hb0 : Blk (w.alloc (.cells #[.int .i64 0, .int .i64 0, .int .i64 0, .int .u64 0, .bool false, .slice none 0 0] 47)) w.heap.size 47 #[.int .i64 0, .int .i64 0, .int .i64 0, .int .u64 0, .bool false, .slice none 0 0] := blk_new _ _ _
 have c4 := (H.box.cell 5).trans (show _ = some (Value.slice (some ⟨q, 0, none⟩) (n + 1) ca) from rfl)
 have kn : (0 : Int) < ((n + 1 : Nat) : Int) := by omega
 have kn2 : (0 : Int) < (n : Int) + 1 := by omega
 have kc : (0 : Int) < (ca : Int) := by omega
 have HH : Hid (PairIn w base g 1 x y K L (.slice (some ⟨q, 0, none⟩) (n + 1) ca) vt M N _ wt _ Q) := H
 clear H hr0
 go_enter Tryz.func30, Tryz.ntmps30
 go_upto_region 2 with (first
  | refine wpList_load_mid rfl 47 _ rfl q 0 rfl (Mv.cells ⟨zk, zi, zo, zm, zs, zsa, zlen, zcap, zd⟩) _ hr.out Tryz.underlying47 rfl Pack.Tryz.sizeM ?_
  | (refine wpList_store_blk rfl 47 _ _ rfl w.heap.size 47 _ (Mv.cells ⟨zk, zi, zo, zm, zs, zsa, zlen, zcap, zd⟩) rfl rfl hb0 rfl Pack.Tryz.sizeM hcs.out ?_; intro w3 hB3 hk3 hz3; have hk3' : Kept [] w w3 := (kept_alloc [] w _).young hk3 (Nat.le_refl _); have hI3 : Mv.In ⟨zk, zi, zo, zm, zs, zsa, zlen, zcap, zd⟩ w3 w.heap.size := hB3))
 obtain ⟨nb, hnb⟩ : ∃ nb, w.heap.size = nb := ⟨_, rfl⟩
 rw [hnb] at hI3 ⊢
 replace hnb : Hid (w.heap.size = nb) := hnb
 have H3 := HH.out.kept0 hk3'
 have H4' := H3.kept0 (kept_drew [] w3)
 have hI4' := hI3.kept (kept_drew [] w3) (by simp)
 have hk4' : Kept [] w w3.drew := hk3'.trans (kept_drew [] w3)
 have hbs4' : base ≤ w3.drew.heap.size := Nat.le_trans hb hk4'.size
 obtain ⟨w4, hw4⟩ : ∃ w4, w3.drew = w4 := ⟨_, rfl⟩
 rw [hw4] at H4' hI4' hk4' hbs4'
 have H4 : PairIn w4 base g 1 x y K L (.slice (some ⟨q, 0, none⟩) (n + 1) ca) vt M N _ wt _ Q := H4'
 have hbs4 : Hid (base ≤ w4.heap.size) := hbs4'
 have hbt4 : Hid (Bts w4 (K ++ [x.d, x.b1, x.b2]) (.slice zsa zlen zcap) zd) := H4.bts (z := ⟨zk, zi, zo, zm, zs, zsa, zlen, zcap, zd⟩) (by simp)
 clear H3 H4' hb0 hr hcs kn kc kn2
 have hxl : zd.length ≤ 140737488351232 := by have h1 : zd.length ≤ 1000 := hd; omega
 simp only [Act.put]
 have hn1 : (1 : Int) ≤ (n : Int) + 1 := by omega
 obtain ⟨sb, hsb'⟩ : ∃ sb, (if ca = 1 then some (⟨q, 0, none⟩ : Addr) else some ⟨q, 6, none⟩) = sb := ⟨_, rfl⟩
 have hsb : Hid ((if ca = 1 then some (⟨q, 0, none⟩ : Addr) else some ⟨q, 6, none⟩) = sb) := hsb'
 go_cut [] from 26 to 71 (fun W => ∃ vo', PairIn W base g 1 x y K L vo' vt M N (P'.map Mv.ms) wt P' Q ∧ Mv.In ⟨zk, zi, zo, zm, zs, zsa, zlen, zcap, zd⟩ W nb ∧ Past base w W ∧ Bts W (K ++ [x.d, x.b1, x.b2]) (.slice zsa zlen zcap) zd)
 case first =>
  refine wp_region_held_drew (S := fun _ => True) (by kernel_rfl) trivial (fun hP => ?_)
  have hH := hP
  clear hP
  refine tJ 0 ⟨some 26, _, _, _, _, _⟩ (.pointer (some ⟨g, 0, none⟩)) rfl hH ?_
  refine tJ 1 ⟨some 27, _, _, _, _, _⟩ (.int .i64 1) rfl hH ?_
  refine tJ 3 ⟨some 29, _, _, _, _, _⟩ (.pointer (some ⟨g, 0, none⟩)) rfl hH ?_
  refine tJ 4 ⟨some 30, _, _, _, _, _⟩ (.int .i64 1) rfl hH ?_
  refine tJ 5 ⟨some 31, _, _, _, _, _⟩ (.pointer (some ⟨g, 0, none⟩)) rfl hH ?_
  refine tJ 6 ⟨some 32, _, _, _, _, _⟩ (.pointer (some ⟨g, 4, none⟩)) rfl hH ?_
  refine tJ 7 ⟨some 33, _, _, _, _, _⟩ (.pointer (some ⟨g, 5, none⟩)) rfl hH ?_
  refine tJ 11 ⟨some 37, _, _, _, _, _⟩ (.pointer (some ⟨g, 0, none⟩)) rfl hH ?_
  refine tJ 12 ⟨some 38, _, _, _, _, _⟩ (.pointer (some ⟨g, 4, none⟩)) rfl hH ?_
  refine wpAnyH_ready (rs := [2, 8]) (by kernel_rfl) (by simp) ?_
  refine AllReadyH.cons (o := ⟨some 28, _, _, _, _, _⟩) rfl (fun K hK => ?_) (AllReadyH.cons (o := ⟨some 34, _, _, _, _, _⟩) rfl (fun K hK => ?_) AllReadyH.nil)
  ·have hbs := build_none w4
   obtain ⟨w5, e5, k5, hb5⟩ : ∃ V, w4.alloc (.cells #[] 47) = V ∧ Kept [] w4 V ∧ Blk V w4.heap.size 47 #[] := ⟨_, rfl, kept_alloc [] _ _, blk_new _ _ _⟩
   go_simp
   refine hK.out _ _ trivial (fun hH => ?_)
   clear hK K
   have H5 := H4.kept0 k5
   have hro5 := H5.ro.row
   refine tC 8 (o := ⟨some 34, _, _, _, _, _⟩) rfl (fun K hK => ?_)
   have s0 := (H5.box.cell 5).trans (show _ = some (Value.slice (some ⟨q, 0, none⟩) (n + 1) ca) from rfl)
   go_simp
   refine hK.out _ _ trivial (fun hH => ?_)
   clear hK K
   clear s0
   refine tJ 9 ⟨some 35, _, _, _, _, _⟩ (.slice sb n (ca - 1)) rfl hH ?_
   refine tC 10 (o := ⟨some 36, _, _, _, _, _⟩) rfl (fun K hK => ?_)
   refine Resync.step_append_msgs rfl (.tmp 28) (.tmp 35) rfl base (.slice (some ⟨w4.heap.size, 0, none⟩) 0 0) (.slice sb n (ca - 1)) [] P' (by simp [Act.eval]) (by simp [Act.eval]) (row_empty hb5 hbs4.out) (lies_tail hro5 hsb.out) hPl.out (Nat.le_trans hbs4.out k5.size) ?_
   intro sV nV cV w9 hV hk9 ho9
   refine hK.out _ _ trivial (fun hH => ?_)
   clear hK K
   rw [List.nil_append] at hV
   have hb9 := H5.box.kept hk9 (fun hm => by have h1 := H4.box.lt; have h2 : g = w4.heap.size := (by simpa [Value.ownBlock] using hm); omega)
   refine tJ 13 ⟨some 39, _, _, _, _, _⟩ (.pointer (some ⟨g, 5, none⟩)) rfl hH ?_
   refine tC 14 (o := ⟨none, _, _, _, _, _⟩) rfl (fun K hK => ?_)
   have f9 := hb9.frozen 5
   have x9 := (hb9.cell 5).trans (show _ = some (Value.slice (some ⟨q, 0, none⟩) (n + 1) ca) from rfl)
   obtain ⟨wV, eV, kV, hBV⟩ : ∃ V, w9.setCell ⟨g, 5, none⟩ (.slice sV nV cV) = V ∧ Kept [g] w9 V ∧ Blk V g 79 (cells7 1 x.m y.m x.d y.d (.slice sV nV cV) vt) := ⟨_, rfl, kept_set (by simp) _ _ _, hb9.set 5 _⟩
   go_simp
   refine hK.out _ _ trivial (fun hH => ?_)
   clear hK K
   refine wpAnyH_done (by kernel_rfl) ?_ _
   have hkE : Kept [] w4 w9 := k5.youngs hk9 (fun k hk => .inr (by have h3 : k = w4.heap.size := (by simpa [Value.ownBlock] using hk); omega))
   go_wp2_with fail
   go_meet
   case rel =>
    have hroV : Told base w9 (.slice sV nV cV) (P'.map Mv.ms) P' := ⟨hV, rfl, fun u hu => byt_young hkE (H4.ro.byt u (by simp [hu]))⟩
    have HV : PairIn wV base g 1 x y K L (.slice sV nV cV) vt M N (P'.map Mv.ms) wt P' Q := ((H4.swap (by simp)).grown (hkE.mono (by simp)) hroV (fun k hk => .inr (by rcases ho9.out k hk with h | h; (have h3 : w4.heap.size = k := by simpa [Value.ownBlock] using h); omega; have := k5.size; omega)) kV hBV).swap (by simp)
    exact ⟨_, HV, (hI4'.kept hkE (by simp)).kept kV (by have h8 := hnb.out; have h9 := HH.out.box.lt; simp; omega), (Past.of (n := base) (hk4'.trans hkE) (by simp)).trans (Past.of kV (by simpa using H4.low.1)), bts_later ((box_clean hb9).byt kV (byt_young hkE (H4.ro.byt ⟨zk, zi, zo, zm, zs, zsa, zlen, zcap, zd⟩ (by simp)))) HV.own.clean⟩
  ·have s0 := (H4.box.cell 5).trans (show _ = some (Value.slice (some ⟨q, 0, none⟩) (n + 1) ca) from rfl)
   go_simp
   refine hK.out _ _ trivial (fun hH => ?_)
   clear hK K
   clear s0
   refine tJ 9 ⟨some 35, _, _, _, _, _⟩ (.slice sb n (ca - 1)) rfl hH ?_
   refine tC 2 (o := ⟨some 28, _, _, _, _, _⟩) rfl (fun K hK => ?_)
   have hbs := build_none w4
   obtain ⟨w5, e5, k5, hb5⟩ : ∃ V, w4.alloc (.cells #[] 47) = V ∧ Kept [] w4 V ∧ Blk V w4.heap.size 47 #[] := ⟨_, rfl, kept_alloc [] _ _, blk_new _ _ _⟩
   go_simp
   refine hK.out _ _ trivial (fun hH => ?_)
   clear hK K
   have H5 := H4.kept0 k5
   have hro5 := H5.ro.row
   refine tC 10 (o := ⟨some 36, _, _, _, _, _⟩) rfl (fun K hK => ?_)
   refine Resync.step_append_msgs rfl (.tmp 28) (.tmp 35) rfl base (.slice (some ⟨w4.heap.size, 0, none⟩) 0 0) (.slice sb n (ca - 1)) [] P' (by simp [Act.eval]) (by simp [Act.eval]) (row_empty hb5 hbs4.out) (lies_tail hro5 hsb.out) hPl.out (Nat.le_trans hbs4.out k5.size) ?_
   intro sV nV cV w9 hV hk9 ho9
   refine hK.out _ _ trivial (fun hH => ?_)
   clear hK K
   rw [List.nil_append] at hV
   have hb9 := H5.box.kept hk9 (fun hm => by have h1 := H4.box.lt; have h2 : g = w4.heap.size := (by simpa [Value.ownBlock] using hm); omega)
   refine tJ 13 ⟨some 39, _, _, _, _, _⟩ (.pointer (some ⟨g, 5, none⟩)) rfl hH ?_
   refine tC 14 (o := ⟨none, _, _, _, _, _⟩) rfl (fun K hK => ?_)
   have f9 := hb9.frozen 5
   have x9 := (hb9.cell 5).trans (show _ = some (Value.slice (some ⟨q, 0, none⟩) (n + 1) ca) from rfl)
   obtain ⟨wV, eV, kV, hBV⟩ : ∃ V, w9.setCell ⟨g, 5, none⟩ (.slice sV nV cV) = V ∧ Kept [g] w9 V ∧ Blk V g 79 (cells7 1 x.m y.m x.d y.d (.slice sV nV cV) vt) := ⟨_, rfl, kept_set (by simp) _ _ _, hb9.set 5 _⟩
   go_simp
   refine hK.out _ _ trivial (fun hH => ?_)
   clear hK K
   refine wpAnyH_done (by kernel_rfl) ?_ _
   have hkE : Kept [] w4 w9 := k5.youngs hk9 (fun k hk => .inr (by have h3 : k = w4.heap.size := (by simpa [Value.ownBlock] using hk); omega))
   go_wp2_with fail
   go_meet
   case rel =>
    have hroV : Told base w9 (.slice sV nV cV) (P'.map Mv.ms) P' := ⟨hV, rfl, fun u hu => byt_young hkE (H4.ro.byt u (by simp [hu]))⟩
    have HV : PairIn wV base g 1 x y K L (.slice sV nV cV) vt M N (P'.map Mv.ms) wt P' Q := ((H4.swap (by simp)).grown (hkE.mono (by simp)) hroV (fun k hk => .inr (by rcases ho9.out k hk with h | h; (have h3 : w4.heap.size = k := by simpa [Value.ownBlock] using h); omega; have := k5.size; omega)) kV hBV).swap (by simp)
    exact ⟨_, HV, (hI4'.kept hkE (by simp)).kept kV (by have h8 := hnb.out; have h9 := HH.out.box.lt; simp; omega), (Past.of (n := base) (hk4'.trans hkE) (by simp)).trans (Past.of kV (by simpa using H4.low.1)), bts_later ((box_clean hb9).byt kV (byt_young hkE (H4.ro.byt ⟨zk, zi, zo, zm, zs, zsa, zlen, zcap, zd⟩ (by simp)))) HV.own.clean⟩
 case rest =>
  obtain ⟨vo', HV, hzV, hpV, hbtV⟩ := hcut
  obtain ⟨oV, cV, rfl⟩ := HV.ro.row.form
  obtain ⟨nV, hnV⟩ : ∃ n, P'.length = n := ⟨_, rfl⟩
  rw [hnV] at HV
  have hbV : base ≤ wc.heap.size := Nat.le_trans hb hpV.size
  have qt := take_any ⟨zk, zi, zo, zm, zs, zsa, zlen, zcap, zd⟩ hi.1 hi.2 wc.drew (HV.kept0 (kept_drew [] wc)).own (hbtV.kept0 (kept_drew [] wc)) hxl hF (by omega) (by omega)
  rw [he] at qt
  simp only [Mv.val] at qt
  have hgx : Hid (g ∉ K ++ [x.d, x.b1, x.b2]) := HV.gs.1
  have hnx : Hid (nb ∉ K ++ [x.d, x.b1, x.b2]) := fun hm => HV.own.no_msg nb hm _ hzV
  clear H4 HH hi hd hws hcap hPl hI3 hI4' hk4' hbs4' hk3' hw4 hB3 hk3 hz3 hbtV
  go_wp2_with fail
  refine wp_region_held_drew (S := fun W => Blk W g 79 (cells7 1 x.m y.m x.d y.d (.slice oV nV cV) vt) ∧ Mv.In ⟨zk, zi, zo, zm, zs, zsa, zlen, zcap, zd⟩ W nb) (by kernel_rfl) ⟨HV.box.kept (kept_drew [] _) (by simp), hzV.kept (kept_drew [] _) (by simp)⟩ (fun hP => ?_)
  have hH := hP
  clear hP
  refine tJ 0 ⟨some 41, _, _, _, _, _⟩ (.pointer (some ⟨g, 0, none⟩)) rfl hH ?_
  refine tJ 1 ⟨some 42, _, _, _, _, _⟩ (.int .i64 1) rfl hH ?_
  refine tJ 2 ⟨some 43, _, _, _, _, _⟩ (.pointer (some ⟨g, 0, none⟩)) rfl hH ?_
  refine tJ 3 ⟨some 44, _, _, _, _, _⟩ (.pointer (some ⟨g, 0, none⟩)) rfl hH ?_
  refine tJ 4 ⟨some 45, _, _, _, _, _⟩ (.pointer (some ⟨g, 1, none⟩)) rfl hH ?_
  refine tI 5 ⟨some 46, _, _, _, _, _⟩ (.pointer (some ⟨x.m, 0, none⟩)) rfl (fun W hSw => by have s0 := (hSw.1.cell 1).trans (show _ = some (Value.pointer (some ⟨x.m, 0, none⟩)) from rfl); go_simp) hH ?_
  refine tI 6 ⟨some 47, _, _, _, _, _⟩ (.agg #[.int .i64 zk, .int .i64 zi, .int .i64 zo, .int .u64 (zm : Int), .bool zs, .slice zsa zlen zcap]) rfl (fun W hSw => by obtain ⟨s1, s2, s3, s4, s5, s6⟩ := hSw.2.six; go_simp) hH ?_
  refine tC 7 (o := ⟨some 48, _, _, _, _, _⟩) rfl (fun K hK => ?_)
  go_simp
  refine (qt).mono ?_
  rintro e w7 ⟨vi, v7, Q7, K7, rfl, hI7, hT7, hG7⟩
  go_wp2_with fail
  have hH1 := (And.intro (hH.1.kept hG7.kept hgx.out) (hH.2.kept hG7.kept hnx.out))
  refine hK.out _ _ hH1 (fun hH => ?_)
  clear hH1
  clear hK K
  refine tJ 8 ⟨some 40, _, _, _, _, _⟩ (.tuple #[vi, v7, .int .i64 0]) rfl hH ?_
  refine tJ 9 ⟨some 49, _, _, _, _, _⟩ vi rfl hH ?_
  refine tJ 10 ⟨some 50, _, _, _, _, _⟩ v7 rfl hH ?_
  refine tJ 11 ⟨some 51, _, _, _, _, _⟩ (.int .i64 0) rfl hH ?_
  refine tJ 12 ⟨some 5, _, _, _, _, _⟩ vi rfl hH ?_
  refine tJ 13 ⟨some 6, _, _, _, _, _⟩ v7 rfl hH ?_
  refine tJ 14 ⟨some 7, _, _, _, _, _⟩ (.int .i64 0) rfl hH ?_
  refine wpAnyH_done (by kernel_rfl) ?_ _
  have HD := HV.kept0 (kept_drew [] wc)
  have hbD : base ≤ wc.drew.heap.size := hbV
  have H6 := HD.goes hbD hG7
  have hp7 : Past base wc w7 := (Past.of (kept_drew [] wc) (by simp)).trans (Past.of hG7.kept (fun k hk => HD.low.2.1 k hk))
  have hb7 : base ≤ w7.heap.size := Nat.le_trans hbV hp7.size
  have qv := went1 v7 _ Q7 _ w7 H6 hT7 (fun k hk e => by have h1 := (hT7.row.lt k hk).1; have h2 := HD.box.lt; omega) hb7 hlen1
  have qgo := fun W (h : MiAt W x.lo x.m x.d x.b1 x.b2 K7 _) => go_any (M := tkS M (Mv.ms ⟨zk, zi, zo, zm, zs, zsa, zlen, zcap, zd⟩)) W h hF2 hL2 hO2
  simp only [he2] at qgo
  clear qt hH hF hL hO
  go_wp2_with (first
   | (go_at_call 32; refine qv.mono ?_; clear qv; rintro e w8 ⟨rfl, v8, H8, hk8, hn8⟩; have hp8 := Past.of (n := base) hk8 (fun k hk => by rcases List.mem_cons.1 hk with h | h; exact h ▸ H6.low.1; exact (H6.rt.row.lt k (by simpa using h)).1); have hb8 := Nat.le_trans hb7 hk8.size; have c8 := (H8.box.cell 1).trans (show _ = some (Value.pointer (some ⟨x.m, 0, none⟩)) from rfl))
   | (go_at_call 35; refine (qgo _ H8.own).mono ?_; clear qgo; rintro e w9 ⟨v9, Q9, K9, rfl, hT9, hG9⟩; have hp9 := Past.of (n := base) hG9.kept (fun k hk => H8.low.2.1 k hk); have H9 := H8.goes hb8 hG9; have hb9 := Nat.le_trans hb8 hG9.kept.size; have qw := went1 v9 _ Q9 _ w9 H9 hT9 (fun k hk e => by have h1 := (hT9.row.lt k hk).1; have h2 := H8.box.lt; omega) hb9 hlen)
   | (go_at_call 32; refine qw.mono ?_; clear qw; rintro e w10 ⟨rfl, v10, H10, hk10, hn10⟩; have hp10 := Past.of (n := base) hk10 (fun k hk => by rcases List.mem_cons.1 hk with h | h; exact h ▸ H9.low.1; exact (H9.rt.row.lt k (by simpa using h)).1)))
  go_end0
  exact ⟨rfl, K9, _, v10, P', _, H10, (((hpV.trans hp7).trans hp8).trans hp9).trans hp10⟩
end
end Go.Proofs.YtoaeficfmcncjaaGreat.Mirror
