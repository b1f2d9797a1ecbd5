/-
  TableApart's walk.
-/
import Derived.Test.YtkidaofoljmdoaaTbF
namespace Go.Proofs.Ytkidaofoljmdoaa.Table
open Go.RowKit

/-- Bytes, of which there are some: where the first lies. -/
theorem ByteRow.form {lo hi : Nat} {W : World} {v : Value} {bs : List Nat} (h : ByteRow lo hi W v bs) (h1 : 1 ≤ bs.length) : ∃ g off cap, v = .slice (some ⟨g, off, none⟩) bs.length cap ∧ lo ≤ g ∧ g < hi ∧ bs.length ≤ cap ∧ ∃ c : Int, W.cell? ⟨g, off, none⟩ = some (.int .u8 c) := by
  obtain ⟨_, a, cap, rfl, _, h | ⟨g, off, rfl, h2, h3, h4, hc⟩⟩ := h
  · rw [h] at h1
    simp at h1
  · exact ⟨g, off, cap, rfl, h3, h4, h2, _, hc 0 (by omega)⟩
set_option maxRecDepth 100000 in
/-- Get, of the one that is there -/
theorem get_one {lo hi t b : Nat} (k : Int) (h0 : 1 ≤ k) (h1 : k ≤ 9223372036854775807) (bs : List Nat) (len : Nat) (hb : bs.length = len) (hl1 : 1 ≤ len) (hl2 : len ≤ 200) (w : World) (h : TabAt w lo hi t b 2 [(k, ⟨1, 0, 0, bs⟩)]) :
    Calls Try.prog 13 #[.pointer (some ⟨t, 0, none⟩), .int .i64 k] w fun e w' => ∃ g off cap, e = .returned (.tuple #[.agg #[.int .i64 1, .int .i64 0, .int .i64 0, .slice (some ⟨g, off, none⟩) len cap], .bool true]) ∧ w.heap.size ≤ g ∧ g < w'.heap.size ∧ len ≤ cap ∧ ByteRow w.heap.size w'.heap.size w' (.slice (some ⟨g, off, none⟩) len cap) bs ∧ (∃ c : Int, w'.cell? ⟨g, off, none⟩ = some (.int .u8 c)) ∧ w'.frozen? ⟨g, off, none⟩ = false ∧ Kept [] w w' := by
  have hk : look [(k, (⟨1, 0, 0, bs⟩ : Rq))] k = some ⟨1, 0, 0, bs⟩ := by simp [look]
  have q := get_soft k (by omega) h1 w h (fun r hr => by rw [hk] at hr; injection hr with hr; subst hr; show bs.length ≤ 1000; omega)
  rw [hk] at q
  refine q.mono ?_
  rintro e w' ⟨y, rfl, hy, hA, hK, hsf⟩
  obtain ⟨yk, yo, yl, ysa, ylen, ycap, ybs⟩ := y
  simp only [Qv.rq, Option.getD_some, Rq.mk.injEq] at hy
  obtain ⟨rfl, rfl, rfl, rfl⟩ := hy
  have hA' : ByteRow w.heap.size w'.heap.size w' (.slice ysa ylen ycap) ybs := hA
  obtain ⟨g, off, cap, e, h3, h4, h5, hc⟩ := hA'.form (by omega)
  injection e with e1 e2 e3
  subst e1 e2 e3
  obtain ⟨_, ty, cur, hblk⟩ := hsf g off ybs.length ycap rfl
  rw [hb] at hA' h5
  refine ⟨g, off, ycap, by rw [← hb]; rfl, h3, h4, h5, hA', hc, hblk.frozen off, hK⟩
set_option maxRecDepth 100000 in
theorem add_one {lo hi t b : Nat} (k : Int) (h0 : 1 ≤ k) (h1 : k ≤ 9223372036854775807) (bs : List Nat) (sa : Option Addr) (len cap : Nat) (hl2 : len ≤ 200) (lx hx : Nat) (w : World) (h : TabAt w lo hi t b 2 []) (hr : ByteRow lx hx w (.slice sa len cap) bs) (hhx : hx ≤ w.heap.size) (hlo : lo ≤ w.heap.size) :
    Calls Try.prog 9 #[.pointer (some ⟨t, 0, none⟩), .int .i64 k, .agg #[.int .i64 1, .int .i64 0, .int .i64 0, .slice sa len cap]] w fun e w' => e = .returned (.int .i64 0) ∧ TabAt w' lo w'.heap.size t b 2 [(k, ⟨1, 0, 0, bs⟩)] ∧ Kept [b] w w' := by
  have q := add_any k (by omega) h1 ⟨1, 0, 0, sa, len, cap, bs⟩ lx hx w h hr hhx (by show len ≤ 1000; omega) hlo
  have e1 : addE 2 ([] : List (Int × Rq)) k = 0 := by
    unfold addE look
    rw [if_neg (by simp; omega), if_neg (by simp)]
  have e2 : addL 2 ([] : List (Int × Rq)) k ⟨1, 0, 0, bs⟩ = [(k, ⟨1, 0, 0, bs⟩)] := by
    unfold addL
    rw [e1, if_pos rfl]
    rfl
  rw [e1] at q
  change Calls Try.prog 9 #[.pointer (some ⟨t, 0, none⟩), .int .i64 k, .agg #[.int .i64 1, .int .i64 0, .int .i64 0, .slice sa len cap]] w (fun e w' => e = .returned (.int .i64 0) ∧ TabAt w' lo w'.heap.size t b 2 (addL 2 [] k ⟨1, 0, 0, bs⟩) ∧ Kept [b] w w') at q
  rw [e2] at q
  exact q
set_option maxRecDepth 100000 in
set_option maxHeartbeats 1000000 in
theorem apart_early (t : Int) (sa : Option Addr) (len cap : Nat) (hl : len ≤ 9223372036854775807) (w : World) (h : t < 1 ∨ len < 1 ∨ 200 < len) :
    Calls Try.prog 4 #[.int .i64 t, .slice sa len cap] w fun e w' => e = .returned (.bool true) ∧ Kept [] w w' := by
  have q := lives_any w
  by_cases h1 : t < 1
  · clear h hl
    go_enter Try.func4, Try.ntmps4
    go_wp2_with (go_at_call 6; refine q.mono ?_; rintro e w1 ⟨rfl, hk1⟩)
    go_ret
    exact ⟨rfl, hk1⟩
  · by_cases h2 : (len : Int) < 1
    · clear h hl
      go_enter Try.func4, Try.ntmps4
      go_wp2_with (go_at_call 6; refine q.mono ?_; rintro e w1 ⟨rfl, hk1⟩)
      go_ret
      exact ⟨rfl, hk1⟩
    · have h3 : (200 : Int) < (len : Int) := by omega
      clear h hl
      go_enter Try.func4, Try.ntmps4
      go_wp2_with (go_at_call 6; refine q.mono ?_; rintro e w1 ⟨rfl, hk1⟩)
      go_ret
      exact ⟨rfl, hk1⟩
set_option maxRecDepth 100000 in
set_option maxHeartbeats 2000000 in
theorem apart_play (t : Int) (ht0 : 1 ≤ t) (ht1 : t ≤ 9223372036854775807) (sa : Option Addr) (len cap : Nat) (bs : List Nat) (hl1 : 1 ≤ len) (hl2 : len ≤ 200) (w : World) (hr : ByteRow 0 w.heap.size w (.slice sa len cap) bs) :
    Calls Try.prog 4 #[.int .i64 t, .slice sa len cap] w fun e w' => e = .returned (.bool true) ∧ Kept [] w w' := by
  have qn : Calls Try.prog 7 #[.int .i64 2] w _ := new_any 2 (by omega) (by omega) w
  have hbl : len = bs.length := by
    obtain ⟨_, a, c, e, _⟩ := hr
    injection e
  have n1 : ¬ t < 1 := by omega
  have n2 : ¬ ((len : Int) < 1) := by omega
  have n3 : ¬ ((200 : Int) < (len : Int)) := by omega
  have fT : Hid (∀ W, Kept [] w W → (convert 33 9 (.slice sa len cap)).run Try.prog W = .ok (.string (txt bs)) W) := fun W hk => conv_txt (hr.kept (Nat.le_refl _) hk (by simp))
  replace hbl : Hid (len = bs.length) := hbl
  have hbs : Hid (bs.length ≤ 200 ∧ 1 ≤ bs.length) := by show _ ∧ _; rw [← hbl.out]; exact ⟨hl2, hl1⟩
  go_enter Try.func4, Try.ntmps4
  go_upto_region 5 with (first
    | (go_at_call 7; refine qn.mono ?_; rintro e w1 ⟨rfl, hN, hs1, hk1⟩; replace hN : Hid _ := hN; replace hs1 : Hid _ := hs1; have ka := kept_alloc [] w1 (.cells #[] 5); have r0 : Hid ((w1.alloc (.cells #[] 5)).ownsRow w1.heap.size 5 1 (.slice (some ⟨w1.heap.size, 0, none⟩) 0 0) 0 []) := World.ownsRow_made w1 #[] 0 (Nat.le_refl _) (by unfold maxLen; omega) rfl; have hrA : Hid (ByteRow 0 w.heap.size (w1.alloc (.cells #[] 5)) (.slice sa len cap) bs) := hr.kept (Nat.le_refl _) (hk1.trans ka) (by simp))
    | (at_builtin; refine wpList_append_bytes rfl _ _ rfl w1.heap.size (.slice (some ⟨w1.heap.size, 0, none⟩) 0 0) _ 0 w.heap.size bs rfl r0.out rfl hrA.out (by have := hbs.out.1; omega) (by simp) ?_; intro v3 w3 hb3 hr3 hg3; have hk3 : Kept [] w1 w3 := kept_grown r0.out hg3 w1 ka (Nat.le_refl _); clear hg3))
  have s13 := hk3.size
  have e1 := hs1.out
  have hT3 := (hN.out w3.heap.size w1.heap.size (by omega) (Nat.le_refl _)).kept0 hk3
  obtain ⟨g3, off3, cap3, e3, hg1, hg2, hc3, c3, hcell3⟩ := hb3.form hbs.out.2
  obtain ⟨_, ty3, cur3, hblk3⟩ := soft_owns hr3 g3 off3 bs.length cap3 e3
  rw [← hbl.out] at e3 hc3
  subst e3
  have qa := add_one t ht0 ht1 bs (some ⟨g3, off3, none⟩) len cap3 hl2 w1.heap.size w3.heap.size w3 hT3 hb3 (Nat.le_refl _) (Nat.le_refl _)
  have hg3b : g3 ≠ w.heap.size := by omega
  have hk03 : Hid (Kept [] w w3) := hk1.trans hk3
  have hcap3 : (0 : Int) < (len : Int) := by omega
  have hgt3 : Hid (w.heap.size + 2 ≤ g3 ∧ g3 < w3.heap.size) := by show _ ∧ _; omega
  clear e1 hN hs1 hT3 r0 hrA ka hk1 hk3 hr3 hr qn hg1 hg2
  go_upto_region 8 with (first
    | (go_at_call 9; refine qa.mono ?_; rintro e w4 ⟨rfl, hT4, hk4⟩; have hblk4 := hblk3.kept hk4 (by simpa using hg3b); have fr4 := hblk4.frozen off3; have cc4 : w4.cell? ⟨g3, off3, none⟩ = some (.int .u8 c3) := (hblk4.cell off3).trans ((hblk3.cell off3).symm.trans hcell3); replace hk4 : Hid _ := hk4))
  have hks := kept_set (L := [g3]) (g := g3) (by simp) w4 off3 (.int .u8 ((c3 + 1) % 256))
  obtain ⟨w5, hw5⟩ : ∃ w5, w4.setCell ⟨g3, off3, none⟩ (.int .u8 ((c3 + 1) % 256)) = w5 := ⟨_, rfl⟩
  rw [hw5] at hks ⊢
  have hgo := hgt3.out
  have hT5 := hT4.kept hks (by simp; omega) (by simp; omega) (by simp; omega)
  have hk05 := (hk03.out.young hk4.out (Nat.le_refl _)).young hks (by omega)
  have s45 := hks.size
  have s34 := hk4.out.size
  have s03 := hk03.out.size
  have qg := get_one t ht0 ht1 bs len hbl.out.symm hl1 hl2 w5 hT5
  replace hT5 : Hid (TabAt w5 w3.heap.size w4.heap.size (w.heap.size + 1) w.heap.size 2 [(t, ⟨1, 0, 0, bs⟩)]) := hT5
  clear hw5 hT4 hblk3 hblk4 fr4 cc4 hcell3 hk4 hks qa hk03 hb3
  go_upto_region 12 with (first
    | (go_at_call 13; refine qg.mono ?_; rintro e w6 ⟨gy, oy, cy, rfl, hgy1, hgy2, hcy, hry, ⟨c6, hc6⟩, fr6, hk6⟩; have k7 := kept_alloc [] w6 (.cells #[.int .i64 1, .int .i64 0, .int .i64 0, .slice (some ⟨gy, oy, none⟩) len cy] 35); have tb := fT.out _ ((hk05.trans hk6).trans k7); have ty := conv_txt (hry.kept (Nat.le_refl _) k7 (by simp)); have hc7 := (World.cell?_of_block (w := w6) (w' := w6.alloc (.cells #[.int .i64 1, .int .i64 0, .int .i64 0, .slice (some ⟨gy, oy, none⟩) len cy] 35)) (a := ⟨gy, oy, none⟩) (k7.block gy hgy2 (by simp))).trans hc6; have fr7 := (World.frozen?_of_block (w := w6) (w' := w6.alloc (.cells #[.int .i64 1, .int .i64 0, .int .i64 0, .slice (some ⟨gy, oy, none⟩) len cy] 35)) (a := ⟨gy, oy, none⟩) (k7.block gy hgy2 (by simp))).trans fr6; have hne7 : gy ≠ w6.heap.size := (by omega); replace hry : Hid _ := hry))
  have hk8 := (kept_set (L := [gy]) (g := gy) (by simp) w6 oy (.int .u8 ((c6 + 1) % 256))).trans (kept_alloc [gy] _ (.cells #[.int .i64 1, .int .i64 0, .int .i64 0, .slice (some ⟨gy, oy, none⟩) len cy] 35))
  obtain ⟨w8, hw8⟩ : ∃ w8, (w6.setCell ⟨gy, oy, none⟩ (.int .u8 ((c6 + 1) % 256))).alloc (.cells #[.int .i64 1, .int .i64 0, .int .i64 0, .slice (some ⟨gy, oy, none⟩) len cy] 35) = w8 := ⟨_, rfl⟩
  rw [hw8] at hk8 ⊢
  have hT8 := (hT5.out.kept0 hk6).kept hk8 (by simp; omega) (by simp; omega) (by simp; omega)
  have hk08 := (hk05.trans hk6).young hk8 (by omega)
  have qz := get_one t ht0 ht1 bs len hbl.out.symm hl1 hl2 w8 hT8
  clear hw8 hT5 hT8 tb ty hc7 fr7 hk8 qg
  go_wp2_with (first
    | (go_at_call 13; refine qz.mono ?_; rintro e w9 ⟨gz, oz, cz, rfl, hgz1, hgz2, hcz, hrz, -, -, hk9⟩; have k10 := kept_alloc [] w9 (.cells #[.int .i64 1, .int .i64 0, .int .i64 0, .slice (some ⟨gz, oz, none⟩) len cz] 35); have tb := fT.out _ ((hk08.trans hk9).trans k10); have tz := conv_txt (hrz.kept (Nat.le_refl _) k10 (by simp)); replace hrz : Hid _ := hrz; have ql := lives_any (w9.alloc (.cells #[.int .i64 1, .int .i64 0, .int .i64 0, .slice (some ⟨gz, oz, none⟩) len cz] 35)))
    | (go_at_call 6; refine ql.mono ?_; rintro e w11 ⟨rfl, hk11⟩))
  go_ret
  exact ⟨by simp, ((hk08.trans hk9).trans k10).trans hk11⟩
end Go.Proofs.Ytkidaofoljmdoaa.Table
