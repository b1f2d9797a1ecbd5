/-
  The queue in memory; New, isMade, Len, waiting, cut.
-/
import Derived.Test.YthlnhmdeoapoeaaLtB
namespace Go.Proofs.Ythlnhmdeoapoeaa.Later
open Go.RowKit

/-- The queue's block. -/
def Raw (W : World) (q : Nat) (a : Option Addr) (n cap : Nat) : Prop := Blk W q 58 #[.bool true, .slice a n cap]
theorem Raw.kept {K : List Nat} {X Y : World} {q : Nat} {a : Option Addr} {n cap : Nat} (h : Raw X q a n cap) (hk : Kept K X Y) (hq : q ∉ K) : Raw Y q a n cap := Blk.kept h hk hq
theorem Raw.two {W : World} {q : Nat} {a : Option Addr} {n cap : Nat} (h : Raw W q a n cap) : W.cell? ⟨q, 0, none⟩ = some (.bool true) ∧ W.cell? ⟨q, 1, none⟩ = some (.slice a n cap) := ⟨(Blk.cell h 0).trans rfl, (Blk.cell h 1).trans rfl⟩
/-- What waits, in memory. -/
structure QAt (W : World) (base q : Nat) (gr : Option Nat) (L : List Lw) : Prop where
  blk : ∃ v P, Blk W q 58 #[.bool true, v] ∧ RowAt 37 base W v P gr ∧ P.map Lv.lw = L ∧ ∀ x ∈ P, x.At W
  low : base ≤ q
theorem QAt.kept {ts : List TypeId} {K : List Nat} {A B : World} {base q : Nat} {gr : Option Nat} {L : List Lw} (h : QAt A base q gr L) (hk : Kept K A B) (hf : Foot ts A K) (h1 : 5 ∉ ts) (h2 : 58 ∉ ts) (h3 : 37 ∉ ts) : QAt B base q gr L := by
  obtain ⟨v, P, b1, b2, b3, b4⟩ := h.blk
  exact ⟨⟨v, P, b1.kept hk (hf.ne b1 h2), b2.kept hk (fun g hg => by obtain ⟨_, _, c, hc⟩ := b2.low g hg; exact hf.ne hc h3), b3, fun x hx => (b4 x hx).kept hk hf h1⟩, h.low⟩
theorem QAt.kept0 {A B : World} {base q : Nat} {gr : Option Nat} {L : List Lw} (h : QAt A base q gr L) (hk : Kept [] A B) : QAt B base q gr L := h.kept hk (foot_nil [] A) (by simp) (by simp) (by simp)
theorem QAt.three {W : World} {base q : Nat} {gr : Option Nat} {L : List Lw} (h : QAt W base q gr L) :
    ∃ a cap P, Raw W q a L.length cap ∧ RowAt 37 base W (.slice a L.length cap) P gr ∧ P.map Lv.lw = L ∧ (∀ x ∈ P, x.At W) ∧ P.length = L.length ∧ L.length ≤ cap ∧ cap ≤ 9223372036854775807 := by
  obtain ⟨v, P, h1, h2, h3, h4⟩ := h.blk
  obtain ⟨a, cap, e, h5, h6⟩ := h2.open
  have hl : P.length = L.length := by rw [← h3, List.length_map]
  subst e
  rw [hl] at h1 h2 h5
  exact ⟨a, cap, P, h1, h2, h3, h4, hl, h5, h6⟩
/-- The blocks that a queue's calls turn. -/
theorem QAt.foot {W : World} {base q : Nat} {gr : Option Nat} {L : List Lw} (h : QAt W base q gr L) : Foot [58, 37] W (q :: gr.toList) := by
  obtain ⟨v, P, h1, h2, _⟩ := h.blk
  refine Foot.cons ?_ h1 (by simp)
  cases gr with
  | none => exact foot_nil _ W
  | some g =>
    obtain ⟨_, _, cur, hc⟩ := h2.low g rfl
    exact Foot.cons (foot_nil _ W) hc (by simp)
theorem QAt.lt {W : World} {base q : Nat} {gr : Option Nat} {L : List Lw} (h : QAt W base q gr L) : q < W.heap.size ∧ ∀ g, gr = some g → base ≤ g ∧ g < W.heap.size ∧ g ≠ q := by
  obtain ⟨v, P, h1, h2, _⟩ := h.blk
  refine ⟨h1.lt, fun g hg => ?_⟩
  obtain ⟨h3, h4, cur, hc⟩ := h2.low g hg
  refine ⟨h3, h4, fun e => ?_⟩
  subst e
  exact absurd (blk_type h1 hc) (by decide)
/-- All that a call turns was made since. -/
theorem QAt.young {X W Y : World} {base q : Nat} {gr : Option Nat} {L : List Lw} (h : QAt W base q gr L) (h0 : Kept [] X W) (hb : X.heap.size ≤ base) (hk : Kept (q :: gr.toList) W Y) : Kept [] X Y := by
  refine ⟨hk.os.trans h0.os, hk.tape.trans h0.tape, hk.output.trans h0.output, Nat.le_trans h0.size hk.size, fun i hi _ => (hk.block i (Nat.lt_of_lt_of_le hi h0.size) (fun hm => ?_)).trans (h0.block i hi (by simp))⟩
  have := h.low
  rcases List.mem_cons.1 hm with e | e
  · omega
  · have := (h.lt.2 i (by simpa using e)).1
    omega
set_option maxRecDepth 100000 in
/-- New -/
theorem new_any (w : World) : Calls Try.prog 7 #[] w fun e w' => e = .returned (.pointer (some ⟨w.heap.size, 0, none⟩)) ∧ QAt w' w.heap.size w.heap.size none [] ∧ w'.heap.size = w.heap.size + 1 ∧ Kept [] w w' := by
  go_enter Try.func7, Try.ntmps7
  go_wp2
  go_ret
  exact ⟨rfl, ⟨⟨_, [], blk_new w 58 #[.bool true, .slice none 0 0], row_nil _ _ _, rfl, by simp⟩, Nat.le_refl _⟩, by simp, kept_alloc [] _ _⟩
set_option maxRecDepth 100000 in
/-- isMade -/
theorem made_any {q : Nat} {a : Option Addr} {n cap : Nat} (w : World) (h : Raw w q a n cap) :
    Calls Try.prog 23 #[.pointer (some ⟨q, 0, none⟩)] w fun e w' => e = .returned (.bool true) ∧ w' = w := by
  have c0 := h.two.1
  go_enter Try.func23, Try.ntmps23
  go_wp2
  go_ret
  exact ⟨rfl, rfl⟩
set_option maxRecDepth 100000 in
/-- Len -/
theorem len_any {base q : Nat} {gr : Option Nat} {L : List Lw} (w : World) (h : QAt w base q gr L) :
    Calls Try.prog 13 #[.pointer (some ⟨q, 0, none⟩)] w fun e w' => e = .returned (.int .i64 (L.length : Int)) ∧ w' = w := by
  obtain ⟨a, cap, P, hR, -⟩ := h.three
  have c1 := hR.two.2
  have qm := made_any w hR
  clear h
  go_enter Try.func13, Try.ntmps13
  go_wp2_with (go_at_call 23; refine qm.mono ?_; rintro e w ⟨rfl, rfl⟩)
  go_ret
  exact ⟨rfl, rfl⟩
set_option maxRecDepth 100000 in
/-- waiting -/
theorem waiting_any (p : Option Addr) (w : World) :
    Calls Try.prog 19 #[.pointer p] w fun e w' => e = .returned (.func (.func 27) #[] #[.pointer (some ⟨w.heap.size, 0, none⟩)]) ∧ w' = w.alloc (.cells #[.pointer p] 26) := by
  go_enter Try.func19, Try.ntmps19
  go_wp2
  go_ret
  exact ⟨rfl, rfl⟩
/-- What lies within a cut. -/
structure Cut (w : World) (base q g : Nat) (a : Option Addr) (n cap : Nat) (P : List Lv) (W : World) : Prop where
  raw : Raw W q a n cap
  row : RowAt 37 base W (.slice a n cap) P (some g)
  kept : Kept [q, g] w W
  ne : g ≠ q
set_option maxRecDepth 100000 in
set_option maxHeartbeats 1000000 in
/-- cut, said of the parts -/
theorem cut_raw {base q g : Nat} {off n cap : Nat} {P : List Lv} (w : World) (h : Cut w base q g (some ⟨g, off, none⟩) n cap P w) (hl : P.length = n) (hc : n ≤ cap) (_hcm : cap ≤ 9223372036854775807) (hn : n ≤ 1000000) (k : Nat) (hk : k < n) :
    Calls Try.prog 21 #[.pointer (some ⟨q, 0, none⟩), .int .i64 (k : Int)] w fun e w' => e = .returned (.tuple #[]) ∧ ∃ a' n' cap', Cut w base q g a' n' cap' (P.take k ++ P.drop (k + 1)) w' := by
  have hD : Cut w base q g (some ⟨g, off, none⟩) n cap P w.drew := ⟨h.raw.kept (kept_drew [] w) (by simp), h.row.kept0 (kept_drew [] w), kept_drew _ w, h.ne⟩
  obtain ⟨d, hd⟩ : ∃ d : Addr, d = (if cap = 1 then (⟨g, off, none⟩ : Addr) else ⟨g, off + 4, none⟩) := ⟨_, rfl⟩
  have hda : Hid (0 < k → d = ⟨g, off + 4, none⟩) := fun h0 => (by rw [hd, if_neg (by omega)])
  have hs1 : ∀ W, (Instr.sliceAt 56 (.slice (some ⟨g, off, none⟩) n cap) (some (.int .i64 1)) (some (.int .i64 ((k : Int) + 1))) none).run Try.prog W = .ok (.slice (some d) k (cap - 1)) W := fun W => by
    rw [run_sliceAt_slice _ _ _ _ _ _ kindP.elem, run_slice_lh _ _ _ _ _ kindP.elem _ _ _ _ (by omega) (by omega) (by omega), kindP.size]
    simp only [Result.andThen, sliced]
    rw [hd, show ((k : Int) + 1).toNat - (1 : Int).toNat = k by omega]
    by_cases h1 : cap = 1
    · simp [h1]
    · simp [h1, Addr.add]
  have hs2 : ∀ W, (Instr.sliceAt 56 (.slice (some ⟨g, off, none⟩) n cap) none (some (.int .i64 (k : Int))) none).run Try.prog W = .ok (.slice (some ⟨g, off, none⟩) k cap) W := fun W => by
    rw [run_sliceAt_slice _ _ _ _ _ _ kindP.elem, run_slice_h _ _ _ _ _ kindP.elem _ _ (by omega) (by omega), kindP.size]
    simp [Result.andThen, sliced, Addr.add]
  have hw1 : IntKind.i64.wrap ((k : Int) + 1) = (k : Int) + 1 := (by rw [IntKind.wrap_i64]; omega)
  have hs1' := fun W => (run_sliceAt_slice (P := Try.prog) (w := W) _ _ _ _ _ kindP.elem).symm.trans (hs1 W)
  have hs2' := fun W => (run_sliceAt_slice (P := Try.prog) (w := W) _ _ _ _ _ kindP.elem).symm.trans (hs2 W)
  have i1 : (0 : Int) ≤ (k : Int) := by omega
  have i2 : (1 : Int) ≤ (k : Int) + 1 := by omega
  have hkH : Hid (k < n) := hk
  have hrow : Hid (RowAt 37 base w.drew (.slice (some ⟨g, off, none⟩) n cap) P (some g)) := hD.row
  have c1 := hD.raw.two.2
  clear h hd
  go_enter Try.func21, Try.ntmps21
  go_wp2_with fail
  go_region_held3 (fun W => W.cell? ⟨q, 1, none⟩ = some (.slice (some ⟨g, off, none⟩) n cap)) (first | exact c1 | exact e1) (first
    | (refine step_copy_move kindP rfl (.tmp 12) (.tmp 18) rfl base g off n cap k P d (cap - 1) cap (by simp [Act.eval]) (by simp [Act.eval]) hda.out hrow.out hkH.out ?_; intro w2 hr2 hk2; have e1 := (hD.raw.kept hk2 (by simp [hD.ne.symm])).two.2))
  have hD2 : Cut w base q g (some ⟨g, off, none⟩) n cap (moved P k) w2 := ⟨hD.raw.kept hk2 (by simp [hD.ne.symm]), hr2, hD.kept.trans (hk2.mono (by simp)), hD.ne⟩
  have hm0 : Hid ((moved P k).length = n) := (by show _ = _; rw [moved_length (by omega), hl])
  have hn0 : Hid (0 < n) := (by show _ < _; omega)
  have hdrop : Hid (((moved P k).set 0 lv0).drop 1 = P.take k ++ P.drop (k + 1)) := (by
    show _ = _
    rw [List.drop_set, if_pos (by omega)]
    rcases moved_erase P k with h | h
    · exact h
    · rw [h] at hl
      simp at hl
      omega)
  clear hs1 hs2 hs1' hs2' hw1 hda hkH hrow c1 hr2 hD e1 hk2 i1 i2
  obtain ⟨c0, c1⟩ := hD2.raw.two
  go_wp2_with (first
    | (refine wpList_store_row kindP rfl _ _ rfl base g off n cap 0 (moved P k) lv0 off rfl (by omega) rfl hD2.row hn0.out ?_; intro w3 hr3 hk3; replace hD2 : Cut w base q g (some ⟨g, off, none⟩) n cap ((moved P k).set 0 lv0) w3 := ⟨hD2.raw.kept hk3 (by simp [hD2.ne.symm]), hr3, hD2.kept.trans (hk3.mono (by simp)), hD2.ne⟩; obtain ⟨c0, c1⟩ := hD2.raw.two))
  have hdq : ∀ j, Cut w base q g (some ⟨g, off, none⟩) n cap ((moved P k).set 0 lv0) (w3.drewN j) := fun j => ⟨hD2.raw.kept (kept_drewN [] w3 j) (by simp), hD2.row.kept0 (kept_drewN [] w3 j), hD2.kept.trans (kept_drewN _ w3 j), hD2.ne⟩
  have c1q := fun j => (hdq j).raw.two.2
  clear c0 c1 hD2
  go_quiet (fail)
  have hD3 := hdq nq
  clear hdq c1q
  generalize w3.drewN nq = W4 at *
  obtain ⟨c0, c1⟩ := hD3.raw.two
  have hl3 : Hid (((moved P k).set 0 lv0).length = n) := (by show _ = _; rw [List.length_set]; exact hm0.out)
  have hP0 : Hid (0 < ((moved P k).set 0 lv0).length) := (by show _ < _; rw [hl3.out]; exact hn0.out)
  have hP1 : Hid (1 ≤ ((moved P k).set 0 lv0).length) := hP0
  have f4 : IntKind.i64.wrap (4 * (n : Int)) = 4 * (n : Int) := (by rw [IntKind.wrap_i64]; omega)
  by_cases hh : 4 * n < cap
  · have hi : (4 : Int) * (n : Int) < (cap : Int) := by omega
    have hm1 : Hid (((moved P k).set 0 lv0).length ≤ n) := (by show _ ≤ _; rw [hl3.out]; exact Nat.le_refl _)
    have hm2 : Hid (n ≤ cap) := hc
    clear hl
    go_wp2_with (first
      | (refine wpList_cut kindP rfl _ _ _ _ rfl base (some ⟨g, off, none⟩) n cap 1 n ((moved P k).set 0 lv0) (some g) rfl rfl rfl rfl hD3.row hP0.out hP1.out hm1.out hm2.out ?_; intro sa6 n6 cap6 hr6; rw [hdrop.out] at hr6)
      | (refine wpList_store_cell rfl 56 _ _ rfl q 1 58 _ (.slice sa6 n6 cap6) rfl rfl hD3.raw (by simp) kindP.word rfl ?_; intro w7 hb7 hk7))
    go_end0
    exact ⟨rfl, sa6, n6, cap6, ⟨show Raw w7 q sa6 n6 cap6 from hb7, hr6.kept hk7 (by simpa using hD3.ne), hD3.kept.trans (hk7.mono (by simp)), hD3.ne⟩⟩
  · have hi : ¬ (4 : Int) * (n : Int) < (cap : Int) := by omega
    have hm1 : Hid (((moved P k).set 0 lv0).length ≤ cap) := (by show _ ≤ _; rw [hl3.out]; exact hc)
    have hm2 : Hid (cap ≤ cap) := Nat.le_refl cap
    clear hl
    go_wp2_with (first
      | (refine wpList_cut kindP rfl _ _ _ _ rfl base (some ⟨g, off, none⟩) n cap 1 cap ((moved P k).set 0 lv0) (some g) rfl rfl rfl rfl hD3.row hP0.out hP1.out hm1.out hm2.out ?_; intro sa6 n6 cap6 hr6; rw [hdrop.out] at hr6)
      | (refine wpList_store_cell rfl 56 _ _ rfl q 1 58 _ (.slice sa6 n6 cap6) rfl rfl hD3.raw (by simp) kindP.word rfl ?_; intro w7 hb7 hk7))
    go_end0
    exact ⟨rfl, sa6, n6, cap6, ⟨show Raw w7 q sa6 n6 cap6 from hb7, hr6.kept hk7 (by simpa using hD3.ne), hD3.kept.trans (hk7.mono (by simp)), hD3.ne⟩⟩
/-- What is left where one has gone. -/
def gone {α : Type} (L : List α) (k : Nat) : List α := L.take k ++ L.drop (k + 1)
set_option maxRecDepth 100000 in
/-- cut -/
theorem cut_any {base q : Nat} {gr : Option Nat} {L : List Lw} (w : World) (h : QAt w base q gr L) (hs : L.length ≤ 1000000) (k : Nat) (hk : k < L.length) :
    Calls Try.prog 21 #[.pointer (some ⟨q, 0, none⟩), .int .i64 (k : Int)] w fun e w' => e = .returned (.tuple #[]) ∧ QAt w' base q gr (gone L k) ∧ Kept (q :: gr.toList) w w' := by
  obtain ⟨a, cap, P, hR, hr, hl, hat, hPl, hc1, hc2⟩ := h.three
  obtain ⟨x, hx⟩ : ∃ x, P[k]? = some x := ⟨_, List.getElem?_eq_getElem (by omega)⟩
  obtain ⟨g, off, rfl, rfl, -⟩ := hr.at hx
  have hf := h.foot
  refine (cut_raw w ⟨hR, hr, Kept.refl _ _, (h.lt.2 g rfl).2.2⟩ hPl hc1 hc2 hs k hk).mono ?_
  rintro e w' ⟨rfl, a', n', cap', hD⟩
  refine ⟨rfl, ⟨⟨_, P.take k ++ P.drop (k + 1), hD.raw, hD.row, ?_, fun x hx => ?_⟩, h.low⟩, hD.kept⟩
  · rw [List.map_append, List.map_take, List.map_drop, hl]
    rfl
  · refine (hat x ?_).kept hD.kept hf (by decide)
    rcases List.mem_append.1 hx with hx | hx
    · exact List.mem_of_mem_take hx
    · exact List.mem_of_mem_drop hx
end Go.Proofs.Ythlnhmdeoapoeaa.Later
