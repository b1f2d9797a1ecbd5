/-
  The walks of the document's disk: in, burns, SetFuse, Write, Read, Durable.
-/
import Derived.Test.YtekjlmnnaaodjaaGreatWalksM
namespace Go.Proofs.YtekjlmnnaaodjaaGreat
open Go.RowKit Go.Maps Go.Shelf
open Math

theorem RefAt.kept {L : List Nat} {A B : World} {r g cap : Nat} {s : Dk} (h : RefAt A r g cap s) (hK : Kept L A B) (h0 : r ∉ L) (h1 : g ∉ L) : RefAt B r g cap s := ⟨h.1.kept hK h0 h1, h.2⟩
theorem RefAt.drew {W : World} {r g cap : Nat} {s : Dk} (h : RefAt W r g cap s) : RefAt W.drew r g cap s := ⟨h.1.drew, h.2⟩
theorem RefAt.alloc {W : World} {r g cap : Nat} {s : Dk} (h : RefAt W r g cap s) (o : Obj) : RefAt (W.alloc o) r g cap s := ⟨h.1.alloc o, h.2⟩
theorem RefAt.setFuse {W : World} {r g cap : Nat} {s : Dk} (h : RefAt W r g cap s) {k : Int} (h0 : -9223372036854775808 ≤ k) (h1 : k ≤ 9223372036854775807) : RefAt (W.setCell ⟨r, 1, none⟩ (.int .i64 (nf k))) r g cap { s with fuse := k } :=
  ⟨h.1.set 1 _ { s with fuse := k } rfl rfl h0 h1, valid_fused h.2 h0 h1⟩
theorem RefAt.setBroken {W : World} {r g cap : Nat} {s : Dk} (h : RefAt W r g cap s) (b : Bool) : RefAt (W.setCell ⟨r, 2, none⟩ (.bool b)) r g cap { s with broken := b } :=
  ⟨h.1.set 2 _ { s with broken := b } rfl rfl h.2.low h.2.high, ⟨h.2.pos, h.2.top, h.2.fresh, h.2.safe, h.2.out, h.2.low, h.2.high⟩⟩
theorem RefAt.setOps {W : World} {r g cap : Nat} {s : Dk} (h : RefAt W r g cap s) (n : Nat) : RefAt (W.setCell ⟨r, 3, none⟩ (.int .i64 (n : Int))) r g cap { s with ops := n } :=
  ⟨h.1.set 3 _ { s with ops := n } rfl rfl h.2.low h.2.high, ⟨h.2.pos, h.2.top, h.2.fresh, h.2.safe, h.2.out, h.2.low, h.2.high⟩⟩

set_option maxRecDepth 100000 in
/-- in -/
theorem refIn_any (r g cap : Nat) (s : Dk) (k : Int) (w : World) (h : RefAt w r g cap s) :
    Calls Tryz.prog 54 #[.pointer (some ⟨r, 0, none⟩), .int .i64 k] w fun e w' => e = .returned (.bool (inside s k)) ∧ w' = w := by
  have c0 := h.1.four.1
  by_cases h0 : 0 ≤ k
  · go_enter Tryz.func54, Tryz.ntmps54
    go_wp2
    all_goals first | omega | (go_ret; exact ⟨by simp [inside, h0], rfl⟩)
  · have h1 : k < 0 := by omega
    have hi : inside s k = false := by simp [inside]; omega
    rw [hi]
    go_enter Tryz.func54, Tryz.ntmps54
    go_wp2
    all_goals first | omega | (go_ret; exact ⟨rfl, rfl⟩)
theorem nf_zero {f : Int} : nf f = 0 ↔ f = 0 := by unfold nf; split <;> omega
theorem nf_pos {f : Int} : 0 < nf f ↔ 0 < f := by unfold nf; split <;> omega
theorem nf_dec {f : Int} (h : 0 < f) : nf f - 1 = nf (f - 1) ∧ nf f = f := by
  unfold nf
  rw [if_neg (by omega), if_neg (by omega)]
  exact ⟨rfl, rfl⟩
theorem nf_low (f : Int) (h : -9223372036854775808 ≤ f) (h2 : f ≤ 9223372036854775807) : -1 ≤ nf f ∧ nf f ≤ 9223372036854775807 := by unfold nf; split <;> omega
set_option maxRecDepth 100000 in
set_option maxHeartbeats 400000 in
/-- burns -/
theorem burns_any (r g cap : Nat) (s : Dk) (w : World) (hops : s.ops ≤ 1000000) (h : RefAt w r g cap s) :
    Calls Tryz.prog 55 #[.pointer (some ⟨r, 0, none⟩)] w fun e w' => e = .returned (.bool (worn s)) ∧ RefAt w' r g cap (if worn s then burnt s else done s) ∧ Kept [r] w w' := by
  obtain ⟨-, c1, c2, c3⟩ := h.1.four
  have f1 := h.1.frozen 1
  have f2 := h.1.frozen 2
  have f3 := h.1.frozen 3
  have hlo := h.2.low
  have hhi := h.2.high
  have hnl := nf_low s.fuse hlo hhi
  by_cases hb : s.broken = true
  · have hw : worn s = true := by simp [worn, hb]
    rw [hw]
    rw [hb] at c2
    have hD : RefAt w r g cap (burnt s) := by
      have : burnt s = s := by cases s; simp_all [burnt]
      rw [this]
      exact h
    go_enter Tryz.func55, Tryz.ntmps55
    go_wp2
    go_ret
    exact ⟨rfl, hD, Kept.refl _ _⟩
  · replace hb : s.broken = false := by simpa using hb
    rw [hb] at c2
    by_cases hz : s.fuse = 0
    · have hw : worn s = true := by simp [worn, hz]
      rw [hw]
      rw [nf_zero.2 hz] at c1
      have hD : RefAt (w.setCell ⟨r, 2, none⟩ (.bool true)) r g cap (burnt s) := h.setBroken true
      go_enter Tryz.func55, Tryz.ntmps55
      go_wp2
      go_ret
      exact ⟨rfl, hD, kept_set (by simp) _ _ _⟩
    · have hw : worn s = false := by simp [worn, hz, hb]
      rw [hw]
      have hz2 : (nf s.fuse == 0) = false := by
        have : ¬ nf s.fuse = 0 := fun e => hz (nf_zero.1 e)
        simpa using this
      by_cases hp : 0 < s.fuse
      · have hdn : done s = { s with fuse := s.fuse - 1, ops := s.ops + 1 } := by simp [done, hp]
        have hD2 := (h.setFuse (k := s.fuse - 1) (by omega) (by omega)).setOps (s.ops + 1)
        rw [← (nf_dec hp).1] at hD2
        have hp2 : 0 < nf s.fuse := nf_pos.2 hp
        rw [hdn]
        go_enter Tryz.func55, Tryz.ntmps55
        go_wp2
        all_goals first | omega | skip
        go_ret
        refine ⟨rfl, ?_, (kept_set (by simp) _ _ _).trans (kept_set (by simp) _ _ _)⟩
        simpa [hb] using hD2
      · have hdn : done s = { s with ops := s.ops + 1 } := by simp [done, hp]
        have hD2 := h.setOps (s.ops + 1)
        have hp2 : ¬ 0 < nf s.fuse := fun e => hp (nf_pos.1 e)
        rw [hdn]
        go_enter Tryz.func55, Tryz.ntmps55
        go_wp2
        all_goals first | omega | skip
        go_ret
        refine ⟨rfl, ?_, kept_set (by simp) _ _ _⟩
        simpa [hb] using hD2
theorem nf_nf (k : Int) : nf k = if k < 0 then -1 else k := rfl
set_option maxRecDepth 100000 in
/-- SetFuse -/
theorem setFuse_any (r g cap : Nat) (s : Dk) (k : Int) (h0 : -9223372036854775808 ≤ k) (h1 : k ≤ 9223372036854775807) (w : World) (h : RefAt w r g cap s) :
    Calls Tryz.prog 12 #[.pointer (some ⟨r, 0, none⟩), .int .i64 k] w fun e w' => e = .returned (.tuple #[]) ∧ RefAt w' r g cap (fused s k) ∧ Kept [r] w w' := by
  have c1 := h.1.four.2.1
  have f1 := h.1.frozen 1
  have hD := h.setFuse h0 h1
  by_cases hk : k < 0
  · rw [nf_nf, if_pos hk] at hD
    go_enter Tryz.func12, Tryz.ntmps12
    go_wp2
    all_goals first | omega | skip
    go_end0
    refine ⟨rfl, ?_, (kept_set (by simp) _ _ _).trans (kept_set (by simp) _ _ _)⟩
    have e : (w.setCell ⟨r, 1, none⟩ (.int .i64 k)).setCell ⟨r, 1, none⟩ (.int .i64 (-1)) = w.setCell ⟨r, 1, none⟩ (.int .i64 (-1)) := by
      have hh := h.1.head
      have hh2 := hh.set 1 (.int .i64 k)
      unfold Blk at hh hh2
      rw [setCell_eq_setRow _ r 1 _ 46 (0, 0) _ hh2, setCell_eq_setRow w r 1 _ 46 (0, 0) (.int .i64 (-1)) hh, setCell_eq_setRow w r 1 _ 46 (0, 0) (.int .i64 k) hh]
      rw [setRow_setRow]
      rfl
    rw [e]
    exact hD
  · rw [nf_nf, if_neg hk] at hD
    go_enter Tryz.func12, Tryz.ntmps12
    go_wp2
    all_goals first | omega | skip
    go_end0
    exact ⟨rfl, hD, kept_set (by simp) _ _ _⟩

/-- What a write leaves. -/
theorem rc_laid (s : Dk) (i : Nat) (x : List Nat) : ∀ k, rc (laid s (i : Int) x) k = upF (upF (rc s) i { rc s i with b := x }) i { upF (rc s) i { rc s i with b := x } i with c := true } k := fun k => by
  by_cases e : k = i
  · subst e
    simp [upF_same, rc, laid, upd_same]
  · have e2 : (k : Int) ≠ (i : Int) := by omega
    simp [upF_other _ _ e, rc, laid, upd_other _ _ e2]
set_option maxRecDepth 100000 in
set_option maxHeartbeats 1000000 in
/-- Write, that is done -/
theorem refWrite_done (r g cap : Nat) (s : Dk) (i : Nat) (x : List Nat) (hx : Sec x) (hops : s.ops ≤ 1000000) (w : World) (h : RefAt w r g cap s) (hi : i < s.size) (hn : worn s = false) :
    Calls Tryz.prog 37 #[.pointer (some ⟨r, 0, none⟩), .int .i64 (i : Int), arr x] w fun e w' => e = .returned (.int .i64 0) ∧ RefAt w' r g cap (laid (done s) i x) ∧ Kept [r, g] w w' := by
  have htop := h.2.top
  have hA := h.alloc (.cells (x.map enc).toArray 52)
  have hin : inside s (i : Int) = true := by simp [inside]; omega
  have q1 := refIn_any r g cap s (i : Int) (w.alloc (.cells (x.map enc).toArray 52)) hA
  have q2 := burns_any r g cap s (w.alloc (.cells (x.map enc).toArray 52)) hops hA
  rw [hin] at q1
  rw [hn] at q2
  simp only [Bool.false_eq_true, if_false] at q2
  have hB : Arr (w.alloc (.cells (x.map enc).toArray 52)) w.heap.size 52 x := arr_new w 52 x
  have hlt := h.1.lt
  have hX : Hid (x.length = 16) := hx.1
  have hu := Tryz.underlying52
  have hsz : (Tryz.prog.info? 52).map (·.size) = some (x.map enc).length := by rw [List.length_map, hX.out]; exact Tryz.size52
  have k1 : (i : Int) < (s.size : Int) := by omega
  have h1 := enc_one x
  simp only [arr] at ⊢
  go_enter Tryz.func37, Tryz.ntmps37
  go_wp2_with (first
    | (go_at_call 54; refine q1.mono ?_; rintro e w' ⟨rfl, rfl⟩)
    | (go_at_call 55; refine q2.mono ?_; rintro e w1 ⟨rfl, hD, hk⟩))
  have hD1 := hD.drew
  have hB1 := hB.kept hk (by simp; omega)
  have hdn : (done s).size = s.size := rfl
  obtain ⟨p1, p2, p3, p4⟩ := hD1.1.setFresh i hi x hx
  have c0 := hD1.1.four.1
  have c0' := p1.four.1
  obtain ⟨t1, t2, t3⟩ := p1.setFlag i hi true
  have ccf := p1.cachedAt i hi
  rw [hdn] at c0 c0'
  have hfin : Hid (RefAt ((w1.drew.setCells g (i * 33 + 16) (x.map enc)).setCell ⟨g, i * 33 + 32, none⟩ (.bool true)) r g cap (laid (done s) i x) ∧ Kept [r, g] w ((w1.drew.setCells g (i * 33 + 16) (x.map enc)).setCell ⟨g, i * 33 + 32, none⟩ (.bool true))) := by
    have hv : Valid (laid (done s) i x) := valid_laid (valid_done h.2) (by omega) (by simpa [hdn] using k1) hx
    refine ⟨⟨t1.congr rfl rfl rfl rfl (fun k _ => rc_laid (done s) i x k) (fun k => rc_ok hv k), hv⟩, ?_⟩
    exact ((((kept_alloc _ _ _).trans (hk.mono (by simp))).trans (kept_drew _ _)).trans (p2.mono (by simp))).trans (t2.mono (by simp))
  have HR : Hid (w1.drew.rangeAt w.heap.size 0 (x.map enc) ∧ w1.drew.cell? ⟨r, 0, none⟩ = some (.slice (some ⟨g, 0, none⟩) s.size cap)) := ⟨hB1.drew.range, c0⟩
  have HR2 : Hid ((w1.drew.setCells g (i * 33 + 16) (x.map enc)).rangeAt w.heap.size 0 (x.map enc) ∧ (w1.drew.setCells g (i * 33 + 16) (x.map enc)).cell? ⟨r, 0, none⟩ = some (.slice (some ⟨g, 0, none⟩) s.size cap)) := ⟨(hB1.drew.kept p2 (by simp; omega)).range, c0'⟩
  generalize upF (rc (done s)) i { rc (done s) i with b := x } i = xx at *
  clear h hA q1 q2 hB hB1 hD hD1 hk p1 p2 p3 t1 t2 hdn
  generalize x.map enc = cs at *
  go_region_held3 (fun W => W.rangeAt w.heap.size 0 cs ∧ W.cell? ⟨r, 0, none⟩ = some (.slice (some ⟨g, 0, none⟩) s.size cap)) (first | exact HR.out | exact HR2.out) (fail)
  all_goals
    go_wp2
    go_ret
    exact ⟨rfl, hfin.out⟩
set_option maxRecDepth 100000 in
/-- Write -/
theorem refWrite_any (r g cap : Nat) (s : Dk) (k : Int) (x : List Nat) (hx : Sec x) (hops : s.ops ≤ 1000000) (w : World) (h : RefAt w r g cap s) :
    Calls Tryz.prog 37 #[.pointer (some ⟨r, 0, none⟩), .int .i64 k, arr x] w fun e w' => e = .returned (.int .i64 (wroteE s k : Nat)) ∧ RefAt w' r g cap (wroteS s k x) ∧ Kept [r, g] w w' := by
  unfold wroteE wroteS
  by_cases hi : inside s k = true
  · rw [if_pos hi, if_pos hi]
    by_cases hn : worn s = true
    · rw [if_pos hn, if_pos hn]
      have hA := h.alloc (.cells (x.map enc).toArray 52)
      have q1 := refIn_any r g cap s k (w.alloc (.cells (x.map enc).toArray 52)) hA
      have q2 := burns_any r g cap s (w.alloc (.cells (x.map enc).toArray 52)) hops hA
      rw [hi] at q1
      rw [hn, if_pos rfl] at q2
      simp only [arr] at ⊢
      clear hA
      go_enter Tryz.func37, Tryz.ntmps37
      go_wp2_with (first
        | (go_at_call 54; refine q1.mono ?_; rintro e w' ⟨rfl, rfl⟩)
        | (go_at_call 55; refine q2.mono ?_; rintro e w1 ⟨rfl, hD, hk⟩))
      go_ret
      exact ⟨rfl, hD, (kept_alloc _ _ _).trans (hk.mono (by simp))⟩
    · rw [if_neg hn, if_neg hn]
      have hk0 : 0 ≤ k ∧ k < (s.size : Int) := by simpa [inside] using hi
      obtain ⟨i, rfl⟩ : ∃ i : Nat, k = i := ⟨k.toNat, by omega⟩
      exact refWrite_done r g cap s i x hx hops w h (by omega) (by simpa using hn)
  · rw [if_neg hi, if_neg hi]
    have hA := h.alloc (.cells (x.map enc).toArray 52)
    have q1 := refIn_any r g cap s k (w.alloc (.cells (x.map enc).toArray 52)) hA
    rw [show inside s k = false by simpa using hi] at q1
    simp only [arr] at ⊢
    go_enter Tryz.func37, Tryz.ntmps37
    go_wp2_with (first
      | (go_at_call 54; refine q1.mono ?_; rintro e w' ⟨rfl, rfl⟩))
    go_ret
    exact ⟨rfl, hA, kept_alloc _ _ _⟩

set_option maxRecDepth 100000 in
set_option maxHeartbeats 400000 in
/-- Read -/
theorem refRead_any (r g cap : Nat) (s : Dk) (k : Int) (w : World) (h : RefAt w r g cap s) :
    Calls Tryz.prog 43 #[.pointer (some ⟨r, 0, none⟩), .int .i64 k] w fun e w' => e = .returned (.tuple #[arr (readL s k), .int .i64 (readE s k : Nat)]) ∧ Kept [] w w' := by
  have hA := h.alloc (.cells #[.int .u8 0, .int .u8 0, .int .u8 0, .int .u8 0, .int .u8 0, .int .u8 0, .int .u8 0, .int .u8 0, .int .u8 0, .int .u8 0, .int .u8 0, .int .u8 0, .int .u8 0, .int .u8 0, .int .u8 0, .int .u8 0] 52)
  have q := refIn_any r g cap s k _ hA
  have hN : Arr (w.alloc (.cells #[.int .u8 0, .int .u8 0, .int .u8 0, .int .u8 0, .int .u8 0, .int .u8 0, .int .u8 0, .int .u8 0, .int .u8 0, .int .u8 0, .int .u8 0, .int .u8 0, .int .u8 0, .int .u8 0, .int .u8 0, .int .u8 0] 52)) w.heap.size 52 nought := arr_new w 52 nought
  have hlt := h.1.lt
  unfold readL readE
  by_cases hi : inside s k = true
  · have hk0 : 0 ≤ k ∧ k < (s.size : Int) := by simpa [inside] using hi
    obtain ⟨i, rfl⟩ : ∃ i : Nat, k = i := ⟨k.toNat, by omega⟩
    rw [if_pos hi, if_pos hi]
    rw [hi] at q
    have c0 := hA.1.four.1
    have c0w := h.1.four.1
    have c2 := hA.1.four.2.2.1
    have c2w := h.1.four.2.2.1
    have k1 : (i : Int) < (s.size : Int) := by omega
    by_cases hb : s.broken = true
    · rw [if_pos hb, if_pos hb]
      rw [hb] at c2 c2w
      go_enter Tryz.func43, Tryz.ntmps43
      go_wp2_with (first
        | (go_at_call 54; refine q.mono ?_; rintro e w' ⟨rfl, rfl⟩)
        | (refine wpList_store_arr rfl 52 _ _ rfl _ 52 _ nought rfl rfl hN rfl Tryz.size52 ?_; intro w2 hA2 hk2 hz2; replace hz2 : Hid _ := hz2))
      refine bodyPost_ret (results_arr rfl _ _ w.heap.size nought (.int .i64 3) rfl rfl hA2 rfl) rfl ⟨rfl, ?_⟩
      exact (kept_alloc _ _ _).young hk2 (Nat.le_refl _)
    · rw [if_neg hb, if_neg hb]
      replace hb : s.broken = false := by simpa using hb
      rw [hb] at c2 c2w
      have cf := hA.1.cachedAt i (by omega)
      have cfw := h.1.cachedAt i (by omega)
      cases hf : s.fresh i with
      | none =>
        have hx := h.2.safe i
        have hr : Hid ((w.alloc (.cells #[.int .u8 0, .int .u8 0, .int .u8 0, .int .u8 0, .int .u8 0, .int .u8 0, .int .u8 0, .int .u8 0, .int .u8 0, .int .u8 0, .int .u8 0, .int .u8 0, .int .u8 0, .int .u8 0, .int .u8 0, .int .u8 0] 52)).rangeAt g (i * 33) ((s.safe i).map enc)) := hA.1.safeAt i (by omega)
        simp only [rc, hf, Option.isSome_none] at cf cfw
        simp only [Option.getD_none]
        generalize s.safe i = x at *
        simp only [arr] at ⊢
        clear h hA hf
        go_enter Tryz.func43, Tryz.ntmps43
        go_wp2_with (first
          | (go_at_call 54; refine q.mono ?_; rintro e w' ⟨rfl, rfl⟩)
          | refine wpList_load_mid rfl 52 _ rfl g (i * 33) rfl (x.map enc) _ hr.out Tryz.underlying52 rfl (by rw [List.length_map, hx.1]; exact Tryz.size52) ?_
          | (refine wpList_store_arr rfl 52 _ _ rfl _ 52 _ x rfl rfl hN hx.1 (by rw [hx.1]; exact Tryz.size52) ?_; intro w2 hA2 hk2 hz2; replace hz2 : Hid _ := hz2))
        refine bodyPost_ret (results_arr rfl _ _ w.heap.size x (.int .i64 0) rfl rfl hA2 hx.1) rfl ⟨rfl, ?_⟩
        exact (kept_alloc _ _ _).young hk2 (Nat.le_refl _)
      | some x =>
        have hx := (h.2.fresh i x hf).2.2
        have hr : Hid ((w.alloc (.cells #[.int .u8 0, .int .u8 0, .int .u8 0, .int .u8 0, .int .u8 0, .int .u8 0, .int .u8 0, .int .u8 0, .int .u8 0, .int .u8 0, .int .u8 0, .int .u8 0, .int .u8 0, .int .u8 0, .int .u8 0, .int .u8 0] 52)).rangeAt g (i * 33 + 16) (x.map enc)) := by
          have := hA.1.freshAt i (by omega)
          simp only [rc, hf, Option.getD_some] at this
          exact this
        simp only [rc, hf, Option.isSome_some] at cf cfw
        simp only [Option.getD_some]
        simp only [arr] at ⊢
        clear h hA hf
        go_enter Tryz.func43, Tryz.ntmps43
        go_wp2_with (first
          | (go_at_call 54; refine q.mono ?_; rintro e w' ⟨rfl, rfl⟩)
          | refine wpList_load_mid rfl 52 _ rfl g (i * 33 + 16) rfl (x.map enc) _ hr.out Tryz.underlying52 rfl (by rw [List.length_map, hx.1]; exact Tryz.size52) ?_
          | (refine wpList_store_arr rfl 52 _ _ rfl _ 52 _ x rfl rfl hN hx.1 (by rw [hx.1]; exact Tryz.size52) ?_; intro w2 hA2 hk2 hz2; replace hz2 : Hid _ := hz2))
        refine bodyPost_ret (results_arr rfl _ _ w.heap.size x (.int .i64 0) rfl rfl hA2 hx.1) rfl ⟨rfl, ?_⟩
        exact (kept_alloc _ _ _).young hk2 (Nat.le_refl _)
  · rw [if_neg hi, if_neg hi]
    have hi' : inside s k = false := by simpa using hi
    rw [hi'] at q
    go_enter Tryz.func43, Tryz.ntmps43
    go_wp2_with (first
      | (go_at_call 54; refine q.mono ?_; rintro e w' ⟨rfl, rfl⟩)
      | (refine wpList_store_arr rfl 52 _ _ rfl _ 52 _ nought rfl rfl hN rfl Tryz.size52 ?_; intro w2 hA2 hk2 hz2; replace hz2 : Hid _ := hz2))
    refine bodyPost_ret (results_arr rfl _ _ w.heap.size nought (.int .i64 13) rfl rfl hA2 rfl) rfl ⟨rfl, ?_⟩
    exact (kept_alloc _ _ _).young hk2 (Nat.le_refl _)
end Go.Proofs.YtekjlmnnaaodjaaGreat
