/-
  The walk of the document's Next.
-/
import Derived.Test.YthlnhmdeoapoeaaLtJ
namespace Go.Proofs.Ythlnhmdeoapoeaa.Later
open Go.RowKit
open Clash (Ow OwsAt)

set_option maxRecDepth 100000 in
theorem results_rwent {fn : Func} {p u : Tmp} (h : fn.results = #[.cell p 42, .tmp u]) (tmps : Array Value) (w : World) (g : Nat) (x : Lv) (b : Bool) (hp : tmps[p]? = some (.pointer (some ⟨g, 0, none⟩))) (hu : tmps[u]? = some (.bool b)) (hv : Blk w g 42 #[.int .i64 x.id, .int .i64 x.o, .int .i64 x.l, .slice x.sa x.len x.cap]) :
    (results fn tmps).run Try.prog w = .ok (.tuple #[x.val, .bool b]) w := by
  have c0 := (hv.cell 0).trans (show _ = some (Value.int .i64 x.id) from rfl)
  have c1 := (hv.cell 1).trans (show _ = some (Value.int .i64 x.o) from rfl)
  have c2 := (hv.cell 2).trans (show _ = some (Value.int .i64 x.l) from rfl)
  have c3 := (hv.cell 3).trans (show _ = some (Value.slice x.sa x.len x.cap) from rfl)
  simp [results, h, go_sem, hp, hu, c0, c1, c2, c3, Lv.val]
/-- A row that was just begun. -/
theorem row_begun (ty : TypeId) (W : World) : RowAt ty W.heap.size (W.alloc (.cells #[] ty)) (.slice (some ⟨W.heap.size, 0, none⟩) 0 0) [] (some W.heap.size) :=
  ⟨_, 0, rfl, Nat.le_refl _, by unfold maxLen; omega, .inr ⟨W.heap.size, 0, #[], rfl, rfl, Nat.le_refl _, blk_new W ty #[], by simp, fun j x hj => by simp at hj⟩⟩
/-- The cells of a row's first, and of what lies behind one. -/
theorem RowAt.front {ty : TypeId} {base : Nat} {W : World} {g off n cap : Nat} {P : List Lv} {gr : Option Nat} (h : RowAt ty base W (.slice (some ⟨g, off, none⟩) n cap) P gr) (k : Nat) : ∀ j u, (cellsL (P.take k))[j]? = some u → W.cell? ((⟨g, off, none⟩ : Addr).add j) = some u := fun j u hu => by
  obtain ⟨a', cap', e, h1, h2, ⟨h3, _⟩ | ⟨g', off', cur, e1, e2, h4, h5, h6, h7⟩⟩ := h
  · injection e with e3
    rw [h3] at e3
    cases e3
  · injection e with e3 _ _
    rw [e1] at e3
    injection e3 with e3
    injection e3 with e4 e5 _
    subst e4 e5
    have hl : Lie cur off (P.take k) := fun j x hj c hc => by
      rw [List.getElem?_take] at hj
      split at hj
      · exact h7 j x hj c hc
      · cases hj
    rw [Go.WideShapes.add_plain, h5.cell]
    exact hl.cells j u hu
theorem RowAt.back {ty : TypeId} {base : Nat} {W : World} {g off n cap : Nat} {P : List Lv} {gr : Option Nat} (h : RowAt ty base W (.slice (some ⟨g, off, none⟩) n cap) P gr) (k : Nat) (d : Addr) (hd : k < n → d = ⟨g, off + k * 4, none⟩) : ∀ j u, (cellsL (P.drop k))[j]? = some u → W.cell? (d.add j) = some u := fun j u hu => by
  obtain ⟨a', cap', e, h1, h2, ⟨h3, _⟩ | ⟨g', off', cur, e1, e2, h4, h5, h6, h7⟩⟩ := h
  · injection e with e3
    rw [h3] at e3
    cases e3
  · injection e with e3 e8 _
    rw [e1] at e3
    injection e3 with e3
    injection e3 with e4 e5 _
    subst e4 e5
    by_cases hk : k < n
    · obtain rfl := hd hk
      have hl : Lie cur (off + k * 4) (P.drop k) := fun j x hj c hc => by
        rw [List.getElem?_drop] at hj
        have := h7 (k + j) x hj c hc
        rwa [show off + (k + j) * 4 + c = off + k * 4 + j * 4 + c by omega] at this
      rw [Go.WideShapes.add_plain, h5.cell]
      exact hl.cells j u hu
    · rw [List.drop_eq_nil_of_le (by omega)] at hu
      simp [cellsL] at hu
set_option maxRecDepth 100000 in
set_option maxHeartbeats 4000000 in
/-- The document's Next -/
theorem rnext_any {base q : Nat} {gr : Option Nat} {L : List Lw} (oa : Option Addr) (olen ocap : Nat) (O : List Ow) (w : World) (h : RQ w base q gr L) (hs : L.length ≤ 100000) (hO : OwsAt w oa olen ocap O) (hol : olen ≤ 9223372036854775807) :
    Calls Try.prog 10 #[.pointer (some ⟨q, 0, none⟩), .slice oa olen ocap] w fun e W' => ∃ y : Lv, e = .returned (.tuple #[y.val, .bool (wentB O L)]) ∧ y.lw = wentW O L ∧ y.At W' ∧ (∃ gr', RQ W' base q gr' (leftL O L)) ∧ Kept [q] w W' := by
  obtain ⟨a, cap, P, hR, hr, hl, hat, hPl, hc1, hc2⟩ := h.three
  have ka := kept_alloc [] w (.cells #[.int .i64 0, .int .i64 0, .int .i64 0, .slice none 0 0] 42)
  have hbA := blk_new w 42 #[.int .i64 0, .int .i64 0, .int .i64 0, .slice none 0 0]
  have c0 := (hR.kept ka (by simp)).one
  have hlt := h.lt
  have hlow : base ≤ w.heap.size := by have := h.low; omega
  obtain ⟨n, hn⟩ : ∃ n, L.length = n := ⟨_, rfl⟩
  rw [hn] at hR hr hc1 c0 hPl hs
  have hrow : Hid (∀ W, Kept [] w W → RowAt 42 base W (.slice a n cap) P gr) := fun W hk => hr.kept0 hk
  have hRw : Hid (∀ W, Kept [] w W → RRaw W q a n cap) := fun W hk => hR.kept hk (by simp)
  have hOw : Hid (∀ W, Kept [] w W → OwsAt W oa olen ocap O) := fun W hk => hO.kept hk
  have hq : Hid (∀ W, Kept [] w W → RQ W base q gr L) := fun W hk => h.kept0 hk
  have hatH : Hid (∀ x ∈ P, x.At w) := hat
  replace hPl : Hid (P.length = n) := hPl
  replace hn : Hid (L.length = n) := hn
  replace hl : Hid (P.map Lv.lw = L) := hl
  replace hlt : Hid (q < w.heap.size) := hlt.1
  replace hlow : Hid (base ≤ w.heap.size) := hlow
  obtain ⟨W1, hW1⟩ : ∃ W1, w.alloc (.cells #[.int .i64 0, .int .i64 0, .int .i64 0, .slice none 0 0] 42) = W1 := ⟨_, rfl⟩
  rw [hW1] at ka hbA c0
  clear h hr hR hO hat
  go_enter Try.func10, Try.ntmps10
  go_upto_region 1 with fail
  try rw [hW1]
  clear hW1
  go_wp2_with fail
  go_loopw [14] (fun i wr => ∃ k : Nat, k ≤ n ∧ i = .int .i64 k ∧ Hid (∀ j (x : Lv), j < k → P[j]? = some x → may O x.lw = false) ∧ Kept [] W1 wr) (fun i _ => n - (RowKit.intOf i).toNat)
  case atStart => exact ⟨0, by omega, rfl, fun j x hj => absurd hj (Nat.not_lt_zero _), Kept.refl _ _⟩
  case round =>
    obtain ⟨k, hk, rfl, hA, hkr⟩ := hrel
    by_cases hlt2 : k < n
    · obtain ⟨x, hx⟩ : ∃ x, P[k]? = some x := ⟨_, List.getElem?_eq_getElem (by rw [hPl.out]; exact hlt2)⟩
      obtain ⟨g, off, rfl, rfl, hcs⟩ := (hrow.out wr (ka.trans hkr)).at hx
      obtain ⟨d0, d1, d2, d3⟩ := hcs [] wr (Kept.refl _ _) (by simp)
      have kb := kept_alloc [] wr (.cells #[.int .i64 x.id, .int .i64 x.o, .int .i64 x.l, .slice x.sa x.len x.cap] 42)
      have hbB := blk_new wr 42 #[.int .i64 x.id, .int .i64 x.o, .int .i64 x.l, .slice x.sa x.len x.cap]
      have i1 : (k : Int) < (n : Int) := by omega
      have i2 : (k : Int) < 9223372036854775807 := by omega
      have i3 : IntKind.i64.wrap ((k : Int) + 1) = (k : Int) + 1 := (by rw [IntKind.wrap_i64]; omega)
      obtain ⟨W2, hW2⟩ : ∃ W2, wr.alloc (.cells #[.int .i64 x.id, .int .i64 x.o, .int .i64 x.l, .slice x.sa x.len x.cap] 42) = W2 := ⟨_, rfl⟩
      rw [hW2] at kb hbB
      have hk2 := (ka.trans hkr).trans kb
      have qv := Clash.refVerdict_any false x.o x.l oa olen ocap O hol W2 (hOw.out W2 hk2)
      have hm1 : Hid (n - (k + 1) < n - k) := (by show _ < _; omega)
      obtain ⟨B, hB⟩ : ∃ B, wr.heap.size = B := ⟨_, rfl⟩
      have hxA : Hid (∀ V, Kept [] w V → x.At V) := fun V hv => (hatH.out x (List.mem_of_getElem? hx)).kept0 hv
      replace hx : Hid _ := hx
      have hBlt : Hid (w.heap.size < B) := (by show _ < _; have := hkr.size; have := hbA.lt; omega)
      rw [hB] at hbB
      go_upto_region 4 with fail
      try rw [hW2]
      try rw [hB]
      have t1 := (hbB.cell 1).trans (show _ = some (Value.int .i64 x.o) from rfl)
      have t2 := (hbB.cell 2).trans (show _ = some (Value.int .i64 x.l) from rfl)
      clear hcs hW2 hB d0 d1 d2 d3
      cases hm : may O x.lw with
      | false =>
        have hv : Clash.verd false O x.o x.l = 3 := verd_stay (x := x.lw) hm
        rw [hv] at qv
        clear hv
        go_wp2_with (go_at_call 22; refine qv.mono ?_; rintro e w5 ⟨rfl, k5⟩)
        go_roundw
        case rel => exact ⟨k + 1, by omega, by go_num, fun j y hj hy => by
          by_cases e : j = k
          · subst e
            rw [hx.out] at hy
            cases hy
            exact hm
          · exact hA.out j y (by omega) hy, (hkr.trans kb).trans k5⟩
        case measure => simpa [RowKit.intOf] using hm1.out
      | true =>
        have hv : Clash.verd false O x.o x.l = 0 := verd_go (x := x.lw) hm
        rw [hv] at qv
        obtain ⟨d, hd⟩ : ∃ d : Addr, d = (if cap = k + 1 then (⟨g, off, none⟩ : Addr) else ⟨g, off + (k + 1) * 4, none⟩) := ⟨_, rfl⟩
        have hda : Hid (k + 1 < n → d = ⟨g, off + (k + 1) * 4, none⟩) := fun h0 => (by rw [hd, if_neg (by omega)])
        have hs1 : ∀ W, (Instr.sliceAt 29 (.slice (some ⟨g, off, none⟩) n cap) none (some (.int .i64 (k : Int))) none).run Try.prog W = .ok (.slice (some ⟨g, off, none⟩) k cap) W := fun W => by
          rw [run_sliceAt_slice _ _ _ _ _ _ kindR.elem, run_slice_h _ _ _ _ _ kindR.elem _ _ (by omega) (by omega), kindR.size]
          simp [Result.andThen, sliced, Addr.add]
        have hs2 : ∀ W, (Instr.sliceAt 29 (.slice (some ⟨g, off, none⟩) n cap) (some (.int .i64 ((k : Int) + 1))) none none).run Try.prog W = .ok (.slice (some d) (n - (k + 1)) (cap - (k + 1))) W := fun W => by
          rw [run_sliceAt_slice _ _ _ _ _ _ kindR.elem, run_slice_l _ _ _ _ _ kindR.elem _ _ (by omega) (by omega), kindR.size]
          simp only [Result.andThen, sliced]
          rw [hd, show ((k : Int) + 1).toNat = k + 1 by omega]
          by_cases h1 : cap = k + 1
          · simp [h1]
          · simp [h1, Addr.add]
        have hs1' := fun W => (run_sliceAt_slice (P := Try.prog) (w := W) _ _ _ _ _ kindR.elem).symm.trans (hs1 W)
        have hs2' := fun W => (run_sliceAt_slice (P := Try.prog) (w := W) _ _ _ _ _ kindR.elem).symm.trans (hs2 W)
        have hlen1 : Hid (([] : List Lv).length + (P.take k).length ≤ 1000000) := (by show _ ≤ _; simp; omega)
        have hn1 : Hid ((P.take k).length = k) := (by show _ = _; rw [List.length_take, hPl.out]; omega)
        have hn2 : Hid ((P.drop (k + 1)).length = n - (k + 1)) := (by show _ = _; rw [List.length_drop, hPl.out])
        have hlen2 : Hid (([] ++ P.take k : List Lv).length + (P.drop (k + 1)).length ≤ 1000000) := (by show _ ≤ _; rw [List.nil_append, hn1.out, hn2.out]; omega)
        clear hv hd
        go_upto_region 5 with (go_at_call 22; refine qv.mono ?_; rintro e w5 ⟨rfl, k5⟩)
        have hk5 := hk2.trans k5
        have kc := kept_alloc [] w5 (.cells #[] 42)
        have hr6 := row_begun 42 w5
        have hrow6 := hrow.out _ (hk5.trans kc)
        have hR6 := hRw.out _ (hk5.trans kc)
        have c6 := hR6.one
        have hb5 := hbB.kept k5 (by simp)
        have hBw5 : Hid (B < w5.heap.size) := hb5.lt
        have hsz5 : Hid (w.heap.size ≤ w5.heap.size) := hk5.size
        have hz6 : Hid (w5.heap.size ≤ (w5.alloc (.cells #[] 42)).heap.size) := kc.size
        have hbR5 : Hid (∀ V, Kept [] w5 V → Blk V w.heap.size 42 #[.int .i64 0, .int .i64 0, .int .i64 0, .slice none 0 0]) := fun V hv => (hbA.kept ((hkr.trans kb).trans k5) (by simp)).kept hv (by simp)
        have hbB5 : Hid (∀ V, Kept [] w5 V → Blk V B 42 #[.int .i64 x.id, .int .i64 x.o, .int .i64 x.l, .slice x.sa x.len x.cap]) := fun V hv => hb5.kept hv (by simp)
        replace hr6 : Hid (RowAt _ _ _ _ _ _) := hr6
        replace hrow6 : Hid (RowAt _ _ _ _ _ _) := hrow6
        clear hbB hbA hb5 t1 t2 qv c0
        go_wp2_with (first
          | (at_builtin; refine wpList_append_row kindR rfl _ _ rfl w5.heap.size (.slice (some ⟨w5.heap.size, 0, none⟩) 0 0) [] (P.take k) (some w5.heap.size) ⟨g, off, none⟩ k cap rfl rfl hn1.out hr6.out (hrow6.out.front k) hlen1.out hz6.out ?_; intro sa7 n7 cap7 w7 gr7 hr7 hk7 hg7; have kw7 : Kept [] w5 w7 := kc.youngs hk7 (by simp); have hrow7 : Hid (RowAt 42 base w7 (.slice (some ⟨g, off, none⟩) n cap) P (some g)) := hrow.out w7 (hk5.trans kw7); have c7 := (hRw.out w7 (hk5.trans kw7)).one; have hz7 : Hid (w5.heap.size ≤ w7.heap.size) := kw7.size; clear hr6; replace hr7 : Hid (RowAt _ _ _ _ _ _) := hr7; have hgw7 : Hid (∀ g', gr7 = some g' → w5.heap.size ≤ g') := (fun g' hg' => (hr7.out.low g' hg').1); clear hg7)
          | (at_builtin; refine wpList_append_row kindR rfl _ _ rfl w5.heap.size (.slice sa7 n7 cap7) ([] ++ P.take k) (P.drop (k + 1)) gr7 d (n - (k + 1)) (cap - (k + 1)) rfl rfl hn2.out hr7.out (hrow7.out.back (k + 1) d hda.out) hlen2.out hz7.out ?_; intro sa8 n8 cap8 w8 gr8 hr8 hk8 hg8; have kw8 : Kept [] w5 w8 := kw7.youngs hk8 (fun y hy => .inr (hgw7.out y (by simpa using hy))); replace hr8 : Hid (RowAt _ _ _ _ _ _) := hr8; have hR8 := hRw.out w8 (hk5.trans kw8); have c8 := hR8.one; clear hg8)
          | (refine wpList_store_cell rfl 29 _ _ rfl q 0 31 _ (.slice sa8 n8 cap8) rfl rfl hR8 (by simp) kindR.word rfl ?_; intro w9 hb9 hk9; have bB9 := (hbB5.out w8 kw8).kept hk9 (by have := hBlt.out; have := hlt.out; simp; omega); have bR9 := (hbR5.out w8 kw8).kept hk9 (by have := hlt.out; simp; omega); have f0 := (bB9.cell 0).trans (show _ = some (Value.int .i64 x.id) from rfl); have f1 := (bB9.cell 1).trans (show _ = some (Value.int .i64 x.o) from rfl); have f2 := (bB9.cell 2).trans (show _ = some (Value.int .i64 x.l) from rfl); have f3 := (bB9.cell 3).trans (show _ = some (Value.slice x.sa x.len x.cap) from rfl); have r0 := (bR9.cell 0).trans (show _ = some (Value.int .i64 0) from rfl); have r1 := (bR9.cell 1).trans (show _ = some (Value.int .i64 0) from rfl); have r2 := (bR9.cell 2).trans (show _ = some (Value.int .i64 0) from rfl); have r3 := (bR9.cell 3).trans (show _ = some (Value.slice none 0 0) from rfl); have z0 := bR9.frozen 0; have z1 := bR9.frozen 1; have z2 := bR9.frozen 2; have z3 := bR9.frozen 3))
        have y9 : Blk ((((w9.setCell ⟨w.heap.size, 0, none⟩ (.int .i64 x.id)).setCell ⟨w.heap.size, 1, none⟩ (.int .i64 x.o)).setCell ⟨w.heap.size, 2, none⟩ (.int .i64 x.l)).setCell ⟨w.heap.size, 3, none⟩ (.slice x.sa x.len x.cap)) w.heap.size 42 #[.int .i64 x.id, .int .i64 x.o, .int .i64 x.l, .slice x.sa x.len x.cap] := (((bR9.set 0 _).set 1 _).set 2 _).set 3 _
        have kS : Kept [w.heap.size] w9 ((((w9.setCell ⟨w.heap.size, 0, none⟩ (.int .i64 x.id)).setCell ⟨w.heap.size, 1, none⟩ (.int .i64 x.o)).setCell ⟨w.heap.size, 2, none⟩ (.int .i64 x.l)).setCell ⟨w.heap.size, 3, none⟩ (.slice x.sa x.len x.cap)) :=
          (((kept_set (g := w.heap.size) (by simp) w9 0 (.int .i64 x.id)).trans (kept_set (g := w.heap.size) (by simp) _ 1 (.int .i64 x.o))).trans (kept_set (g := w.heap.size) (by simp) _ 2 (.int .i64 x.l))).trans (kept_set (g := w.heap.size) (by simp) _ 3 (.slice x.sa x.len x.cap))
        obtain ⟨V, hV⟩ : ∃ V, (((w9.setCell ⟨w.heap.size, 0, none⟩ (.int .i64 x.id)).setCell ⟨w.heap.size, 1, none⟩ (.int .i64 x.o)).setCell ⟨w.heap.size, 2, none⟩ (.int .i64 x.l)).setCell ⟨w.heap.size, 3, none⟩ (.slice x.sa x.len x.cap) = V := ⟨_, rfl⟩
        rw [hV] at y9 kS
        first | rw [hV] | skip
        have fQ : Foot [31] w8 [q] := Foot.cons (foot_nil _ _) hR8 (by simp)
        have fR : Foot [42] w9 [w.heap.size] := Foot.cons (foot_nil _ _) bR9 (by simp)
        have hAt : ∀ y ∈ P, y.At V := fun y hy => (((hatH.out y hy).kept0 (hk5.trans kw8)).kept hk9 fQ (by decide)).kept kS fR (by decide)
        have hpk : pick O L = some k := pick_some (lw_at hl.out hx.out) hm fun j y hj hy => by
          obtain ⟨z, hz⟩ : ∃ z, P[j]? = some z := ⟨_, List.getElem?_eq_getElem (by rw [hPl.out]; omega)⟩
          have := hA.out j z hj hz
          rw [lw_at hl.out hz] at hy
          rw [← Option.some.inj hy]
          exact this
        have e1 : wentB O L = true := by simp [wentB, hpk]
        have e2 : wentW O L = x.lw := by simp [wentW, hpk, lw_at hl.out hx.out]
        have e3 : leftL O L = gone L k := by simp [leftL, hpk]
        have hq9 : RRaw V q sa8 n8 cap8 := Blk.kept (show RRaw w9 q sa8 n8 cap8 from hb9) kS (by have := hlt.out; simp; omega)
        refine bodyPost_ret (results_rwent rfl _ _ w.heap.size x true rfl rfl y9) rfl ?_
        refine ⟨x, by rw [e1], by rw [e2], hAt x (List.mem_of_getElem? hx.out), ⟨gr8, ⟨⟨_, _, hq9, ((hr8.out.mono (Nat.le_trans hlow.out hsz5.out)).kept hk9 (fun g' hg' => ?_)).kept kS (fun g' hg' => ?_), ?_, fun y hy => hAt y ?_⟩, (hq.out w (Kept.refl _ _)).low⟩⟩, (((hk5.trans kw8).mono (by simp)).trans hk9).youngs kS (by simp)⟩
        · have := (hr8.out.low g' hg').1
          have := hlt.out
          have := hsz5.out
          simp
          omega
        · have := (hr8.out.low g' hg').1
          have := hBlt.out
          have := hBw5.out
          simp
          omega
        · rw [e3, List.nil_append, List.map_append, List.map_take, List.map_drop, hl.out]
          rfl
        · rw [List.nil_append] at hy
          rcases List.mem_append.1 hy with hy | hy
          · exact List.mem_of_mem_take hy
          · exact List.mem_of_mem_drop hy
    · obtain rfl : k = n := by omega
      have i1 : ¬ ((k : Int) < (k : Int)) := by omega
      have hbR := hbA.kept hkr (by simp)
      have r0 := (hbR.cell 0).trans (show _ = some (Value.int .i64 0) from rfl)
      have r1 := (hbR.cell 1).trans (show _ = some (Value.int .i64 0) from rfl)
      have r2 := (hbR.cell 2).trans (show _ = some (Value.int .i64 0) from rfl)
      have r3 := (hbR.cell 3).trans (show _ = some (Value.slice none 0 0) from rfl)
      have z0 := hbR.frozen 0
      have z1 := hbR.frozen 1
      have z2 := hbR.frozen 2
      have z3 := hbR.frozen 3
      go_wp2_with fail
      have y9 : Blk ((((wr.setCell ⟨w.heap.size, 0, none⟩ (.int .i64 0)).setCell ⟨w.heap.size, 1, none⟩ (.int .i64 0)).setCell ⟨w.heap.size, 2, none⟩ (.int .i64 0)).setCell ⟨w.heap.size, 3, none⟩ (.slice none 0 0)) w.heap.size 42 #[.int .i64 lv0.id, .int .i64 lv0.o, .int .i64 lv0.l, .slice lv0.sa lv0.len lv0.cap] := (((hbR.set 0 _).set 1 _).set 2 _).set 3 _
      have kS : Kept [w.heap.size] wr ((((wr.setCell ⟨w.heap.size, 0, none⟩ (.int .i64 0)).setCell ⟨w.heap.size, 1, none⟩ (.int .i64 0)).setCell ⟨w.heap.size, 2, none⟩ (.int .i64 0)).setCell ⟨w.heap.size, 3, none⟩ (.slice none 0 0)) :=
        (((kept_set (g := w.heap.size) (by simp) wr 0 (.int .i64 0)).trans (kept_set (g := w.heap.size) (by simp) _ 1 (.int .i64 0))).trans (kept_set (g := w.heap.size) (by simp) _ 2 (.int .i64 0))).trans (kept_set (g := w.heap.size) (by simp) _ 3 (.slice none 0 0))
      have hpk : pick O L = none := pick_none fun j y hy => by
        have hjl := (List.getElem?_eq_some_iff.1 hy).1
        rw [hn.out] at hjl
        obtain ⟨z, hz⟩ : ∃ z, P[j]? = some z := ⟨_, List.getElem?_eq_getElem (by rw [hPl.out]; exact hjl)⟩
        have := hA.out j z hjl hz
        rw [lw_at hl.out hz] at hy
        rw [← Option.some.inj hy]
        exact this
      have e1 : wentB O L = false := by simp [wentB, hpk]
      have e2 : wentW O L = lw0 := by simp [wentW, hpk]
      have e3 : leftL O L = L := by simp [leftL, hpk]
      refine bodyPost_ret (results_rwent rfl _ _ w.heap.size lv0 false rfl rfl y9) rfl ?_
      have hkk := (ka.trans hkr).youngs kS (by simp)
      exact ⟨lv0, by rw [e1], by rw [e2]; rfl, lv0_at _, ⟨gr, by rw [e3]; exact hq.out _ hkk⟩, hkk.mono (by simp)⟩
end Go.Proofs.Ythlnhmdeoapoeaa.Later
