/-
  The document's queue in memory; its Over and Spans; spans compared.
-/
import Derived.Test.YthlnhmdeoapoeaaLtF
import Derived.Test.YthlnhmdeoapoeaaClC
namespace Go.Proofs.Ythlnhmdeoapoeaa.Later
open Go.RowKit
open Clash (Ow OwsAt)

theorem kindR : Kind 42 29 := ⟨Try.underlying29, by kernel_rfl, by kernel_rfl, fun w => by kernel_rfl, by kernel_rfl⟩
/-- The document's queue, in memory. -/
structure RQ (W : World) (base r : Nat) (gr : Option Nat) (L : List Lw) : Prop where
  blk : ∃ v P, Blk W r 31 #[v] ∧ RowAt 42 base W v P gr ∧ P.map Lv.lw = L ∧ ∀ x ∈ P, x.At W
  low : base ≤ r
def RRaw (W : World) (r : Nat) (a : Option Addr) (n cap : Nat) : Prop := Blk W r 31 #[.slice a n cap]
theorem RRaw.kept {K : List Nat} {X Y : World} {q : Nat} {a : Option Addr} {n cap : Nat} (h : RRaw X q a n cap) (hk : Kept K X Y) (hq : q ∉ K) : RRaw Y q a n cap := Blk.kept h hk hq
theorem RRaw.one {W : World} {q : Nat} {a : Option Addr} {n cap : Nat} (h : RRaw W q a n cap) : W.cell? ⟨q, 0, none⟩ = some (.slice a n cap) := (Blk.cell h 0).trans rfl
theorem RQ.kept {ts : List TypeId} {K : List Nat} {A B : World} {base q : Nat} {gr : Option Nat} {L : List Lw} (h : RQ A base q gr L) (hk : Kept K A B) (hf : Foot ts A K) (h1 : 5 ∉ ts) (h2 : 31 ∉ ts) (h3 : 42 ∉ ts) : RQ B base q gr L := by
  obtain ⟨v, P, b1, b2, b3, b4⟩ := h.blk
  exact ⟨⟨v, P, b1.kept hk (hf.ne b1 h2), b2.kept hk (fun g hg => by obtain ⟨_, _, c, hc⟩ := b2.low g hg; exact hf.ne hc h3), b3, fun x hx => (b4 x hx).kept hk hf h1⟩, h.low⟩
theorem RQ.kept0 {A B : World} {base q : Nat} {gr : Option Nat} {L : List Lw} (h : RQ A base q gr L) (hk : Kept [] A B) : RQ B base q gr L := h.kept hk (foot_nil [] A) (by simp) (by simp) (by simp)
theorem RQ.three {W : World} {base q : Nat} {gr : Option Nat} {L : List Lw} (h : RQ W base q gr L) :
    ∃ a cap P, RRaw W q a L.length cap ∧ RowAt 42 base W (.slice a L.length cap) P gr ∧ P.map Lv.lw = L ∧ (∀ x ∈ P, x.At W) ∧ P.length = L.length ∧ L.length ≤ cap ∧ cap ≤ 9223372036854775807 := by
  obtain ⟨v, P, h1, h2, h3, h4⟩ := h.blk
  obtain ⟨a, cap, e, h5, h6⟩ := h2.open
  have hl : P.length = L.length := by rw [← h3, List.length_map]
  subst e
  rw [hl] at h1 h2 h5
  exact ⟨a, cap, P, h1, h2, h3, h4, hl, h5, h6⟩
theorem RQ.foot {W : World} {base q : Nat} {gr : Option Nat} {L : List Lw} (h : RQ W base q gr L) : Foot [31, 42] W (q :: gr.toList) := by
  obtain ⟨v, P, h1, h2, _⟩ := h.blk
  refine Foot.cons ?_ h1 (by simp)
  cases gr with
  | none => exact foot_nil _ W
  | some g =>
    obtain ⟨_, _, cur, hc⟩ := h2.low g rfl
    exact Foot.cons (foot_nil _ W) hc (by simp)
theorem RQ.lt {W : World} {base q : Nat} {gr : Option Nat} {L : List Lw} (h : RQ W base q gr L) : q < W.heap.size ∧ ∀ g, gr = some g → base ≤ g ∧ g < W.heap.size ∧ g ≠ q := by
  obtain ⟨v, P, h1, h2, _⟩ := h.blk
  refine ⟨h1.lt, fun g hg => ?_⟩
  obtain ⟨h3, h4, cur, hc⟩ := h2.low g hg
  refine ⟨h3, h4, fun e => ?_⟩
  subst e
  exact absurd (blk_type h1 hc) (by decide)
theorem RQ.young {X W Y : World} {base q : Nat} {gr : Option Nat} {L : List Lw} (h : RQ W base q gr L) (h0 : Kept [] X W) (hb : X.heap.size ≤ base) (hk : Kept (q :: gr.toList) W Y) : Kept [] X Y := by
  refine ⟨hk.os.trans h0.os, hk.tape.trans h0.tape, hk.output.trans h0.output, Nat.le_trans h0.size hk.size, fun i hi _ => (hk.block i (Nat.lt_of_lt_of_le hi h0.size) (fun hm => ?_)).trans (h0.block i hi (by simp))⟩
  have := h.low
  rcases List.mem_cons.1 hm with e | e
  · omega
  · have := (h.lt.2 i (by simpa using e)).1
    omega
theorem lw_at {P : List Lv} {L : List Lw} (h : P.map Lv.lw = L) {k : Nat} {x : Lv} (hx : P[k]? = some x) : L[k]? = some x.lw := by
  subst h
  rw [List.getElem?_map, hx]
  rfl
set_option maxRecDepth 100000 in
set_option maxHeartbeats 1000000 in
/-- The document's Over -/
theorem rover_any {base q : Nat} {gr : Option Nat} {L : List Lw} (p m : Int) (w : World) (h : RQ w base q gr L) (hs : L.length ≤ 1000000) :
    Calls Try.prog 15 #[.pointer (some ⟨q, 0, none⟩), .agg #[.int .i64 p, .int .i64 m]] w fun e W' => e = .returned (.bool (overL L p m)) ∧ Kept [] w W' := by
  obtain ⟨a, cap, P, hR, hr, hl, -, hPl, hc1, hc2⟩ := h.three
  have ka := kept_alloc [] w (.cells #[.int .i64 p, .int .i64 m] 24)
  have hb := blk_new w 24 #[.int .i64 p, .int .i64 m]
  have c0 := (hR.kept ka (by simp)).one
  obtain ⟨n, hn⟩ : ∃ n, L.length = n := ⟨_, rfl⟩
  rw [hn] at hr hc1 c0 hPl hs
  have hrow : Hid (∀ W, Kept [] w W → RowAt 42 base W (.slice a n cap) P gr) := fun W hk => hr.kept0 hk
  have hsp : Hid (∀ W, Kept [] (w.alloc (.cells #[.int .i64 p, .int .i64 m] 24)) W → W.cell? ⟨w.heap.size, 0, none⟩ = some (.int .i64 p) ∧ W.cell? ⟨w.heap.size, 1, none⟩ = some (.int .i64 m)) := fun W hk => ⟨((hb.kept hk (by simp)).cell 0).trans rfl, ((hb.kept hk (by simp)).cell 1).trans rfl⟩
  replace hPl : Hid (P.length = n) := hPl
  replace hn : Hid (L.length = n) := hn
  replace hl : Hid (P.map Lv.lw = L) := hl
  clear h hr hR hb
  go_enter Try.func15, Try.ntmps15
  go_wp2_with fail
  go_loopw [12] (fun i wr => ∃ k : Nat, k ≤ n ∧ i = .int .i64 k ∧ Hid (∀ j (x : Lv), j < k → P[j]? = some x → Span.Math.over x.o x.l p m = false) ∧ Kept [] (w.alloc (.cells #[.int .i64 p, .int .i64 m] 24)) wr) (fun i _ => n - (RowKit.intOf i).toNat)
  case atStart => exact ⟨0, by omega, rfl, fun j x hj => absurd hj (Nat.not_lt_zero _), Kept.refl _ _⟩
  case round =>
    obtain ⟨k, hk, rfl, hA, hkr⟩ := hrel
    by_cases hlt : k < n
    · obtain ⟨x, hx⟩ : ∃ x, P[k]? = some x := ⟨_, List.getElem?_eq_getElem (by rw [hPl.out]; exact hlt)⟩
      obtain ⟨g, off, rfl, rfl, hcs⟩ := (hrow.out wr (ka.trans hkr)).at hx
      obtain ⟨d0, d1, d2, d3⟩ := hcs [] wr (Kept.refl _ _) (by simp)
      have kb := kept_alloc [] wr (.cells #[.int .i64 x.id, .int .i64 x.o, .int .i64 x.l, .slice x.sa x.len x.cap] 42)
      obtain ⟨s0, s1⟩ := hsp.out wr hkr
      obtain ⟨t0, t1⟩ := hsp.out _ (hkr.trans kb)
      have i1 : (k : Int) < (n : Int) := by omega
      have i2 : (k : Int) < 9223372036854775807 := by omega
      have q := Span.refOverlap_any x.o x.l p m (wr.alloc (.cells #[.int .i64 x.id, .int .i64 x.o, .int .i64 x.l, .slice x.sa x.len x.cap] 42))
      have hm1 : Hid (n - (k + 1) < n - k) := (by show _ < _; omega)
      replace hx : Hid _ := hx
      clear hcs
      cases ho : Span.Math.over x.o x.l p m with
      | true =>
        rw [ho] at q
        have ht : Hid (overL L p m = true) := (List.any_eq_true.2 ⟨x.lw, List.mem_of_getElem? (lw_at hl.out hx.out), ho⟩)
        go_wp2_with (go_at_call 26; refine q.mono ?_; rintro e w5 ⟨rfl, hB5⟩)
        go_ret
        exact ⟨by rw [ht.out]; rfl, ((ka.trans hkr).trans kb).trans (Kept.of_below hB5 [])⟩
      | false =>
        rw [ho] at q
        go_wp2_with (go_at_call 26; refine q.mono ?_; rintro e w5 ⟨rfl, hB5⟩)
        go_roundw
        case rel => exact ⟨k + 1, by omega, by go_num, fun j y hj hy => by
          by_cases e : j = k
          · subst e
            rw [hx.out] at hy
            cases hy
            exact ho
          · exact hA.out j y (by omega) hy, (hkr.trans kb).trans (Kept.of_below hB5 [])⟩
        case measure => simpa [RowKit.intOf] using hm1.out
    · obtain rfl : k = n := by omega
      have i1 : ¬ ((k : Int) < (k : Int)) := by omega
      have hf : Hid (overL L p m = false) := (by
        refine List.any_eq_false.2 fun y hy => ?_
        rw [← hl.out] at hy
        obtain ⟨z, hz, rfl⟩ := List.mem_map.1 hy
        obtain ⟨j, hj⟩ := List.getElem?_of_mem hz
        have hjl := (List.getElem?_eq_some_iff.1 hj).1
        have := hA.out j z (by rw [← hPl.out]; exact hjl) hj
        simpa [Lv.lw] using this)
      go_wp2_with fail
      go_ret
      exact ⟨by rw [hf.out]; rfl, ka.trans hkr⟩
section
variable {ops : Array Oper} {rest : List Oper} {o : Oper} {a : Act} {w : World} {Q : Exit → Act → World → Prop}
set_option maxRecDepth 100000 in
/-- A span appended to a row of the call's own. -/
theorem wpList_append_span (hgd : o.guard = none) (s x : Operand) (ho : o.op = .call { callee := .builtin .append, args := #[s, x], argTypes := #[50, 50] })
    (base : Nat) (v : Value) (l : List (Int × Int)) (p m : Int) (q : Nat) (hs : a.eval s = v) (hown : w.ownsRow base 24 2 v l.length (spC l)) (hx : a.eval x = .slice (some ⟨q, 0, none⟩) 1 1) (hq : Blk w q 24 #[.int .i64 p, .int .i64 m]) (hlen : l.length ≤ 1000000) (hb : base ≤ w.heap.size)
    (h : ∀ v' w', w'.ownsRow base 24 2 v' (l ++ [(p, m)]).length (spC (l ++ [(p, m)])) → w.grownBy w' v.ownBlock → wpList Try.prog ops Q rest (a.put o.dst v') w') : wpList Try.prog ops Q (o :: rest) a w := by
  obtain ⟨i0, hi, hz0, hz1, hz2⟩ := info_parts Try.infoSp
  refine wpList_append_own_at _ hgd s x 50 ho base 24 i0 (.agg #[.int .i64 0, .int .i64 0]) 2 16 Try.underlying50 hi hz0 hz1 hz2 rfl (by decide) v l.length (spC l) hs hown ⟨q, 0, none⟩ 1 1 [.int .i64 p, .int .i64 m] hx rfl ?_ ?_ (by unfold maxLen; omega) (by omega) hb ?_
  · intro j u hu
    rw [Go.WideShapes.add_plain, Nat.zero_add, hq.cell]
    simpa using hu
  · intro u hu
    simp at hu
    rcases hu with rfl | rfl <;> rfl
  · intro v' w' h3 h4 _ _
    refine h v' w' ?_ h4
    rw [List.length_append, spC_snoc]
    exact h3
end
theorem owns_kept {A B : World} {base : Nat} {v : Value} {t : TypeId} {z k : Nat} {l : List Value} (h : A.ownsRow base t z v k l) (hk : Kept [] A B) : B.ownsRow base t z v k l := by
  refine ⟨h.1, ?_⟩
  rcases h.2 with hn | ⟨g, cap, cur, hv, hb, hg, rest⟩
  · exact .inl hn
  · exact .inr ⟨g, cap, cur, hv, hb, (hk.block g (Array.getElem?_eq_some_iff.1 hg).1 (by simp)).trans hg, rest⟩
set_option maxRecDepth 100000 in
set_option maxHeartbeats 1000000 in
/-- The document's Spans -/
theorem rspans_any {base q : Nat} {gr : Option Nat} {L : List Lw} (w : World) (h : RQ w base q gr L) (hs : L.length ≤ 1000000) :
    Calls Try.prog 18 #[.pointer (some ⟨q, 0, none⟩)] w fun e W' => ∃ v, e = .returned v ∧ SpsAt W' v (sps L) ∧ Kept [] w W' := by
  obtain ⟨a, cap, P, hR, hr, hl, -, hPl, hc1, hc2⟩ := h.three
  have c0 := hR.one
  obtain ⟨n, hn⟩ : ∃ n, L.length = n := ⟨_, rfl⟩
  rw [hn] at hr hc1 c0 hPl hs
  have hrow : Hid (∀ W, Kept [] w W → RowAt 42 base W (.slice a n cap) P gr) := fun W hk => hr.kept0 hk
  replace hPl : Hid (P.length = n) := hPl
  replace hn : Hid (L.length = n) := hn
  replace hl : Hid (P.map Lv.lw = L) := hl
  clear h hr hR
  go_enter Try.func18, Try.ntmps18
  go_wp2_with fail
  go_loopw [11, 3] (fun i u wr => ∃ k : Nat, k ≤ n ∧ i = .int .i64 k ∧ Hid (wr.ownsRow w.heap.size 24 2 u ((sps L).take k).length (spC ((sps L).take k))) ∧ Kept [] w wr) (fun i _ _ => n - (RowKit.intOf i).toNat)
  case atStart => exact ⟨0, by omega, rfl, World.ownsRow_nil _ _ _ _, Kept.refl _ _⟩
  case round =>
    obtain ⟨k, hk, rfl, hO, hkr⟩ := hrel
    by_cases hlt : k < n
    · obtain ⟨x, hx⟩ : ∃ x, P[k]? = some x := ⟨_, List.getElem?_eq_getElem (by rw [hPl.out]; exact hlt)⟩
      obtain ⟨g, off, rfl, rfl, hcs⟩ := (hrow.out wr hkr).at hx
      obtain ⟨d0, d1, d2, d3⟩ := hcs [] wr (Kept.refl _ _) (by simp)
      have kb := kept_alloc [] wr (.cells #[.int .i64 x.id, .int .i64 x.o, .int .i64 x.l, .slice x.sa x.len x.cap] 42)
      have kc := kept_alloc [] (wr.alloc (.cells #[.int .i64 x.id, .int .i64 x.o, .int .i64 x.l, .slice x.sa x.len x.cap] 42)) (.cells #[.int .i64 x.o, .int .i64 x.l] 24)
      have hn5 := blk_new (wr.alloc (.cells #[.int .i64 x.id, .int .i64 x.o, .int .i64 x.l, .slice x.sa x.len x.cap] 42)) 24 #[.int .i64 x.o, .int .i64 x.l]
      rw [World.size_alloc] at hn5
      have hO2 := owns_kept hO.out (kb.trans kc)
      have ej : Hid ((sps L).take (k + 1) = (sps L).take k ++ [(x.o, x.l)]) := (by
        show _ = _
        rw [List.take_add_one]
        congr 1
        unfold sps
        rw [List.getElem?_map, lw_at hl.out hx]
        rfl)
      have i1 : (k : Int) < (n : Int) := by omega
      have i2 : (k : Int) < 9223372036854775807 := by omega
      have hll : Hid (((sps L).take k).length ≤ 1000000) := (by show _ ≤ _; rw [List.length_take]; omega)
      have hbs : Hid (w.heap.size ≤ ((wr.alloc (.cells #[.int .i64 x.id, .int .i64 x.o, .int .i64 x.l, .slice x.sa x.len x.cap] 42)).alloc (.cells #[.int .i64 x.o, .int .i64 x.l] 24)).heap.size) := Nat.le_trans hkr.size (kb.trans kc).size
      have hm1 : Hid (n - (k + 1) < n - k) := (by show _ < _; omega)
      replace hO2 : Hid (World.ownsRow _ _ _ _ _ _ _) := hO2
      replace hn5 : Hid (Blk _ _ _ _) := hn5
      clear hcs hx hO
      go_wp2_with (at_builtin; refine wpList_append_span rfl _ _ rfl w.heap.size _ ((sps L).take k) x.o x.l (wr.heap.size + 1) rfl hO2.out rfl hn5.out hll.out hbs.out ?_; intro v1 w1 hI1 hg1; have hk1 : Kept [] w w1 := kept_grown hO2.out hg1 w (hkr.trans (kb.trans kc)) (Nat.le_refl _); rw [← ej.out] at hI1; clear hg1)
      go_roundw
      case rel => exact ⟨k + 1, by omega, by go_num, hI1, hk1⟩
      case measure => simpa [RowKit.intOf] using hm1.out
    · obtain rfl : k = n := by omega
      have i1 : ¬ ((k : Int) < (k : Int)) := by omega
      have et : (sps L).take k = sps L := List.take_of_length_le (by simp [sps, hn.out])
      have hO2 := hO.out
      rw [et] at hO2
      clear et hO
      go_wp2_with fail
      go_ret
      exact ⟨_, rfl, sps_owns hO2, hkr⟩
set_option maxRecDepth 100000 in
theorem Try.structSp : Try.prog.underlying 24 = some (.struct (Try.prog.fieldsOf 24)) := by kernel_rfl
set_option maxRecDepth 100000 in
theorem Try.stoodSp : Try.prog.stoodInHeld 24 = false := by kernel_rfl
set_option maxRecDepth 100000 in
theorem neq_span (o l : Int) (w : World) : (binOp .neq 24 (.agg #[.int .i64 o, .int .i64 l]) (.agg #[.int .i64 o, .int .i64 l])).run Try.prog w = .ok (.bool false) w := by
  rw [run_neq_struct, run_equalIn_agg w 9999 24 _ _ Try.structSp Try.stoodSp]
  simp [Program.fieldsOf, Try.underlying24, go_sem]
set_option maxRecDepth 100000 in
set_option maxHeartbeats 1000000 in
/-- twainref04.Spans, of the same ones -/
theorem same_spans (v u : Value) (l : List (Int × Int)) (hl : l.length ≤ 1000000) (w : World) (h1 : SpsAt w v l) (h2 : SpsAt w u l) :
    Calls Try.prog 16 #[v, u] w fun e W' => e = .returned (.bool true) ∧ Kept [] w W' := by
  have qe := fun (o m : Int) W => neq_span o m W
  have g1 : Hid (∀ W, Kept [] w W → SpsAt W v l) := fun W hk => h1.kept hk
  have g2 : Hid (∀ W, Kept [] w W → SpsAt W u l) := fun W hk => h2.kept hk
  obtain ⟨a, cap, rfl, hc1, -⟩ := h1
  obtain ⟨b, cap', rfl, hc2, -⟩ := h2
  obtain ⟨n, hn⟩ : ∃ n, l.length = n := ⟨_, rfl⟩
  rw [hn] at g1 g2 hc1 hc2 hl ⊢
  replace hn : Hid (l.length = n) := hn
  go_enter Try.func16, Try.ntmps16
  go_wp2_with fail
  go_loopw [13] (fun i wr => ∃ k : Nat, k ≤ n ∧ i = .int .i64 k ∧ Kept [] w wr) (fun i _ => n - (RowKit.intOf i).toNat)
  case atStart => exact ⟨0, by omega, rfl, Kept.refl _ _⟩
  case round =>
    obtain ⟨k, hk, rfl, hkr⟩ := hrel
    by_cases hlt : k < n
    · obtain ⟨x, hx⟩ : ∃ x, l[k]? = some x := ⟨_, List.getElem?_eq_getElem (by rw [hn.out]; exact hlt)⟩
      have i1 : (k : Int) < (n : Int) := by omega
      have i2 : (k : Int) < 9223372036854775807 := by omega
      have hm1 : Hid (n - (k + 1) < n - k) := (by show _ < _; omega)
      have f1 : ∃ g off, a = some ⟨g, off, none⟩ ∧ ∀ j, (wr.drewN j).cell? ⟨g, off + k * 2, none⟩ = some (.int .i64 x.1) ∧ (wr.drewN j).cell? ⟨g, off + k * 2 + 1, none⟩ = some (.int .i64 x.2) := by
        obtain ⟨a', c', e, _, h0 | ⟨g, off, e1, _, hc⟩⟩ := g1.out wr hkr
        · rw [h0] at hx
          simp at hx
        · injection e with e
          exact ⟨g, off, e.trans e1, fun j => hc k x hx⟩
      have f2 : ∃ g off, b = some ⟨g, off, none⟩ ∧ ∀ j, (wr.drewN j).cell? ⟨g, off + k * 2, none⟩ = some (.int .i64 x.1) ∧ (wr.drewN j).cell? ⟨g, off + k * 2 + 1, none⟩ = some (.int .i64 x.2) := by
        obtain ⟨a', c', e, _, h0 | ⟨g, off, e1, _, hc⟩⟩ := g2.out wr hkr
        · rw [h0] at hx
          simp at hx
        · injection e with e
          exact ⟨g, off, e.trans e1, fun j => hc k x hx⟩
      obtain ⟨g, off, rfl, hc⟩ := f1
      obtain ⟨g', off', rfl, hc'⟩ := f2
      have c0 := fun j => (hc j).1
      have c1 := fun j => (hc j).2
      have e0 := fun j => (hc' j).1
      have e1 := fun j => (hc' j).2
      clear hc hc' hx
      go_wp2_with fail
      go_quiet (fail)
      go_wp2_with fail
      go_roundw
      case rel => exact ⟨k + 1, by omega, by go_num, hkr.trans (kept_drewN [] _ _)⟩
      case measure => simpa [RowKit.intOf] using hm1.out
    · obtain rfl : k = n := by omega
      have i1 : ¬ ((k : Int) < (k : Int)) := by omega
      go_wp2_with fail
      go_ret
      exact ⟨rfl, hkr⟩
end Go.Proofs.Ythlnhmdeoapoeaa.Later
