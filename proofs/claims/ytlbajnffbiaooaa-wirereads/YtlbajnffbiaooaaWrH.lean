/-
  The walk of the document's Parse.
-/
import Derived.Test.YtlbajnffbiaooaaWrD
import Derived.Test.YtlbajnffbiaooaaWrG
import Derived.Deep.CutRange
namespace Go.Proofs.Ytlbajnffbiaooaa.Wire
open Go.RowKit
open Seal (enc ret_bool ret_int)
open Seal.Math

set_option maxRecDepth 100000 in
theorem step_store_blk {ops : Array Oper} {o : Oper} {a : Act} {w : World} {K : Act → World → Prop} {Q : Exit → Act → World → Prop} {E : Prop} (hgd : o.guard = none) (ty : TypeId) (x y : Operand) (ho : o.op = .store ty x y) (g : Nat) (t : TypeId) (c0 : Array Value) (cs : List Value)
    (hx : a.eval x = .pointer (some ⟨g, 0, none⟩)) (hy : a.eval y = .agg cs.toArray) (h0 : Blk w g t c0) (hl : cs.length = c0.size) (hi : (Try.prog.info? ty).map (·.size) = some cs.length) (h1 : ∀ v ∈ cs, v.oneCell' = true)
    (h : ∀ w', Blk w' g t cs.toArray → Kept [g] w w' → K (a.put o.dst undef) w') : if Region.wanted o (yielded ops a.tmps) = true then Oper.wp Try.prog o a w K Q else E := by
  have hw : Region.wanted o (yielded ops a.tmps) = true := by simp [Region.wanted, hgd]
  rw [if_pos hw]
  refine wp_store_mid ty x y ho g 0 cs.toArray hx hy ?_ (by simpa using hi) (all_oneCell_toArray h1) ?_
  · intro j hj
    rw [Nat.zero_add]
    refine ⟨?_, h0.frozen j⟩
    rw [h0.cell]
    simp at hj
    simp [show j < c0.size by omega]
  · have e : w.setCells g 0 cs = w.setRow g cs.toArray := setCells_row h0 hl h1
    refine h _ ?_ ?_
    · simp only [] at *
      rw [e]
      exact setRow_heap w g _ _ t _ h0
    · simp only [] at *
      rw [e]
      exact ⟨rfl, rfl, rfl, by simp [World.setRow], fun k _ hk => setRow_other w g k _ (by simpa using hk)⟩
theorem gotL_byte {bs : List Nat} (h : ∀ b ∈ bs, b < 256) : ∀ b ∈ Seal.gotL bs, b < 256 := by
  intro b hb
  unfold Seal.gotL at hb
  split at hb
  · simp at hb
  · split at hb
    · exact h b (List.mem_of_mem_take hb)
    · simp at hb
theorem row_ten {W : World} {sa : Option Addr} {z cap : Nat} {l : List Nat} (h : ByteRow 0 W.heap.size W (.slice sa z cap) l) (hl : 19 ≤ l.length) :
    ∃ g o, sa = some ⟨g, o, none⟩ ∧ 10 < z ∧ Hid (∀ A, Kept [] W A → A.cell? ⟨g, o + 10, none⟩ = some (.int .u8 ((l[10]?.getD 0 : Nat) : Int))) := by
  obtain ⟨g, o, e, _⟩ := h.cell 10 (by omega)
  subst e
  refine ⟨g, o, rfl, by have := h.len; omega, fun A hA => ?_⟩
  obtain ⟨g', o', e', _, hc⟩ := (h.kept (Nat.le_refl _) hA (by simp)).cell 10 (by omega)
  injection e' with e'
  injection e' with e1 e2 _
  subst e1 e2
  exact hc
theorem Own.other {A B : World} {base g : Nat} {t : TypeId} {v : Value} {l : List Nat} {cs : Array Value} (h : Own A base v l) (hb : Blk A g t cs) (ht : t ≠ 5) (hk : Kept [g] A B) : Own B base v l := by
  refine ⟨⟨h.row.1, h.row.2.imp id fun ⟨h', cap, cur, e1, hbh, hg, r⟩ => ⟨h', cap, cur, e1, hbh, (hk.block h' (Array.getElem?_eq_some_iff.1 hg).1 (fun hm => ?_)).trans hg, r⟩⟩, h.byt, Nat.le_trans h.le hk.size⟩
  rw [List.mem_singleton] at hm
  subst hm
  unfold Blk at hb
  rw [hb] at hg
  injection hg with hg
  injection hg with _ hg _
  exact ht hg
theorem own_emptyC (W : World) (ob : Obj) : Own ((W.alloc ob).alloc (.cells #[] 5)) (W.heap.size + 1) (.slice (some ⟨W.heap.size + 1, 0, none⟩) 0 0) [] := by
  have := own_empty (W.alloc ob)
  rw [World.size_alloc] at this
  exact this
set_option maxRecDepth 100000 in
/-- twainref18.Parse, of too few bytes, and of too many -/
theorem refParse_out (v : Value) (bs : List Nat) (lo hi : Nat) (w : World) (h : ByteRow lo hi w v bs) (hlen : bs.length ≤ 9223372036854775807) (hout : bs.length < 23 ∨ 223 < bs.length) :
    Calls Try.prog 15 #[v] w fun e w' => ∃ y : Pv, e = .returned (.tuple #[.agg #[.int .u32 (y.f : Int), .int .u32 (y.t : Int), .int .i64 y.k, .int .i64 y.s, .int .i64 y.a, .slice y.sa y.len y.cap], .int .i64 (parseE bs)]) ∧ y.ps = parseM bs ∧ y.At w.heap.size w'.heap.size w' ∧ Kept [] w w' := by
  have hb0 := blk_new w 25 #[.int .u32 0, .int .u32 0, .int .i64 0, .int .i64 0, .int .i64 0, .slice none 0 0]
  have hk0 := kept_alloc [] w (.cells #[.int .u32 0, .int .u32 0, .int .i64 0, .int .i64 0, .int .i64 0, .slice none 0 0] 25)
  have hp : Hid (parseM bs = p0 ∧ parseE bs = if bs.length < 23 then 8 else 11) := by
    show _ ∧ _
    have e : parseE bs = if bs.length < 23 then 8 else 11 := by
      unfold parseE
      by_cases h1 : bs.length < 23
      · rw [if_pos h1, if_pos h1]
      · rw [if_neg h1, if_neg h1, if_pos (by omega)]
    refine ⟨parseM_out ?_, e⟩
    rw [e]
    split <;> decide
  obtain ⟨_, sa, cap, rfl, _⟩ := h
  generalize parseE bs = E at *
  generalize parseM bs = M at *
  generalize bs.length = len at *
  by_cases h1 : len < 23
  · rw [if_pos h1] at hp
    clear hout
    go_enter Try.func15, Try.ntmps15
    go_wp2_with (first
      | (refine wpList_store_blk rfl 25 _ _ rfl w.heap.size 25 _ [.int .u32 0, .int .u32 0, .int .i64 0, .int .i64 0, .int .i64 0, .slice none 0 0] rfl rfl hb0 rfl Try.sizeP (by simp [Value.oneCell']) ?_; intro w1 hb1 hk1 hz1))
    refine bodyPost_ret (results_row_tmp rfl _ _ w.heap.size _ rfl (run_loadVar_row (P := Try.prog) w1 w.heap.size 25 25 _ (0, 0) _ hb1 Try.underlying25 rfl Try.sizeP)) rfl ?_
    exact ⟨pv0, by rw [hp.out.2]; rfl, hp.out.1.symm, pv0_at _ _ _, hk0.young hk1 (Nat.le_refl _)⟩
  · rw [if_neg h1] at hp
    have h2 : 223 < len := by omega
    clear hout h1
    go_enter Try.func15, Try.ntmps15
    go_wp2_with (first
      | (refine wpList_store_blk rfl 25 _ _ rfl w.heap.size 25 _ [.int .u32 0, .int .u32 0, .int .i64 0, .int .i64 0, .int .i64 0, .slice none 0 0] rfl rfl hb0 rfl Try.sizeP (by simp [Value.oneCell']) ?_; intro w1 hb1 hk1 hz1))
    refine bodyPost_ret (results_row_tmp rfl _ _ w.heap.size _ rfl (run_loadVar_row (P := Try.prog) w1 w.heap.size 25 25 _ (0, 0) _ hb1 Try.underlying25 rfl Try.sizeP)) rfl ?_
    exact ⟨pv0, by rw [hp.out.2]; rfl, hp.out.1.symm, pv0_at _ _ _, hk0.young hk1 (Nat.le_refl _)⟩
set_option maxRecDepth 100000 in
set_option maxHeartbeats 4000000 in
/-- twainref18.Parse, of so many bytes as a packet may have -/
theorem refParse_in (v : Value) (bs : List Nat) (lo hi : Nat) (w : World) (h : ByteRow lo hi w v bs) (hh : hi ≤ w.heap.size) (h23 : 23 ≤ bs.length) (h223 : bs.length ≤ 223) :
    Calls Try.prog 15 #[v] w fun e w' => ∃ y : Pv, e = .returned (.tuple #[.agg #[.int .u32 (y.f : Int), .int .u32 (y.t : Int), .int .i64 y.k, .int .i64 y.s, .int .i64 y.a, .slice y.sa y.len y.cap], .int .i64 (parseE bs)]) ∧ y.ps = parseM bs ∧ y.At w.heap.size w'.heap.size w' ∧ Kept [] w w' := by
  have hb0 : PIn (w.alloc (.cells #[.int .u32 0, .int .u32 0, .int .i64 0, .int .i64 0, .int .i64 0, .slice none 0 0] 25)) w.heap.size 0 0 0 0 0 (.slice none 0 0) := blk_new w 25 #[.int .u32 0, .int .u32 0, .int .i64 0, .int .i64 0, .int .i64 0, .slice none 0 0]
  have hk0 := kept_alloc [] w (.cells #[.int .u32 0, .int .u32 0, .int .i64 0, .int .i64 0, .int .i64 0, .slice none 0 0] 25)
  have q16 : ∀ A, Kept [] w A → Calls Try.prog 27 #[v] A fun e w' => e = .returned (.tuple #[.int .i64 (Seal.getv 2 bs), .bool (Seal.getB 2 bs)]) ∧ w' = A := fun A hA => Seal.refGet16_any _ v bs A (by omega) ((h.kept hh hA (by simp)).at (Nat.le_trans hh hA.size))
  have qG : ∀ A, Kept [] w A → Calls Try.prog 28 #[v] A fun e w' => ∃ sa z cap, e = .returned (.tuple #[.slice sa z cap, .int .i64 (Seal.gotE bs : Nat)]) ∧ ByteRow 0 w'.heap.size w' (.slice sa z cap) (Seal.gotL bs) ∧ Kept [] A w' := fun A hA => by
    refine (Seal.refGet5_any v bs A (by omega) ((h.kept hh hA (by simp)).at (Nat.le_trans hh hA.size))).mono ?_
    rintro e w' ⟨v', rfl, hb, hB⟩
    obtain ⟨sa, z, cap, rfl, hr⟩ := row_of hb
    exact ⟨sa, z, cap, rfl, hr, Kept.of_below hB []⟩
  have hR : ∀ A, Kept [] (w.alloc (.cells #[.int .u32 0, .int .u32 0, .int .i64 0, .int .i64 0, .int .i64 0, .slice none 0 0] 25)) A → PIn A w.heap.size 0 0 0 0 0 (.slice none 0 0) := fun A hA => hb0.kept hA (by simp)
  have hpE : parseE bs = if Seal.getv 2 bs ≠ bs.length then 9 else if Seal.gotE bs ≠ 0 then (Seal.gotE bs : Int) else if good (readP (Seal.gotL bs)) = true then 0 else 9 := by
    show (if bs.length < 23 then (8 : Int) else if 223 < bs.length then 11 else _) = _
    rw [if_neg (by omega), if_neg (by omega)]
  have hG0 : Seal.gotE bs = 0 → 19 ≤ (Seal.gotL bs).length ∧ (Seal.gotL bs).length ≤ 219 := fun e => by
    obtain ⟨_, _, e3⟩ := got_in e
    rw [e3, List.length_take]
    omega
  have hgb : Seal.getv 2 bs < 65536 := Seal.getv_lt h.1
  obtain ⟨_, sa, cap, rfl, _⟩ := id h
  replace h : Hid _ := h
  obtain ⟨W0, hW0⟩ : ∃ W0, w.alloc (.cells #[.int .u32 0, .int .u32 0, .int .i64 0, .int .i64 0, .int .i64 0, .slice none 0 0] 25) = W0 := ⟨_, rfl⟩
  rw [hW0] at hb0 hk0 hR
  by_cases hn : Seal.getv 2 bs = bs.length
  · rw [if_neg (by omega)] at hpE
    by_cases hE : Seal.gotE bs = 0
    · rw [if_neg (by omega)] at hpE
      obtain ⟨l19, l219⟩ := hG0 hE
      rw [hE] at qG
      rw [hn] at q16
      clear hG0 hE hn
      have hpO : Hid (good (readP (Seal.gotL bs)) = true → parseM bs = readP (Seal.gotL bs) ∧ parseE bs = 0) := fun hg => by
        have e : parseE bs = 0 := by rw [hpE, if_pos hg]
        exact ⟨parseM_in e, e⟩
      have hpB : Hid (good (readP (Seal.gotL bs)) = false → parseM bs = p0 ∧ parseE bs = 9) := fun hg => by
        have e : parseE bs = 9 := by rw [hpE, if_neg (by rw [hg]; simp)]
        exact ⟨parseM_out (by rw [e]; decide), e⟩
      clear hpE
      have hGb : ∀ b ∈ Seal.gotL bs, b < 256 := gotL_byte h.out.1
      generalize parseE bs = PE at *
      generalize parseM bs = PM at *
      generalize bs.length = len at *
      generalize Seal.getB 2 bs = b2 at *
      generalize Seal.gotL bs = GL at *
      have lGL : Hid (GL.length ≤ 219) := l219
      have l19' : Hid (19 ≤ GL.length) := l19
      clear l19 l219
      rename Hid (19 ≤ GL.length) => l19
      have hn2 : Hid (2 ≤ GL.length) := by show _ ≤ _; have := l19.out; omega
      have hn6 : Hid (6 ≤ GL.length) := by show _ ≤ _; have := l19.out; omega
      have hn11 : Hid (11 ≤ GL.length) := by show _ ≤ _; have := l19.out; omega
      have hn15 : Hid (15 ≤ GL.length) := by show _ ≤ _; have := l19.out; omega
      have hn19 : Hid (19 ≤ GL.length) := by show _ ≤ _; have := l19.out; omega
      have vl : ∀ n, val ((GL.drop n).take 4) < 4294967296 := fun n => by
        have h1 := val_lt ((GL.drop n).take 4) (fun b hb => hGb b (List.mem_of_mem_drop (List.mem_of_mem_take hb)))
        have h2 : 256 ^ ((GL.drop n).take 4).length ≤ 256 ^ 4 := Nat.pow_le_pow_right (by omega) (by rw [List.length_take]; omega)
        have h3 := Nat.lt_of_lt_of_le h1 h2
        simpa using h3
      have gv : ∀ n, n + 4 ≤ GL.length → Seal.getv 4 (GL.drop n) = val ((GL.drop n).take 4) := fun n hn => Seal.getv_in (by rw [List.length_drop]; omega)
      have gv2 : Hid (Seal.getv 4 (GL.drop 2) = val ((GL.drop 2).take 4)) := gv 2 (by have := l19.out; omega)
      have gv6 : Hid (Seal.getv 4 (GL.drop 6) = val ((GL.drop 6).take 4)) := gv 6 (by have := l19.out; omega)
      have gv11 : Hid (Seal.getv 4 (GL.drop 11) = val ((GL.drop 11).take 4)) := gv 11 (by have := l19.out; omega)
      have gv15 : Hid (Seal.getv 4 (GL.drop 15) = val ((GL.drop 15).take 4)) := gv 15 (by have := l19.out; omega)
      have vF : Hid (val ((GL.drop 2).take 4) < 4294967296) := vl 2
      have vT : Hid (val ((GL.drop 6).take 4) < 4294967296) := vl 6
      have vN := vl 11
      have vM := vl 15
      have hE : Hid (readP GL = ⟨val ((GL.drop 2).take 4), val ((GL.drop 6).take 4), (GL[10]?.getD 0 : Nat), (val ((GL.drop 11).take 4) : Nat), (val ((GL.drop 15).take 4) : Nat), GL.drop 19⟩) := rfl
      have hK256 : GL[10]?.getD 0 < 256 := getD_lt GL 10 hGb
      have hdl : Hid ((GL.drop 19).length ≤ 1000) := by
        show _ ≤ _
        have := lGL.out
        rw [List.length_drop]
        omega
      clear vl gv hGb
      generalize val ((GL.drop 2).take 4) = F at *
      generalize val ((GL.drop 6).take 4) = T at *
      generalize val ((GL.drop 11).take 4) = N at *
      generalize val ((GL.drop 15).take 4) = M at *
      obtain ⟨K, kk⟩ : ∃ K, GL[10]?.getD 0 = K := ⟨_, rfl⟩
      replace kk : Hid (GL[10]?.getD 0 = K) := kk
      rw [kk.out] at hE hK256
      generalize readP GL = RP at *
      go_enter Try.func15, Try.ntmps15
      go_upto_region 15 with (first
        | (go_at_call 27; refine (q16 _ hk0).mono ?_; rintro e w1 ⟨rfl, rfl⟩)
        | (go_at_call 28; refine (qG _ hk0).mono ?_; rintro e w2 ⟨sa2, z2, cap2, rfl, hr2, hk2⟩; obtain ⟨g2, o2, rfl, hz10, hc10⟩ := row_ten hr2 l19.out; rw [kk.out] at hc10; replace hr2 : Hid (ByteRow 0 w2.heap.size w2 (.slice (some ⟨g2, o2, none⟩) z2 cap2) GL) := hr2)
        | (refine wpList_drop rfl _ _ rfl 0 w2.heap.size w2 _ GL 2 rfl rfl hr2.out hn2.out ?_; intro sa6 z6 cap6 hr6; have qz := Seal.refGet32_any _ _ _ w2 (by have := lGL.out; rw [List.length_drop]; omega) (hr6.at (Nat.le_refl _)); rw [gv2.out] at qz)
        | (refine wpList_drop rfl _ _ rfl 0 w2.heap.size w2 _ GL 6 rfl rfl hr2.out hn6.out ?_; intro sa6 z6 cap6 hr6; have qz := Seal.refGet32_any _ _ _ w2 (by have := lGL.out; rw [List.length_drop]; omega) (hr6.at (Nat.le_refl _)); rw [gv6.out] at qz)
        | (refine wpList_drop rfl _ _ rfl 0 w2.heap.size w2 _ GL 11 rfl rfl hr2.out hn11.out ?_; intro sa6 z6 cap6 hr6; have qz := Seal.refGet32_any _ _ _ w2 (by have := lGL.out; rw [List.length_drop]; omega) (hr6.at (Nat.le_refl _)); rw [gv11.out] at qz)
        | (refine wpList_drop rfl _ _ rfl 0 w2.heap.size w2 _ GL 15 rfl rfl hr2.out hn15.out ?_; intro sa6 z6 cap6 hr6; have qz := Seal.refGet32_any _ _ _ w2 (by have := lGL.out; rw [List.length_drop]; omega) (hr6.at (Nat.le_refl _)); rw [gv15.out] at qz)
        | (go_at_call 29; refine qz.mono ?_; rintro e w2 ⟨rfl, rfl⟩; clear qz hr6))
      obtain ⟨sd, cd, hs19, hr19⟩ := row_drop hr2.out 19 hn19.out
      have hs19' : ∀ w, (Instr.sliceAt 23 (.slice (some ⟨g2, o2, none⟩) z2 cap2) (some (.int .i64 19)) none none).run Try.prog w = .ok (.slice sd (GL.length - 19) cd) w := hs19
      clear hs19
      replace hr19 : Hid (ByteRow 0 w2.heap.size w2 (.slice sd (GL.length - 19) cd) (GL.drop 19)) := hr19
      have hl19 : Hid ((GL.drop 19).length ≤ 1000000) := Nat.le_trans hdl.out (by decide)
      generalize GL.length - 19 = z19 at *
      generalize GL.drop 19 = D at *
      go_cut [16] from 68 to 82 (fun p A => ∃ g sa z cap, p = .pointer (some ⟨g, 0, none⟩) ∧ PIn A g F T K N M (.slice sa z cap) ∧ Own A w2.heap.size (.slice sa z cap) D ∧ w2.heap.size ≤ g ∧ Kept [] w2 A)
      case first =>
        refine wp_region_held_drew (S := fun A => Kept [] w2 A) (by kernel_rfl) (kept_drew [] w2) (fun hP => ?_)
        have hH := hP
        clear hP
        refine wpAnyH_take (i := 0) (oi := { dst := some 68, op := Op.move (Operand.tmp 8), type := 22, pos := "ref.go:68", after := #[], guard := none }) (v := (.int .u32 (F : Int))) rfl (by kernel_rfl) (by kernel_rfl) (by kernel_rfl) (fun _ _ _ h => h) (Or.inl ⟨by rfl, fun W hSw => by go_simp⟩) hH ?_
        try simp only [Act.put, List.setIfInBounds_toArray, List.set_cons_zero, List.set_cons_succ]
        refine wpAnyH_take (i := 1) (oi := { dst := some 69, op := Op.move (Operand.tmp 10), type := 22, pos := "ref.go:68", after := #[], guard := none }) (v := (.int .u32 (T : Int))) rfl (by kernel_rfl) (by kernel_rfl) (by kernel_rfl) (fun _ _ _ h => h) (Or.inl ⟨by rfl, fun W hSw => by go_simp⟩) hH ?_
        try simp only [Act.put, List.setIfInBounds_toArray, List.set_cons_zero, List.set_cons_succ]
        refine wpAnyH_take (i := 2) (oi := { dst := some 70, op := Op.move (Operand.tmp 6), type := 23, pos := "ref.go:68", after := #[], guard := none }) (v := (.slice (some ⟨g2, o2, none⟩) z2 cap2)) rfl (by kernel_rfl) (by kernel_rfl) (by kernel_rfl) (fun _ _ _ h => h) (Or.inl ⟨by rfl, fun W hSw => by go_simp⟩) hH ?_
        try simp only [Act.put, List.setIfInBounds_toArray, List.set_cons_zero, List.set_cons_succ]
        refine wpAnyH_take (i := 3) (oi := { dst := some 71, op := Op.indexAddr 23 (Operand.tmp 70) (Operand.const (Value.int IntKind.i64 10)), type := 0, pos := "ref.go:68", after := #[{ on := 2, ground := Ground.data }], guard := none }) (v := (.pointer (some ⟨g2, o2 + 10, none⟩))) rfl (by kernel_rfl) (by kernel_rfl) (by kernel_rfl) (fun _ _ _ h => h) (Or.inl ⟨by rfl, fun W hSw => by go_simp; intro hbad; omega⟩) hH ?_
        try simp only [Act.put, List.setIfInBounds_toArray, List.set_cons_zero, List.set_cons_succ]
        refine wpAnyH_take (i := 4) (oi := { dst := some 72, op := Op.load 5 (Operand.tmp 71), type := 5, pos := "ref.go:68", after := #[{ on := 3, ground := Ground.data }], guard := none }) (v := (.int .u8 (K : Int))) rfl (by kernel_rfl) (by kernel_rfl) (by kernel_rfl) (fun _ _ _ h => h) (Or.inl ⟨by rfl, fun W hSw => by have hc := hc10.out W hSw; go_simp⟩) hH ?_
        try simp only [Act.put, List.setIfInBounds_toArray, List.set_cons_zero, List.set_cons_succ]
        refine wpAnyH_take (i := 5) (oi := { dst := some 73, op := Op.convert 5 3 (Operand.tmp 72), type := 3, pos := "ref.go:68", after := #[{ on := 4, ground := Ground.data }], guard := none }) (v := (.int .i64 (K : Int))) rfl (by kernel_rfl) (by kernel_rfl) (by kernel_rfl) (fun _ _ _ h => h) (Or.inl ⟨by rfl, fun W hSw => by go_simp; rw [IntKind.wrap_i64]; omega⟩) hH ?_
        try simp only [Act.put, List.setIfInBounds_toArray, List.set_cons_zero, List.set_cons_succ]
        refine wpAnyH_take (i := 6) (oi := { dst := some 74, op := Op.move (Operand.tmp 12), type := 22, pos := "ref.go:68", after := #[], guard := none }) (v := (.int .u32 (N : Int))) rfl (by kernel_rfl) (by kernel_rfl) (by kernel_rfl) (fun _ _ _ h => h) (Or.inl ⟨by rfl, fun W hSw => by go_simp⟩) hH ?_
        try simp only [Act.put, List.setIfInBounds_toArray, List.set_cons_zero, List.set_cons_succ]
        refine wpAnyH_take (i := 7) (oi := { dst := some 75, op := Op.convert 22 3 (Operand.tmp 74), type := 3, pos := "ref.go:68", after := #[{ on := 6, ground := Ground.data }], guard := none }) (v := (.int .i64 (N : Int))) rfl (by kernel_rfl) (by kernel_rfl) (by kernel_rfl) (fun _ _ _ h => h) (Or.inl ⟨by rfl, fun W hSw => by go_simp; rw [IntKind.wrap_i64]; omega⟩) hH ?_
        try simp only [Act.put, List.setIfInBounds_toArray, List.set_cons_zero, List.set_cons_succ]
        refine wpAnyH_take (i := 8) (oi := { dst := some 76, op := Op.move (Operand.tmp 14), type := 22, pos := "ref.go:68", after := #[], guard := none }) (v := (.int .u32 (M : Int))) rfl (by kernel_rfl) (by kernel_rfl) (by kernel_rfl) (fun _ _ _ h => h) (Or.inl ⟨by rfl, fun W hSw => by go_simp⟩) hH ?_
        try simp only [Act.put, List.setIfInBounds_toArray, List.set_cons_zero, List.set_cons_succ]
        refine wpAnyH_take (i := 9) (oi := { dst := some 77, op := Op.convert 22 3 (Operand.tmp 76), type := 3, pos := "ref.go:68", after := #[{ on := 8, ground := Ground.data }], guard := none }) (v := (.int .i64 (M : Int))) rfl (by kernel_rfl) (by kernel_rfl) (by kernel_rfl) (fun _ _ _ h => h) (Or.inl ⟨by rfl, fun W hSw => by go_simp; rw [IntKind.wrap_i64]; omega⟩) hH ?_
        try simp only [Act.put, List.setIfInBounds_toArray, List.set_cons_zero, List.set_cons_succ]
        refine wpAnyH_take (i := 11) (oi := { dst := some 79, op := Op.move (Operand.tmp 6), type := 23, pos := "ref.go:68", after := #[], guard := none }) (v := (.slice (some ⟨g2, o2, none⟩) z2 cap2)) rfl (by kernel_rfl) (by kernel_rfl) (by kernel_rfl) (fun _ _ _ h => h) (Or.inl ⟨by rfl, fun W hSw => by go_simp⟩) hH ?_
        try simp only [Act.put, List.setIfInBounds_toArray, List.set_cons_zero, List.set_cons_succ]
        refine wpAnyH_take (i := 12) (oi := { dst := some 80, op := Op.slice 23 (Operand.tmp 79) (some (Operand.const (Value.int IntKind.i64 19))) none none, type := 23, pos := "ref.go:68", after := #[{ on := 11, ground := Ground.data }], guard := none }) (v := (.slice sd z19 cd)) rfl (by kernel_rfl) (by kernel_rfl) (by kernel_rfl) (fun _ _ _ h => h) (Or.inl ⟨by rfl, fun W hSw => by go_simp⟩) hH ?_
        try simp only [Act.put, List.setIfInBounds_toArray, List.set_cons_zero, List.set_cons_succ]
        refine wpAnyH_ready (rs := [10, 15]) (by kernel_rfl) (by simp) ?_
        refine AllReadyH.cons (o := { dst := some 78, op := Op.buildSlice 23 0 #[], type := 23, pos := "ref.go:68", after := #[], guard := none }) rfl (fun KK hKK => ?_) (AllReadyH.cons (o := { dst := some 16, op := Op.alloc 25, type := 0, pos := "ref.go:68", after := #[], guard := none }) rfl (fun KK hKK => ?_) AllReadyH.nil)
        · go_simp
          have hH1 := hH.trans (kept_alloc [] _ (.cells #[] 5))
          refine hKK.out _ _ hH1 (fun _ => ?_)
          replace hH := hH1
          clear hKK KK hH1
          try simp only [Act.put, List.setIfInBounds_toArray, List.set_cons_zero, List.set_cons_succ]
          refine wpAnyH_ready (rs := [13, 15]) (by kernel_rfl) (by simp) ?_
          refine AllReadyH.cons (o := { dst := some 81, op := Op.call { callee := Callee.builtin Builtin.append, args := #[Operand.tmp 78, Operand.tmp 80], argTypes := #[23, 23] }, type := 23, pos := "ref.go:68", after := #[{ on := 10, ground := Ground.data }, { on := 12, ground := Ground.data }], guard := none }) rfl (fun KK hKK => ?_) (AllReadyH.cons (o := { dst := some 16, op := Op.alloc 25, type := 0, pos := "ref.go:68", after := #[], guard := none }) rfl (fun KK hKK => ?_) AllReadyH.nil)
          · refine step_append_z rfl (.tmp 78) (.tmp 80) rfl (w2.drew.heap.size) (.slice (some ⟨w2.drew.heap.size, 0, none⟩) 0 0) (.slice sd z19 cd) 0 w2.heap.size [] D (by simp [Act.eval]) (own_empty w2.drew) (by simp [Act.eval]) (hr19.out.kept (Nat.le_refl _) hH (by simp)) (by simpa using hl19.out) ?_
            intro sa7 z7 cap7 w7 ho7 hg7
            have hk7 : Kept [] w2 w7 := kept_grown (own_empty w2.drew).row hg7 w2 hH (Nat.le_refl _)
            have hH1 := hk7
            refine hKK.out _ _ hH1 (fun _ => ?_)
            replace hH := hH1
            clear hKK KK hH1
            try simp only [Act.put, List.setIfInBounds_toArray, List.set_cons_zero, List.set_cons_succ]
            refine wpAnyH_take (i := 14) (oi := { dst := some 82, op := Op.build 25 #[(0, Operand.tmp 68), (1, Operand.tmp 69), (2, Operand.tmp 73), (3, Operand.tmp 75), (4, Operand.tmp 77), (5, Operand.tmp 81)], type := 25, pos := "ref.go:68", after := #[{ on := 0, ground := Ground.data }, { on := 1, ground := Ground.data }, { on := 5, ground := Ground.data }, { on := 7, ground := Ground.data }, { on := 9, ground := Ground.data }, { on := 13, ground := Ground.data }], guard := none }) (v := (.agg #[.int .u32 (F : Int), .int .u32 (T : Int), .int .i64 (K : Int), .int .i64 (N : Int), .int .i64 (M : Int), .slice sa7 z7 cap7])) rfl (by kernel_rfl) (by kernel_rfl) (by kernel_rfl) (fun _ _ _ h => h) (Or.inl ⟨by rfl, fun W hSw => by go_simp⟩) hH ?_
            try simp only [Act.put, List.setIfInBounds_toArray, List.set_cons_zero, List.set_cons_succ]
            refine wpAnyH_ready (rs := [15]) (by kernel_rfl) (by simp) ?_
            refine AllReadyH.cons (o := { dst := some 16, op := Op.alloc 25, type := 0, pos := "ref.go:68", after := #[], guard := none }) rfl (fun KK hKK => ?_) AllReadyH.nil
            go_simp
            have hH1 := hH.trans (kept_alloc [] _ (.cells #[.int .u32 0, .int .u32 0, .int .i64 0, .int .i64 0, .int .i64 0, .slice none 0 0] 25))
            refine hKK.out _ _ hH1 (fun _ => ?_)
            replace hH := hH1
            clear hKK KK hH1
            try simp only [Act.put, List.setIfInBounds_toArray, List.set_cons_zero, List.set_cons_succ]
            have hbz : PIn (w7.alloc (.cells #[.int .u32 0, .int .u32 0, .int .i64 0, .int .i64 0, .int .i64 0, .slice none 0 0] 25)) w7.heap.size 0 0 0 0 0 (.slice none 0 0) := blk_new w7 25 #[.int .u32 0, .int .u32 0, .int .i64 0, .int .i64 0, .int .i64 0, .slice none 0 0]
            have hge : w2.heap.size ≤ w7.heap.size := hk7.size
            have ho8 := ((ho7.low (show w2.heap.size ≤ w2.drew.heap.size from Nat.le_refl _)).is (List.nil_append D)).alloc (.cells #[.int .u32 0, .int .u32 0, .int .i64 0, .int .i64 0, .int .i64 0, .slice none 0 0] 25)
            refine wpAnyH_ready (rs := [16]) (by kernel_rfl) (by simp) ?_
            refine AllReadyH.cons (o := { dst := none, op := Op.store 25 (Operand.tmp 16) (Operand.tmp 82), type := 0, pos := "ref.go:68", after := #[{ on := 15, ground := Ground.data }, { on := 14, ground := Ground.data }, { on := 13, ground := Ground.chain }, { on := 0, ground := Ground.phase }, { on := 1, ground := Ground.phase }, { on := 2, ground := Ground.phase }, { on := 3, ground := Ground.phase }, { on := 4, ground := Ground.phase }, { on := 5, ground := Ground.phase }, { on := 6, ground := Ground.phase }, { on := 7, ground := Ground.phase }, { on := 8, ground := Ground.phase }, { on := 9, ground := Ground.phase }, { on := 10, ground := Ground.phase }, { on := 11, ground := Ground.phase }, { on := 12, ground := Ground.phase }, { on := 13, ground := Ground.phase }, { on := 14, ground := Ground.phase }, { on := 15, ground := Ground.phase }], guard := none }) rfl (fun KK hKK => ?_) AllReadyH.nil
            refine step_store_blk rfl 25 (.tmp 16) (.tmp 82) rfl (w7.heap.size) 25 _ [.int .u32 (F : Int), .int .u32 (T : Int), .int .i64 (K : Int), .int .i64 (N : Int), .int .i64 (M : Int), .slice sa7 z7 cap7] (by simp [Act.eval]) (by simp [Act.eval]) hbz rfl Try.sizeP (by simp [Value.oneCell']) ?_
            intro w8 hb8 hk8
            replace ho8 := ho8.other hbz (by decide) hk8
            have hH1 := hH.young hk8 hge
            refine hKK.out _ _ hH1 (fun _ => ?_)
            replace hH := hH1
            clear hKK KK hH1
            refine wpAnyH_done (by kernel_rfl) ?_ _
            go_wp2_with fail
            go_meet
            exact ⟨w7.heap.size, sa7, z7, cap7, rfl, hb8, ho8, hge, hH⟩
          · go_simp
            have hH1 := hH.trans (kept_alloc [] _ (.cells #[.int .u32 0, .int .u32 0, .int .i64 0, .int .i64 0, .int .i64 0, .slice none 0 0] 25))
            refine hKK.out _ _ hH1 (fun _ => ?_)
            replace hH := hH1
            clear hKK KK hH1
            try simp only [Act.put, List.setIfInBounds_toArray, List.set_cons_zero, List.set_cons_succ]
            refine wpAnyH_ready (rs := [13]) (by kernel_rfl) (by simp) ?_
            refine AllReadyH.cons (o := { dst := some 81, op := Op.call { callee := Callee.builtin Builtin.append, args := #[Operand.tmp 78, Operand.tmp 80], argTypes := #[23, 23] }, type := 23, pos := "ref.go:68", after := #[{ on := 10, ground := Ground.data }, { on := 12, ground := Ground.data }], guard := none }) rfl (fun KK hKK => ?_) AllReadyH.nil
            refine step_append_z rfl (.tmp 78) (.tmp 80) rfl (w2.drew.heap.size) (.slice (some ⟨w2.drew.heap.size, 0, none⟩) 0 0) (.slice sd z19 cd) 0 w2.heap.size [] D (by simp [Act.eval]) ((own_empty w2.drew).alloc (.cells #[.int .u32 0, .int .u32 0, .int .i64 0, .int .i64 0, .int .i64 0, .slice none 0 0] 25)) (by simp [Act.eval]) (hr19.out.kept (Nat.le_refl _) hH (by simp)) (by simpa using hl19.out) ?_
            intro sa7 z7 cap7 w7 ho7 hg7
            have hk7 : Kept [] w2 w7 := kept_grown ((own_empty w2.drew).alloc (.cells #[.int .u32 0, .int .u32 0, .int .i64 0, .int .i64 0, .int .i64 0, .slice none 0 0] 25)).row hg7 w2 hH (Nat.le_refl _)
            have hH1 := hk7
            refine hKK.out _ _ hH1 (fun _ => ?_)
            replace hH := hH1
            clear hKK KK hH1
            try simp only [Act.put, List.setIfInBounds_toArray, List.set_cons_zero, List.set_cons_succ]
            have hbz0 : PIn ((w2.drew.alloc (.cells #[] 5)).alloc (.cells #[.int .u32 0, .int .u32 0, .int .i64 0, .int .i64 0, .int .i64 0, .slice none 0 0] 25)) (w2.drew.heap.size + 1) 0 0 0 0 0 (.slice none 0 0) := by
              have := blk_new (w2.drew.alloc (.cells #[] 5)) 25 #[.int .u32 0, .int .u32 0, .int .i64 0, .int .i64 0, .int .i64 0, .slice none 0 0]
              rw [World.size_alloc] at this
              exact this
            have hbz : PIn w7 (w2.drew.heap.size + 1) 0 0 0 0 0 (.slice none 0 0) := (hg7.block _ (Blk.lt hbz0) (by intro e; injection e with e; simp at e)).trans hbz0
            have hge : w2.heap.size ≤ w2.drew.heap.size + 1 := Nat.le_succ _
            have ho8 := (ho7.low (show w2.heap.size ≤ w2.drew.heap.size from Nat.le_refl _)).is (List.nil_append D)
            refine wpAnyH_take (i := 14) (oi := { dst := some 82, op := Op.build 25 #[(0, Operand.tmp 68), (1, Operand.tmp 69), (2, Operand.tmp 73), (3, Operand.tmp 75), (4, Operand.tmp 77), (5, Operand.tmp 81)], type := 25, pos := "ref.go:68", after := #[{ on := 0, ground := Ground.data }, { on := 1, ground := Ground.data }, { on := 5, ground := Ground.data }, { on := 7, ground := Ground.data }, { on := 9, ground := Ground.data }, { on := 13, ground := Ground.data }], guard := none }) (v := (.agg #[.int .u32 (F : Int), .int .u32 (T : Int), .int .i64 (K : Int), .int .i64 (N : Int), .int .i64 (M : Int), .slice sa7 z7 cap7])) rfl (by kernel_rfl) (by kernel_rfl) (by kernel_rfl) (fun _ _ _ h => h) (Or.inl ⟨by rfl, fun W hSw => by go_simp⟩) hH ?_
            try simp only [Act.put, List.setIfInBounds_toArray, List.set_cons_zero, List.set_cons_succ]
            refine wpAnyH_ready (rs := [16]) (by kernel_rfl) (by simp) ?_
            refine AllReadyH.cons (o := { dst := none, op := Op.store 25 (Operand.tmp 16) (Operand.tmp 82), type := 0, pos := "ref.go:68", after := #[{ on := 15, ground := Ground.data }, { on := 14, ground := Ground.data }, { on := 13, ground := Ground.chain }, { on := 0, ground := Ground.phase }, { on := 1, ground := Ground.phase }, { on := 2, ground := Ground.phase }, { on := 3, ground := Ground.phase }, { on := 4, ground := Ground.phase }, { on := 5, ground := Ground.phase }, { on := 6, ground := Ground.phase }, { on := 7, ground := Ground.phase }, { on := 8, ground := Ground.phase }, { on := 9, ground := Ground.phase }, { on := 10, ground := Ground.phase }, { on := 11, ground := Ground.phase }, { on := 12, ground := Ground.phase }, { on := 13, ground := Ground.phase }, { on := 14, ground := Ground.phase }, { on := 15, ground := Ground.phase }], guard := none }) rfl (fun KK hKK => ?_) AllReadyH.nil
            refine step_store_blk rfl 25 (.tmp 16) (.tmp 82) rfl (w2.drew.heap.size + 1) 25 _ [.int .u32 (F : Int), .int .u32 (T : Int), .int .i64 (K : Int), .int .i64 (N : Int), .int .i64 (M : Int), .slice sa7 z7 cap7] (by simp [Act.eval]) (by simp [Act.eval]) hbz rfl Try.sizeP (by simp [Value.oneCell']) ?_
            intro w8 hb8 hk8
            replace ho8 := ho8.other hbz (by decide) hk8
            have hH1 := hH.young hk8 hge
            refine hKK.out _ _ hH1 (fun _ => ?_)
            replace hH := hH1
            clear hKK KK hH1
            refine wpAnyH_done (by kernel_rfl) ?_ _
            go_wp2_with fail
            go_meet
            exact ⟨w2.drew.heap.size + 1, sa7, z7, cap7, rfl, hb8, ho8, hge, hH⟩
        · go_simp
          have hH1 := hH.trans (kept_alloc [] _ (.cells #[.int .u32 0, .int .u32 0, .int .i64 0, .int .i64 0, .int .i64 0, .slice none 0 0] 25))
          refine hKK.out _ _ hH1 (fun _ => ?_)
          replace hH := hH1
          clear hKK KK hH1
          try simp only [Act.put, List.setIfInBounds_toArray, List.set_cons_zero, List.set_cons_succ]
          refine wpAnyH_ready (rs := [10]) (by kernel_rfl) (by simp) ?_
          refine AllReadyH.cons (o := { dst := some 78, op := Op.buildSlice 23 0 #[], type := 23, pos := "ref.go:68", after := #[], guard := none }) rfl (fun KK hKK => ?_) AllReadyH.nil
          go_simp
          have hH1 := hH.trans (kept_alloc [] _ (.cells #[] 5))
          refine hKK.out _ _ hH1 (fun _ => ?_)
          replace hH := hH1
          clear hKK KK hH1
          try simp only [Act.put, List.setIfInBounds_toArray, List.set_cons_zero, List.set_cons_succ]
          refine wpAnyH_ready (rs := [13]) (by kernel_rfl) (by simp) ?_
          refine AllReadyH.cons (o := { dst := some 81, op := Op.call { callee := Callee.builtin Builtin.append, args := #[Operand.tmp 78, Operand.tmp 80], argTypes := #[23, 23] }, type := 23, pos := "ref.go:68", after := #[{ on := 10, ground := Ground.data }, { on := 12, ground := Ground.data }], guard := none }) rfl (fun KK hKK => ?_) AllReadyH.nil
          refine step_append_z rfl (.tmp 78) (.tmp 80) rfl (w2.drew.heap.size + 1) (.slice (some ⟨w2.drew.heap.size + 1, 0, none⟩) 0 0) (.slice sd z19 cd) 0 w2.heap.size [] D (by simp [Act.eval]) (own_emptyC w2.drew (.cells #[.int .u32 0, .int .u32 0, .int .i64 0, .int .i64 0, .int .i64 0, .slice none 0 0] 25)) (by simp [Act.eval]) (hr19.out.kept (Nat.le_refl _) hH (by simp)) (by simpa using hl19.out) ?_
          intro sa7 z7 cap7 w7 ho7 hg7
          have hk7 : Kept [] w2 w7 := kept_grown (own_emptyC w2.drew (.cells #[.int .u32 0, .int .u32 0, .int .i64 0, .int .i64 0, .int .i64 0, .slice none 0 0] 25)).row hg7 w2 hH (Nat.le_succ _)
          have hH1 := hk7
          refine hKK.out _ _ hH1 (fun _ => ?_)
          replace hH := hH1
          clear hKK KK hH1
          try simp only [Act.put, List.setIfInBounds_toArray, List.set_cons_zero, List.set_cons_succ]
          have hbz0 : PIn ((w2.drew.alloc (.cells #[.int .u32 0, .int .u32 0, .int .i64 0, .int .i64 0, .int .i64 0, .slice none 0 0] 25)).alloc (.cells #[] 5)) w2.drew.heap.size 0 0 0 0 0 (.slice none 0 0) := Blk.kept (blk_new w2.drew 25 #[.int .u32 0, .int .u32 0, .int .i64 0, .int .i64 0, .int .i64 0, .slice none 0 0]) (kept_alloc [] _ _) (by simp)
          have hbz : PIn w7 w2.drew.heap.size 0 0 0 0 0 (.slice none 0 0) := (hg7.block _ (Blk.lt hbz0) (by intro e; injection e with e; simp at e)).trans hbz0
          have hge : w2.heap.size ≤ w2.drew.heap.size := Nat.le_refl _
          have ho8 := (ho7.low (show w2.heap.size ≤ w2.drew.heap.size + 1 from Nat.le_succ _)).is (List.nil_append D)
          refine wpAnyH_take (i := 14) (oi := { dst := some 82, op := Op.build 25 #[(0, Operand.tmp 68), (1, Operand.tmp 69), (2, Operand.tmp 73), (3, Operand.tmp 75), (4, Operand.tmp 77), (5, Operand.tmp 81)], type := 25, pos := "ref.go:68", after := #[{ on := 0, ground := Ground.data }, { on := 1, ground := Ground.data }, { on := 5, ground := Ground.data }, { on := 7, ground := Ground.data }, { on := 9, ground := Ground.data }, { on := 13, ground := Ground.data }], guard := none }) (v := (.agg #[.int .u32 (F : Int), .int .u32 (T : Int), .int .i64 (K : Int), .int .i64 (N : Int), .int .i64 (M : Int), .slice sa7 z7 cap7])) rfl (by kernel_rfl) (by kernel_rfl) (by kernel_rfl) (fun _ _ _ h => h) (Or.inl ⟨by rfl, fun W hSw => by go_simp⟩) hH ?_
          try simp only [Act.put, List.setIfInBounds_toArray, List.set_cons_zero, List.set_cons_succ]
          refine wpAnyH_ready (rs := [16]) (by kernel_rfl) (by simp) ?_
          refine AllReadyH.cons (o := { dst := none, op := Op.store 25 (Operand.tmp 16) (Operand.tmp 82), type := 0, pos := "ref.go:68", after := #[{ on := 15, ground := Ground.data }, { on := 14, ground := Ground.data }, { on := 13, ground := Ground.chain }, { on := 0, ground := Ground.phase }, { on := 1, ground := Ground.phase }, { on := 2, ground := Ground.phase }, { on := 3, ground := Ground.phase }, { on := 4, ground := Ground.phase }, { on := 5, ground := Ground.phase }, { on := 6, ground := Ground.phase }, { on := 7, ground := Ground.phase }, { on := 8, ground := Ground.phase }, { on := 9, ground := Ground.phase }, { on := 10, ground := Ground.phase }, { on := 11, ground := Ground.phase }, { on := 12, ground := Ground.phase }, { on := 13, ground := Ground.phase }, { on := 14, ground := Ground.phase }, { on := 15, ground := Ground.phase }], guard := none }) rfl (fun KK hKK => ?_) AllReadyH.nil
          refine step_store_blk rfl 25 (.tmp 16) (.tmp 82) rfl (w2.drew.heap.size) 25 _ [.int .u32 (F : Int), .int .u32 (T : Int), .int .i64 (K : Int), .int .i64 (N : Int), .int .i64 (M : Int), .slice sa7 z7 cap7] (by simp [Act.eval]) (by simp [Act.eval]) hbz rfl Try.sizeP (by simp [Value.oneCell']) ?_
          intro w8 hb8 hk8
          replace ho8 := ho8.other hbz (by decide) hk8
          have hH1 := hH.young hk8 hge
          refine hKK.out _ _ hH1 (fun _ => ?_)
          replace hH := hH1
          clear hKK KK hH1
          refine wpAnyH_done (by kernel_rfl) ?_ _
          go_wp2_with fail
          go_meet
          exact ⟨w2.drew.heap.size, sa7, z7, cap7, rfl, hb8, ho8, hge, hH⟩
      case rest =>
        obtain ⟨g, sa7, z7, cap7, rfl, hb8, ho8, hge, hkc⟩ := hcut
        obtain ⟨y, hy⟩ : ∃ y : Pv, y = ⟨F, T, K, N, M, sa7, z7, cap7, D⟩ := ⟨_, rfl⟩
        have hA8 : y.At w2.heap.size wc.heap.size wc := by rw [hy]; exact ⟨ho8.byteRow, vF.out, vT.out⟩
        have hIn8 : y.In wc g := by rw [hy]; exact hb8
        have hy3 : y.ps = RP := by rw [hy]; exact hE.out.symm
        have hyl := hA8.len
        have hyd : y.d.length ≤ 1000 := by rw [hy]; exact hdl.out
        have qq := refGood_any y hyl (by omega) wc
        rw [hy3] at qq
        unfold Pv.val at qq
        obtain ⟨c0, c1, c2, c3, c4, c5⟩ := hIn8.six
        clear hy hyl hyd hE hb8 ho8
        by_cases hG : good RP = true
        · have hp := hpO.out hG
          replace hp : Hid _ := hp
          clear hpO hpB
          rw [hG] at qq
          go_wp2_with (first
            | (go_at_call 9; refine qq.mono ?_; rintro e w5 ⟨rfl, hk5⟩; have hR5 := hR _ ((hk2.trans hkc).trans hk5); obtain ⟨c0, c1, c2, c3, c4, c5⟩ := (hIn8.kept hk5 (by simp)).six)
            | (refine wpList_store_blk rfl 25 _ _ rfl w.heap.size 25 _ [.int .u32 (y.f : Int), .int .u32 (y.t : Int), .int .i64 y.k, .int .i64 y.s, .int .i64 y.a, .slice y.sa y.len y.cap] rfl rfl hR5 rfl Try.sizeP (by simp [Value.oneCell']) ?_; intro w6 hb6 hk6 hz6))
          refine bodyPost_ret (results_row_tmp rfl _ _ w.heap.size _ rfl (run_loadVar_row (P := Try.prog) w6 w.heap.size 25 25 _ (0, 0) _ hb6 Try.underlying25 rfl Try.sizeP)) rfl ?_
          have hs0 := hk0.size
          have hs2 := hk2.size
          have hlt0 : w.heap.size < w2.heap.size := Blk.lt (hR _ hk2)
          exact ⟨y, by rw [hp.out.2]; rfl, hy3.trans hp.out.1.symm, ((hA8.kept (Nat.le_refl _) hk5 (by simp)).kept hk5.size hk6 (by intro k hm; rw [List.mem_singleton] at hm; subst hm; exact .inl hlt0)).mono (by omega) (Nat.le_trans hk5.size hk6.size), (((hk0.trans hk2).trans hkc).trans hk5).young hk6 (Nat.le_refl _)⟩
        · replace hG : good RP = false := by simpa using hG
          have hp := hpB.out hG
          replace hp : Hid _ := hp
          clear hpO hpB
          rw [hG] at qq
          go_wp2_with (first
            | (go_at_call 9; refine qq.mono ?_; rintro e w5 ⟨rfl, hk5⟩; have hR5 := hR _ ((hk2.trans hkc).trans hk5); obtain ⟨c0, c1, c2, c3, c4, c5⟩ := (hIn8.kept hk5 (by simp)).six)
            | (refine wpList_store_blk rfl 25 _ _ rfl w.heap.size 25 _ [.int .u32 0, .int .u32 0, .int .i64 0, .int .i64 0, .int .i64 0, .slice none 0 0] rfl rfl hR5 rfl Try.sizeP (by simp [Value.oneCell']) ?_; intro w6 hb6 hk6 hz6))
          refine bodyPost_ret (results_row_tmp rfl _ _ w.heap.size _ rfl (run_loadVar_row (P := Try.prog) w6 w.heap.size 25 25 _ (0, 0) _ hb6 Try.underlying25 rfl Try.sizeP)) rfl ?_
          exact ⟨pv0, by rw [hp.out.2]; rfl, hp.out.1.symm, pv0_at _ _ _, (((hk0.trans hk2).trans hkc).trans hk5).young hk6 (Nat.le_refl _)⟩
    · rw [if_pos hE] at hpE
      have hp : Hid (parseM bs = p0 ∧ parseE bs = (Seal.gotE bs : Int)) := ⟨parseM_out (by rw [hpE]; omega), hpE⟩
      have hne : (((Seal.gotE bs : Nat) : Int) != 0) = true := by simp; omega
      rw [hn] at q16
      clear hG0 hpE hE hn
      generalize parseE bs = PE at *
      generalize parseM bs = PM at *
      generalize bs.length = len at *
      generalize Seal.getB 2 bs = b2 at *
      generalize Seal.gotE bs = GE at *
      go_enter Try.func15, Try.ntmps15
      go_wp2_with (first
        | (go_at_call 27; refine (q16 _ hk0).mono ?_; rintro e w1 ⟨rfl, rfl⟩)
        | (go_at_call 28; refine (qG _ hk0).mono ?_; rintro e w2 ⟨sa2, z2, cap2, rfl, hr2, hk2⟩)
        | (refine wpList_store_blk rfl 25 _ _ rfl w.heap.size 25 _ [.int .u32 0, .int .u32 0, .int .i64 0, .int .i64 0, .int .i64 0, .slice none 0 0] rfl rfl (hR _ hk2) rfl Try.sizeP (by simp [Value.oneCell']) ?_; intro w3 hb3 hk3 hz3))
      refine bodyPost_ret (results_row_tmp rfl _ _ w.heap.size _ rfl (run_loadVar_row (P := Try.prog) w3 w.heap.size 25 25 _ (0, 0) _ hb3 Try.underlying25 rfl Try.sizeP)) rfl ?_
      exact ⟨pv0, by rw [hp.out.2]; rfl, hp.out.1.symm, pv0_at _ _ _, (hk0.trans hk2).young hk3 (Nat.le_refl _)⟩
  · rw [if_pos hn] at hpE
    have hp : Hid (parseM bs = p0 ∧ parseE bs = 9) := ⟨parseM_out (by rw [hpE]; decide), hpE⟩
    have hne : (((Seal.getv 2 bs : Nat) : Int) != (bs.length : Int)) = true := by simp; omega
    clear hG0 hpE qG hn
    generalize parseE bs = PE at *
    generalize parseM bs = PM at *
    generalize bs.length = len at *
    generalize Seal.getB 2 bs = b2 at *
    generalize Seal.getv 2 bs = n2 at *
    go_enter Try.func15, Try.ntmps15
    go_wp2_with (first
      | (go_at_call 27; refine (q16 _ hk0).mono ?_; rintro e w1 ⟨rfl, rfl⟩)
      | (refine wpList_store_blk rfl 25 _ _ rfl w.heap.size 25 _ [.int .u32 0, .int .u32 0, .int .i64 0, .int .i64 0, .int .i64 0, .slice none 0 0] rfl rfl hb0 rfl Try.sizeP (by simp [Value.oneCell']) ?_; intro w3 hb3 hk3 hz3))
    refine bodyPost_ret (results_row_tmp rfl _ _ w.heap.size _ rfl (run_loadVar_row (P := Try.prog) w3 w.heap.size 25 25 _ (0, 0) _ hb3 Try.underlying25 rfl Try.sizeP)) rfl ?_
    exact ⟨pv0, by rw [hp.out.2]; rfl, hp.out.1.symm, pv0_at _ _ _, hk0.young hk3 (Nat.le_refl _)⟩
set_option maxRecDepth 100000 in
/-- twainref18.Parse -/
theorem refParse_any (v : Value) (bs : List Nat) (lo hi : Nat) (w : World) (h : ByteRow lo hi w v bs) (hh : hi ≤ w.heap.size) (hlen : bs.length ≤ 9223372036854775807) :
    Calls Try.prog 15 #[v] w fun e w' => ∃ y : Pv, e = .returned (.tuple #[.agg #[.int .u32 (y.f : Int), .int .u32 (y.t : Int), .int .i64 y.k, .int .i64 y.s, .int .i64 y.a, .slice y.sa y.len y.cap], .int .i64 (parseE bs)]) ∧ y.ps = parseM bs ∧ y.At w.heap.size w'.heap.size w' ∧ Kept [] w w' := by
  by_cases ho : bs.length < 23 ∨ 223 < bs.length
  · exact refParse_out v bs lo hi w h hlen ho
  · exact refParse_in v bs lo hi w h hh (by omega) (by omega)
end Go.Proofs.Ytlbajnffbiaooaa.Wire
