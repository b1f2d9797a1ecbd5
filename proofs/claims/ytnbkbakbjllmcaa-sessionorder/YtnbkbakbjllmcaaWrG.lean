import Derived.Test.YtnbkbakbjllmcaaWrD
import Derived.Test.YtnbkbakbjllmcaaWrF
/-
  The walk of Parse.
-/
namespace Go.Proofs.Ytnbkbakbjllmcaa.Wire
open Go.RowKit
open Seal (enc ret_bool ret_int)
open Seal.Math

theorem row_of {W : World} {n : Nat} {v : Value} {bs : List Nat} (h : Seal.BytesAt n W v bs) : ∃ sa z cap, v = .slice sa z cap ∧ ByteRow 0 n W (.slice sa z cap) bs := by
  obtain ⟨hb, a, cap, rfl, hn, h | ⟨g, off, e2, hl, h4, hc⟩⟩ := h
  · exact ⟨a, _, cap, rfl, hb, a, cap, rfl, hn, .inl h⟩
  · exact ⟨a, _, cap, rfl, hb, a, cap, rfl, hn, .inr ⟨g, off, e2, hl, by omega, h4, hc⟩⟩
set_option maxRecDepth 100000 in
/-- Parse, of too few bytes, and of too many -/
theorem parse_out (v : Value) (bs : List Nat) (lo hi : Nat) (w : World) (h : ByteRow lo hi w v bs) (hlen : bs.length ≤ 9223372036854775807) (hout : bs.length < 23 ∨ 223 < bs.length) :
    Calls Try.prog 28 #[v] w fun e w' => ∃ y : Pv, e = .returned (.tuple #[.agg #[.int .u32 (y.f : Int), .int .u32 (y.t : Int), .int .i64 y.k, .int .i64 y.s, .int .i64 y.a, .slice y.sa y.len y.cap], .int .i64 (parseE bs)]) ∧ y.ps = parseM bs ∧ y.At w.heap.size w'.heap.size w' ∧ Kept [] w w' := by
  have hb0 := blk_new w 47 #[.int .u32 0, .int .u32 0, .int .i64 0, .int .i64 0, .int .i64 0, .slice none 0 0]
  have hk0 := kept_alloc [] w (.cells #[.int .u32 0, .int .u32 0, .int .i64 0, .int .i64 0, .int .i64 0, .slice none 0 0] 47)
  have hp : Hid (parseM bs = p0 ∧ parseE bs = if bs.length < 23 then 8 else 11) := by
    show _ ∧ _
    have e : parseE bs = if bs.length < 23 then 8 else 11 := by
      unfold parseE
      by_cases h1 : bs.length < 23
      · rw [if_pos h1, if_pos h1]
      · rw [if_neg h1, if_neg h1, if_pos (by omega)]
    refine ⟨parseM_out ?_, e⟩
    rw [e]
    split <;> decide
  obtain ⟨_, sa, cap, rfl, _⟩ := h
  generalize parseE bs = E at *
  generalize parseM bs = M at *
  generalize bs.length = len at *
  by_cases h1 : len < 23
  · rw [if_pos h1] at hp
    clear hout
    go_enter Try.func28, Try.ntmps28
    go_wp2_with (first
      | (refine wpList_store_blk rfl 47 _ _ rfl w.heap.size 47 _ [.int .u32 0, .int .u32 0, .int .i64 0, .int .i64 0, .int .i64 0, .slice none 0 0] rfl rfl hb0 rfl Try.sizeP (by simp [Value.oneCell']) ?_; intro w1 hb1 hk1 hz1))
    refine bodyPost_ret (results_row_tmp rfl _ _ w.heap.size _ rfl (run_loadVar_row (P := Try.prog) w1 w.heap.size 47 47 _ (0, 0) _ hb1 Try.underlying47 rfl Try.sizeP)) rfl ?_
    exact ⟨pv0, by rw [hp.out.2]; rfl, hp.out.1.symm, pv0_at _ _ _, hk0.young hk1 (Nat.le_refl _)⟩
  · rw [if_neg h1] at hp
    have h2 : 223 < len := by omega
    clear hout h1
    go_enter Try.func28, Try.ntmps28
    go_wp2_with (first
      | (refine wpList_store_blk rfl 47 _ _ rfl w.heap.size 47 _ [.int .u32 0, .int .u32 0, .int .i64 0, .int .i64 0, .int .i64 0, .slice none 0 0] rfl rfl hb0 rfl Try.sizeP (by simp [Value.oneCell']) ?_; intro w1 hb1 hk1 hz1))
    refine bodyPost_ret (results_row_tmp rfl _ _ w.heap.size _ rfl (run_loadVar_row (P := Try.prog) w1 w.heap.size 47 47 _ (0, 0) _ hb1 Try.underlying47 rfl Try.sizeP)) rfl ?_
    exact ⟨pv0, by rw [hp.out.2]; rfl, hp.out.1.symm, pv0_at _ _ _, hk0.young hk1 (Nat.le_refl _)⟩
set_option maxRecDepth 100000 in
set_option maxHeartbeats 4000000 in
/-- Parse, of so many bytes as a packet may have -/
theorem parse_in (v : Value) (bs : List Nat) (lo hi : Nat) (w : World) (h : ByteRow lo hi w v bs) (hh : hi ≤ w.heap.size) (h23 : 23 ≤ bs.length) (h223 : bs.length ≤ 223) :
    Calls Try.prog 28 #[v] w fun e w' => ∃ y : Pv, e = .returned (.tuple #[.agg #[.int .u32 (y.f : Int), .int .u32 (y.t : Int), .int .i64 y.k, .int .i64 y.s, .int .i64 y.a, .slice y.sa y.len y.cap], .int .i64 (parseE bs)]) ∧ y.ps = parseM bs ∧ y.At w.heap.size w'.heap.size w' ∧ Kept [] w w' := by
  have hb0 : PIn (w.alloc (.cells #[.int .u32 0, .int .u32 0, .int .i64 0, .int .i64 0, .int .i64 0, .slice none 0 0] 47)) w.heap.size 0 0 0 0 0 (.slice none 0 0) := blk_new w 47 #[.int .u32 0, .int .u32 0, .int .i64 0, .int .i64 0, .int .i64 0, .slice none 0 0]
  have hk0 := kept_alloc [] w (.cells #[.int .u32 0, .int .u32 0, .int .i64 0, .int .i64 0, .int .i64 0, .slice none 0 0] 47)
  have q16 : ∀ A, Kept [] w A → Calls Try.prog 50 #[v] A fun e w' => e = .returned (.tuple #[.int .i64 (Seal.getv 2 bs), .bool (Seal.getB 2 bs)]) ∧ w' = A := fun A hA => Seal.get16_any _ v bs A (by omega) ((h.kept hh hA (by simp)).at (Nat.le_trans hh hA.size))
  have qG : ∀ A, Kept [] w A → Calls Try.prog 51 #[v] A fun e w' => ∃ sa z cap, e = .returned (.tuple #[.slice sa z cap, .int .i64 (Seal.gotE bs : Nat)]) ∧ ByteRow 0 w'.heap.size w' (.slice sa z cap) (Seal.gotL bs) ∧ Kept [] A w' := fun A hA => by
    refine (Seal.get_any v bs A (by omega) ((h.kept hh hA (by simp)).at (Nat.le_trans hh hA.size))).mono ?_
    rintro e w' ⟨v', rfl, hb, hB⟩
    obtain ⟨sa, z, cap, rfl, hr⟩ := row_of hb
    exact ⟨sa, z, cap, rfl, hr, Kept.of_below hB []⟩
  have hR : ∀ A, Kept [] (w.alloc (.cells #[.int .u32 0, .int .u32 0, .int .i64 0, .int .i64 0, .int .i64 0, .slice none 0 0] 47)) A → PIn A w.heap.size 0 0 0 0 0 (.slice none 0 0) := fun A hA => hb0.kept hA (by simp)
  have hpE : parseE bs = if Seal.getv 2 bs ≠ bs.length then 9 else if Seal.gotE bs ≠ 0 then (Seal.gotE bs : Int) else if good (readP (Seal.gotL bs)) = true then 0 else 9 := by
    show (if bs.length < 23 then (8 : Int) else if 223 < bs.length then 11 else _) = _
    rw [if_neg (by omega), if_neg (by omega)]
  have hG0 : Seal.gotE bs = 0 → 19 ≤ (Seal.gotL bs).length ∧ (Seal.gotL bs).length ≤ 219 := fun e => by
    obtain ⟨_, _, e3⟩ := got_in e
    rw [e3, List.length_take]
    omega
  have hgb : Seal.getv 2 bs < 65536 := Seal.getv_lt h.1
  obtain ⟨_, sa, cap, rfl, _⟩ := id h
  replace h : Hid _ := h
  obtain ⟨W0, hW0⟩ : ∃ W0, w.alloc (.cells #[.int .u32 0, .int .u32 0, .int .i64 0, .int .i64 0, .int .i64 0, .slice none 0 0] 47) = W0 := ⟨_, rfl⟩
  rw [hW0] at hb0 hk0 hR
  by_cases hn : Seal.getv 2 bs = bs.length
  · rw [if_neg (by omega)] at hpE
    by_cases hE : Seal.gotE bs = 0
    · rw [if_neg (by omega)] at hpE
      obtain ⟨l19, l219⟩ := hG0 hE
      rw [hE] at qG
      rw [hn] at q16
      clear hG0 hE hn
      have hdl : Hid ((readP (Seal.gotL bs)).d.length ≤ 1000) := by
        show ((Seal.gotL bs).drop 19).length ≤ 1000
        rw [List.length_drop]
        omega
      have qr := fun A v' hi' (hr : ByteRow 0 hi' A v' (Seal.gotL bs)) (hh' : hi' ≤ A.heap.size) => read_any v' (Seal.gotL bs) 0 hi' A hr hh' l19 (by omega)
      clear l19 l219
      by_cases hF : Fine (readP (Seal.gotL bs))
      · have hgood : Hid (good (readP (Seal.gotL bs)) = true) := good_in hF
        have hp : Hid (parseM bs = readP (Seal.gotL bs) ∧ parseE bs = 0) := by
          have e : parseE bs = 0 := by
            rw [hpE, if_pos (by rw [hgood.out])]
          exact ⟨parseM_in e, e⟩
        clear hpE hF
        generalize parseE bs = PE at *
        generalize parseM bs = PM at *
        generalize bs.length = len at *
        generalize Seal.getB 2 bs = b2 at *
        generalize readP (Seal.gotL bs) = RP at *
        generalize Seal.gotL bs = GL at *
        go_enter Try.func28, Try.ntmps28
        go_wp2_with (first
          | (go_at_call 50; refine (q16 _ hk0).mono ?_; rintro e w1 ⟨rfl, rfl⟩)
          | (go_at_call 51; refine (qG _ hk0).mono ?_; rintro e w2 ⟨sa2, z2, cap2, rfl, hr2, hk2⟩)
          | (go_at_call 52; refine (qr _ _ _ hr2 (Nat.le_refl _)).mono ?_; rintro e w3 ⟨y, rfl, hy3, hA3, hk3⟩)
          | (refine wpList_store_blk rfl 47 _ _ rfl w3.heap.size 47 _ [.int .u32 (y.f : Int), .int .u32 (y.t : Int), .int .i64 y.k, .int .i64 y.s, .int .i64 y.a, .slice y.sa y.len y.cap] rfl rfl (blk_new w3 47 #[.int .u32 0, .int .u32 0, .int .i64 0, .int .i64 0, .int .i64 0, .slice none 0 0]) rfl Try.sizeP (by simp [Value.oneCell']) ?_; intro w4 hb4 hk4 hz4; have hIn4 : y.In w4 w3.heap.size := hb4; have hk34 : Kept [] w3 w4 := (kept_alloc [] w3 _).young hk4 (Nat.le_refl _); have hyl := hA3.len; have hyd : y.d.length ≤ 1000 := (by have e := congrArg (fun p : Ps => p.d.length) hy3; simp only [Pv.ps] at e; have := hdl.out; omega); have qq := good_any y hyl (by omega) w4; rw [hy3, hgood.out] at qq; unfold Pv.val at qq; obtain ⟨c0, c1, c2, c3, c4, c5⟩ := hIn4.six; clear hb4 hk4 hz4 hyl hyd)
          | (go_at_call 53; refine qq.mono ?_; rintro e w5 ⟨rfl, hk5⟩; have hR5 := hR _ (((hk2.trans hk3).trans hk34).trans hk5); obtain ⟨c0, c1, c2, c3, c4, c5⟩ := (hIn4.kept hk5 (by simp)).six)
          | (refine wpList_store_blk rfl 47 _ _ rfl w.heap.size 47 _ [.int .u32 (y.f : Int), .int .u32 (y.t : Int), .int .i64 y.k, .int .i64 y.s, .int .i64 y.a, .slice y.sa y.len y.cap] rfl rfl hR5 rfl Try.sizeP (by simp [Value.oneCell']) ?_; intro w6 hb6 hk6 hz6))
        refine bodyPost_ret (results_row_tmp rfl _ _ w.heap.size _ rfl (run_loadVar_row (P := Try.prog) w6 w.heap.size 47 47 _ (0, 0) _ hb6 Try.underlying47 rfl Try.sizeP)) rfl ?_
        have hs0 := hk0.size
        have hs2 := hk2.size
        have hlt0 : w.heap.size < w2.heap.size := Blk.lt (hR _ hk2)
        exact ⟨y, by rw [hp.out.2]; rfl, hy3.trans hp.out.1.symm, ((((hA3.kept (Nat.le_refl _) hk34 (by simp)).kept hk34.size hk5 (by simp)).kept (Nat.le_trans hk34.size hk5.size) hk6 (by intro k hm; rw [List.mem_singleton] at hm; subst hm; exact .inl hlt0))).mono (by omega) (Nat.le_trans hk34.size (Nat.le_trans hk5.size hk6.size)), ((((hk0.trans hk2).trans hk3).trans hk34).trans hk5).young hk6 (Nat.le_refl _)⟩
      · have hgood : Hid (good (readP (Seal.gotL bs)) = false) := good_out hF
        have hp : Hid (parseM bs = p0 ∧ parseE bs = 9) := by
          have e : parseE bs = 9 := by
            rw [hpE, if_neg (by rw [hgood.out]; simp)]
          exact ⟨parseM_out (by rw [e]; decide), e⟩
        clear hpE hF
        generalize parseE bs = PE at *
        generalize parseM bs = PM at *
        generalize bs.length = len at *
        generalize Seal.getB 2 bs = b2 at *
        generalize readP (Seal.gotL bs) = RP at *
        generalize Seal.gotL bs = GL at *
        go_enter Try.func28, Try.ntmps28
        go_wp2_with (first
          | (go_at_call 50; refine (q16 _ hk0).mono ?_; rintro e w1 ⟨rfl, rfl⟩)
          | (go_at_call 51; refine (qG _ hk0).mono ?_; rintro e w2 ⟨sa2, z2, cap2, rfl, hr2, hk2⟩)
          | (go_at_call 52; refine (qr _ _ _ hr2 (Nat.le_refl _)).mono ?_; rintro e w3 ⟨y, rfl, hy3, hA3, hk3⟩)
          | (refine wpList_store_blk rfl 47 _ _ rfl w3.heap.size 47 _ [.int .u32 (y.f : Int), .int .u32 (y.t : Int), .int .i64 y.k, .int .i64 y.s, .int .i64 y.a, .slice y.sa y.len y.cap] rfl rfl (blk_new w3 47 #[.int .u32 0, .int .u32 0, .int .i64 0, .int .i64 0, .int .i64 0, .slice none 0 0]) rfl Try.sizeP (by simp [Value.oneCell']) ?_; intro w4 hb4 hk4 hz4; have hIn4 : y.In w4 w3.heap.size := hb4; have hk34 : Kept [] w3 w4 := (kept_alloc [] w3 _).young hk4 (Nat.le_refl _); have hyl := hA3.len; have hyd : y.d.length ≤ 1000 := (by have e := congrArg (fun p : Ps => p.d.length) hy3; simp only [Pv.ps] at e; have := hdl.out; omega); have qq := good_any y hyl (by omega) w4; rw [hy3, hgood.out] at qq; unfold Pv.val at qq; obtain ⟨c0, c1, c2, c3, c4, c5⟩ := hIn4.six; clear hb4 hk4 hz4 hyl hyd)
          | (go_at_call 53; refine qq.mono ?_; rintro e w5 ⟨rfl, hk5⟩; have hR5 := hR _ (((hk2.trans hk3).trans hk34).trans hk5); obtain ⟨c0, c1, c2, c3, c4, c5⟩ := (hIn4.kept hk5 (by simp)).six)
          | (refine wpList_store_blk rfl 47 _ _ rfl w.heap.size 47 _ [.int .u32 0, .int .u32 0, .int .i64 0, .int .i64 0, .int .i64 0, .slice none 0 0] rfl rfl hR5 rfl Try.sizeP (by simp [Value.oneCell']) ?_; intro w6 hb6 hk6 hz6))
        refine bodyPost_ret (results_row_tmp rfl _ _ w.heap.size _ rfl (run_loadVar_row (P := Try.prog) w6 w.heap.size 47 47 _ (0, 0) _ hb6 Try.underlying47 rfl Try.sizeP)) rfl ?_
        exact ⟨pv0, by rw [hp.out.2]; rfl, hp.out.1.symm, pv0_at _ _ _, ((((hk0.trans hk2).trans hk3).trans hk34).trans hk5).young hk6 (Nat.le_refl _)⟩
    · rw [if_pos hE] at hpE
      have hp : Hid (parseM bs = p0 ∧ parseE bs = (Seal.gotE bs : Int)) := ⟨parseM_out (by rw [hpE]; omega), hpE⟩
      have hne : (((Seal.gotE bs : Nat) : Int) != 0) = true := by simp; omega
      rw [hn] at q16
      clear hG0 hpE hE hn
      generalize parseE bs = PE at *
      generalize parseM bs = PM at *
      generalize bs.length = len at *
      generalize Seal.getB 2 bs = b2 at *
      generalize Seal.gotE bs = GE at *
      go_enter Try.func28, Try.ntmps28
      go_wp2_with (first
        | (go_at_call 50; refine (q16 _ hk0).mono ?_; rintro e w1 ⟨rfl, rfl⟩)
        | (go_at_call 51; refine (qG _ hk0).mono ?_; rintro e w2 ⟨sa2, z2, cap2, rfl, hr2, hk2⟩)
        | (refine wpList_store_blk rfl 47 _ _ rfl w.heap.size 47 _ [.int .u32 0, .int .u32 0, .int .i64 0, .int .i64 0, .int .i64 0, .slice none 0 0] rfl rfl (hR _ hk2) rfl Try.sizeP (by simp [Value.oneCell']) ?_; intro w3 hb3 hk3 hz3))
      refine bodyPost_ret (results_row_tmp rfl _ _ w.heap.size _ rfl (run_loadVar_row (P := Try.prog) w3 w.heap.size 47 47 _ (0, 0) _ hb3 Try.underlying47 rfl Try.sizeP)) rfl ?_
      exact ⟨pv0, by rw [hp.out.2]; rfl, hp.out.1.symm, pv0_at _ _ _, (hk0.trans hk2).young hk3 (Nat.le_refl _)⟩
  · rw [if_pos hn] at hpE
    have hp : Hid (parseM bs = p0 ∧ parseE bs = 9) := ⟨parseM_out (by rw [hpE]; decide), hpE⟩
    have hne : (((Seal.getv 2 bs : Nat) : Int) != (bs.length : Int)) = true := by simp; omega
    clear hG0 hpE qG hn
    generalize parseE bs = PE at *
    generalize parseM bs = PM at *
    generalize bs.length = len at *
    generalize Seal.getB 2 bs = b2 at *
    generalize Seal.getv 2 bs = n2 at *
    go_enter Try.func28, Try.ntmps28
    go_wp2_with (first
      | (go_at_call 50; refine (q16 _ hk0).mono ?_; rintro e w1 ⟨rfl, rfl⟩)
      | (refine wpList_store_blk rfl 47 _ _ rfl w.heap.size 47 _ [.int .u32 0, .int .u32 0, .int .i64 0, .int .i64 0, .int .i64 0, .slice none 0 0] rfl rfl hb0 rfl Try.sizeP (by simp [Value.oneCell']) ?_; intro w3 hb3 hk3 hz3))
    refine bodyPost_ret (results_row_tmp rfl _ _ w.heap.size _ rfl (run_loadVar_row (P := Try.prog) w3 w.heap.size 47 47 _ (0, 0) _ hb3 Try.underlying47 rfl Try.sizeP)) rfl ?_
    exact ⟨pv0, by rw [hp.out.2]; rfl, hp.out.1.symm, pv0_at _ _ _, hk0.young hk3 (Nat.le_refl _)⟩
set_option maxRecDepth 100000 in
/-- Parse -/
theorem parse_any (v : Value) (bs : List Nat) (lo hi : Nat) (w : World) (h : ByteRow lo hi w v bs) (hh : hi ≤ w.heap.size) (hlen : bs.length ≤ 9223372036854775807) :
    Calls Try.prog 28 #[v] w fun e w' => ∃ y : Pv, e = .returned (.tuple #[.agg #[.int .u32 (y.f : Int), .int .u32 (y.t : Int), .int .i64 y.k, .int .i64 y.s, .int .i64 y.a, .slice y.sa y.len y.cap], .int .i64 (parseE bs)]) ∧ y.ps = parseM bs ∧ y.At w.heap.size w'.heap.size w' ∧ Kept [] w w' := by
  by_cases ho : bs.length < 23 ∨ 223 < bs.length
  · exact parse_out v bs lo hi w h hlen ho
  · exact parse_in v bs lo hi w h hh (by omega) (by omega)
end Go.Proofs.Ytnbkbakbjllmcaa.Wire

