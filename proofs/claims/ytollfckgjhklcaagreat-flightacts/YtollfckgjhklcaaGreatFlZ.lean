/-
  FlightActs: the walk.
-/
import Derived.Test.YtollfckgjhklcaaGreatFlYC
import Derived.Deep.CutBlock
namespace Go.Proofs.YtollfckgjhklcaaGreat.Flight
open Go.RowKit Go.Maps Go.Sort
open Table (Rising ins del tks)

theorem five_at {W : World} {q : Nat} {ty : TypeId} {x : Fv} (h : Blk W q ty #[.int .i64 x.t, .int .i64 x.o, .int .i64 x.l, .slice x.sa x.len x.cap, .int .i64 x.st]) : W.cell? ⟨q, 0, none⟩ = some (.int .i64 x.t) ∧ W.cell? ⟨q, 1, none⟩ = some (.int .i64 x.o) ∧ W.cell? ⟨q, 2, none⟩ = some (.int .i64 x.l) ∧ W.cell? ⟨q, 3, none⟩ = some (.slice x.sa x.len x.cap) ∧ W.cell? ⟨q, 4, none⟩ = some (.int .i64 x.st) := ⟨(h.cell 0).trans rfl, (h.cell 1).trans rfl, (h.cell 2).trans rfl, (h.cell 3).trans rfl, (h.cell 4).trans rfl⟩
theorem two_at {W : World} {q : Nat} {ty : TypeId} {o l : Int} (h : Blk W q ty #[.int .i64 o, .int .i64 l]) : W.cell? ⟨q, 0, none⟩ = some (.int .i64 o) ∧ W.cell? ⟨q, 1, none⟩ = some (.int .i64 l) := ⟨(h.cell 0).trans rfl, (h.cell 1).trans rfl⟩
theorem two_made (W : World) (t u : TypeId) (c d : Array Value) : Blk ((W.alloc (.cells c t)).alloc (.cells d u)).drew W.heap.size t c ∧ Blk ((W.alloc (.cells c t)).alloc (.cells d u)).drew (W.heap.size + 1) u d ∧ Kept [] W ((W.alloc (.cells c t)).alloc (.cells d u)).drew := by
  have k1 := kept_alloc [] W (.cells c t)
  have k2 := kept_alloc [] (W.alloc (.cells c t)) (.cells d u)
  have b1 := (blk_new W t c).kept k2 (by simp)
  have b2 := blk_new (W.alloc (.cells c t)) u d
  rw [show (W.alloc (.cells c t)).heap.size = W.heap.size + 1 by simp] at b2
  exact ⟨b1.kept (kept_drew [] _) (by simp), b2.kept (kept_drew [] _) (by simp), (k1.trans k2).trans (kept_drew [] _)⟩
set_option maxRecDepth 100000 in
/-- Behind writes, and where the document's write lies (in D, at q): Same. -/
theorem one_way (gx gy : Fv) (W7 C D : World) (n q : Nat) (u : Value) (hx : gx.At 0 W7.heap.size W7) (hy : gy.At 0 W7.heap.size W7) (he : tl [gx] = tl [gy]) (hC : Kept [] W7 C) (hu : WAt 42 C n u [gx]) (hD : Kept [] C D) (hq : Blk D q 42 #[.int .i64 gy.t, .int .i64 gy.o, .int .i64 gy.l, .slice gy.sa gy.len gy.cap, .int .i64 gy.st]) :
    Calls Tryz.prog 14 #[u, .slice (some ⟨q, 0, none⟩) 1 1] D fun e w' => e = .returned (.bool true) ∧ Kept [] W7 w' := by
  have hk := hC.trans hD
  refine (rSame_any u _ D (hu.kept0 hD) (wat_one gy hq) he (fun z hz => ?_) (fun z hz => ?_) (by simp)).mono ?_
  · simp at hz
    rw [hz]
    exact ((hx.kept0 hk).mono (Nat.le_refl _) hk.size).in
  · simp at hz
    rw [hz]
    exact ((hy.kept0 hk).mono (Nat.le_refl _) hk.size).in
  · rintro e w' ⟨rfl, hk2⟩
    exact ⟨rfl, hk.trans hk2⟩
set_option maxRecDepth 100000 in
/-- writes at one write, in each order in which the two slices may be made. -/
theorem three_ways (gx gy : Fv) (W7 : World) (hx : gx.At 0 W7.heap.size W7) (hy : gy.At 0 W7.heap.size W7) (he : tl [gx] = tl [gy]) :
    (Calls Tryz.prog 15 #[.slice (some ⟨W7.heap.size, 0, none⟩) 1 1] (W7.alloc (.cells #[.int .i64 gx.t, .int .i64 gx.o, .int .i64 gx.l, .slice gx.sa gx.len gx.cap, .int .i64 gx.st] 39)).drew fun e w8 => ∃ u, e = .returned u ∧ Kept [] W7 w8 ∧ Calls Tryz.prog 14 #[u, .slice (some ⟨w8.heap.size, 0, none⟩) 1 1] (w8.alloc (.cells #[.int .i64 gy.t, .int .i64 gy.o, .int .i64 gy.l, .slice gy.sa gy.len gy.cap, .int .i64 gy.st] 42)) fun e w' => e = .returned (.bool true) ∧ Kept [] W7 w') ∧
    (Calls Tryz.prog 15 #[.slice (some ⟨W7.heap.size, 0, none⟩) 1 1] ((W7.alloc (.cells #[.int .i64 gx.t, .int .i64 gx.o, .int .i64 gx.l, .slice gx.sa gx.len gx.cap, .int .i64 gx.st] 39)).alloc (.cells #[.int .i64 gy.t, .int .i64 gy.o, .int .i64 gy.l, .slice gy.sa gy.len gy.cap, .int .i64 gy.st] 42)).drew fun e w8 => ∃ u, e = .returned u ∧ Kept [] W7 w8 ∧ Calls Tryz.prog 14 #[u, .slice (some ⟨W7.heap.size + 1, 0, none⟩) 1 1] w8 fun e w' => e = .returned (.bool true) ∧ Kept [] W7 w') ∧
    (Calls Tryz.prog 15 #[.slice (some ⟨W7.heap.size + 1, 0, none⟩) 1 1] ((W7.alloc (.cells #[.int .i64 gy.t, .int .i64 gy.o, .int .i64 gy.l, .slice gy.sa gy.len gy.cap, .int .i64 gy.st] 42)).alloc (.cells #[.int .i64 gx.t, .int .i64 gx.o, .int .i64 gx.l, .slice gx.sa gx.len gx.cap, .int .i64 gx.st] 39)).drew fun e w8 => ∃ u, e = .returned u ∧ Kept [] W7 w8 ∧ Calls Tryz.prog 14 #[u, .slice (some ⟨W7.heap.size, 0, none⟩) 1 1] w8 fun e w' => e = .returned (.bool true) ∧ Kept [] W7 w') := by
  refine ⟨?_, ?_, ?_⟩
  · have kV := kept_alloc [] W7 (.cells #[.int .i64 gx.t, .int .i64 gx.o, .int .i64 gx.l, .slice gx.sa gx.len gx.cap, .int .i64 gx.st] 39)
    have kd := kept_drew [] (W7.alloc (.cells #[.int .i64 gx.t, .int .i64 gx.o, .int .i64 gx.l, .slice gx.sa gx.len gx.cap, .int .i64 gx.st] 39))
    refine (writes_any _ _ (wat_one gx ((blk_new W7 39 _).kept kd (by simp))) (by simp)).mono ?_
    rintro e w8 ⟨u, rfl, hu, hk⟩
    exact ⟨u, rfl, (kV.trans kd).trans hk, one_way gx gy W7 w8 _ _ _ u hx hy he ((kV.trans kd).trans hk) hu (kept_alloc [] _ _) (blk_new w8 42 _)⟩
  · obtain ⟨b1, b2, k⟩ := two_made W7 39 42 #[.int .i64 gx.t, .int .i64 gx.o, .int .i64 gx.l, .slice gx.sa gx.len gx.cap, .int .i64 gx.st] #[.int .i64 gy.t, .int .i64 gy.o, .int .i64 gy.l, .slice gy.sa gy.len gy.cap, .int .i64 gy.st]
    refine (writes_any _ _ (wat_one gx b1) (by simp)).mono ?_
    rintro e w8 ⟨u, rfl, hu, hk⟩
    exact ⟨u, rfl, k.trans hk, one_way gx gy W7 w8 w8 _ _ u hx hy he (k.trans hk) hu (Kept.refl _ _) (b2.kept hk (by simp))⟩
  · obtain ⟨b1, b2, k⟩ := two_made W7 42 39 #[.int .i64 gy.t, .int .i64 gy.o, .int .i64 gy.l, .slice gy.sa gy.len gy.cap, .int .i64 gy.st] #[.int .i64 gx.t, .int .i64 gx.o, .int .i64 gx.l, .slice gx.sa gx.len gx.cap, .int .i64 gx.st]
    refine (writes_any _ _ (wat_one gx b2) (by simp)).mono ?_
    rintro e w8 ⟨u, rfl, hu, hk⟩
    exact ⟨u, rfl, k.trans hk, one_way gx gy W7 w8 w8 _ _ u hx hy he (k.trans hk) hu (Kept.refl _ _) (b1.kept hk (by simp))⟩
set_option maxRecDepth 100000 in
set_option maxHeartbeats 1000000 in
theorem acts_early (a0 : Option Addr) (len cap : Nat) (o l : Int) (hlen : len ≤ 9223372036854775807) (w : World) (h : 60 < len) :
    Calls Tryz.prog 3 #[.slice a0 len cap, .agg #[.int .i64 o, .int .i64 l]] w fun e w' => e = .returned (.bool true) ∧ Kept [] w w' := by
  have ka := kept_alloc [] w (.cells #[.int .i64 o, .int .i64 l] 24)
  have hgt : (60 : Int) < (len : Int) := by omega
  have q := lives_any (w.alloc (.cells #[.int .i64 o, .int .i64 l] 24))
  clear h
  go_enter Tryz.func3, Tryz.ntmps3
  go_wp2_with (go_at_call 4; refine q.mono ?_; rintro e w3 ⟨rfl, hk3⟩)
  go_ret
  exact ⟨rfl, ka.trans hk3⟩
set_option maxRecDepth 100000 in
set_option maxHeartbeats 4000000 in
theorem acts_play (a0 : Option Addr) (len cap : Nat) (acts : List Ac) (hlen : len ≤ 60) (o l : Int) (ho : -9223372036854775808 ≤ o ∧ o ≤ 9223372036854775807) (hl : -9223372036854775808 ≤ l ∧ l ≤ 9223372036854775807) (w : World) (hacts : AcsAt w.heap.size w a0 len cap acts) :
    Calls Tryz.prog 3 #[.slice a0 len cap, .agg #[.int .i64 o, .int .i64 l]] w fun e w' => e = .returned (.bool true) ∧ Kept [] w w' := by
  have ka := kept_alloc [] w (.cells #[.int .i64 o, .int .i64 l] 24)
  have hb0 := blk_new w 24 #[.int .i64 o, .int .i64 l]
  have hsp : (Itree.It.mk o l 0).Ok := ⟨ho.1, ho.2, hl.1, hl.2, by show (_ : Int) ≤ 0; decide, by show (0 : Int) ≤ _; decide⟩
  obtain ⟨w0, hw0⟩ : ∃ w0, w.alloc (.cells #[.int .i64 o, .int .i64 l] 24) = w0 := ⟨_, rfl⟩
  rw [hw0] at ka hb0
  have hw0s : Hid (w.heap.size ≤ w0.heap.size) := ka.size
  have hng : ¬ ((60 : Int) < (len : Int)) := by omega
  have qn := new_any w0
  clear ho hl
  go_enter Tryz.func3, Tryz.ntmps3
  go_wp2_with (go_at_call 5; refine qn.mono ?_; rintro e w1 ⟨f, b, p, F, rfl, h1, hk1⟩; have hT0 := two_new' h1 hk1.size; have kr := kept_alloc [] w1 (.cells #[.slice none 0 0] 31); have hk2 := hk1.trans kr; clear h1)
  clear hw0 qn
  go_loopw [24] (fun i wr => ∃ (k : Nat) (L : List (Int × Fw)), i = .int .i64 k ∧ k ≤ len ∧ Two wr w0.heap.size f b p w1.heap.size L L ∧ L.length ≤ k ∧ Kept [] w0 wr) (fun i _ => len - (RowKit.intOf i).toNat)
  case atStart => exact ⟨0, [], rfl, Nat.zero_le _, hT0, Nat.le_refl _, hk2⟩
  case round =>
    clear hT0 hk1 kr hk2
    obtain ⟨k, L, rfl, hk, hT, hLk, hkr⟩ := hrel
    by_cases hlt : k < len
    · have hlt' : (k : Int) < (len : Int) := by omega
      have hk1 : (k : Int) + 1 < 9223372036854775808 := by omega
      obtain ⟨x, g, off, hx, hok, rfl, d0, d1, d2, d3, d4, d5⟩ := (hacts.kept (Nat.le_refl _) (ka.trans hkr) (by simp)).at hlt
      have hxr := (hacts.2.1 x (List.mem_of_getElem? hx)).row
      have ht0 := hok.t0
      have ht1 := hok.t1
      have hlx := hok.len0
      have hbl := hok.blen
      have hm1 : Hid (len - ((k : Int) + 1).toNat < len - (k : Int).toNat) := (show _ < _ by omega)
      have kA := kept_alloc [] wr (.cells #[.int .i64 x.k, .int .i64 x.t, .int .i64 x.n, .int .i64 x.o, .int .i64 x.l, .slice x.sa x.len x.cap] 34)
      have hbA := blk_new wr 34 #[.int .i64 x.k, .int .i64 x.t, .int .i64 x.n, .int .i64 x.o, .int .i64 x.l, .slice x.sa x.len x.cap]
      have hT1 := hT.kept0 kA
      have hkW := (ka.trans hkr).trans kA
      replace hxr : Hid (ByteRow w.heap.size w (.slice x.sa x.len x.cap) x.bs) := hxr
      clear hacts hx hT
      by_cases hbig : (200 : Int) < (x.len : Int)
      · have q := lives_any (wr.alloc (.cells #[.int .i64 x.k, .int .i64 x.t, .int .i64 x.n, .int .i64 x.o, .int .i64 x.l, .slice x.sa x.len x.cap] 34))
        clear hbA hT1
        go_wp2_with (go_at_call 4; refine q.mono ?_; rintro e w3 ⟨rfl, hk3⟩)
        go_ret
        exact ⟨rfl, hkW.trans hk3⟩
      · have hxl : x.bs.length ≤ 140737488351232 := by omega
        obtain ⟨A, hA⟩ : ∃ A, wr.heap.size = A := ⟨_, rfl⟩
        rw [hA] at hbA
        replace hA : Hid (wr.heap.size = A) := hA
        replace hxr := hxr.out
        go_upto_block 2 with (fail)
        rw [hA.out]
        obtain ⟨W1, hW1⟩ : ∃ W1, wr.alloc (.cells #[.int .i64 x.k, .int .i64 x.t, .int .i64 x.n, .int .i64 x.o, .int .i64 x.l, .slice x.sa x.len x.cap] 34) = W1 := ⟨_, rfl⟩
        rw [hW1] at hbA hT1 hkW kA ⊢
        clear hW1 d0 d1 d2 d3 d4 d5
        go_cut [9, 10] from 25 to 76 (fun x9 x10 W => ∃ (zz : Bool) (L4 : List (Int × Fw)), x9 = .bool zz ∧ x10 = .bool zz ∧ Two W w0.heap.size f b p w1.heap.size L4 L4 ∧ L4.length ≤ k + 1 ∧ Far w0.heap.size W1 W)
        case first =>
          by_cases hk0 : x.k = 0
          · have e0 : (x.k == 0) = true := by simpa using hk0
            clear hk0
            go_upto_region 12 with (fail)
            have hS : Hid (∀ W, Far w0.heap.size W1 W → W.cell? ⟨A, 1, none⟩ = some (.int .i64 x.t) ∧ W.cell? ⟨A, 2, none⟩ = some (.int .i64 x.n) ∧ W.cell? ⟨A, 3, none⟩ = some (.int .i64 x.o) ∧ W.cell? ⟨A, 4, none⟩ = some (.int .i64 x.l) ∧ W.cell? ⟨A, 5, none⟩ = some (.slice x.sa x.len x.cap)) := fun W hf => have g := hf.blk hbA; ⟨g.cell 1, g.cell 2, g.cell 3, g.cell 4, g.cell 5⟩
            have ks0 : Hid (Far w0.heap.size W1 W1.drew) := Far.of (kept_drew [] _)
            have hD := hT1.kept0 (kept_drew [] W1)
            have hloD : Hid (w0.heap.size ≤ W1.drew.heap.size) := Nat.le_trans hkr.size (Nat.le_trans kA.size (kept_drew [] W1).size)
            have hkD0 : Hid (Kept [] w W1.drew) := hkW.trans (kept_drew [] _)
            have qa := two_add x.t x.o x.l (.slice x.sa x.len x.cap) x.bs ht0 ht1 hok.it w W1.drew hD (by omega) hloD.out hkD0.out hw0s.out hxr hxl
            obtain ⟨Z, hZ⟩ : ∃ Z, addOk L x.t x.o x.l = Z := ⟨_, rfl⟩
            rw [hZ] at qa
            replace hZ : Hid _ := hZ
            go_region_held3 (fun W => W.cell? ⟨A, 1, none⟩ = some (.int .i64 x.t) ∧ W.cell? ⟨A, 2, none⟩ = some (.int .i64 x.n) ∧ W.cell? ⟨A, 3, none⟩ = some (.int .i64 x.o) ∧ W.cell? ⟨A, 4, none⟩ = some (.int .i64 x.l) ∧ W.cell? ⟨A, 5, none⟩ = some (.slice x.sa x.len x.cap)) (first
              | exact hS.out _ ks0.out
              | exact hS.out _ ks2.out
              | exact hS.out _ ks3.out) (first
              | (go_at_call 6; refine qa.mono ?_; rintro e w3 ⟨rfl, hT3, hf3⟩; have ks2 : Hid (Far w0.heap.size W1 w3) := ks0.out.trans hf3; have hk03 : Hid (Kept [] w w3) := ks2.out.past hkW hw0s.out; have qd := two_radd x.t x.o x.l (.slice x.sa x.len x.cap) x.bs ht1 w w3 hT3 (by omega) hk03.out hxr hxl; rw [hZ.out] at qd; replace hf3 : Hid _ := hf3)
              | (go_at_call 7; refine qd.mono ?_; rintro e w4 ⟨rfl, hT4, hf4⟩; have ks3 : Hid (Far w0.heap.size W1 w4) := ks2.out.trans hf4; replace hf4 : Hid _ := hf4))
            go_wp2_with fail
            go_meet
            exact ⟨Z, addL L x.t x.o x.l x.bs, rfl, rfl, hT4, Nat.le_trans (addL_length L x.t x.o x.l x.bs) (by omega), ks3.out⟩
          · have e0 : (x.k == 0) = false := by simpa using hk0
            clear hk0
            by_cases hk1' : x.k = 1
            · have e1 : (x.k == 1) = true := by simpa using hk1'
              clear hk1'
              go_upto_region 14 with (fail)
              have hS : Hid (∀ W, Far w0.heap.size W1 W → W.cell? ⟨A, 1, none⟩ = some (.int .i64 x.t) ∧ W.cell? ⟨A, 2, none⟩ = some (.int .i64 x.n) ∧ W.cell? ⟨A, 3, none⟩ = some (.int .i64 x.o) ∧ W.cell? ⟨A, 4, none⟩ = some (.int .i64 x.l) ∧ W.cell? ⟨A, 5, none⟩ = some (.slice x.sa x.len x.cap)) := fun W hf => have g := hf.blk hbA; ⟨g.cell 1, g.cell 2, g.cell 3, g.cell 4, g.cell 5⟩
              have ks0 : Hid (Far w0.heap.size W1 W1.drew) := Far.of (kept_drew [] _)
              have hD := hT1.kept0 (kept_drew [] W1)
              have hloD : Hid (w0.heap.size ≤ W1.drew.heap.size) := Nat.le_trans hkr.size (Nat.le_trans kA.size (kept_drew [] W1).size)
              have hkD0 : Hid (Kept [] w W1.drew) := hkW.trans (kept_drew [] _)
              have qa := two_turn x.t x.n ht0 ht1 W1.drew hD (by omega)
              obtain ⟨Z, hZ⟩ : ∃ Z, turnOk L x.t x.n = Z := ⟨_, rfl⟩
              rw [hZ] at qa
              replace hZ : Hid _ := hZ
              go_region_held3 (fun W => W.cell? ⟨A, 1, none⟩ = some (.int .i64 x.t) ∧ W.cell? ⟨A, 2, none⟩ = some (.int .i64 x.n) ∧ W.cell? ⟨A, 3, none⟩ = some (.int .i64 x.o) ∧ W.cell? ⟨A, 4, none⟩ = some (.int .i64 x.l) ∧ W.cell? ⟨A, 5, none⟩ = some (.slice x.sa x.len x.cap)) (first
                | exact hS.out _ ks0.out
                | exact hS.out _ ks2.out
                | exact hS.out _ ks3.out) (first
                | (go_at_call 8; refine qa.mono ?_; rintro e w3 ⟨rfl, hT3, hf3⟩; have ks2 : Hid (Far w0.heap.size W1 w3) := ks0.out.trans hf3; have hk03 : Hid (Kept [] w w3) := ks2.out.past hkW hw0s.out; have qd := two_rturn x.t x.n w3 hT3 (by omega); rw [hZ.out] at qd; replace hf3 : Hid _ := hf3)
                | (go_at_call 9; refine qd.mono ?_; rintro e w4 ⟨rfl, hT4, hf4⟩; have ks3 : Hid (Far w0.heap.size W1 w4) := ks2.out.trans hf4; replace hf4 : Hid _ := hf4))
              go_wp2_with fail
              go_meet
              exact ⟨Z, turnL L x.t x.n, rfl, rfl, hT4, (by rw [turnL_length]; omega), ks3.out⟩
            · have e1 : (x.k == 1) = false := by simpa using hk1'
              clear hk1'
              by_cases hk2' : x.k = 2
              · have e2 : (x.k == 2) = true := by simpa using hk2'
                clear hk2'
                go_upto_region 16 with (fail)
                have hS : Hid (∀ W, Far w0.heap.size W1 W → W.cell? ⟨A, 1, none⟩ = some (.int .i64 x.t) ∧ W.cell? ⟨A, 2, none⟩ = some (.int .i64 x.n) ∧ W.cell? ⟨A, 3, none⟩ = some (.int .i64 x.o) ∧ W.cell? ⟨A, 4, none⟩ = some (.int .i64 x.l) ∧ W.cell? ⟨A, 5, none⟩ = some (.slice x.sa x.len x.cap)) := fun W hf => have g := hf.blk hbA; ⟨g.cell 1, g.cell 2, g.cell 3, g.cell 4, g.cell 5⟩
                have ks0 : Hid (Far w0.heap.size W1 W1.drew) := Far.of (kept_drew [] _)
                have hD := hT1.kept0 (kept_drew [] W1)
                have hloD : Hid (w0.heap.size ≤ W1.drew.heap.size) := Nat.le_trans hkr.size (Nat.le_trans kA.size (kept_drew [] W1).size)
                have hkD0 : Hid (Kept [] w W1.drew) := hkW.trans (kept_drew [] _)
                have qa := two_end x.t ht0 ht1 W1.drew hD (by omega) hloD.out
                obtain ⟨Z, hZ⟩ : ∃ Z, endOk L x.t = Z := ⟨_, rfl⟩
                rw [hZ] at qa
                replace hZ : Hid _ := hZ
                go_region_held3 (fun W => W.cell? ⟨A, 1, none⟩ = some (.int .i64 x.t) ∧ W.cell? ⟨A, 2, none⟩ = some (.int .i64 x.n) ∧ W.cell? ⟨A, 3, none⟩ = some (.int .i64 x.o) ∧ W.cell? ⟨A, 4, none⟩ = some (.int .i64 x.l) ∧ W.cell? ⟨A, 5, none⟩ = some (.slice x.sa x.len x.cap)) (first
                  | exact hS.out _ ks0.out
                  | exact hS.out _ ks2.out
                  | exact hS.out _ ks3.out) (first
                  | (go_at_call 10; refine qa.mono ?_; rintro e w3 ⟨rfl, hT3, hf3⟩; have ks2 : Hid (Far w0.heap.size W1 w3) := ks0.out.trans hf3; have hk03 : Hid (Kept [] w w3) := ks2.out.past hkW hw0s.out; have qd := two_rend x.t w3 hT3 (by omega); rw [hZ.out] at qd; replace hf3 : Hid _ := hf3)
                  | (go_at_call 11; refine qd.mono ?_; rintro e w4 ⟨rfl, hT4, hf4⟩; have ks3 : Hid (Far w0.heap.size W1 w4) := ks2.out.trans hf4; replace hf4 : Hid _ := hf4))
                go_wp2_with fail
                go_meet
                exact ⟨Z, endL L x.t, rfl, rfl, hT4, Nat.le_trans (endL_length L x.t) (by omega), ks3.out⟩
              · have e2 : (x.k == 2) = false := by simpa using hk2'
                clear hk2'
                go_wp2_with fail
                go_meet
                exact ⟨false, L, rfl, rfl, hT1, by omega, Far.of (Kept.refl _ _)⟩
        case rest =>
          obtain ⟨zz, L4, rfl, rfl, hT4, hL4k, hfar⟩ := hcut
          have hk04 : Kept [] w0 wc := hfar.past (hkr.trans kA) (Nat.le_refl _)
          have cA : ∀ W, Kept [] wc W → W.cell? ⟨A, 1, none⟩ = some (.int .i64 x.t) := fun W hk => (((hfar.blk hbA).kept hk (by simp)).cell 1).trans rfl
          clear hbA hT1 hkW kA hfar
          have hl6 : L4.length ≤ 600 := by omega
          obtain ⟨ra, rc, hrow4⟩ := two_rlen hT4
          have qg := two_get x.t ht0 ht1 wc hT4
          have qrg := fun W hk => two_rget x.t W (hT4.kept0 (B := W) hk) hl6
          have qb := fun W hk => two_busy o l hsp W (hT4.kept0 (B := W) hk) hl6
          have qrb := fun W hk => two_rbusy o l W (hT4.kept0 (B := W) hk) hl6
          have qe := fun W hk => two_ext W (hT4.kept0 (B := W) hk)
          have qre := fun W hk => two_rext W (hT4.kept0 (B := W) hk) hl6
          have ql := fun W hk => two_len W (hT4.kept0 (B := W) hk)
          obtain ⟨n4, hn4⟩ : ∃ n, L4.length = n := ⟨_, rfl⟩
          rw [hn4] at hL4k
          simp only [hn4] at ql hrow4
          generalize (Table.look L4 x.t).isSome = z at *
          generalize busy L4 o l = BB at *
          generalize exts L4 = EE at *
          have c10 := cA wc (Kept.refl _ _)
          replace hn4 : Hid (L4.length = n4) := hn4
          replace hT4 : Hid (Two wc w0.heap.size f b p w1.heap.size L4 L4) := hT4
          clear hl6
          go_upto_region 19 with (first
            | (go_at_call 12; refine qg.mono ?_; rintro e w5 ⟨gx, rfl, hgx, hgA, hk5⟩; have kx := kept_alloc [] w5 (.cells #[.int .i64 gx.t, .int .i64 gx.o, .int .i64 gx.l, .slice gx.sa gx.len gx.cap, .int .i64 gx.st] 39); have bx := blk_new w5 39 #[.int .i64 gx.t, .int .i64 gx.o, .int .i64 gx.l, .slice gx.sa gx.len gx.cap, .int .i64 gx.st]; have cx := cA _ (hk5.trans kx); have qr5 := qrg _ (hk5.trans kx); unfold Fv.val; replace hgx : Hid (Found L4 x.t gx) := hgx)
            | (go_at_call 13; refine qr5.mono ?_; rintro e w6 ⟨gy, rfl, hgy, hgB, hk6⟩; replace hgy : Hid (Found L4 x.t gy) := hgy; unfold Fv.val))
          have ky := kept_alloc [] w6 (.cells #[.int .i64 gy.t, .int .i64 gy.o, .int .i64 gy.l, .slice gy.sa gy.len gy.cap, .int .i64 gy.st] 42)
          have by' := blk_new w6 42 #[.int .i64 gy.t, .int .i64 gy.o, .int .i64 gy.l, .slice gy.sa gy.len gy.cap, .int .i64 gy.st]
          have hk47 := ((hk5.trans kx).trans hk6).trans ky
          have bx7 := (bx.kept hk6 (by simp)).kept ky (by simp)
          have gx7 := ((hgA.kept0 kx).kept0 hk6).kept0 ky
          have gy7 := hgB.kept0 ky
          have sx7 : w5.heap.size ≤ w6.heap.size := Nat.le_trans kx.size hk6.size
          have sy7 := ky.size
          obtain ⟨W7, hW7⟩ : ∃ W7, w6.alloc (.cells #[.int .i64 gy.t, .int .i64 gy.o, .int .i64 gy.l, .slice gy.sa gy.len gy.cap, .int .i64 gy.st] 42) = W7 := ⟨_, rfl⟩
          rw [hW7] at hk47 bx7 gx7 gy7 by' sy7 ⊢
          obtain ⟨qw1, qw2, qw3⟩ := three_ways gx gy W7 (gx7.mono (Nat.zero_le _) (Nat.le_trans sx7 sy7)) (gy7.mono (Nat.zero_le _) sy7) (found_same hgx.out hgy.out)
          have hS : Hid (∀ W, Kept [] W7 W → (W.cell? ⟨w5.heap.size, 0, none⟩ = some (.int .i64 gx.t) ∧ W.cell? ⟨w5.heap.size, 1, none⟩ = some (.int .i64 gx.o) ∧ W.cell? ⟨w5.heap.size, 2, none⟩ = some (.int .i64 gx.l) ∧ W.cell? ⟨w5.heap.size, 3, none⟩ = some (.slice gx.sa gx.len gx.cap) ∧ W.cell? ⟨w5.heap.size, 4, none⟩ = some (.int .i64 gx.st)) ∧ (W.cell? ⟨w6.heap.size, 0, none⟩ = some (.int .i64 gy.t) ∧ W.cell? ⟨w6.heap.size, 1, none⟩ = some (.int .i64 gy.o) ∧ W.cell? ⟨w6.heap.size, 2, none⟩ = some (.int .i64 gy.l) ∧ W.cell? ⟨w6.heap.size, 3, none⟩ = some (.slice gy.sa gy.len gy.cap) ∧ W.cell? ⟨w6.heap.size, 4, none⟩ = some (.int .i64 gy.st)) ∧ (W.cell? ⟨w.heap.size, 0, none⟩ = some (.int .i64 o) ∧ W.cell? ⟨w.heap.size, 1, none⟩ = some (.int .i64 l)) ∧ W.cell? ⟨w1.heap.size, 0, none⟩ = some (.slice ra n4 rc)) := fun W hk => ⟨five_at (bx7.kept hk (by simp)), five_at (by'.kept hk (by simp)), two_at (hb0.kept (hk04.trans (hk47.trans hk)) (by simp)), hrow4 W (hk47.trans hk)⟩
          clear hW7 bx by' bx7 gx7 gy7 hgA hgB kx ky hk6 cx cA c10 qg qr5 qrg hrow4 sx7 sy7
          go_cut [133] from 25 to 134 (fun v W => v = .bool false ∧ Kept [] W7 W)
          case first =>
            refine wp_region_held_drew (S := fun W => Kept [] W7 W) (by kernel_rfl) (kept_drew [] W7) (fun hP => ?_)
            have hH := hP
            clear hP
            refine wpAnyH_take (i := 0) (oi := { dst := some 91, op := Op.move (Operand.tmp 9), type := 4, pos := "law.go:68", after := #[], guard := none }) (v := (.bool zz)) rfl (by kernel_rfl) (by kernel_rfl) (by kernel_rfl) (fun _ _ _ h => h) (Or.inl ⟨by rfl, fun W hSw => by go_simp⟩) hH ?_
            try simp only [Act.put, List.setIfInBounds_toArray, List.set_cons_zero, List.set_cons_succ]
            refine wpAnyH_take (i := 1) (oi := { dst := some 92, op := Op.move (Operand.tmp 10), type := 4, pos := "law.go:68", after := #[], guard := none }) (v := (.bool zz)) rfl (by kernel_rfl) (by kernel_rfl) (by kernel_rfl) (fun _ _ _ h => h) (Or.inl ⟨by rfl, fun W hSw => by go_simp⟩) hH ?_
            try simp only [Act.put, List.setIfInBounds_toArray, List.set_cons_zero, List.set_cons_succ]
            refine wpAnyH_take (i := 2) (oi := { dst := some 93, op := Op.binOp BinOp.neq 4 (Operand.tmp 91) (Operand.tmp 92) 4, type := 4, pos := "law.go:68", after := #[{ on := 0, ground := Ground.data }, { on := 1, ground := Ground.data }], guard := none }) (v := (.bool false)) rfl (by kernel_rfl) (by kernel_rfl) (by kernel_rfl) (fun _ _ _ h => h) (Or.inl ⟨by rfl, fun W hSw => by go_simp⟩) hH ?_
            try simp only [Act.put, List.setIfInBounds_toArray, List.set_cons_zero, List.set_cons_succ]
            refine wpAnyH_take (i := 3) (oi := { dst := some 94, op := Op.move (Operand.tmp 93), type := 4, pos := "law.go:68", after := #[{ on := 2, ground := Ground.data }], guard := none }) (v := (.bool false)) rfl (by kernel_rfl) (by kernel_rfl) (by kernel_rfl) (fun _ _ _ h => h) (Or.inl ⟨by rfl, fun W hSw => by go_simp⟩) hH ?_
            try simp only [Act.put, List.setIfInBounds_toArray, List.set_cons_zero, List.set_cons_succ]
            refine wpAnyH_take (i := 4) (oi := { dst := some 95, op := Op.move (Operand.tmp 12), type := 4, pos := "law.go:68", after := #[{ on := 3, ground := Ground.guard }], guard := some (3, false) }) (v := (.bool z)) rfl (by kernel_rfl) (by kernel_rfl) (by kernel_rfl) (fun _ _ _ h => h) (Or.inl ⟨by rfl, fun W hSw => by go_simp⟩) hH ?_
            try simp only [Act.put, List.setIfInBounds_toArray, List.set_cons_zero, List.set_cons_succ]
            refine wpAnyH_take (i := 5) (oi := { dst := some 96, op := Op.move (Operand.tmp 14), type := 4, pos := "law.go:68", after := #[{ on := 3, ground := Ground.guard }], guard := some (3, false) }) (v := (.bool z)) rfl (by kernel_rfl) (by kernel_rfl) (by kernel_rfl) (fun _ _ _ h => h) (Or.inl ⟨by rfl, fun W hSw => by go_simp⟩) hH ?_
            try simp only [Act.put, List.setIfInBounds_toArray, List.set_cons_zero, List.set_cons_succ]
            refine wpAnyH_take (i := 6) (oi := { dst := some 97, op := Op.binOp BinOp.neq 4 (Operand.tmp 95) (Operand.tmp 96) 4, type := 4, pos := "law.go:68", after := #[{ on := 4, ground := Ground.data }, { on := 5, ground := Ground.data }, { on := 3, ground := Ground.guard }], guard := some (3, false) }) (v := (.bool false)) rfl (by kernel_rfl) (by kernel_rfl) (by kernel_rfl) (fun _ _ _ h => h) (Or.inl ⟨by rfl, fun W hSw => by go_simp⟩) hH ?_
            try simp only [Act.put, List.setIfInBounds_toArray, List.set_cons_zero, List.set_cons_succ]
            refine wpAnyH_take (i := 7) (oi := { dst := some 98, op := Op.pick (Operand.tmp 94) (Operand.const (Value.bool true)) (Operand.tmp 97), type := 4, pos := "law.go:68", after := #[{ on := 3, ground := Ground.data }, { on := 6, ground := Ground.data }], guard := none }) (v := (.bool false)) rfl (by kernel_rfl) (by kernel_rfl) (by kernel_rfl) (fun _ _ _ h => h) (Or.inl ⟨by rfl, fun W hSw => by go_simp⟩) hH ?_
            try simp only [Act.put, List.setIfInBounds_toArray, List.set_cons_zero, List.set_cons_succ]
            refine wpAnyH_take (i := 8) (oi := { dst := some 99, op := Op.move (Operand.tmp 98), type := 4, pos := "law.go:68", after := #[{ on := 7, ground := Ground.data }, { on := 3, ground := Ground.chain }], guard := none }) (v := (.bool false)) rfl (by kernel_rfl) (by kernel_rfl) (by kernel_rfl) (fun _ _ _ h => h) (Or.inl ⟨by rfl, fun W hSw => by go_simp⟩) hH ?_
            try simp only [Act.put, List.setIfInBounds_toArray, List.set_cons_zero, List.set_cons_succ]
            refine wpAnyH_take (i := 9) (oi := { dst := some 100, op := Op.load 39 (Operand.tmp 11), type := 39, pos := "law.go:68", after := #[{ on := 8, ground := Ground.guard }], guard := some (8, false) }) (v := (.agg #[.int .i64 gx.t, .int .i64 gx.o, .int .i64 gx.l, .slice gx.sa gx.len gx.cap, .int .i64 gx.st])) rfl (by kernel_rfl) (by kernel_rfl) (by kernel_rfl) (fun _ _ _ h => h) (Or.inl ⟨by rfl, fun W hSw => by obtain ⟨⟨x0, x1, x2, x3, x4⟩, ⟨y0, y1, y2, y3, y4⟩, ⟨s0, s1⟩, r0⟩ := hS.out W hSw; go_simp⟩) hH ?_
            try simp only [Act.put, List.setIfInBounds_toArray, List.set_cons_zero, List.set_cons_succ]
            refine wpAnyH_take (i := 12) (oi := { dst := some 103, op := Op.load 42 (Operand.tmp 13), type := 42, pos := "law.go:68", after := #[{ on := 8, ground := Ground.guard }], guard := some (8, false) }) (v := (.agg #[.int .i64 gy.t, .int .i64 gy.o, .int .i64 gy.l, .slice gy.sa gy.len gy.cap, .int .i64 gy.st])) rfl (by kernel_rfl) (by kernel_rfl) (by kernel_rfl) (fun _ _ _ h => h) (Or.inl ⟨by rfl, fun W hSw => by obtain ⟨⟨x0, x1, x2, x3, x4⟩, ⟨y0, y1, y2, y3, y4⟩, ⟨s0, s1⟩, r0⟩ := hS.out W hSw; go_simp⟩) hH ?_
            try simp only [Act.put, List.setIfInBounds_toArray, List.set_cons_zero, List.set_cons_succ]
            refine wpAnyH_ready (rs := [10, 13]) (by kernel_rfl) (by simp) ?_
            refine AllReadyH.cons (o := { dst := some 101, op := Op.buildSlice 47 1 #[(0, Operand.tmp 100)], type := 47, pos := "law.go:68", after := #[{ on := 9, ground := Ground.data }, { on := 8, ground := Ground.guard }], guard := some (8, false) }) rfl (fun KK hKK => ?_) (AllReadyH.cons (o := { dst := some 104, op := Op.buildSlice 29 1 #[(0, Operand.tmp 103)], type := 29, pos := "law.go:68", after := #[{ on := 12, ground := Ground.data }, { on := 8, ground := Ground.guard }], guard := some (8, false) }) rfl (fun KK hKK => ?_) AllReadyH.nil)
            · go_simp
              have hH1 := (kept_alloc [] W7 (.cells #[.int .i64 gx.t, .int .i64 gx.o, .int .i64 gx.l, .slice gx.sa gx.len gx.cap, .int .i64 gx.st] 39)).trans (kept_drew [] _)
              refine hKK.out _ _ hH1 (fun _ => ?_)
              replace hH := hH1
              clear hKK KK hH1
              try simp only [Act.put, List.setIfInBounds_toArray, List.set_cons_zero, List.set_cons_succ]
              refine wpAnyH_ready (rs := [11, 13]) (by kernel_rfl) (by simp) ?_
              refine AllReadyH.cons (o := { dst := some 102, op := Op.call { callee := Callee.value (Operand.func 15), args := #[Operand.tmp 101], argTypes := #[47] }, type := 29, pos := "law.go:68", after := #[{ on := 10, ground := Ground.data }, { on := 8, ground := Ground.chain }, { on := 8, ground := Ground.guard }], guard := some (8, false) }) rfl (fun KK hKK => ?_) (AllReadyH.cons (o := { dst := some 104, op := Op.buildSlice 29 1 #[(0, Operand.tmp 103)], type := 29, pos := "law.go:68", after := #[{ on := 12, ground := Ground.data }, { on := 8, ground := Ground.guard }], guard := some (8, false) }) rfl (fun KK hKK => ?_) AllReadyH.nil)
              · go_simp
                refine qw1.mono ?_
                rintro e w8 ⟨u, rfl, hk8, hu⟩
                go_wp2_with fail
                refine hKK.out _ _ hk8 (fun _ => ?_)
                replace hH := hk8
                clear hKK KK
                try simp only [Act.put, List.setIfInBounds_toArray, List.set_cons_zero, List.set_cons_succ]
                refine wpAnyH_ready (rs := [13]) (by kernel_rfl) (by simp) ?_
                refine AllReadyH.cons (o := { dst := some 104, op := Op.buildSlice 29 1 #[(0, Operand.tmp 103)], type := 29, pos := "law.go:68", after := #[{ on := 12, ground := Ground.data }, { on := 8, ground := Ground.guard }], guard := some (8, false) }) rfl (fun KK hKK => ?_) AllReadyH.nil
                go_simp
                have hH1 := hH.trans (kept_alloc [] w8 (.cells #[.int .i64 gy.t, .int .i64 gy.o, .int .i64 gy.l, .slice gy.sa gy.len gy.cap, .int .i64 gy.st] 42))
                refine hKK.out _ _ hH1 (fun _ => ?_)
                replace hH := hH1
                clear hKK KK hH1
                try simp only [Act.put, List.setIfInBounds_toArray, List.set_cons_zero, List.set_cons_succ]
                refine wpAnyH_ready (rs := [14]) (by kernel_rfl) (by simp) ?_
                refine AllReadyH.cons (o := { dst := some 105, op := Op.call { callee := Callee.value (Operand.func 14), args := #[Operand.tmp 102, Operand.tmp 104], argTypes := #[29, 29] }, type := 4, pos := "law.go:68", after := #[{ on := 11, ground := Ground.data }, { on := 13, ground := Ground.data }, { on := 11, ground := Ground.chain }, { on := 8, ground := Ground.guard }], guard := some (8, false) }) rfl (fun KK hKK => ?_) AllReadyH.nil
                go_simp
                refine hu.mono ?_
                rintro e w9 ⟨rfl, hk9⟩
                go_wp2_with fail
                refine hKK.out _ _ hk9 (fun _ => ?_)
                replace hH := hk9
                clear hKK KK hk8 hu
                try simp only [Act.put, List.setIfInBounds_toArray, List.set_cons_zero, List.set_cons_succ]
                refine wpAnyH_take (i := 15) (oi := { dst := some 106, op := Op.unOp UnOp.not 4 (Operand.tmp 105), type := 4, pos := "law.go:68", after := #[{ on := 14, ground := Ground.data }, { on := 8, ground := Ground.guard }], guard := some (8, false) }) (v := (.bool false)) rfl (by kernel_rfl) (by kernel_rfl) (by kernel_rfl) (fun _ _ _ h => h) (Or.inl ⟨by rfl, fun W hSw => by go_simp⟩) hH ?_
                try simp only [Act.put, List.setIfInBounds_toArray, List.set_cons_zero, List.set_cons_succ]
                refine wpAnyH_take (i := 16) (oi := { dst := some 107, op := Op.pick (Operand.tmp 99) (Operand.const (Value.bool true)) (Operand.tmp 106), type := 4, pos := "law.go:68", after := #[{ on := 8, ground := Ground.data }, { on := 15, ground := Ground.data }], guard := none }) (v := (.bool false)) rfl (by kernel_rfl) (by kernel_rfl) (by kernel_rfl) (fun _ _ _ h => h) (Or.inl ⟨by rfl, fun W hSw => by go_simp⟩) hH ?_
                try simp only [Act.put, List.setIfInBounds_toArray, List.set_cons_zero, List.set_cons_succ]
                refine wpAnyH_take (i := 17) (oi := { dst := some 108, op := Op.move (Operand.tmp 107), type := 4, pos := "law.go:68", after := #[{ on := 16, ground := Ground.data }, { on := 14, ground := Ground.chain }], guard := none }) (v := (.bool false)) rfl (by kernel_rfl) (by kernel_rfl) (by kernel_rfl) (fun _ _ _ h => h) (Or.inl ⟨by rfl, fun W hSw => by go_simp⟩) hH ?_
                try simp only [Act.put, List.setIfInBounds_toArray, List.set_cons_zero, List.set_cons_succ]
                refine wpAnyH_take (i := 18) (oi := { dst := some 109, op := Op.move (Operand.tmp 5), type := 26, pos := "law.go:68", after := #[{ on := 17, ground := Ground.guard }], guard := some (17, false) }) (v := (.pointer (some ⟨f, 0, none⟩))) rfl (by kernel_rfl) (by kernel_rfl) (by kernel_rfl) (fun _ _ _ h => h) (Or.inl ⟨by rfl, fun W hSw => by go_simp⟩) hH ?_
                try simp only [Act.put, List.setIfInBounds_toArray, List.set_cons_zero, List.set_cons_succ]
                refine wpAnyH_take (i := 19) (oi := { dst := some 110, op := Op.load 24 (Operand.tmp 3), type := 24, pos := "law.go:68", after := #[{ on := 17, ground := Ground.guard }], guard := some (17, false) }) (v := (.agg #[.int .i64 o, .int .i64 l])) rfl (by kernel_rfl) (by kernel_rfl) (by kernel_rfl) (fun _ _ _ h => h) (Or.inl ⟨by rfl, fun W hSw => by obtain ⟨⟨x0, x1, x2, x3, x4⟩, ⟨y0, y1, y2, y3, y4⟩, ⟨s0, s1⟩, r0⟩ := hS.out W hSw; go_simp⟩) hH ?_
                try simp only [Act.put, List.setIfInBounds_toArray, List.set_cons_zero, List.set_cons_succ]
                refine wpAnyH_take (i := 21) (oi := { dst := some 112, op := Op.move (Operand.tmp 6), type := 28, pos := "law.go:68", after := #[{ on := 17, ground := Ground.guard }], guard := some (17, false) }) (v := (.pointer (some ⟨w1.heap.size, 0, none⟩))) rfl (by kernel_rfl) (by kernel_rfl) (by kernel_rfl) (fun _ _ _ h => h) (Or.inl ⟨by rfl, fun W hSw => by go_simp⟩) hH ?_
                try simp only [Act.put, List.setIfInBounds_toArray, List.set_cons_zero, List.set_cons_succ]
                refine wpAnyH_take (i := 22) (oi := { dst := some 113, op := Op.load 24 (Operand.tmp 3), type := 24, pos := "law.go:68", after := #[{ on := 17, ground := Ground.guard }], guard := some (17, false) }) (v := (.agg #[.int .i64 o, .int .i64 l])) rfl (by kernel_rfl) (by kernel_rfl) (by kernel_rfl) (fun _ _ _ h => h) (Or.inl ⟨by rfl, fun W hSw => by obtain ⟨⟨x0, x1, x2, x3, x4⟩, ⟨y0, y1, y2, y3, y4⟩, ⟨s0, s1⟩, r0⟩ := hS.out W hSw; go_simp⟩) hH ?_
                try simp only [Act.put, List.setIfInBounds_toArray, List.set_cons_zero, List.set_cons_succ]
                refine wpAnyH_ready (rs := [20]) (by kernel_rfl) (by simp) ?_
                refine AllReadyH.cons (o := { dst := some 111, op := Op.call { callee := Callee.value (Operand.func 16), args := #[Operand.tmp 109, Operand.tmp 110], argTypes := #[26, 24] }, type := 4, pos := "law.go:68", after := #[{ on := 18, ground := Ground.data }, { on := 19, ground := Ground.data }, { on := 17, ground := Ground.chain }, { on := 17, ground := Ground.guard }], guard := some (17, false) }) rfl (fun KK hKK => ?_) AllReadyH.nil
                go_simp
                refine (qb _ (hk47.trans hH)).mono ?_
                rintro e w10 ⟨rfl, hkk⟩
                go_wp2_with fail
                have hH1 := hH.trans hkk
                refine hKK.out _ _ hH1 (fun _ => ?_)
                replace hH := hH1
                clear hKK KK hH1 hkk
                try simp only [Act.put, List.setIfInBounds_toArray, List.set_cons_zero, List.set_cons_succ]
                refine wpAnyH_ready (rs := [23]) (by kernel_rfl) (by simp) ?_
                refine AllReadyH.cons (o := { dst := some 114, op := Op.call { callee := Callee.value (Operand.func 17), args := #[Operand.tmp 112, Operand.tmp 113], argTypes := #[28, 24] }, type := 4, pos := "law.go:68", after := #[{ on := 21, ground := Ground.data }, { on := 22, ground := Ground.data }, { on := 20, ground := Ground.chain }, { on := 17, ground := Ground.guard }], guard := some (17, false) }) rfl (fun KK hKK => ?_) AllReadyH.nil
                go_simp
                refine (qrb _ (hk47.trans hH)).mono ?_
                rintro e w11 ⟨rfl, hkk⟩
                go_wp2_with fail
                have hH1 := hH.trans hkk
                refine hKK.out _ _ hH1 (fun _ => ?_)
                replace hH := hH1
                clear hKK KK hH1 hkk
                try simp only [Act.put, List.setIfInBounds_toArray, List.set_cons_zero, List.set_cons_succ]
                refine wpAnyH_take (i := 24) (oi := { dst := some 115, op := Op.binOp BinOp.neq 4 (Operand.tmp 111) (Operand.tmp 114) 4, type := 4, pos := "law.go:68", after := #[{ on := 20, ground := Ground.data }, { on := 23, ground := Ground.data }, { on := 17, ground := Ground.guard }], guard := some (17, false) }) (v := (.bool false)) rfl (by kernel_rfl) (by kernel_rfl) (by kernel_rfl) (fun _ _ _ h => h) (Or.inl ⟨by rfl, fun W hSw => by go_simp⟩) hH ?_
                try simp only [Act.put, List.setIfInBounds_toArray, List.set_cons_zero, List.set_cons_succ]
                refine wpAnyH_take (i := 25) (oi := { dst := some 116, op := Op.pick (Operand.tmp 108) (Operand.const (Value.bool true)) (Operand.tmp 115), type := 4, pos := "law.go:68", after := #[{ on := 17, ground := Ground.data }, { on := 24, ground := Ground.data }], guard := none }) (v := (.bool false)) rfl (by kernel_rfl) (by kernel_rfl) (by kernel_rfl) (fun _ _ _ h => h) (Or.inl ⟨by rfl, fun W hSw => by go_simp⟩) hH ?_
                try simp only [Act.put, List.setIfInBounds_toArray, List.set_cons_zero, List.set_cons_succ]
                refine wpAnyH_take (i := 26) (oi := { dst := some 117, op := Op.move (Operand.tmp 116), type := 4, pos := "law.go:68", after := #[{ on := 25, ground := Ground.data }, { on := 23, ground := Ground.chain }], guard := none }) (v := (.bool false)) rfl (by kernel_rfl) (by kernel_rfl) (by kernel_rfl) (fun _ _ _ h => h) (Or.inl ⟨by rfl, fun W hSw => by go_simp⟩) hH ?_
                try simp only [Act.put, List.setIfInBounds_toArray, List.set_cons_zero, List.set_cons_succ]
                refine wpAnyH_take (i := 27) (oi := { dst := some 118, op := Op.move (Operand.tmp 5), type := 26, pos := "law.go:68", after := #[{ on := 26, ground := Ground.guard }], guard := some (26, false) }) (v := (.pointer (some ⟨f, 0, none⟩))) rfl (by kernel_rfl) (by kernel_rfl) (by kernel_rfl) (fun _ _ _ h => h) (Or.inl ⟨by rfl, fun W hSw => by go_simp⟩) hH ?_
                try simp only [Act.put, List.setIfInBounds_toArray, List.set_cons_zero, List.set_cons_succ]
                refine wpAnyH_take (i := 29) (oi := { dst := some 120, op := Op.move (Operand.tmp 6), type := 28, pos := "law.go:68", after := #[{ on := 26, ground := Ground.guard }], guard := some (26, false) }) (v := (.pointer (some ⟨w1.heap.size, 0, none⟩))) rfl (by kernel_rfl) (by kernel_rfl) (by kernel_rfl) (fun _ _ _ h => h) (Or.inl ⟨by rfl, fun W hSw => by go_simp⟩) hH ?_
                try simp only [Act.put, List.setIfInBounds_toArray, List.set_cons_zero, List.set_cons_succ]
                refine wpAnyH_ready (rs := [28]) (by kernel_rfl) (by simp) ?_
                refine AllReadyH.cons (o := { dst := some 119, op := Op.call { callee := Callee.value (Operand.func 18), args := #[Operand.tmp 118], argTypes := #[26] }, type := 49, pos := "law.go:68", after := #[{ on := 27, ground := Ground.data }, { on := 26, ground := Ground.chain }, { on := 26, ground := Ground.guard }], guard := some (26, false) }) rfl (fun KK hKK => ?_) AllReadyH.nil
                go_simp
                refine (qe _ (hk47.trans hH)).mono ?_
                rintro e w12 ⟨rfl, hkk⟩
                go_wp2_with fail
                have hH1 := hH.trans hkk
                refine hKK.out _ _ hH1 (fun _ => ?_)
                replace hH := hH1
                clear hKK KK hH1 hkk
                try simp only [Act.put, List.setIfInBounds_toArray, List.set_cons_zero, List.set_cons_succ]
                refine wpAnyH_ready (rs := [30]) (by kernel_rfl) (by simp) ?_
                refine AllReadyH.cons (o := { dst := some 121, op := Op.call { callee := Callee.value (Operand.func 19), args := #[Operand.tmp 120], argTypes := #[28] }, type := 49, pos := "law.go:68", after := #[{ on := 29, ground := Ground.data }, { on := 28, ground := Ground.chain }, { on := 26, ground := Ground.guard }], guard := some (26, false) }) rfl (fun KK hKK => ?_) AllReadyH.nil
                go_simp
                refine (qre _ (hk47.trans hH)).mono ?_
                rintro e w13 ⟨rfl, hkk⟩
                go_wp2_with fail
                have hH1 := hH.trans hkk
                refine hKK.out _ _ hH1 (fun _ => ?_)
                replace hH := hH1
                clear hKK KK hH1 hkk
                try simp only [Act.put, List.setIfInBounds_toArray, List.set_cons_zero, List.set_cons_succ]
                refine wpAnyH_take (i := 31) (oi := { dst := some 122, op := Op.binOp BinOp.neq 49 (Operand.tmp 119) (Operand.tmp 121) 49, type := 4, pos := "law.go:68", after := #[{ on := 28, ground := Ground.data }, { on := 30, ground := Ground.data }, { on := 26, ground := Ground.guard }], guard := some (26, false) }) (v := (.bool false)) rfl (by kernel_rfl) (by kernel_rfl) (by kernel_rfl) (fun _ _ _ h => h) (Or.inl ⟨by rfl, fun W hSw => by go_simp⟩) hH ?_
                try simp only [Act.put, List.setIfInBounds_toArray, List.set_cons_zero, List.set_cons_succ]
                refine wpAnyH_take (i := 32) (oi := { dst := some 123, op := Op.pick (Operand.tmp 117) (Operand.const (Value.bool true)) (Operand.tmp 122), type := 4, pos := "law.go:68", after := #[{ on := 26, ground := Ground.data }, { on := 31, ground := Ground.data }], guard := none }) (v := (.bool false)) rfl (by kernel_rfl) (by kernel_rfl) (by kernel_rfl) (fun _ _ _ h => h) (Or.inl ⟨by rfl, fun W hSw => by go_simp⟩) hH ?_
                try simp only [Act.put, List.setIfInBounds_toArray, List.set_cons_zero, List.set_cons_succ]
                refine wpAnyH_take (i := 33) (oi := { dst := some 124, op := Op.move (Operand.tmp 123), type := 4, pos := "law.go:68", after := #[{ on := 32, ground := Ground.data }, { on := 30, ground := Ground.chain }], guard := none }) (v := (.bool false)) rfl (by kernel_rfl) (by kernel_rfl) (by kernel_rfl) (fun _ _ _ h => h) (Or.inl ⟨by rfl, fun W hSw => by go_simp⟩) hH ?_
                try simp only [Act.put, List.setIfInBounds_toArray, List.set_cons_zero, List.set_cons_succ]
                refine wpAnyH_take (i := 34) (oi := { dst := some 125, op := Op.move (Operand.tmp 5), type := 26, pos := "law.go:68", after := #[{ on := 33, ground := Ground.guard }], guard := some (33, false) }) (v := (.pointer (some ⟨f, 0, none⟩))) rfl (by kernel_rfl) (by kernel_rfl) (by kernel_rfl) (fun _ _ _ h => h) (Or.inl ⟨by rfl, fun W hSw => by go_simp⟩) hH ?_
                try simp only [Act.put, List.setIfInBounds_toArray, List.set_cons_zero, List.set_cons_succ]
                refine wpAnyH_take (i := 36) (oi := { dst := some 127, op := Op.move (Operand.tmp 6), type := 28, pos := "law.go:68", after := #[{ on := 33, ground := Ground.guard }], guard := some (33, false) }) (v := (.pointer (some ⟨w1.heap.size, 0, none⟩))) rfl (by kernel_rfl) (by kernel_rfl) (by kernel_rfl) (fun _ _ _ h => h) (Or.inl ⟨by rfl, fun W hSw => by go_simp⟩) hH ?_
                try simp only [Act.put, List.setIfInBounds_toArray, List.set_cons_zero, List.set_cons_succ]
                refine wpAnyH_take (i := 37) (oi := { dst := some 128, op := Op.nilCheck (Operand.tmp 127), type := 0, pos := "law.go:68", after := #[{ on := 36, ground := Ground.data }, { on := 33, ground := Ground.guard }], guard := some (33, false) }) (v := (.pointer (some ⟨w1.heap.size, 0, none⟩))) rfl (by kernel_rfl) (by kernel_rfl) (by kernel_rfl) (fun _ _ _ h => h) (Or.inl ⟨by rfl, fun W hSw => by go_simp⟩) hH ?_
                try simp only [Act.put, List.setIfInBounds_toArray, List.set_cons_zero, List.set_cons_succ]
                refine wpAnyH_take (i := 38) (oi := { dst := some 129, op := Op.fieldAddr 31 (Operand.tmp 128) 0, type := 0, pos := "law.go:68", after := #[{ on := 37, ground := Ground.data }, { on := 33, ground := Ground.guard }], guard := some (33, false) }) (v := (.pointer (some ⟨w1.heap.size, 0, none⟩))) rfl (by kernel_rfl) (by kernel_rfl) (by kernel_rfl) (fun _ _ _ h => h) (Or.inl ⟨by rfl, fun W hSw => by go_simp⟩) hH ?_
                try simp only [Act.put, List.setIfInBounds_toArray, List.set_cons_zero, List.set_cons_succ]
                refine wpAnyH_take (i := 39) (oi := { dst := some 130, op := Op.load 29 (Operand.tmp 129), type := 29, pos := "law.go:68", after := #[{ on := 38, ground := Ground.data }, { on := 33, ground := Ground.guard }], guard := some (33, false) }) (v := (.slice ra n4 rc)) rfl (by kernel_rfl) (by kernel_rfl) (by kernel_rfl) (fun _ _ _ h => h) (Or.inl ⟨by rfl, fun W hSw => by obtain ⟨⟨x0, x1, x2, x3, x4⟩, ⟨y0, y1, y2, y3, y4⟩, ⟨s0, s1⟩, r0⟩ := hS.out W hSw; go_simp⟩) hH ?_
                try simp only [Act.put, List.setIfInBounds_toArray, List.set_cons_zero, List.set_cons_succ]
                refine wpAnyH_take (i := 40) (oi := { dst := some 131, op := Op.call { callee := Callee.builtin Builtin.len, args := #[Operand.tmp 130], argTypes := #[29] }, type := 3, pos := "law.go:68", after := #[{ on := 39, ground := Ground.data }, { on := 33, ground := Ground.guard }], guard := some (33, false) }) (v := (.int .i64 (n4 : Int))) rfl (by kernel_rfl) (by kernel_rfl) (by kernel_rfl) (fun _ _ _ h => h) (Or.inl ⟨by rfl, fun W hSw => by go_simp⟩) hH ?_
                try simp only [Act.put, List.setIfInBounds_toArray, List.set_cons_zero, List.set_cons_succ]
                refine wpAnyH_ready (rs := [35]) (by kernel_rfl) (by simp) ?_
                refine AllReadyH.cons (o := { dst := some 126, op := Op.call { callee := Callee.value (Operand.func 20), args := #[Operand.tmp 125], argTypes := #[26] }, type := 3, pos := "law.go:68", after := #[{ on := 34, ground := Ground.data }, { on := 33, ground := Ground.chain }, { on := 33, ground := Ground.guard }], guard := some (33, false) }) rfl (fun KK hKK => ?_) AllReadyH.nil
                go_simp
                refine (ql _ (hk47.trans hH)).mono ?_
                rintro e w14 ⟨rfl, hkk⟩
                go_wp2_with fail
                have hH1 := hH.trans hkk
                refine hKK.out _ _ hH1 (fun _ => ?_)
                replace hH := hH1
                clear hKK KK hH1 hkk
                try simp only [Act.put, List.setIfInBounds_toArray, List.set_cons_zero, List.set_cons_succ]
                refine wpAnyH_take (i := 41) (oi := { dst := some 132, op := Op.binOp BinOp.neq 3 (Operand.tmp 126) (Operand.tmp 131) 3, type := 4, pos := "law.go:68", after := #[{ on := 35, ground := Ground.data }, { on := 40, ground := Ground.data }, { on := 33, ground := Ground.guard }], guard := some (33, false) }) (v := (.bool false)) rfl (by kernel_rfl) (by kernel_rfl) (by kernel_rfl) (fun _ _ _ h => h) (Or.inl ⟨by rfl, fun W hSw => by go_simp⟩) hH ?_
                try simp only [Act.put, List.setIfInBounds_toArray, List.set_cons_zero, List.set_cons_succ]
                refine wpAnyH_take (i := 42) (oi := { dst := some 133, op := Op.pick (Operand.tmp 124) (Operand.const (Value.bool true)) (Operand.tmp 132), type := 4, pos := "law.go:68", after := #[{ on := 33, ground := Ground.data }, { on := 41, ground := Ground.data }], guard := none }) (v := (.bool false)) rfl (by kernel_rfl) (by kernel_rfl) (by kernel_rfl) (fun _ _ _ h => h) (Or.inl ⟨by rfl, fun W hSw => by go_simp⟩) hH ?_
                try simp only [Act.put, List.setIfInBounds_toArray, List.set_cons_zero, List.set_cons_succ]
                refine wpAnyH_done (by kernel_rfl) ?_ _
                go_wp2_with fail
                go_meet
                exact ⟨rfl, hH⟩
              · go_simp
                have hH1 := ((kept_alloc [] W7 (.cells #[.int .i64 gx.t, .int .i64 gx.o, .int .i64 gx.l, .slice gx.sa gx.len gx.cap, .int .i64 gx.st] 39)).trans (kept_alloc [] _ (.cells #[.int .i64 gy.t, .int .i64 gy.o, .int .i64 gy.l, .slice gy.sa gy.len gy.cap, .int .i64 gy.st] 42))).trans (kept_drew [] _)
                refine hKK.out _ _ hH1 (fun _ => ?_)
                replace hH := hH1
                clear hKK KK hH1
                try simp only [Act.put, List.setIfInBounds_toArray, List.set_cons_zero, List.set_cons_succ]
                refine wpAnyH_ready (rs := [11]) (by kernel_rfl) (by simp) ?_
                refine AllReadyH.cons (o := { dst := some 102, op := Op.call { callee := Callee.value (Operand.func 15), args := #[Operand.tmp 101], argTypes := #[47] }, type := 29, pos := "law.go:68", after := #[{ on := 10, ground := Ground.data }, { on := 8, ground := Ground.chain }, { on := 8, ground := Ground.guard }], guard := some (8, false) }) rfl (fun KK hKK => ?_) AllReadyH.nil
                go_simp
                refine qw2.mono ?_
                rintro e w8 ⟨u, rfl, hk8, hu⟩
                go_wp2_with fail
                refine hKK.out _ _ hk8 (fun _ => ?_)
                replace hH := hk8
                clear hKK KK
                try simp only [Act.put, List.setIfInBounds_toArray, List.set_cons_zero, List.set_cons_succ]
                refine wpAnyH_ready (rs := [14]) (by kernel_rfl) (by simp) ?_
                refine AllReadyH.cons (o := { dst := some 105, op := Op.call { callee := Callee.value (Operand.func 14), args := #[Operand.tmp 102, Operand.tmp 104], argTypes := #[29, 29] }, type := 4, pos := "law.go:68", after := #[{ on := 11, ground := Ground.data }, { on := 13, ground := Ground.data }, { on := 11, ground := Ground.chain }, { on := 8, ground := Ground.guard }], guard := some (8, false) }) rfl (fun KK hKK => ?_) AllReadyH.nil
                go_simp
                refine hu.mono ?_
                rintro e w9 ⟨rfl, hk9⟩
                go_wp2_with fail
                refine hKK.out _ _ hk9 (fun _ => ?_)
                replace hH := hk9
                clear hKK KK hk8 hu
                try simp only [Act.put, List.setIfInBounds_toArray, List.set_cons_zero, List.set_cons_succ]
                refine wpAnyH_take (i := 15) (oi := { dst := some 106, op := Op.unOp UnOp.not 4 (Operand.tmp 105), type := 4, pos := "law.go:68", after := #[{ on := 14, ground := Ground.data }, { on := 8, ground := Ground.guard }], guard := some (8, false) }) (v := (.bool false)) rfl (by kernel_rfl) (by kernel_rfl) (by kernel_rfl) (fun _ _ _ h => h) (Or.inl ⟨by rfl, fun W hSw => by go_simp⟩) hH ?_
                try simp only [Act.put, List.setIfInBounds_toArray, List.set_cons_zero, List.set_cons_succ]
                refine wpAnyH_take (i := 16) (oi := { dst := some 107, op := Op.pick (Operand.tmp 99) (Operand.const (Value.bool true)) (Operand.tmp 106), type := 4, pos := "law.go:68", after := #[{ on := 8, ground := Ground.data }, { on := 15, ground := Ground.data }], guard := none }) (v := (.bool false)) rfl (by kernel_rfl) (by kernel_rfl) (by kernel_rfl) (fun _ _ _ h => h) (Or.inl ⟨by rfl, fun W hSw => by go_simp⟩) hH ?_
                try simp only [Act.put, List.setIfInBounds_toArray, List.set_cons_zero, List.set_cons_succ]
                refine wpAnyH_take (i := 17) (oi := { dst := some 108, op := Op.move (Operand.tmp 107), type := 4, pos := "law.go:68", after := #[{ on := 16, ground := Ground.data }, { on := 14, ground := Ground.chain }], guard := none }) (v := (.bool false)) rfl (by kernel_rfl) (by kernel_rfl) (by kernel_rfl) (fun _ _ _ h => h) (Or.inl ⟨by rfl, fun W hSw => by go_simp⟩) hH ?_
                try simp only [Act.put, List.setIfInBounds_toArray, List.set_cons_zero, List.set_cons_succ]
                refine wpAnyH_take (i := 18) (oi := { dst := some 109, op := Op.move (Operand.tmp 5), type := 26, pos := "law.go:68", after := #[{ on := 17, ground := Ground.guard }], guard := some (17, false) }) (v := (.pointer (some ⟨f, 0, none⟩))) rfl (by kernel_rfl) (by kernel_rfl) (by kernel_rfl) (fun _ _ _ h => h) (Or.inl ⟨by rfl, fun W hSw => by go_simp⟩) hH ?_
                try simp only [Act.put, List.setIfInBounds_toArray, List.set_cons_zero, List.set_cons_succ]
                refine wpAnyH_take (i := 19) (oi := { dst := some 110, op := Op.load 24 (Operand.tmp 3), type := 24, pos := "law.go:68", after := #[{ on := 17, ground := Ground.guard }], guard := some (17, false) }) (v := (.agg #[.int .i64 o, .int .i64 l])) rfl (by kernel_rfl) (by kernel_rfl) (by kernel_rfl) (fun _ _ _ h => h) (Or.inl ⟨by rfl, fun W hSw => by obtain ⟨⟨x0, x1, x2, x3, x4⟩, ⟨y0, y1, y2, y3, y4⟩, ⟨s0, s1⟩, r0⟩ := hS.out W hSw; go_simp⟩) hH ?_
                try simp only [Act.put, List.setIfInBounds_toArray, List.set_cons_zero, List.set_cons_succ]
                refine wpAnyH_take (i := 21) (oi := { dst := some 112, op := Op.move (Operand.tmp 6), type := 28, pos := "law.go:68", after := #[{ on := 17, ground := Ground.guard }], guard := some (17, false) }) (v := (.pointer (some ⟨w1.heap.size, 0, none⟩))) rfl (by kernel_rfl) (by kernel_rfl) (by kernel_rfl) (fun _ _ _ h => h) (Or.inl ⟨by rfl, fun W hSw => by go_simp⟩) hH ?_
                try simp only [Act.put, List.setIfInBounds_toArray, List.set_cons_zero, List.set_cons_succ]
                refine wpAnyH_take (i := 22) (oi := { dst := some 113, op := Op.load 24 (Operand.tmp 3), type := 24, pos := "law.go:68", after := #[{ on := 17, ground := Ground.guard }], guard := some (17, false) }) (v := (.agg #[.int .i64 o, .int .i64 l])) rfl (by kernel_rfl) (by kernel_rfl) (by kernel_rfl) (fun _ _ _ h => h) (Or.inl ⟨by rfl, fun W hSw => by obtain ⟨⟨x0, x1, x2, x3, x4⟩, ⟨y0, y1, y2, y3, y4⟩, ⟨s0, s1⟩, r0⟩ := hS.out W hSw; go_simp⟩) hH ?_
                try simp only [Act.put, List.setIfInBounds_toArray, List.set_cons_zero, List.set_cons_succ]
                refine wpAnyH_ready (rs := [20]) (by kernel_rfl) (by simp) ?_
                refine AllReadyH.cons (o := { dst := some 111, op := Op.call { callee := Callee.value (Operand.func 16), args := #[Operand.tmp 109, Operand.tmp 110], argTypes := #[26, 24] }, type := 4, pos := "law.go:68", after := #[{ on := 18, ground := Ground.data }, { on := 19, ground := Ground.data }, { on := 17, ground := Ground.chain }, { on := 17, ground := Ground.guard }], guard := some (17, false) }) rfl (fun KK hKK => ?_) AllReadyH.nil
                go_simp
                refine (qb _ (hk47.trans hH)).mono ?_
                rintro e w10 ⟨rfl, hkk⟩
                go_wp2_with fail
                have hH1 := hH.trans hkk
                refine hKK.out _ _ hH1 (fun _ => ?_)
                replace hH := hH1
                clear hKK KK hH1 hkk
                try simp only [Act.put, List.setIfInBounds_toArray, List.set_cons_zero, List.set_cons_succ]
                refine wpAnyH_ready (rs := [23]) (by kernel_rfl) (by simp) ?_
                refine AllReadyH.cons (o := { dst := some 114, op := Op.call { callee := Callee.value (Operand.func 17), args := #[Operand.tmp 112, Operand.tmp 113], argTypes := #[28, 24] }, type := 4, pos := "law.go:68", after := #[{ on := 21, ground := Ground.data }, { on := 22, ground := Ground.data }, { on := 20, ground := Ground.chain }, { on := 17, ground := Ground.guard }], guard := some (17, false) }) rfl (fun KK hKK => ?_) AllReadyH.nil
                go_simp
                refine (qrb _ (hk47.trans hH)).mono ?_
                rintro e w11 ⟨rfl, hkk⟩
                go_wp2_with fail
                have hH1 := hH.trans hkk
                refine hKK.out _ _ hH1 (fun _ => ?_)
                replace hH := hH1
                clear hKK KK hH1 hkk
                try simp only [Act.put, List.setIfInBounds_toArray, List.set_cons_zero, List.set_cons_succ]
                refine wpAnyH_take (i := 24) (oi := { dst := some 115, op := Op.binOp BinOp.neq 4 (Operand.tmp 111) (Operand.tmp 114) 4, type := 4, pos := "law.go:68", after := #[{ on := 20, ground := Ground.data }, { on := 23, ground := Ground.data }, { on := 17, ground := Ground.guard }], guard := some (17, false) }) (v := (.bool false)) rfl (by kernel_rfl) (by kernel_rfl) (by kernel_rfl) (fun _ _ _ h => h) (Or.inl ⟨by rfl, fun W hSw => by go_simp⟩) hH ?_
                try simp only [Act.put, List.setIfInBounds_toArray, List.set_cons_zero, List.set_cons_succ]
                refine wpAnyH_take (i := 25) (oi := { dst := some 116, op := Op.pick (Operand.tmp 108) (Operand.const (Value.bool true)) (Operand.tmp 115), type := 4, pos := "law.go:68", after := #[{ on := 17, ground := Ground.data }, { on := 24, ground := Ground.data }], guard := none }) (v := (.bool false)) rfl (by kernel_rfl) (by kernel_rfl) (by kernel_rfl) (fun _ _ _ h => h) (Or.inl ⟨by rfl, fun W hSw => by go_simp⟩) hH ?_
                try simp only [Act.put, List.setIfInBounds_toArray, List.set_cons_zero, List.set_cons_succ]
                refine wpAnyH_take (i := 26) (oi := { dst := some 117, op := Op.move (Operand.tmp 116), type := 4, pos := "law.go:68", after := #[{ on := 25, ground := Ground.data }, { on := 23, ground := Ground.chain }], guard := none }) (v := (.bool false)) rfl (by kernel_rfl) (by kernel_rfl) (by kernel_rfl) (fun _ _ _ h => h) (Or.inl ⟨by rfl, fun W hSw => by go_simp⟩) hH ?_
                try simp only [Act.put, List.setIfInBounds_toArray, List.set_cons_zero, List.set_cons_succ]
                refine wpAnyH_take (i := 27) (oi := { dst := some 118, op := Op.move (Operand.tmp 5), type := 26, pos := "law.go:68", after := #[{ on := 26, ground := Ground.guard }], guard := some (26, false) }) (v := (.pointer (some ⟨f, 0, none⟩))) rfl (by kernel_rfl) (by kernel_rfl) (by kernel_rfl) (fun _ _ _ h => h) (Or.inl ⟨by rfl, fun W hSw => by go_simp⟩) hH ?_
                try simp only [Act.put, List.setIfInBounds_toArray, List.set_cons_zero, List.set_cons_succ]
                refine wpAnyH_take (i := 29) (oi := { dst := some 120, op := Op.move (Operand.tmp 6), type := 28, pos := "law.go:68", after := #[{ on := 26, ground := Ground.guard }], guard := some (26, false) }) (v := (.pointer (some ⟨w1.heap.size, 0, none⟩))) rfl (by kernel_rfl) (by kernel_rfl) (by kernel_rfl) (fun _ _ _ h => h) (Or.inl ⟨by rfl, fun W hSw => by go_simp⟩) hH ?_
                try simp only [Act.put, List.setIfInBounds_toArray, List.set_cons_zero, List.set_cons_succ]
                refine wpAnyH_ready (rs := [28]) (by kernel_rfl) (by simp) ?_
                refine AllReadyH.cons (o := { dst := some 119, op := Op.call { callee := Callee.value (Operand.func 18), args := #[Operand.tmp 118], argTypes := #[26] }, type := 49, pos := "law.go:68", after := #[{ on := 27, ground := Ground.data }, { on := 26, ground := Ground.chain }, { on := 26, ground := Ground.guard }], guard := some (26, false) }) rfl (fun KK hKK => ?_) AllReadyH.nil
                go_simp
                refine (qe _ (hk47.trans hH)).mono ?_
                rintro e w12 ⟨rfl, hkk⟩
                go_wp2_with fail
                have hH1 := hH.trans hkk
                refine hKK.out _ _ hH1 (fun _ => ?_)
                replace hH := hH1
                clear hKK KK hH1 hkk
                try simp only [Act.put, List.setIfInBounds_toArray, List.set_cons_zero, List.set_cons_succ]
                refine wpAnyH_ready (rs := [30]) (by kernel_rfl) (by simp) ?_
                refine AllReadyH.cons (o := { dst := some 121, op := Op.call { callee := Callee.value (Operand.func 19), args := #[Operand.tmp 120], argTypes := #[28] }, type := 49, pos := "law.go:68", after := #[{ on := 29, ground := Ground.data }, { on := 28, ground := Ground.chain }, { on := 26, ground := Ground.guard }], guard := some (26, false) }) rfl (fun KK hKK => ?_) AllReadyH.nil
                go_simp
                refine (qre _ (hk47.trans hH)).mono ?_
                rintro e w13 ⟨rfl, hkk⟩
                go_wp2_with fail
                have hH1 := hH.trans hkk
                refine hKK.out _ _ hH1 (fun _ => ?_)
                replace hH := hH1
                clear hKK KK hH1 hkk
                try simp only [Act.put, List.setIfInBounds_toArray, List.set_cons_zero, List.set_cons_succ]
                refine wpAnyH_take (i := 31) (oi := { dst := some 122, op := Op.binOp BinOp.neq 49 (Operand.tmp 119) (Operand.tmp 121) 49, type := 4, pos := "law.go:68", after := #[{ on := 28, ground := Ground.data }, { on := 30, ground := Ground.data }, { on := 26, ground := Ground.guard }], guard := some (26, false) }) (v := (.bool false)) rfl (by kernel_rfl) (by kernel_rfl) (by kernel_rfl) (fun _ _ _ h => h) (Or.inl ⟨by rfl, fun W hSw => by go_simp⟩) hH ?_
                try simp only [Act.put, List.setIfInBounds_toArray, List.set_cons_zero, List.set_cons_succ]
                refine wpAnyH_take (i := 32) (oi := { dst := some 123, op := Op.pick (Operand.tmp 117) (Operand.const (Value.bool true)) (Operand.tmp 122), type := 4, pos := "law.go:68", after := #[{ on := 26, ground := Ground.data }, { on := 31, ground := Ground.data }], guard := none }) (v := (.bool false)) rfl (by kernel_rfl) (by kernel_rfl) (by kernel_rfl) (fun _ _ _ h => h) (Or.inl ⟨by rfl, fun W hSw => by go_simp⟩) hH ?_
                try simp only [Act.put, List.setIfInBounds_toArray, List.set_cons_zero, List.set_cons_succ]
                refine wpAnyH_take (i := 33) (oi := { dst := some 124, op := Op.move (Operand.tmp 123), type := 4, pos := "law.go:68", after := #[{ on := 32, ground := Ground.data }, { on := 30, ground := Ground.chain }], guard := none }) (v := (.bool false)) rfl (by kernel_rfl) (by kernel_rfl) (by kernel_rfl) (fun _ _ _ h => h) (Or.inl ⟨by rfl, fun W hSw => by go_simp⟩) hH ?_
                try simp only [Act.put, List.setIfInBounds_toArray, List.set_cons_zero, List.set_cons_succ]
                refine wpAnyH_take (i := 34) (oi := { dst := some 125, op := Op.move (Operand.tmp 5), type := 26, pos := "law.go:68", after := #[{ on := 33, ground := Ground.guard }], guard := some (33, false) }) (v := (.pointer (some ⟨f, 0, none⟩))) rfl (by kernel_rfl) (by kernel_rfl) (by kernel_rfl) (fun _ _ _ h => h) (Or.inl ⟨by rfl, fun W hSw => by go_simp⟩) hH ?_
                try simp only [Act.put, List.setIfInBounds_toArray, List.set_cons_zero, List.set_cons_succ]
                refine wpAnyH_take (i := 36) (oi := { dst := some 127, op := Op.move (Operand.tmp 6), type := 28, pos := "law.go:68", after := #[{ on := 33, ground := Ground.guard }], guard := some (33, false) }) (v := (.pointer (some ⟨w1.heap.size, 0, none⟩))) rfl (by kernel_rfl) (by kernel_rfl) (by kernel_rfl) (fun _ _ _ h => h) (Or.inl ⟨by rfl, fun W hSw => by go_simp⟩) hH ?_
                try simp only [Act.put, List.setIfInBounds_toArray, List.set_cons_zero, List.set_cons_succ]
                refine wpAnyH_take (i := 37) (oi := { dst := some 128, op := Op.nilCheck (Operand.tmp 127), type := 0, pos := "law.go:68", after := #[{ on := 36, ground := Ground.data }, { on := 33, ground := Ground.guard }], guard := some (33, false) }) (v := (.pointer (some ⟨w1.heap.size, 0, none⟩))) rfl (by kernel_rfl) (by kernel_rfl) (by kernel_rfl) (fun _ _ _ h => h) (Or.inl ⟨by rfl, fun W hSw => by go_simp⟩) hH ?_
                try simp only [Act.put, List.setIfInBounds_toArray, List.set_cons_zero, List.set_cons_succ]
                refine wpAnyH_take (i := 38) (oi := { dst := some 129, op := Op.fieldAddr 31 (Operand.tmp 128) 0, type := 0, pos := "law.go:68", after := #[{ on := 37, ground := Ground.data }, { on := 33, ground := Ground.guard }], guard := some (33, false) }) (v := (.pointer (some ⟨w1.heap.size, 0, none⟩))) rfl (by kernel_rfl) (by kernel_rfl) (by kernel_rfl) (fun _ _ _ h => h) (Or.inl ⟨by rfl, fun W hSw => by go_simp⟩) hH ?_
                try simp only [Act.put, List.setIfInBounds_toArray, List.set_cons_zero, List.set_cons_succ]
                refine wpAnyH_take (i := 39) (oi := { dst := some 130, op := Op.load 29 (Operand.tmp 129), type := 29, pos := "law.go:68", after := #[{ on := 38, ground := Ground.data }, { on := 33, ground := Ground.guard }], guard := some (33, false) }) (v := (.slice ra n4 rc)) rfl (by kernel_rfl) (by kernel_rfl) (by kernel_rfl) (fun _ _ _ h => h) (Or.inl ⟨by rfl, fun W hSw => by obtain ⟨⟨x0, x1, x2, x3, x4⟩, ⟨y0, y1, y2, y3, y4⟩, ⟨s0, s1⟩, r0⟩ := hS.out W hSw; go_simp⟩) hH ?_
                try simp only [Act.put, List.setIfInBounds_toArray, List.set_cons_zero, List.set_cons_succ]
                refine wpAnyH_take (i := 40) (oi := { dst := some 131, op := Op.call { callee := Callee.builtin Builtin.len, args := #[Operand.tmp 130], argTypes := #[29] }, type := 3, pos := "law.go:68", after := #[{ on := 39, ground := Ground.data }, { on := 33, ground := Ground.guard }], guard := some (33, false) }) (v := (.int .i64 (n4 : Int))) rfl (by kernel_rfl) (by kernel_rfl) (by kernel_rfl) (fun _ _ _ h => h) (Or.inl ⟨by rfl, fun W hSw => by go_simp⟩) hH ?_
                try simp only [Act.put, List.setIfInBounds_toArray, List.set_cons_zero, List.set_cons_succ]
                refine wpAnyH_ready (rs := [35]) (by kernel_rfl) (by simp) ?_
                refine AllReadyH.cons (o := { dst := some 126, op := Op.call { callee := Callee.value (Operand.func 20), args := #[Operand.tmp 125], argTypes := #[26] }, type := 3, pos := "law.go:68", after := #[{ on := 34, ground := Ground.data }, { on := 33, ground := Ground.chain }, { on := 33, ground := Ground.guard }], guard := some (33, false) }) rfl (fun KK hKK => ?_) AllReadyH.nil
                go_simp
                refine (ql _ (hk47.trans hH)).mono ?_
                rintro e w14 ⟨rfl, hkk⟩
                go_wp2_with fail
                have hH1 := hH.trans hkk
                refine hKK.out _ _ hH1 (fun _ => ?_)
                replace hH := hH1
                clear hKK KK hH1 hkk
                try simp only [Act.put, List.setIfInBounds_toArray, List.set_cons_zero, List.set_cons_succ]
                refine wpAnyH_take (i := 41) (oi := { dst := some 132, op := Op.binOp BinOp.neq 3 (Operand.tmp 126) (Operand.tmp 131) 3, type := 4, pos := "law.go:68", after := #[{ on := 35, ground := Ground.data }, { on := 40, ground := Ground.data }, { on := 33, ground := Ground.guard }], guard := some (33, false) }) (v := (.bool false)) rfl (by kernel_rfl) (by kernel_rfl) (by kernel_rfl) (fun _ _ _ h => h) (Or.inl ⟨by rfl, fun W hSw => by go_simp⟩) hH ?_
                try simp only [Act.put, List.setIfInBounds_toArray, List.set_cons_zero, List.set_cons_succ]
                refine wpAnyH_take (i := 42) (oi := { dst := some 133, op := Op.pick (Operand.tmp 124) (Operand.const (Value.bool true)) (Operand.tmp 132), type := 4, pos := "law.go:68", after := #[{ on := 33, ground := Ground.data }, { on := 41, ground := Ground.data }], guard := none }) (v := (.bool false)) rfl (by kernel_rfl) (by kernel_rfl) (by kernel_rfl) (fun _ _ _ h => h) (Or.inl ⟨by rfl, fun W hSw => by go_simp⟩) hH ?_
                try simp only [Act.put, List.setIfInBounds_toArray, List.set_cons_zero, List.set_cons_succ]
                refine wpAnyH_done (by kernel_rfl) ?_ _
                go_wp2_with fail
                go_meet
                exact ⟨rfl, hH⟩
            · go_simp
              have hH1 := (kept_alloc [] W7 (.cells #[.int .i64 gy.t, .int .i64 gy.o, .int .i64 gy.l, .slice gy.sa gy.len gy.cap, .int .i64 gy.st] 42)).trans (kept_drew [] _)
              refine hKK.out _ _ hH1 (fun _ => ?_)
              replace hH := hH1
              clear hKK KK hH1
              try simp only [Act.put, List.setIfInBounds_toArray, List.set_cons_zero, List.set_cons_succ]
              refine wpAnyH_ready (rs := [10]) (by kernel_rfl) (by simp) ?_
              refine AllReadyH.cons (o := { dst := some 101, op := Op.buildSlice 47 1 #[(0, Operand.tmp 100)], type := 47, pos := "law.go:68", after := #[{ on := 9, ground := Ground.data }, { on := 8, ground := Ground.guard }], guard := some (8, false) }) rfl (fun KK hKK => ?_) AllReadyH.nil
              go_simp
              have hH1 := ((kept_alloc [] W7 (.cells #[.int .i64 gy.t, .int .i64 gy.o, .int .i64 gy.l, .slice gy.sa gy.len gy.cap, .int .i64 gy.st] 42)).trans (kept_alloc [] _ (.cells #[.int .i64 gx.t, .int .i64 gx.o, .int .i64 gx.l, .slice gx.sa gx.len gx.cap, .int .i64 gx.st] 39))).trans (kept_drew [] _)
              refine hKK.out _ _ hH1 (fun _ => ?_)
              replace hH := hH1
              clear hKK KK hH1
              try simp only [Act.put, List.setIfInBounds_toArray, List.set_cons_zero, List.set_cons_succ]
              refine wpAnyH_ready (rs := [11]) (by kernel_rfl) (by simp) ?_
              refine AllReadyH.cons (o := { dst := some 102, op := Op.call { callee := Callee.value (Operand.func 15), args := #[Operand.tmp 101], argTypes := #[47] }, type := 29, pos := "law.go:68", after := #[{ on := 10, ground := Ground.data }, { on := 8, ground := Ground.chain }, { on := 8, ground := Ground.guard }], guard := some (8, false) }) rfl (fun KK hKK => ?_) AllReadyH.nil
              go_simp
              refine qw3.mono ?_
              rintro e w8 ⟨u, rfl, hk8, hu⟩
              go_wp2_with fail
              refine hKK.out _ _ hk8 (fun _ => ?_)
              replace hH := hk8
              clear hKK KK
              try simp only [Act.put, List.setIfInBounds_toArray, List.set_cons_zero, List.set_cons_succ]
              refine wpAnyH_ready (rs := [14]) (by kernel_rfl) (by simp) ?_
              refine AllReadyH.cons (o := { dst := some 105, op := Op.call { callee := Callee.value (Operand.func 14), args := #[Operand.tmp 102, Operand.tmp 104], argTypes := #[29, 29] }, type := 4, pos := "law.go:68", after := #[{ on := 11, ground := Ground.data }, { on := 13, ground := Ground.data }, { on := 11, ground := Ground.chain }, { on := 8, ground := Ground.guard }], guard := some (8, false) }) rfl (fun KK hKK => ?_) AllReadyH.nil
              go_simp
              refine hu.mono ?_
              rintro e w9 ⟨rfl, hk9⟩
              go_wp2_with fail
              refine hKK.out _ _ hk9 (fun _ => ?_)
              replace hH := hk9
              clear hKK KK hk8 hu
              try simp only [Act.put, List.setIfInBounds_toArray, List.set_cons_zero, List.set_cons_succ]
              refine wpAnyH_take (i := 15) (oi := { dst := some 106, op := Op.unOp UnOp.not 4 (Operand.tmp 105), type := 4, pos := "law.go:68", after := #[{ on := 14, ground := Ground.data }, { on := 8, ground := Ground.guard }], guard := some (8, false) }) (v := (.bool false)) rfl (by kernel_rfl) (by kernel_rfl) (by kernel_rfl) (fun _ _ _ h => h) (Or.inl ⟨by rfl, fun W hSw => by go_simp⟩) hH ?_
              try simp only [Act.put, List.setIfInBounds_toArray, List.set_cons_zero, List.set_cons_succ]
              refine wpAnyH_take (i := 16) (oi := { dst := some 107, op := Op.pick (Operand.tmp 99) (Operand.const (Value.bool true)) (Operand.tmp 106), type := 4, pos := "law.go:68", after := #[{ on := 8, ground := Ground.data }, { on := 15, ground := Ground.data }], guard := none }) (v := (.bool false)) rfl (by kernel_rfl) (by kernel_rfl) (by kernel_rfl) (fun _ _ _ h => h) (Or.inl ⟨by rfl, fun W hSw => by go_simp⟩) hH ?_
              try simp only [Act.put, List.setIfInBounds_toArray, List.set_cons_zero, List.set_cons_succ]
              refine wpAnyH_take (i := 17) (oi := { dst := some 108, op := Op.move (Operand.tmp 107), type := 4, pos := "law.go:68", after := #[{ on := 16, ground := Ground.data }, { on := 14, ground := Ground.chain }], guard := none }) (v := (.bool false)) rfl (by kernel_rfl) (by kernel_rfl) (by kernel_rfl) (fun _ _ _ h => h) (Or.inl ⟨by rfl, fun W hSw => by go_simp⟩) hH ?_
              try simp only [Act.put, List.setIfInBounds_toArray, List.set_cons_zero, List.set_cons_succ]
              refine wpAnyH_take (i := 18) (oi := { dst := some 109, op := Op.move (Operand.tmp 5), type := 26, pos := "law.go:68", after := #[{ on := 17, ground := Ground.guard }], guard := some (17, false) }) (v := (.pointer (some ⟨f, 0, none⟩))) rfl (by kernel_rfl) (by kernel_rfl) (by kernel_rfl) (fun _ _ _ h => h) (Or.inl ⟨by rfl, fun W hSw => by go_simp⟩) hH ?_
              try simp only [Act.put, List.setIfInBounds_toArray, List.set_cons_zero, List.set_cons_succ]
              refine wpAnyH_take (i := 19) (oi := { dst := some 110, op := Op.load 24 (Operand.tmp 3), type := 24, pos := "law.go:68", after := #[{ on := 17, ground := Ground.guard }], guard := some (17, false) }) (v := (.agg #[.int .i64 o, .int .i64 l])) rfl (by kernel_rfl) (by kernel_rfl) (by kernel_rfl) (fun _ _ _ h => h) (Or.inl ⟨by rfl, fun W hSw => by obtain ⟨⟨x0, x1, x2, x3, x4⟩, ⟨y0, y1, y2, y3, y4⟩, ⟨s0, s1⟩, r0⟩ := hS.out W hSw; go_simp⟩) hH ?_
              try simp only [Act.put, List.setIfInBounds_toArray, List.set_cons_zero, List.set_cons_succ]
              refine wpAnyH_take (i := 21) (oi := { dst := some 112, op := Op.move (Operand.tmp 6), type := 28, pos := "law.go:68", after := #[{ on := 17, ground := Ground.guard }], guard := some (17, false) }) (v := (.pointer (some ⟨w1.heap.size, 0, none⟩))) rfl (by kernel_rfl) (by kernel_rfl) (by kernel_rfl) (fun _ _ _ h => h) (Or.inl ⟨by rfl, fun W hSw => by go_simp⟩) hH ?_
              try simp only [Act.put, List.setIfInBounds_toArray, List.set_cons_zero, List.set_cons_succ]
              refine wpAnyH_take (i := 22) (oi := { dst := some 113, op := Op.load 24 (Operand.tmp 3), type := 24, pos := "law.go:68", after := #[{ on := 17, ground := Ground.guard }], guard := some (17, false) }) (v := (.agg #[.int .i64 o, .int .i64 l])) rfl (by kernel_rfl) (by kernel_rfl) (by kernel_rfl) (fun _ _ _ h => h) (Or.inl ⟨by rfl, fun W hSw => by obtain ⟨⟨x0, x1, x2, x3, x4⟩, ⟨y0, y1, y2, y3, y4⟩, ⟨s0, s1⟩, r0⟩ := hS.out W hSw; go_simp⟩) hH ?_
              try simp only [Act.put, List.setIfInBounds_toArray, List.set_cons_zero, List.set_cons_succ]
              refine wpAnyH_ready (rs := [20]) (by kernel_rfl) (by simp) ?_
              refine AllReadyH.cons (o := { dst := some 111, op := Op.call { callee := Callee.value (Operand.func 16), args := #[Operand.tmp 109, Operand.tmp 110], argTypes := #[26, 24] }, type := 4, pos := "law.go:68", after := #[{ on := 18, ground := Ground.data }, { on := 19, ground := Ground.data }, { on := 17, ground := Ground.chain }, { on := 17, ground := Ground.guard }], guard := some (17, false) }) rfl (fun KK hKK => ?_) AllReadyH.nil
              go_simp
              refine (qb _ (hk47.trans hH)).mono ?_
              rintro e w10 ⟨rfl, hkk⟩
              go_wp2_with fail
              have hH1 := hH.trans hkk
              refine hKK.out _ _ hH1 (fun _ => ?_)
              replace hH := hH1
              clear hKK KK hH1 hkk
              try simp only [Act.put, List.setIfInBounds_toArray, List.set_cons_zero, List.set_cons_succ]
              refine wpAnyH_ready (rs := [23]) (by kernel_rfl) (by simp) ?_
              refine AllReadyH.cons (o := { dst := some 114, op := Op.call { callee := Callee.value (Operand.func 17), args := #[Operand.tmp 112, Operand.tmp 113], argTypes := #[28, 24] }, type := 4, pos := "law.go:68", after := #[{ on := 21, ground := Ground.data }, { on := 22, ground := Ground.data }, { on := 20, ground := Ground.chain }, { on := 17, ground := Ground.guard }], guard := some (17, false) }) rfl (fun KK hKK => ?_) AllReadyH.nil
              go_simp
              refine (qrb _ (hk47.trans hH)).mono ?_
              rintro e w11 ⟨rfl, hkk⟩
              go_wp2_with fail
              have hH1 := hH.trans hkk
              refine hKK.out _ _ hH1 (fun _ => ?_)
              replace hH := hH1
              clear hKK KK hH1 hkk
              try simp only [Act.put, List.setIfInBounds_toArray, List.set_cons_zero, List.set_cons_succ]
              refine wpAnyH_take (i := 24) (oi := { dst := some 115, op := Op.binOp BinOp.neq 4 (Operand.tmp 111) (Operand.tmp 114) 4, type := 4, pos := "law.go:68", after := #[{ on := 20, ground := Ground.data }, { on := 23, ground := Ground.data }, { on := 17, ground := Ground.guard }], guard := some (17, false) }) (v := (.bool false)) rfl (by kernel_rfl) (by kernel_rfl) (by kernel_rfl) (fun _ _ _ h => h) (Or.inl ⟨by rfl, fun W hSw => by go_simp⟩) hH ?_
              try simp only [Act.put, List.setIfInBounds_toArray, List.set_cons_zero, List.set_cons_succ]
              refine wpAnyH_take (i := 25) (oi := { dst := some 116, op := Op.pick (Operand.tmp 108) (Operand.const (Value.bool true)) (Operand.tmp 115), type := 4, pos := "law.go:68", after := #[{ on := 17, ground := Ground.data }, { on := 24, ground := Ground.data }], guard := none }) (v := (.bool false)) rfl (by kernel_rfl) (by kernel_rfl) (by kernel_rfl) (fun _ _ _ h => h) (Or.inl ⟨by rfl, fun W hSw => by go_simp⟩) hH ?_
              try simp only [Act.put, List.setIfInBounds_toArray, List.set_cons_zero, List.set_cons_succ]
              refine wpAnyH_take (i := 26) (oi := { dst := some 117, op := Op.move (Operand.tmp 116), type := 4, pos := "law.go:68", after := #[{ on := 25, ground := Ground.data }, { on := 23, ground := Ground.chain }], guard := none }) (v := (.bool false)) rfl (by kernel_rfl) (by kernel_rfl) (by kernel_rfl) (fun _ _ _ h => h) (Or.inl ⟨by rfl, fun W hSw => by go_simp⟩) hH ?_
              try simp only [Act.put, List.setIfInBounds_toArray, List.set_cons_zero, List.set_cons_succ]
              refine wpAnyH_take (i := 27) (oi := { dst := some 118, op := Op.move (Operand.tmp 5), type := 26, pos := "law.go:68", after := #[{ on := 26, ground := Ground.guard }], guard := some (26, false) }) (v := (.pointer (some ⟨f, 0, none⟩))) rfl (by kernel_rfl) (by kernel_rfl) (by kernel_rfl) (fun _ _ _ h => h) (Or.inl ⟨by rfl, fun W hSw => by go_simp⟩) hH ?_
              try simp only [Act.put, List.setIfInBounds_toArray, List.set_cons_zero, List.set_cons_succ]
              refine wpAnyH_take (i := 29) (oi := { dst := some 120, op := Op.move (Operand.tmp 6), type := 28, pos := "law.go:68", after := #[{ on := 26, ground := Ground.guard }], guard := some (26, false) }) (v := (.pointer (some ⟨w1.heap.size, 0, none⟩))) rfl (by kernel_rfl) (by kernel_rfl) (by kernel_rfl) (fun _ _ _ h => h) (Or.inl ⟨by rfl, fun W hSw => by go_simp⟩) hH ?_
              try simp only [Act.put, List.setIfInBounds_toArray, List.set_cons_zero, List.set_cons_succ]
              refine wpAnyH_ready (rs := [28]) (by kernel_rfl) (by simp) ?_
              refine AllReadyH.cons (o := { dst := some 119, op := Op.call { callee := Callee.value (Operand.func 18), args := #[Operand.tmp 118], argTypes := #[26] }, type := 49, pos := "law.go:68", after := #[{ on := 27, ground := Ground.data }, { on := 26, ground := Ground.chain }, { on := 26, ground := Ground.guard }], guard := some (26, false) }) rfl (fun KK hKK => ?_) AllReadyH.nil
              go_simp
              refine (qe _ (hk47.trans hH)).mono ?_
              rintro e w12 ⟨rfl, hkk⟩
              go_wp2_with fail
              have hH1 := hH.trans hkk
              refine hKK.out _ _ hH1 (fun _ => ?_)
              replace hH := hH1
              clear hKK KK hH1 hkk
              try simp only [Act.put, List.setIfInBounds_toArray, List.set_cons_zero, List.set_cons_succ]
              refine wpAnyH_ready (rs := [30]) (by kernel_rfl) (by simp) ?_
              refine AllReadyH.cons (o := { dst := some 121, op := Op.call { callee := Callee.value (Operand.func 19), args := #[Operand.tmp 120], argTypes := #[28] }, type := 49, pos := "law.go:68", after := #[{ on := 29, ground := Ground.data }, { on := 28, ground := Ground.chain }, { on := 26, ground := Ground.guard }], guard := some (26, false) }) rfl (fun KK hKK => ?_) AllReadyH.nil
              go_simp
              refine (qre _ (hk47.trans hH)).mono ?_
              rintro e w13 ⟨rfl, hkk⟩
              go_wp2_with fail
              have hH1 := hH.trans hkk
              refine hKK.out _ _ hH1 (fun _ => ?_)
              replace hH := hH1
              clear hKK KK hH1 hkk
              try simp only [Act.put, List.setIfInBounds_toArray, List.set_cons_zero, List.set_cons_succ]
              refine wpAnyH_take (i := 31) (oi := { dst := some 122, op := Op.binOp BinOp.neq 49 (Operand.tmp 119) (Operand.tmp 121) 49, type := 4, pos := "law.go:68", after := #[{ on := 28, ground := Ground.data }, { on := 30, ground := Ground.data }, { on := 26, ground := Ground.guard }], guard := some (26, false) }) (v := (.bool false)) rfl (by kernel_rfl) (by kernel_rfl) (by kernel_rfl) (fun _ _ _ h => h) (Or.inl ⟨by rfl, fun W hSw => by go_simp⟩) hH ?_
              try simp only [Act.put, List.setIfInBounds_toArray, List.set_cons_zero, List.set_cons_succ]
              refine wpAnyH_take (i := 32) (oi := { dst := some 123, op := Op.pick (Operand.tmp 117) (Operand.const (Value.bool true)) (Operand.tmp 122), type := 4, pos := "law.go:68", after := #[{ on := 26, ground := Ground.data }, { on := 31, ground := Ground.data }], guard := none }) (v := (.bool false)) rfl (by kernel_rfl) (by kernel_rfl) (by kernel_rfl) (fun _ _ _ h => h) (Or.inl ⟨by rfl, fun W hSw => by go_simp⟩) hH ?_
              try simp only [Act.put, List.setIfInBounds_toArray, List.set_cons_zero, List.set_cons_succ]
              refine wpAnyH_take (i := 33) (oi := { dst := some 124, op := Op.move (Operand.tmp 123), type := 4, pos := "law.go:68", after := #[{ on := 32, ground := Ground.data }, { on := 30, ground := Ground.chain }], guard := none }) (v := (.bool false)) rfl (by kernel_rfl) (by kernel_rfl) (by kernel_rfl) (fun _ _ _ h => h) (Or.inl ⟨by rfl, fun W hSw => by go_simp⟩) hH ?_
              try simp only [Act.put, List.setIfInBounds_toArray, List.set_cons_zero, List.set_cons_succ]
              refine wpAnyH_take (i := 34) (oi := { dst := some 125, op := Op.move (Operand.tmp 5), type := 26, pos := "law.go:68", after := #[{ on := 33, ground := Ground.guard }], guard := some (33, false) }) (v := (.pointer (some ⟨f, 0, none⟩))) rfl (by kernel_rfl) (by kernel_rfl) (by kernel_rfl) (fun _ _ _ h => h) (Or.inl ⟨by rfl, fun W hSw => by go_simp⟩) hH ?_
              try simp only [Act.put, List.setIfInBounds_toArray, List.set_cons_zero, List.set_cons_succ]
              refine wpAnyH_take (i := 36) (oi := { dst := some 127, op := Op.move (Operand.tmp 6), type := 28, pos := "law.go:68", after := #[{ on := 33, ground := Ground.guard }], guard := some (33, false) }) (v := (.pointer (some ⟨w1.heap.size, 0, none⟩))) rfl (by kernel_rfl) (by kernel_rfl) (by kernel_rfl) (fun _ _ _ h => h) (Or.inl ⟨by rfl, fun W hSw => by go_simp⟩) hH ?_
              try simp only [Act.put, List.setIfInBounds_toArray, List.set_cons_zero, List.set_cons_succ]
              refine wpAnyH_take (i := 37) (oi := { dst := some 128, op := Op.nilCheck (Operand.tmp 127), type := 0, pos := "law.go:68", after := #[{ on := 36, ground := Ground.data }, { on := 33, ground := Ground.guard }], guard := some (33, false) }) (v := (.pointer (some ⟨w1.heap.size, 0, none⟩))) rfl (by kernel_rfl) (by kernel_rfl) (by kernel_rfl) (fun _ _ _ h => h) (Or.inl ⟨by rfl, fun W hSw => by go_simp⟩) hH ?_
              try simp only [Act.put, List.setIfInBounds_toArray, List.set_cons_zero, List.set_cons_succ]
              refine wpAnyH_take (i := 38) (oi := { dst := some 129, op := Op.fieldAddr 31 (Operand.tmp 128) 0, type := 0, pos := "law.go:68", after := #[{ on := 37, ground := Ground.data }, { on := 33, ground := Ground.guard }], guard := some (33, false) }) (v := (.pointer (some ⟨w1.heap.size, 0, none⟩))) rfl (by kernel_rfl) (by kernel_rfl) (by kernel_rfl) (fun _ _ _ h => h) (Or.inl ⟨by rfl, fun W hSw => by go_simp⟩) hH ?_
              try simp only [Act.put, List.setIfInBounds_toArray, List.set_cons_zero, List.set_cons_succ]
              refine wpAnyH_take (i := 39) (oi := { dst := some 130, op := Op.load 29 (Operand.tmp 129), type := 29, pos := "law.go:68", after := #[{ on := 38, ground := Ground.data }, { on := 33, ground := Ground.guard }], guard := some (33, false) }) (v := (.slice ra n4 rc)) rfl (by kernel_rfl) (by kernel_rfl) (by kernel_rfl) (fun _ _ _ h => h) (Or.inl ⟨by rfl, fun W hSw => by obtain ⟨⟨x0, x1, x2, x3, x4⟩, ⟨y0, y1, y2, y3, y4⟩, ⟨s0, s1⟩, r0⟩ := hS.out W hSw; go_simp⟩) hH ?_
              try simp only [Act.put, List.setIfInBounds_toArray, List.set_cons_zero, List.set_cons_succ]
              refine wpAnyH_take (i := 40) (oi := { dst := some 131, op := Op.call { callee := Callee.builtin Builtin.len, args := #[Operand.tmp 130], argTypes := #[29] }, type := 3, pos := "law.go:68", after := #[{ on := 39, ground := Ground.data }, { on := 33, ground := Ground.guard }], guard := some (33, false) }) (v := (.int .i64 (n4 : Int))) rfl (by kernel_rfl) (by kernel_rfl) (by kernel_rfl) (fun _ _ _ h => h) (Or.inl ⟨by rfl, fun W hSw => by go_simp⟩) hH ?_
              try simp only [Act.put, List.setIfInBounds_toArray, List.set_cons_zero, List.set_cons_succ]
              refine wpAnyH_ready (rs := [35]) (by kernel_rfl) (by simp) ?_
              refine AllReadyH.cons (o := { dst := some 126, op := Op.call { callee := Callee.value (Operand.func 20), args := #[Operand.tmp 125], argTypes := #[26] }, type := 3, pos := "law.go:68", after := #[{ on := 34, ground := Ground.data }, { on := 33, ground := Ground.chain }, { on := 33, ground := Ground.guard }], guard := some (33, false) }) rfl (fun KK hKK => ?_) AllReadyH.nil
              go_simp
              refine (ql _ (hk47.trans hH)).mono ?_
              rintro e w14 ⟨rfl, hkk⟩
              go_wp2_with fail
              have hH1 := hH.trans hkk
              refine hKK.out _ _ hH1 (fun _ => ?_)
              replace hH := hH1
              clear hKK KK hH1 hkk
              try simp only [Act.put, List.setIfInBounds_toArray, List.set_cons_zero, List.set_cons_succ]
              refine wpAnyH_take (i := 41) (oi := { dst := some 132, op := Op.binOp BinOp.neq 3 (Operand.tmp 126) (Operand.tmp 131) 3, type := 4, pos := "law.go:68", after := #[{ on := 35, ground := Ground.data }, { on := 40, ground := Ground.data }, { on := 33, ground := Ground.guard }], guard := some (33, false) }) (v := (.bool false)) rfl (by kernel_rfl) (by kernel_rfl) (by kernel_rfl) (fun _ _ _ h => h) (Or.inl ⟨by rfl, fun W hSw => by go_simp⟩) hH ?_
              try simp only [Act.put, List.setIfInBounds_toArray, List.set_cons_zero, List.set_cons_succ]
              refine wpAnyH_take (i := 42) (oi := { dst := some 133, op := Op.pick (Operand.tmp 124) (Operand.const (Value.bool true)) (Operand.tmp 132), type := 4, pos := "law.go:68", after := #[{ on := 33, ground := Ground.data }, { on := 41, ground := Ground.data }], guard := none }) (v := (.bool false)) rfl (by kernel_rfl) (by kernel_rfl) (by kernel_rfl) (fun _ _ _ h => h) (Or.inl ⟨by rfl, fun W hSw => by go_simp⟩) hH ?_
              try simp only [Act.put, List.setIfInBounds_toArray, List.set_cons_zero, List.set_cons_succ]
              refine wpAnyH_done (by kernel_rfl) ?_ _
              go_wp2_with fail
              go_meet
              exact ⟨rfl, hH⟩

          case rest =>
            obtain ⟨rfl, hkc⟩ := hcut
            go_wp2_with fail
            go_roundw
            case rel => exact ⟨k + 1, L4, by go_num, by omega, hT4.out.kept0 (hk47.trans hkc), by rw [hn4.out]; exact hL4k, hk04.trans (hk47.trans hkc)⟩
            case measure => exact hm1.out
    · obtain rfl : k = len := by omega
      have i1 : ¬ ((k : Int) < (k : Int)) := by omega
      have hl6 : L.length ≤ 600 := by omega
      clear hacts
      have q1 := two_list wr hT hl6
      have q4 := fun W hk => two_rlist W (hT.kept0 (B := W) hk) hl6
      have q6 := fun W hk => two_own W (hT.kept0 (B := W) hk) hl6
      have q8 := fun W hk => two_rown W (hT.kept0 (B := W) hk) hl6
      have qv := fun W => lives_any W
      have hol : (owsL L).length ≤ 600 := by unfold owsL; rw [List.length_map]; exact hl6
      replace hT : Hid (Two wr w0.heap.size f b p w1.heap.size L L) := hT
      go_wp2_with (first
        | (go_at_call 21; refine q1.mono ?_; rintro e w2 ⟨v, rfl, ⟨xs, hxL, hxA, hxW⟩, hk2⟩; have hxn : xs.length ≤ 600 := (by have := congrArg List.length hxL; rw [List.length_map] at this; omega); replace hxL : Hid (tl xs = L) := hxL; replace hxA : Hid (∀ x ∈ xs, x.At wr.heap.size w2.heap.size w2) := hxA; have q2 := writes_any v w2 hxW hxn)
        | (go_at_call 15; refine q2.mono ?_; rintro e w3 ⟨u, rfl, hu, hk3⟩; have q4' := q4 w3 (hk2.trans hk3))
        | (go_at_call 22; refine q4'.mono ?_; rintro e w4 ⟨v2, rfl, ⟨ys, hyL, hyA, hyW⟩, hk4⟩; have q5 := rSame_any u v2 w4 (hu.kept0 hk4) hyW (hxL.out.trans (show L = tl ys from hyL.symm)) (fun z hz => (((hxA.out z hz).kept0 (hk3.trans hk4)).mono (Nat.zero_le _) (hk3.trans hk4).size).in) (fun z hz => ((hyA z hz).mono (Nat.zero_le _) (Nat.le_refl _)).in) hxn)
        | (go_at_call 14; refine q5.mono ?_; rintro e w5 ⟨rfl, hk5⟩; have hk05 : Kept [] wr w5 := ((hk2.trans hk3).trans hk4).trans hk5; have q6' := q6 w5 hk05)
        | (go_at_call 25; refine q6'.mono ?_; rintro e w6 ⟨v6, rfl, hO6, hk6⟩; have q7 := owns_any v6 w6 hO6 hol)
        | (go_at_call 24; refine q7.mono ?_; rintro e w7 ⟨v7, rfl, hO7, hk7⟩; have q8' := q8 w7 ((hk05.trans hk6).trans hk7))
        | (go_at_call 26; refine q8'.mono ?_; rintro e w8 ⟨v8, rfl, hO8, hk8⟩; have q9 := rOwns_any v7 v8 w8 (hO7.kept hk8) hO8 hol)
        | (go_at_call 23; refine q9.mono ?_; rintro e w9 ⟨rfl, hk9⟩; have q10 := qv w9)
        | (go_at_call 4; refine q10.mono ?_; rintro e w10 ⟨rfl, hk10⟩))
      go_ret
      exact ⟨rfl, (ka.trans hkr).trans (((((hk05.trans hk6).trans hk7).trans hk8).trans hk9).trans hk10)⟩
end Go.Proofs.YtollfckgjhklcaaGreat.Flight

