/-
 Two mirrors, plain, as their calls leave them: writes, messages that come, what goes.
-/
import Derived.Test.YtoaeficfmcncjaaGreatM50
namespace Go.Proofs.YtoaeficfmcncjaaGreat.Mirror
open Math
open Flight (Fw busy addL turnL endL endOk exts addOk setSt)
open Later (Lw overL wentB wentW leftL lw0 may pick gone)
open Clash (Ow verd)
open Pack (Ms)
open Table (Rising ins del tks)
structure Net where
 a : Mr
 b : Mr
 wa : List Ms
 wb : List Ms
structure NInv (n : Net) : Prop where
 inv : Inv 32 (Table.look n.a.fly) (Table.look n.b.fly) n.b.lat n.wa n.wb (sect n.a.d) (sect n.b.d)
 dryA : Dry n.a.d
 dryB : Dry n.b.d
 sizeA : n.a.d.size = 40
 sizeB : n.b.d.size = 40
 arbA : n.a.arb = true
 arbB : n.b.arb = false
 latA : n.a.lat = []
 goodA : Flight.Good n.a.fly
 goodB : Flight.Good n.b.fly
theorem look_none_iff {F : List (Int × Fw)} {i : Int} : Table.look F i = none ↔ (Table.look F i).isSome = false := by cases Table.look F i <;> simp
theorem any_iff {F : List (Int × Fw)} (h : Rising F) (p : Fw → Bool) : F.any (fun x => p x.2) = true ↔ ∃ i x, Table.look F i = some x ∧ p x = true := by
 rw [List.any_eq_true]
 constructor
 ·rintro ⟨x, hx, hp⟩
  exact ⟨x.1, x.2, Flight.look_some h hx, hp⟩
 ·rintro ⟨i, x, hx, hp⟩
  exact ⟨(i, x), Table.look_mem hx, hp⟩
theorem owns_any (F : List (Int × Fw)) (p : Ow → Bool) : (ownsM F).any p = F.any fun x => p ⟨x.2.o, x.2.l, !decide (x.2.st = 1)⟩ := by
 unfold ownsM
 rw [List.any_map]
 rfl
theorem out_at {d : Dk} (hs : d.size = 40) {j : Nat} (hj : ¬ j < 32) : inside d (spot 0 j) = false := by
 simp only [inside, spot, Bool.and_eq_false_iff]
 right
 exact decide_eq_false (by omega)
theorem store_sect {d : Dk} (h : Dry d) (hs : d.size = 40) {w : Lw} {x : Fw} {i : Int} (hf : FineF 32 i x) (ho : w.o = x.o) (hl : w.l = x.l) (hb : w.bs = x.bs) :
  storeE d w = 0 ∧ Dry (storeS d w) ∧ (storeS d w).size = 40 ∧ sect (storeS d w) = lay (sect d) x := by
 have hN : dataN d = 32 := by unfold dataN; omega
 obtain ⟨h1, h2, h3, h4⟩ := store_good h (w := w) (by rw [hN, ho, hl]; exact hf.good) (by rw [hb, hl]; exact hf.len) (by rw [hb]; exact hf.byt)
 refine ⟨h1, h2, by omega, funext fun j => ?_⟩
 have hin := hf.in
 by_cases hj : j < 32
 ·rw [h4 j (by omega), ho, hl, hb]
  rfl
 ·have e : lay (sect d) x j = sect d j := lay_out _ (by unfold cov; omega)
  rw [e]
  unfold sect readL
  rw [out_at (h3.trans hs) hj, out_at hs hj]
  rfl
theorem log_sect {d : Dk} (h : Dry d) (hs : d.size = 40) (m : Nat) : Dry (logS d m) ∧ (logS d m).size = 40 ∧ sect (logS d m) = sect d := by
 obtain ⟨h1, h2, h3⟩ := log_dry h m
 refine ⟨h1, by omega, funext fun j => ?_⟩
 by_cases hj : j < 32
 ·exact h3 j (by unfold dataN; omega)
 ·unfold sect readL
  rw [out_at (h2.trans hs) hj, out_at hs hj]
  rfl
theorem heat_sect (m : Mr) (h : Dry m.d) (hs : m.d.size = 40) (o l : Int) : Dry (heatD m o l) ∧ (heatD m o l).size = 40 ∧ sect (heatD m o l) = sect m.d := by
 unfold heatD
 split
 ·exact log_sect h hs _
 ·exact ⟨h, hs, rfl⟩
structure Asks (w : Lw) : Prop where
 id : w.id ≤ 72057594037927935
 len : w.bs.length ≤ 128
 byt : ∀ b ∈ w.bs, b < 256
theorem wr_cases {m : Mr} (hd : Dry m.d) (hs : m.d.size = 40) {w : Lw} (hw : Asks w) :
  (wrO m w = [] ∧ (wrS m w).fly = m.fly ∧ (wrS m w).lat = m.lat ∧ (wrS m w).arb = m.arb ∧ Dry (wrS m w).d ∧ (wrS m w).d.size = 40 ∧ sect (wrS m w).d = sect m.d) ∨
  (FineF 32 w.id ⟨w.o, w.l, w.bs, 0⟩ ∧ Table.look m.fly w.id = none ∧ busy m.fly w.o w.l = false ∧ overL m.lat w.o w.l = false ∧ wrO m w = [dm w.id ⟨w.o, w.l, w.bs, 0⟩] ∧ (wrS m w).fly = ins m.fly w.id ⟨w.o, w.l, w.bs, 0⟩ ∧ (wrS m w).lat = m.lat ∧ (wrS m w).arb = m.arb ∧
   Dry (wrS m w).d ∧ (wrS m w).d.size = 40 ∧ sect (wrS m w).d = lay (sect m.d) ⟨w.o, w.l, w.bs, 0⟩) := by
 have hN : dataN m.d = 32 := by unfold dataN; omega
 obtain ⟨t1, t2, t3⟩ := heat_sect m hd hs w.o w.l
 by_cases hask : askB m w.id w.o w.l w.bs.length = true
 ·by_cases hfree : freeB m w.id w.o w.l = true
  ·by_cases hheat : heatE m w.o w.l = 0
   ·right
    simp only [askB, fitsB, Bool.and_eq_true, decide_eq_true_eq, hN] at hask
    obtain ⟨a1, a2, a3⟩ := hask
    have hf : FineF 32 w.id ⟨w.o, w.l, w.bs, 0⟩ := ⟨⟨a1, hw.id⟩, a2, by show (w.bs.length : Int) = 16 * w.l; omega, by have := hw.len; show w.l ≤ 8; omega, hw.byt⟩
    simp only [freeB, Bool.and_eq_true, Bool.not_eq_true'] at hfree
    obtain ⟨b1, b2, b3, _⟩ := hfree
    have b1' := look_none_iff.2 b1
    obtain ⟨s1, s2, s3, s4⟩ := store_sect t1 t2 hf (w := w) rfl rfl rfl
    have hin := good_of a2
    have hadd : addL m.fly w.id w.o w.l w.bs = ins m.fly w.id ⟨w.o, w.l, w.bs, 0⟩ := by
     unfold addL
     rw [if_pos]
     simp [addOk, a1, b1', b2, Span.Math.plain_of (show 0 ≤ w.o ∧ w.o ≤ 1073741824 ∧ 0 ≤ w.l ∧ w.l ≤ 1073741824 by omega)]
     omega
    have hask' : askB m w.id w.o w.l w.bs.length = true := by
     simp [askB, fitsB, a1, hN, a3]
     exact a2
    have hfree' : freeB m w.id w.o w.l = true := by simp only [freeB, b1, b2, b3]; simp_all
    have hE : wrE m w = 0 := by simp only [wrE, hask', hfree', hheat, s1]; rfl
    have hS : wrS m w = { m with d := storeS (heatD m w.o w.l) w, hot := heatH m w.o w.l, fly := ins m.fly w.id ⟨w.o, w.l, w.bs, 0⟩ } := by simp only [wrS, hask', hfree', hheat, s1, hadd]; rfl
    refine ⟨hf, b1', b2, b3, ?_, by rw [hS], by rw [hS], by rw [hS], by rw [hS]; exact s2, by rw [hS]; exact s3, by rw [hS]; show sect (storeS (heatD m w.o w.l) w) = _; rw [s4, t3]⟩
    simp [wrO, wrB, hask', hfree', hE, msgOf, dm]
   ·left
    have hE : wrE m w ≠ 0 := by simp only [wrE, hask, hfree]; simp [hheat]
    have hS : wrS m w = { m with d := heatD m w.o w.l, hot := heatH m w.o w.l } := by simp [wrS, hask, hfree, hheat]
    exact ⟨by simp [wrO, wrB, hE], by rw [hS], by rw [hS], by rw [hS], by rw [hS]; exact t1, by rw [hS]; exact t2, by rw [hS]; exact t3⟩
  ·left
   have hS : wrS m w = m := by simp [wrS, hask, hfree]
   exact ⟨by simp [wrO, wrB, hfree], by rw [hS], by rw [hS], by rw [hS], by rw [hS]; exact hd, by rw [hS]; exact hs, by rw [hS]⟩
 ·left
  have hS : wrS m w = m := by simp [wrS, hask]
  exact ⟨by simp [wrO, wrB, hask], by rw [hS], by rw [hS], by rw [hS], by rw [hS]; exact hd, by rw [hS]; exact hs, by rw [hS]⟩
theorem fn_ins {F : List (Int × Fw)} {i : Int} {x : Fw} (hn : Table.look F i = none) : Table.look (ins F i x) = upd (Table.look F) i (some x) := funext fun j => by
 rw [Table.look_ins hn]
 rfl
theorem fn_del {F : List (Int × Fw)} (hr : Rising F) {i : Int} {x : Fw} (hx : Table.look F i = some x) : Table.look (del F i) = upd (Table.look F) i none := funext fun j => by
 rw [Table.look_del hr (by rw [hx]; rfl)]
 rfl
theorem fn_set {F : List (Int × Fw)} {i s : Int} {x : Fw} (hx : Table.look F i = some x) : Table.look (setSt F i s) = upd (Table.look F) i (some { x with st := s }) := funext fun j => by
 rw [Flight.look_setSt]
 unfold upd
 by_cases e : j = i
 ·subst e
  rw [if_pos rfl, hx]
  simp
 ·rw [if_neg e]
  cases Table.look F j with
  | none => rfl
  | some w => simp [e]
theorem busy_not {F : List (Int × Fw)} (hr : Rising F) {x : Fw} (h : busy F x.o x.l = false) : ∀ j z, Table.look F j = some z → ov x z = false := fun j z hz => by
 cases ho : ov x z with
 | false => rfl
 | true =>
  rw [ov_comm] at ho
  have := (Flight.busy_iff hr x.o x.l).2 ⟨j, z, hz, ho⟩
  rw [h] at this
  cases this
theorem NInv.writeA {n : Net} (h : NInv n) {w : Lw} (hw : Asks w) : NInv { n with a := wrS n.a w, wb := n.wb ++ wrO n.a w } ∧ (wrS n.a w).fly.length ≤ n.a.fly.length + 1 := by
 rcases wr_cases h.dryA h.sizeA hw with ⟨e1, e2, e3, e4, e5, e6, e7⟩ | ⟨f, b1, b2, b3, e1, e2, e3, e4, e5, e6, e7⟩
 ·refine ⟨⟨?_, e5, h.dryB, e6, h.sizeB, e4.trans h.arbA, h.arbB, e3.trans h.latA, by rw [e2]; exact h.goodA, h.goodB⟩, by rw [e2]; omega⟩
  show Inv 32 (Table.look (wrS n.a w).fly) _ _ _ (n.wb ++ wrO n.a w) (sect (wrS n.a w).d) _
  rw [e1, e2, e7, List.append_nil]
  exact h.inv
 ·have hg : Flight.Good (ins n.a.fly w.id ⟨w.o, w.l, w.bs, 0⟩) := by
   have := h.goodA.add w.id w.o w.l w.bs
   rwa [show addL n.a.fly w.id w.o w.l w.bs = ins n.a.fly w.id ⟨w.o, w.l, w.bs, 0⟩ from ?_] at this
   unfold addL
   have hin := good_of f.good
   have h1 := f.id
   rw [if_pos]
   simp [addOk, h1.1, b1, b2, Span.Math.plain_of (show 0 ≤ w.o ∧ w.o ≤ 1073741824 ∧ 0 ≤ w.l ∧ w.l ≤ 1073741824 from ⟨hin.1, hin.2.2.2.1, by have := hin.2.1; show 0 ≤ w.l; have : (1:Int) ≤ w.l := hin.2.1; omega, hin.2.2.2.2⟩)]
   exact hin.2.1
  refine ⟨⟨?_, e5, h.dryB, e6, h.sizeB, e4.trans h.arbA, h.arbB, e3.trans h.latA, by rw [e2]; exact hg, h.goodB⟩, by rw [e2, Table.ins_length]; omega⟩
  show Inv 32 (Table.look (wrS n.a w).fly) _ _ _ (n.wb ++ wrO n.a w) (sect (wrS n.a w).d) _
  rw [e1, e2, e7, fn_ins b1]
  exact h.inv.sendA f rfl b1 (busy_not h.goodA.rising b2)
theorem NInv.writeB {n : Net} (h : NInv n) {w : Lw} (hw : Asks w) : NInv { n with b := wrS n.b w, wa := n.wa ++ wrO n.b w } ∧ (wrS n.b w).fly.length ≤ n.b.fly.length + 1 := by
 rcases wr_cases h.dryB h.sizeB hw with ⟨e1, e2, e3, e4, e5, e6, e7⟩ | ⟨f, b1, b2, b3, e1, e2, e3, e4, e5, e6, e7⟩
 ·refine ⟨⟨?_, h.dryA, e5, h.sizeA, e6, h.arbA, e4.trans h.arbB, h.latA, h.goodA, by rw [e2]; exact h.goodB⟩, by rw [e2]; omega⟩
  show Inv 32 _ (Table.look (wrS n.b w).fly) (wrS n.b w).lat (n.wa ++ wrO n.b w) _ _ (sect (wrS n.b w).d)
  rw [e1, e2, e3, e7, List.append_nil]
  exact h.inv
 ·have hg : Flight.Good (ins n.b.fly w.id ⟨w.o, w.l, w.bs, 0⟩) := by
   have := h.goodB.add w.id w.o w.l w.bs
   rwa [show addL n.b.fly w.id w.o w.l w.bs = ins n.b.fly w.id ⟨w.o, w.l, w.bs, 0⟩ from ?_] at this
   unfold addL
   have hin := good_of f.good
   have h1 := f.id
   rw [if_pos]
   simp [addOk, h1.1, b1, b2, Span.Math.plain_of (show 0 ≤ w.o ∧ w.o ≤ 1073741824 ∧ 0 ≤ w.l ∧ w.l ≤ 1073741824 from ⟨hin.1, hin.2.2.2.1, by have : (1:Int) ≤ w.l := hin.2.1; omega, hin.2.2.2.2⟩)]
   exact hin.2.1
  refine ⟨⟨?_, h.dryA, e5, h.sizeA, e6, h.arbA, e4.trans h.arbB, h.latA, h.goodA, by rw [e2]; exact hg⟩, by rw [e2, Table.ins_length]; omega⟩
  show Inv 32 _ (Table.look (wrS n.b w).fly) (wrS n.b w).lat (n.wa ++ wrO n.b w) _ _ (sect (wrS n.b w).d)
  rw [e1, e2, e3, e7, fn_ins b1]
  exact h.inv.sendB f rfl (fun z hz => by rw [b1] at hz; cases hz) (fun j z _ hz => busy_not h.goodB.rising b2 j z hz)
theorem good_dm {i : Int} {x : Fw} (h : FineF 32 i x) : Pack.good (dm i x) = true := by
 have hi := h.in
 have h1 := h.id
 have h2 := h.len
 have h3 := h.eight
 refine Pack.good_in ?_
 unfold Pack.Fine dm
 refine ⟨by simp, by simp, by simp, by simp; omega, by simp, by simp; omega, by simp, by simp, by simp; omega, by simp, by simp⟩
theorem good_am {k i : Int} (hk : k = 3 ∨ k = 4 ∨ k = 5) (h1 : 1 ≤ i ∧ i ≤ 72057594037927935) : Pack.good (am k i) = true := by
 refine Pack.good_in ?_
 unfold Pack.Fine am
 refine ⟨?_, ?_, ?_, ?_, ?_, ?_, ?_, ?_, ?_, ?_, ?_⟩ <;> simp <;> omega
theorem wOf_dm {i : Int} {x : Fw} (h : FineF 32 i x) : wOf (dm i x) = ⟨i, x.o, x.l, x.bs⟩ := by
 have h2 := h.len
 have hi := h.in
 unfold wOf dm
 congr 1
 show (((x.bs.length / 16 : Nat) : Int)) = x.l
 omega
theorem split_of {F : List (Int × Fw)} (hr : Rising F) {i : Int} {x : Fw} (hx : Table.look F i = some x) : ∃ A B, F = A ++ (i, x) :: B ∧ (∀ s, setSt F i s = A ++ (i, { x with st := s }) :: B) ∧ del F i = A ++ B := by
 have hd := Table.drop_place hr hx
 obtain ⟨h1, h2⟩ := Table.rising_ends F hr i
 have e : F = F.take (Table.place F i) ++ (i, x) :: F.drop (Table.place F i + 1) := by rw [← hd, List.take_append_drop]
 have hB : ∀ p ∈ F.drop (Table.place F i + 1), p.1 ≠ i := fun p hp => by
  have hr' : Rising (F.drop (Table.place F i)) := List.Pairwise.sublist (List.drop_sublist _ _) hr
  rw [hd] at hr'
  have := (List.pairwise_cons.1 hr').1 p hp
  have : i < p.1 := this
  omega
 refine ⟨F.take (Table.place F i), F.drop (Table.place F i + 1), e, fun s => ?_, rfl⟩
 have hm : ∀ L : List (Int × Fw), (∀ p ∈ L, p.1 ≠ i) → L.map (fun x => if x.1 = i then (x.1, { x.2 with st := s }) else x) = L := fun L hL => by
  rw [List.map_congr_left (g := id) fun p hp => by rw [if_neg (hL p hp)]; rfl]
  simp
 conv => lhs; rw [e]
 unfold setSt
 rw [List.map_append, List.map_cons, hm _ hB, hm _ fun p hp => by have := h1 p hp; omega]
 simp
theorem againL_app (A B : List (Int × Fw)) : againL (A ++ B) = againL A ++ againL B := by simp [againL]
theorem againL_cons (c : Int × Fw) (B : List (Int × Fw)) : againL (c :: B) = (if c.2.st = 1 then [lwOf c] else []) ++ againL B := by
 by_cases h : c.2.st = 1 <;> simp [againL, h]
def cu (q : List Lw) (l : List Lw) : Nat := (l.filter fun w => !overL q w.o w.l).length
theorem cu_app (q A B : List Lw) : cu q (A ++ B) = cu q A + cu q B := by simp [cu]
theorem cu_le (q l : List Lw) : cu q l ≤ l.length := List.length_filter_le _ _
theorem cu_more (q r l : List Lw) : cu (q ++ r) l ≤ cu q l := by
 unfold cu
 rw [← List.countP_eq_length_filter, ← List.countP_eq_length_filter]
 refine List.countP_mono_left fun w _ h => ?_
 simp only [overL, List.any_append, Bool.not_or, Bool.and_eq_true] at h ⊢
 exact h.1
def cR (W : List Ms) : Nat := W.countP fun m => m.k == 5
def cK (W : List Ms) : Nat := W.countP fun m => m.k == 3 || m.k == 4
theorem cR_app (U V : List Ms) : cR (U ++ V) = cR U + cR V := by simp [cR]
theorem cK_app (U V : List Ms) : cK (U ++ V) = cK U + cK V := by simp [cK]
theorem cR_d (i : Int) (x : Fw) (W : List Ms) : cR (dm i x :: W) = cR W := by simp [cR, dm]
theorem cK_d (i : Int) (x : Fw) (W : List Ms) : cK (dm i x :: W) = cK W := by simp [cK, dm]
theorem cR_5 (i : Int) (W : List Ms) : cR (am 5 i :: W) = cR W + 1 := by simp [cR, am]
theorem cK_5 (i : Int) (W : List Ms) : cK (am 5 i :: W) = cK W := by simp [cK, am]
theorem cR_34 {k : Int} (hk : k = 3 ∨ k = 4) (i : Int) (W : List Ms) : cR (am k i :: W) = cR W := by
 rcases hk with rfl | rfl <;> simp [cR, am]
theorem cK_34 {k : Int} (hk : k = 3 ∨ k = 4) (i : Int) (W : List Ms) : cK (am k i :: W) = cK W + 1 := by
 rcases hk with rfl | rfl <;> simp [cK, am]
def phiN (C D R G U K a b c : Nat) : Nat := 4 * (C * (D + R + G)) + 2 * D + R + 2 * U + K + 3 * a + 2 * b + c
def phi (n : Net) : Nat := phiN ((dI n.wb).length + n.b.lat.length) (dI n.wa).length (cR n.wb) (againL n.b.fly).length (cu n.b.lat (againL n.b.fly)) (cK n.wb) (dI n.wb).length n.b.lat.length (kI n.wa).length
theorem verd_true (O : List Ow) (p m : Int) : verd true O p m = if O.any (Clash.ph p m) then 1 else if O.any (Clash.po p m) then 2 else 0 := rfl
theorem verd_false (O : List Ow) (p m : Int) : verd false O p m = if O.any (Clash.ps p m) then 3 else 0 := rfl
theorem holds_cov {o l p m : Int} (h : Span.Math.holds o l p m = true) : Span.Math.over o l p m = true ∧ o ≤ p ∧ p + m ≤ o + l := by
 have ho := Span.Math.over_of_holds h
 refine ⟨ho, ?_⟩
 unfold Span.Math.holds at h
 simp only [Bool.and_eq_true, beq_iff_eq] at h
 rw [Span.Math.mOff_true ho, Span.Math.mLen_true ho] at h
 omega
theorem tk_dm {m : Mr} {i : Int} {x : Fw} (h : FineF 32 i x) : tkE m (dm i x) = dtE m (dm i x) ∧ tkO m (dm i x) = dtO m (dm i x) ∧ tkS m (dm i x) = dtS m (dm i x) := by
 have := good_dm h
 simp only [tkE, tkO, tkS, this]
 exact ⟨rfl, rfl, rfl⟩
theorem NInv.takeA {n : Net} (h : NInv n) {m : Ms} {t : List Ms} (hm : n.wa = m :: t) :
  tkE n.a m = 0 ∧ NInv { n with a := tkS n.a m, wa := t, wb := n.wb ++ tkO n.a m } ∧ phi { n with a := tkS n.a m, wa := t, wb := n.wb ++ tkO n.a m } + 1 ≤ phi n ∧ (tkS n.a m).fly.length ≤ n.a.fly.length ∧ (tkO n.a m).length ≤ 1 := by
 have hi := h.inv
 rw [hm] at hi
 rcases hi.mA m (by simp) with ⟨i, x, rfl, hx, h0⟩ | ⟨i, y, rfl, hy⟩
 ·have hf := (hi.fineB i x hx).1
  have hN : dataN n.a.d = 32 := by unfold dataN; have := h.sizeA; omega
  obtain ⟨t1, t2, t3⟩ := tk_dm (m := n.a) hf
  have hw := wOf_dm hf
  have hlen : (((dm i x).d.length / 16 : Nat) : Int) = x.l := congrArg Lw.l hw
  have hV : dtV n.a (dm i x) = verd true (ownsM n.a.fly) x.o x.l := by unfold dtV; rw [h.arbA, hlen]; rfl
  rw [t1, t2, t3]
  rw [verd_true, owns_any, owns_any] at hV
  have hr := h.goodA.rising
  by_cases c1 : (n.a.fly.any fun y => Clash.ph x.o x.l ⟨y.2.o, y.2.l, !decide (y.2.st = 1)⟩) = true
  ·rw [c1, if_pos rfl] at hV
   obtain ⟨j, y, hy, hp⟩ := (any_iff hr (fun y => Clash.ph x.o x.l ⟨y.o, y.l, !decide (y.st = 1)⟩)).1 c1
   obtain ⟨p1, p2, p3⟩ := holds_cov hp
   have hfy := (hi.fineA j y hy).1.in
   have hfx := hf.in
   have eO : dtO n.a (dm i x) = [am 4 i] := by simp [dtO, hV, hw, msgOf, am]
   have eS : dtS n.a (dm i x) = n.a := by simp [dtS, hV]
   rw [eO, eS]
   refine ⟨by simp [dtE, hV], ⟨hi.refuseA hx h0 (.inl rfl) ⟨j, y, hy, by rw [ov_comm]; exact p1, fun _ s hs => ?_⟩, h.dryA, h.dryB, h.sizeA, h.sizeB, h.arbA, h.arbB, h.latA, h.goodA, h.goodB⟩, ?_, Nat.le_refl _, by simp⟩
   ·unfold cov at *
    simp only at p2 p3
    omega
   ·unfold phi
    simp only [hm, dI_app, dI_a (show (4 : Int) ≠ 2 by decide), dI_d, cR_app, cR_34 (.inr rfl), cK_app, cK_34 (.inr rfl), kI_d]
    unfold phiN
    simp only [List.length_append, List.length_cons, show (dI []).length = 0 from rfl, show cR [] = 0 from rfl, show cK [] = 0 from rfl, Nat.add_zero]
    have := Nat.mul_le_mul_left ((dI n.wb).length + n.b.lat.length) (show (dI t).length + cR n.wb + (againL n.b.fly).length ≤ (dI t).length + 1 + cR n.wb + (againL n.b.fly).length by omega)
    omega
  ·rw [if_neg c1] at hV
   by_cases c2 : (n.a.fly.any fun y => Clash.po x.o x.l ⟨y.2.o, y.2.l, !decide (y.2.st = 1)⟩) = true
   ·rw [if_pos c2] at hV
    obtain ⟨j, y, hy, hp⟩ := (any_iff hr (fun y => Clash.po x.o x.l ⟨y.o, y.l, !decide (y.st = 1)⟩)).1 c2
    have eO : dtO n.a (dm i x) = [am 5 i] := by simp [dtO, hV, hw, msgOf, am]
    have eS : dtS n.a (dm i x) = n.a := by simp [dtS, hV]
    rw [eO, eS]
    refine ⟨by simp [dtE, hV], ⟨hi.refuseA hx h0 (.inr rfl) ⟨j, y, hy, by rw [ov_comm]; exact hp, fun e => by omega⟩, h.dryA, h.dryB, h.sizeA, h.sizeB, h.arbA, h.arbB, h.latA, h.goodA, h.goodB⟩, ?_, Nat.le_refl _, by simp⟩
    unfold phi
    simp only [hm, dI_app, dI_a (show (5 : Int) ≠ 2 by decide), dI_d, cR_app, cR_5, cK_app, cK_5, kI_d]
    unfold phiN
    simp only [List.length_append, List.length_cons, show (dI []).length = 0 from rfl, show cR [] = 0 from rfl, show cK [] = 0 from rfl, Nat.add_zero, Nat.zero_add]
    have e : (dI t).length + (cR n.wb + 1) + (againL n.b.fly).length = (dI t).length + 1 + cR n.wb + (againL n.b.fly).length := by omega
    rw [e]
    omega
   ·rw [if_neg c2] at hV
    have hno : ∀ j y, Table.look n.a.fly j = some y → ov x y = false := fun j y hy => by
     cases ho : ov x y with
     | false => rfl
     | true => exact absurd ((any_iff hr (fun y => Clash.po x.o x.l ⟨y.o, y.l, !decide (y.st = 1)⟩)).2 ⟨j, y, hy, by rw [ov_comm] at ho; exact ho⟩) c2
    obtain ⟨s1, s2, s3, s4⟩ := store_sect h.dryA h.sizeA hf (w := wOf (dm i x)) (by rw [hw]) (by rw [hw]) (by rw [hw])
    have eO : dtO n.a (dm i x) = [am 3 i] := by simp [dtO, hV, hw, msgOf, am]; rw [hw] at s1; simp [s1]
    have eS : dtS n.a (dm i x) = { n.a with d := storeS n.a.d (wOf (dm i x)) } := by simp [dtS, hV]
    rw [eO, eS]
    refine ⟨by simp [dtE, hV, s1], ⟨?_, s2, h.dryB, s3, h.sizeB, h.arbA, h.arbB, h.latA, h.goodA, h.goodB⟩, ?_, Nat.le_refl _, by simp⟩
    ·show Inv 32 _ _ _ t (n.wb ++ [am 3 i]) (sect (storeS n.a.d (wOf (dm i x)))) _
     rw [s4]
     exact hi.applyA hx h0 hno
    ·unfold phi
     simp only [hm, dI_app, dI_a (show (3 : Int) ≠ 2 by decide), dI_d, cR_app, cR_34 (.inl rfl), cK_app, cK_34 (.inl rfl), kI_d]
     unfold phiN
     simp only [List.length_append, List.length_cons, show (dI []).length = 0 from rfl, show cR [] = 0 from rfl, show cK [] = 0 from rfl, Nat.add_zero]
     have := Nat.mul_le_mul_left ((dI n.wb).length + n.b.lat.length) (show (dI t).length + cR n.wb + (againL n.b.fly).length ≤ (dI t).length + 1 + cR n.wb + (againL n.b.fly).length by omega)
     omega
 ·have hf := (hi.fineA i y hy).1
  have hg := good_am (k := 3) (.inl rfl) hf.id
  have hE : endL n.a.fly i = del n.a.fly i := by unfold endL endOk; rw [hy]; rfl
  have eO : tkO n.a (am 3 i) = [] := by simp [tkO, am]
  have eS : tkS n.a (am 3 i) = { n.a with fly := del n.a.fly i } := by simp only [tkS, hg]; rw [show (am 3 i).i = i from rfl, hE]; rfl
  have eE : tkE n.a (am 3 i) = 0 := by simp only [tkE, hg]; rfl
  rw [eO, eS, List.append_nil]
  refine ⟨eE, ⟨?_, h.dryA, h.dryB, h.sizeA, h.sizeB, h.arbA, h.arbB, h.latA, ?_, h.goodB⟩, ?_, ?_, by simp⟩
  ·show Inv 32 (Table.look (del n.a.fly i)) _ _ t n.wb _ _
   rw [fn_del h.goodA.rising hy]
   exact hi.ackA
  ·rw [← hE]
   exact h.goodA.endd i
  ·unfold phi
   simp only [hm, dI_a (show (3 : Int) ≠ 2 by decide), kI_a]
   unfold phiN
   simp only [List.length_cons]
   omega
  ·have := Table.del_length h.goodA.rising (t := i) (by rw [hy]; rfl)
   show (del n.a.fly i).length ≤ _
   omega
structure Stable (b : Mr) : Prop where
 go : wentB (ownsM b.fly) b.lat = false
 again : ∀ i x, Table.look b.fly i = some x → x.st = 1 → overL b.lat x.o x.l = true
def heldBy (F : List (Int × Fw)) (o l : Int) : Bool := (ownsM F).any (Clash.ps o l)
theorem held_iff {F : List (Int × Fw)} (hr : Rising F) (o l : Int) : heldBy F o l = true ↔ ∃ i x, Table.look F i = some x ∧ x.st ≠ 1 ∧ Span.Math.over x.o x.l o l = true := by
 unfold heldBy
 rw [owns_any, any_iff hr fun x => Clash.ps o l ⟨x.o, x.l, !decide (x.st = 1)⟩]
 constructor
 ·rintro ⟨i, x, hx, hp⟩
  simp only [Clash.ps, Bool.and_eq_true, Bool.not_eq_true', decide_eq_false_iff_not] at hp
  exact ⟨i, x, hx, hp⟩
 ·rintro ⟨i, x, hx, h1, h2⟩
  exact ⟨i, x, hx, by simp only [Clash.ps, Bool.and_eq_true, Bool.not_eq_true', decide_eq_false_iff_not]; exact ⟨h1, h2⟩⟩
theorem may_is (F : List (Int × Fw)) (w : Lw) : may (ownsM F) w = !heldBy F w.o w.l := by
 unfold may heldBy
 rw [verd_false]
 cases (ownsM F).any (Clash.ps w.o w.l) <;> rfl
theorem not_held {F : List (Int × Fw)} (hr : Rising F) {y : Fw} (h : heldBy F y.o y.l = false) : ∀ j x, Table.look F j = some x → x.st = 0 → ov x y = false := fun j x hx h0 => by
 cases ho : ov x y with
 | false => rfl
 | true =>
  have := (held_iff hr y.o y.l).2 ⟨j, x, hx, by omega, ho⟩
  rw [h] at this
  cases this
theorem NInv.takeB {n : Net} (h : NInv n) {m : Ms} {t : List Ms} (hm : n.wb = m :: t) :
  tkE n.b m = 0 ∧ NInv { n with b := tkS n.b m, wb := t, wa := n.wa ++ tkO n.b m } ∧ phi { n with b := tkS n.b m, wb := t, wa := n.wa ++ tkO n.b m } + 1 ≤ phi n ∧ (tkS n.b m).fly.length ≤ n.b.fly.length ∧ (tkO n.b m).length ≤ 1 := by
 have hi := h.inv
 rw [hm] at hi
 rcases hi.mB m (by simp) with ⟨i, y, rfl, hy⟩ | ⟨k, i, x, hk, rfl, hx, h0⟩
 ·have hf := (hi.fineA i y hy).1
  obtain ⟨t1, t2, t3⟩ := tk_dm (m := n.b) hf
  have hw := wOf_dm hf
  have hlen : (((dm i y).d.length / 16 : Nat) : Int) = y.l := congrArg Lw.l hw
  have hV : dtV n.b (dm i y) = if heldBy n.b.fly y.o y.l then 3 else 0 := by unfold dtV; rw [h.arbB, hlen]; rfl
  rw [t1, t2, t3]
  by_cases c1 : heldBy n.b.fly y.o y.l = true
  ·rw [c1, if_pos rfl] at hV
   have eO : dtO n.b (dm i y) = [] := by simp [dtO, hV]
   have eS : dtS n.b (dm i y) = { n.b with lat := n.b.lat ++ [⟨i, y.o, y.l, y.bs⟩] } := by simp [dtS, hV, hw]
   rw [eO, eS, List.append_nil]
   refine ⟨by simp [dtE, hV], ⟨hi.laterB hy, h.dryA, h.dryB, h.sizeA, h.sizeB, h.arbA, h.arbB, h.latA, h.goodA, h.goodB⟩, ?_, Nat.le_refl _, by simp⟩
   unfold phi
   simp only [hm, dI_d, cR_d, cK_d]
   unfold phiN
   simp only [List.length_append, List.length_cons, List.length_nil]
   have := cu_more n.b.lat [⟨i, y.o, y.l, y.bs⟩] (againL n.b.fly)
   have e : (dI t).length + (n.b.lat.length + (0 + 1)) = (dI t).length + 1 + n.b.lat.length := by omega
   rw [e]
   omega
  ·rw [if_neg c1] at hV
   have hno := not_held h.goodB.rising (by simpa using c1)
   obtain ⟨s1, s2, s3, s4⟩ := store_sect h.dryB h.sizeB hf (w := wOf (dm i y)) (by rw [hw]) (by rw [hw]) (by rw [hw])
   have eO : dtO n.b (dm i y) = [am 3 i] := by simp [dtO, hV, hw, msgOf, am]; rw [hw] at s1; simp [s1]
   have eS : dtS n.b (dm i y) = { n.b with d := storeS n.b.d (wOf (dm i y)) } := by simp [dtS, hV]
   rw [eO, eS]
   refine ⟨by simp [dtE, hV, s1], ⟨?_, h.dryA, s2, h.sizeA, s3, h.arbA, h.arbB, h.latA, h.goodA, h.goodB⟩, ?_, Nat.le_refl _, by simp⟩
   ·show Inv 32 _ _ _ (n.wa ++ [am 3 i]) t _ (sect (storeS n.b.d (wOf (dm i y))))
    rw [s4]
    exact hi.applyB1 hy hno
   ·unfold phi
    simp only [hm, dI_d, cR_d, cK_d, dI_app, dI_a (show (3 : Int) ≠ 2 by decide), kI_app, kI_a]
    unfold phiN
    simp only [List.length_append, List.length_cons, show (dI []).length = 0 from rfl, show (kI []).length = 0 from rfl, Nat.add_zero]
    have := Nat.mul_le_mul_right ((dI n.wa).length + cR t + (againL n.b.fly).length) (show (dI t).length + n.b.lat.length ≤ (dI t).length + 1 + n.b.lat.length by omega)
    omega
 ·have hf := (hi.fineB i x hx).1
  have hg := good_am hk hf.id
  have k2 : k ≠ 2 := by omega
  by_cases h5 : k = 5
  ·subst h5
   obtain ⟨I, w, hw, how⟩ := hi.retryB hx
   have hT : turnL n.b.fly i 1 = setSt n.b.fly i 1 := by unfold turnL Flight.turnOk; rw [hx]; rfl
   have eO : tkO n.b (am 5 i) = [] := by simp [tkO, am]
   have eS : tkS n.b (am 5 i) = { n.b with fly := setSt n.b.fly i 1 } := by simp only [tkS, hg]; rw [show (am 5 i).i = i from rfl, hT]; rfl
   have eE : tkE n.b (am 5 i) = 0 := by simp only [tkE, hg]; rfl
   rw [eO, eS, List.append_nil]
   refine ⟨eE, ⟨?_, h.dryA, h.dryB, h.sizeA, h.sizeB, h.arbA, h.arbB, h.latA, h.goodA, by rw [← hT]; exact h.goodB.turn i 1⟩, ?_, ?_, by simp⟩
   ·show Inv 32 _ (Table.look (setSt n.b.fly i 1)) _ _ t _ _
    rw [fn_set hx]
    exact I
   ·obtain ⟨A, B, e1, e2, _⟩ := split_of h.goodB.rising hx
    have hov : overL n.b.lat x.o x.l = true := List.any_eq_true.2 ⟨w, hw, how⟩
    unfold phi
    simp only [hm, dI_a (show (5 : Int) ≠ 2 by decide), cR_5, cK_5]
    rw [e2 1, e1]
    simp only [againL_app, againL_cons, h0, cu_app, List.length_append]
    unfold phiN
    have e3 : cu n.b.lat [lwOf (i, { x with st := 1 })] = 0 := by simp [cu, lwOf, hov]
    have e4 : cu n.b.lat [] = 0 := rfl
    simp only [if_true, show ¬ ((0 : Int) = 1) by decide, if_false, e3, e4, List.length_cons, List.length_nil]
    have e5 : (dI n.wa).length + cR t + ((againL A).length + (0 + 1 + (againL B).length)) = (dI n.wa).length + (cR t + 1) + ((againL A).length + (0 + (againL B).length)) := by omega
    rw [e5]
    omega
   ·show (setSt n.b.fly i 1).length ≤ _
    rw [Flight.setSt_length]
    exact Nat.le_refl _
  ·have hk' : k = 3 ∨ k = 4 := by omega
   have hE : endL n.b.fly i = del n.b.fly i := by unfold endL endOk; rw [hx]; rfl
   have eO : tkO n.b (am k i) = [] := by simp only [tkO, hg]; simp [am, k2]
   have eS : tkS n.b (am k i) = { n.b with fly := del n.b.fly i } := by
    simp only [tkS, hg]
    rw [show (am k i).i = i from rfl, hE, show (am k i).k = k from rfl, if_pos trivial, if_neg k2, if_pos hk']
   have eE : tkE n.b (am k i) = 0 := by simp only [tkE, hg]; rw [show (am k i).k = k from rfl, if_pos trivial, if_neg k2]
   rw [eO, eS, List.append_nil]
   refine ⟨eE, ⟨?_, h.dryA, h.dryB, h.sizeA, h.sizeB, h.arbA, h.arbB, h.latA, h.goodA, by rw [← hE]; exact h.goodB.endd i⟩, ?_, ?_, by simp⟩
   ·show Inv 32 _ (Table.look (del n.b.fly i)) _ _ t _ _
    rw [fn_del h.goodB.rising hx]
    exact hi.endB hk' hx
   ·obtain ⟨A, B, e1, _, e2⟩ := split_of h.goodB.rising hx
    unfold phi
    simp only [hm, dI_a k2, cR_34 hk', cK_34 hk']
    rw [e2, e1]
    simp only [againL_app, againL_cons, h0, cu_app, List.length_append]
    unfold phiN
    have e4 : cu n.b.lat [] = 0 := rfl
    simp only [show ¬ ((0 : Int) = 1) by decide, if_false, e4, List.length_nil, Nat.zero_add]
    omega
   ·have := Table.del_length h.goodB.rising (t := i) (by rw [hx]; rfl)
    show (del n.b.fly i).length ≤ _
    omega
theorem went_split {O : List Ow} {q : List Lw} (h : wentB O q = true) : ∃ l1 l2, q = l1 ++ wentW O q :: l2 ∧ leftL O q = l1 ++ l2 ∧ may O (wentW O q) = true := by
 unfold wentB at h
 cases hp : pick O q with
 | none => rw [hp] at h; cases h
 | some k =>
  have hk := List.findIdx?_eq_some_iff_getElem.1 hp
  obtain ⟨hlt, hm, _⟩ := hk
  have e : wentW O q = q[k] := by unfold wentW; rw [hp]; simp [List.getElem?_eq_getElem hlt]
  have e2 : leftL O q = gone q k := by unfold leftL; rw [hp]
  refine ⟨q.take k, q.drop (k + 1), ?_, e2, by rw [e]; exact hm⟩
  rw [e, ← List.drop_eq_getElem_cons hlt, List.take_append_drop]
theorem went_none {O : List Ow} {q : List Lw} (h : wentB O q = false) : ∀ w ∈ q, may O w = false := by
 unfold wentB at h
 cases hp : pick O q with
 | some k => rw [hp] at h; cases h
 | none => exact fun w hw => by simpa using List.findIdx?_eq_none_iff.1 hp w hw
theorem none_went {O : List Ow} {q : List Lw} (h : ∀ w ∈ q, may O w = false) : wentB O q = false := by
 unfold wentB pick
 rw [List.findIdx?_eq_none_iff.2 (fun w hw => by simpa using h w hw)]
 rfl
end Go.Proofs.YtoaeficfmcncjaaGreat.Mirror
