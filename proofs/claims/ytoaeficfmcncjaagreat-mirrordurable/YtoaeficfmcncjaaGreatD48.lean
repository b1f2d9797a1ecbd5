/-
 Plain facts for MirrorDurable: what stands on the disk of an own flight that is not to be written again, and that its extents are hot, behind each call.
-/
import Derived.Test.YtoaeficfmcncjaaGreatD47
import Derived.Test.YtoaeficfmcncjaaGreatD46
import Derived.Test.YtoaeficfmcncjaaGreatD42
namespace Go.Proofs.YtoaeficfmcncjaaGreat.Mirror
open Go.RowKit
open Math
open Flight (Fw busy addL turnL endL endOk exts addOk setSt)
open Later (Lw overL wentB wentW leftL lw0 may pick gone)
open Clash (Ow verd)
open Pack (Ms)
open Table (Rising ins del tks)

structure Fit (n : Nat) (x : Fw) : Prop where
 good : Span.Math.good x.o x.l (n : Int) = true
 len : (x.bs.length : Int) = 16 * x.l
 byt : ∀ b ∈ x.bs, b < 256
def Lain (d : Dk) (x : Fw) : Prop := ∀ i, i < x.l.toNat → sect d (x.o.toNat + i) = piece x.bs i
structure Lies (d : Dk) (F : List (Int × Fw)) : Prop where
 dry : Dry d
 size : d.size = 24
 good : Flight.Good F
 fit : ∀ x ∈ F, Fit 16 x.2
 lain : ∀ x ∈ F, x.2.st ≠ 1 → Lain d x.2
def Warm (F : List (Int × Fw)) (hot : List Nat) : Prop := ∀ x ∈ F, ∀ j, (Span.Math.ext x.2.o x.2.l).testBit j = true → j ∈ hot
structure Dur (m : Mr) : Prop where
 lies : Lies m.d m.fly
 warm : Warm m.fly m.hot
 hot : Hot.Good m.hot
 waits : ∀ w ∈ m.lat, ∀ b ∈ w.bs, b < 256
def Subs (F G : List (Int × Fw)) : Prop := ∀ x ∈ F, ∃ y ∈ G, y.1 = x.1 ∧ y.2.o = x.2.o ∧ y.2.l = x.2.l ∧ y.2.bs = x.2.bs
theorem Subs.refl (F : List (Int × Fw)) : Subs F F := fun x hx => ⟨x, hx, rfl, rfl, rfl, rfl⟩
theorem Subs.trans {F G H : List (Int × Fw)} (a : Subs F G) (b : Subs G H) : Subs F H := fun x hx => by
 obtain ⟨y, hy, e1, e2, e3, e4⟩ := a x hx
 obtain ⟨z, hz, f1, f2, f3, f4⟩ := b y hy
 exact ⟨z, hz, f1.trans e1, f2.trans e2, f3.trans e3, f4.trans e4⟩
theorem subs_turn (F : List (Int × Fw)) (t s : Int) : Subs (turnL F t s) F := by
 unfold turnL
 split
 ·intro x hx
  obtain ⟨y, hy, rfl⟩ := List.mem_map.1 hx
  refine ⟨y, hy, ?_⟩
  split <;> exact ⟨rfl, rfl, rfl, rfl⟩
 ·exact Subs.refl F
theorem subs_end (F : List (Int × Fw)) (t : Int) : Subs (endL F t) F := by
 unfold endL
 split
 ·exact fun x hx => ⟨x, Table.mem_del hx, rfl, rfl, rfl, rfl⟩
 ·exact Subs.refl F
theorem Warm.subs {F G : List (Int × Fw)} {hot : List Nat} (h : Warm G hot) (s : Subs F G) : Warm F hot := fun x hx j hj => by
 obtain ⟨y, hy, _, e2, e3, _⟩ := s x hx
 exact h y hy j (by rw [e2, e3]; exact hj)
theorem apart_at {F : List (Int × Fw)} (h : Flight.Good F) {x y : Int × Fw} (hx : x ∈ F) (hy : y ∈ F) (hn : x.1 ≠ y.1) : Span.Math.over x.2.o x.2.l y.2.o y.2.l = false := by
 obtain ⟨i, hi, rfl⟩ := List.getElem_of_mem hx
 obtain ⟨j, hj, rfl⟩ := List.getElem_of_mem hy
 have hp := List.pairwise_iff_getElem.1 h.apart
 rcases Nat.lt_trichotomy i j with hij | rfl | hij
 ·exact hp i j hi hj hij
 ·exact absurd rfl hn
 ·rw [Span.Math.over_comm]
  exact hp j i hj hi hij
theorem same_at {F : List (Int × Fw)} (h : Flight.Good F) {x y : Int × Fw} (hx : x ∈ F) (hy : y ∈ F) (hn : x.1 = y.1) : x = y := by
 have a := Flight.look_some h.rising hx
 have b := Flight.look_some h.rising hy
 rw [hn, b] at a
 injection a with a
 exact Prod.ext hn a.symm
theorem Lain.other {d : Dk} (h : Dry d) (hs : d.size = 24) {w : Lw} (hb : ∀ b ∈ w.bs, b < 256) {x : Fw} (hx : Fit 16 x) (hl : Lain d x) (ho : Span.Math.over x.o x.l w.o w.l = false) : Lain (storeS d w) x := by
 by_cases he : storeE d w = 0
 ·obtain ⟨g1, g2⟩ := store_done he
  obtain ⟨_, _, _, s4⟩ := store_good h g1 g2 hb
  have hN : dataN d = 16 := by unfold dataN; omega
  rw [hN] at g1 s4
  have a := good_of g1
  have b := good_of hx.good
  intro i hi
  rw [s4 _ (by omega), if_neg]
  ·exact hl i hi
  ·intro hc
   have : Span.Math.over x.o x.l w.o w.l = true := Span.Math.over_true (Span.Math.plain_of (by omega)) (Span.Math.plain_of (by omega)) (by omega)
   rw [ho] at this
   cases this
 ·rw [store_bad h hb he]
  exact hl
theorem store_own {d : Dk} (h : Dry d) (hs : d.size = 24) {x : Fw} (hx : Fit 16 x) {w : Lw} (e1 : w.o = x.o) (e2 : w.l = x.l) (e3 : w.bs = x.bs) : storeE d w = 0 ∧ Lain (storeS d w) x := by
 have hN : dataN d = 16 := by unfold dataN; omega
 obtain ⟨i, o, l, bs⟩ := w
 cases e1
 cases e2
 cases e3
 obtain ⟨s1, _, _, s4⟩ := store_good h (w := ⟨i, x.o, x.l, x.bs⟩) (by rw [hN]; exact hx.good) hx.len hx.byt
 rw [hN] at s4
 have b := good_of hx.good
 refine ⟨s1, fun k hk => ?_⟩
 rw [s4 _ (by omega)]
 show (if x.o.toNat ≤ x.o.toNat + k ∧ x.o.toNat + k < x.o.toNat + x.l.toNat then piece x.bs (x.o.toNat + k - x.o.toNat) else _) = _
 rw [if_pos (by omega), Nat.add_sub_cancel_left]
theorem Lies.store {d : Dk} {F : List (Int × Fw)} (h : Lies d F) {w : Lw} (hb : ∀ b ∈ w.bs, b < 256) (ho : ∀ x ∈ F, x.2.st ≠ 1 → Span.Math.over x.2.o x.2.l w.o w.l = false) : Lies (storeS d w) F :=
 ⟨(store_dry h.dry hb).1, (store_dry h.dry hb).2.trans h.size, h.good, h.fit, fun x hx hn => (h.lain x hx hn).other h.dry h.size hb (h.fit x hx) (ho x hx hn)⟩
theorem Lies.own {d : Dk} {F : List (Int × Fw)} (h : Lies d F) {x : Int × Fw} (hx : x ∈ F) {w : Lw} (e1 : w.o = x.2.o) (e2 : w.l = x.2.l) (e3 : w.bs = x.2.bs) :
  storeE d w = 0 ∧ Lies (storeS d w) F ∧ Lain (storeS d w) x.2 ∧ ∀ y ∈ F, Lain d y.2 → Lain (storeS d w) y.2 := by
 obtain ⟨s1, s2⟩ := store_own h.dry h.size (h.fit x hx) e1 e2 e3
 have hb : ∀ b ∈ w.bs, b < 256 := by rw [e3]; exact (h.fit x hx).byt
 have key : ∀ y ∈ F, Lain d y.2 → Lain (storeS d w) y.2 := fun y hy hl => by
  by_cases e : y.1 = x.1
  ·rw [same_at h.good hy hx e]
   exact s2
  ·exact hl.other h.dry h.size hb (h.fit y hy) (by rw [e1, e2]; exact apart_at h.good hy hx e)
 exact ⟨s1, ⟨(store_dry h.dry hb).1, (store_dry h.dry hb).2.trans h.size, h.good, h.fit, fun y hy hn => key y hy (h.lain y hy hn)⟩, s2, key⟩
theorem Lies.turn {d : Dk} {F : List (Int × Fw)} (h : Lies d F) (t s : Int) (hl : s = 1 ∨ ∀ x ∈ F, x.1 = t → Lain d x.2) : Lies d (turnL F t s) := by
 have hg := h.good.turn t s
 unfold turnL at hg ⊢
 split at hg
 ·rename_i hc
  rw [if_pos hc]
  refine ⟨h.dry, h.size, hg, fun x hx => ?_, fun x hx hn => ?_⟩
  ·obtain ⟨y, hy, rfl⟩ := List.mem_map.1 hx
   have := h.fit y hy
   split
   ·exact ⟨this.good, this.len, this.byt⟩
   ·exact this
  ·obtain ⟨y, hy, rfl⟩ := List.mem_map.1 hx
   by_cases e : y.1 = t
   ·rw [if_pos e] at hn ⊢
    rcases hl with rfl | hl
    ·exact absurd rfl hn
    ·exact hl y hy e
   ·rw [if_neg e] at hn ⊢
    exact h.lain y hy hn
 ·rename_i hc
  rw [if_neg hc]
  exact h
theorem Lies.ends {d : Dk} {F : List (Int × Fw)} (h : Lies d F) (t : Int) : Lies d (endL F t) := by
 have hg := h.good.endd t
 unfold endL at hg ⊢
 split at hg
 ·rename_i hc
  rw [if_pos hc]
  exact ⟨h.dry, h.size, hg, fun x hx => h.fit x (Table.mem_del hx), fun x hx => h.lain x (Table.mem_del hx)⟩
 ·rename_i hc
  rw [if_neg hc]
  exact h
theorem Lies.add {d : Dk} {F : List (Int × Fw)} (h : Lies d F) (t o l : Int) (bs : List Nat) (hf : Fit 16 ⟨o, l, bs, 0⟩) (hl : Lain d ⟨o, l, bs, 0⟩) : Lies d (addL F t o l bs) := by
 have hg := h.good.add t o l bs
 unfold addL at hg ⊢
 split at hg
 ·rename_i hc
  rw [if_pos hc]
  refine ⟨h.dry, h.size, hg, fun x hx => ?_, fun x hx hn => ?_⟩
  ·rcases Table.mem_ins hx with rfl | e
   ·exact hf
   ·exact h.fit x e
  ·rcases Table.mem_ins hx with rfl | e
   ·exact hl
   ·exact h.lain x e hn
 ·rename_i hc
  rw [if_neg hc]
  exact h
theorem apart_verd {F : List (Int × Fw)} {arb : Bool} {o l : Int} (h : verd arb (ownsM F) o l = 0) : ∀ x ∈ F, x.2.st ≠ 1 → Span.Math.over x.2.o x.2.l o l = false := fun x hx hn => by
 cases ho : Span.Math.over x.2.o x.2.l o l with
 | false => rfl
 | true =>
  have hm : (⟨x.2.o, x.2.l, !decide (x.2.st = 1)⟩ : Ow) ∈ ownsM F := List.mem_map.2 ⟨x, hx, rfl⟩
  cases arb with
  | true =>
   rw [verd_true] at h
   rw [show (ownsM F).any (Clash.po o l) = true from List.any_eq_true.2 ⟨_, hm, ho⟩] at h
   split at h <;> simp at h
  | false =>
   rw [verd_false] at h
   rw [show (ownsM F).any (Clash.ps o l) = true from List.any_eq_true.2 ⟨_, hm, by simp [Clash.ps, ho, hn]⟩] at h
   simp at h
theorem Lies.apply {F : List (Int × Fw)} : ∀ (k : Nat) (d : Dk) (q acc : List Lw), Lies d F → (∀ w ∈ q, ∀ b ∈ w.bs, b < 256) → Lies (applyR (ownsM F) k d q acc).1 F ∧ ∀ w ∈ (applyR (ownsM F) k d q acc).2.1, ∀ b ∈ w.bs, b < 256
 | 0, d, q, acc, h, hb => ⟨h, hb⟩
 | k + 1, d, q, acc, h, hb => by
  unfold applyR
  by_cases hw : wentB (ownsM F) q = true
  ·obtain ⟨l1, l2, e1, e2, e3⟩ := went_split hw
   have hm : wentW (ownsM F) q ∈ q := by
    have h9 : wentW (ownsM F) q ∈ l1 ++ wentW (ownsM F) q :: l2 := by simp
    rwa [← e1] at h9
   have hb2 : ∀ w ∈ leftL (ownsM F) q, ∀ b ∈ w.bs, b < 256 := fun w hm2 => hb w (by
    rw [e2] at hm2
    rw [e1]
    rcases List.mem_append.1 hm2 with h | h <;> simp [h])
   have hs := h.store (w := wentW (ownsM F) q) (hb _ hm) (apart_verd (arb := false) (by simpa [may] using e3))
   rw [if_pos hw]
   by_cases he : storeE d (wentW (ownsM F) q) = 0
   ·rw [if_pos he]
    exact Lies.apply k _ _ _ hs hb2
   ·rw [if_neg he]
    exact ⟨hs, hb2⟩
  ·rw [if_neg hw]
   exact ⟨h, hb⟩
def Owns (F : List (Int × Fw)) (ws : List Lw) : Prop := ∀ w ∈ ws, ∃ x ∈ F, x.1 = w.id ∧ w.o = x.2.o ∧ w.l = x.2.l ∧ w.bs = x.2.bs
theorem owns_again (F : List (Int × Fw)) : Owns F (againL F) := fun w hw => by
 obtain ⟨x, hx, rfl⟩ := List.mem_map.1 hw
 exact ⟨x, (List.mem_filter.1 hx).1, rfl, rfl, rfl, rfl⟩
theorem turn_back (F : List (Int × Fw)) (t s : Int) : Subs F (turnL F t s) := by
 unfold turnL
 split
 ·intro x hx
  refine ⟨_, List.mem_map.2 ⟨x, hx, rfl⟩, ?_⟩
  split <;> exact ⟨rfl, rfl, rfl, rfl⟩
 ·exact Subs.refl F
theorem Owns.turn {F : List (Int × Fw)} {ws : List Lw} (h : Owns F ws) (t s : Int) : Owns (turnL F t s) ws := fun w hw => by
 obtain ⟨x, hx, e0, e1, e2, e3⟩ := h w hw
 obtain ⟨y, hy, f0, f1, f2, f3⟩ := turn_back F t s x hx
 exact ⟨y, hy, f0.trans e0, e1.trans f1.symm, e2.trans f2.symm, e3.trans f3.symm⟩
theorem Lies.resend (q : List Lw) : ∀ (ws : List Lw) (d : Dk) (F : List (Int × Fw)) (acc : List Lw), Lies d F → Owns F ws → Lies (resendR q ws d F acc).1 (resendR q ws d F acc).2.1 ∧ Subs (resendR q ws d F acc).2.1 F ∧ (resendR q ws d F acc).2.2.2 = 0
 | [], d, F, acc, h, _ => ⟨h, Subs.refl F, rfl⟩
 | w :: ws, d, F, acc, h, ho => by
  unfold resendR
  split
  ·exact Lies.resend q ws d F acc h fun v hv => ho v (by simp [hv])
  ·obtain ⟨x, hx, e0, e1, e2, e3⟩ := ho w (by simp)
   obtain ⟨s1, s2, s3, s4⟩ := h.own hx e1 e2 e3
   rw [if_pos s1]
   obtain ⟨r1, r2, r3⟩ := Lies.resend q ws _ (turnL F w.id 0) (acc ++ [w]) (s2.turn w.id 0 (.inr fun y hy e => by rw [same_at h.good hy hx (e.trans e0.symm)]; exact s3)) (Owns.turn (fun v hv => ho v (by simp [hv])) _ _)
   exact ⟨r1, r2.trans (subs_turn F w.id 0), r3⟩
theorem Lies.lay {F : List (Int × Fw)} : ∀ (ws : List Lw) (d : Dk), Lies d F → Owns F ws → (layR ws d).2 = 0 ∧ Lies (layR ws d).1 F ∧ ∀ x ∈ F, (Lain d x.2 ∨ ∃ w ∈ ws, w.id = x.1) → Lain (layR ws d).1 x.2
 | [], d, h, _ => ⟨rfl, h, fun x hx hl => hl.resolve_right (by simp)⟩
 | w :: ws, d, h, ho => by
  unfold layR
  obtain ⟨x, hx, e0, e1, e2, e3⟩ := ho w (by simp)
  obtain ⟨s1, s2, s3, s4⟩ := h.own hx e1 e2 e3
  rw [if_pos s1]
  obtain ⟨r1, r2, r3⟩ := Lies.lay ws _ s2 fun v hv => ho v (by simp [hv])
  refine ⟨r1, r2, fun y hy hl => r3 y hy ?_⟩
  rcases hl with hl | ⟨v, hv, ev⟩
  ·exact .inl (s4 y hy hl)
  ·rcases List.mem_cons.1 hv with rfl | hv
   ·exact .inl (by rw [same_at h.good hy hx (ev.symm.trans e0.symm)]; exact s3)
   ·exact .inr ⟨v, hv, ev⟩
theorem Lies.held {d : Dk} : ∀ (ts : List Int) (F : List (Int × Fw)), Lies d F → (∀ x ∈ F, Lain d x.2) → Lies d (ts.foldl (fun G t => turnL G t 2) F) ∧ Subs (ts.foldl (fun G t => turnL G t 2) F) F
 | [], F, h, _ => ⟨h, Subs.refl F⟩
 | t :: ts, F, h, hl => by
  have hl2 : ∀ x ∈ turnL F t 2, Lain d x.2 := fun x hx => by
   obtain ⟨y, hy, _, e1, e2, e3⟩ := subs_turn F t 2 x hx
   have := hl y hy
   unfold Lain at this ⊢
   rw [e1, e2, e3] at this
   exact this
  obtain ⟨r1, r2⟩ := Lies.held ts (turnL F t 2) (h.turn t 2 (.inr fun x hx _ => hl x hx)) hl2
  exact ⟨r1, r2.trans (subs_turn F t 2)⟩
theorem Lies.free {d : Dk} : ∀ (ts : List Int) (F : List (Int × Fw)), Lies d F → Lies d (ts.foldl (fun G t => endL G t) F) ∧ Subs (ts.foldl (fun G t => endL G t) F) F
 | [], F, h => ⟨h, Subs.refl F⟩
 | t :: ts, F, h => by
  obtain ⟨r1, r2⟩ := Lies.free ts (endL F t) (h.ends t)
  exact ⟨r1, r2.trans (subs_end F t)⟩
theorem ext_lt (o l : Int) {j : Nat} (h : (Span.Math.ext o l).testBit j = true) : j < 64 := by
 rcases Nat.lt_or_ge j 64 with h1 | h1
 ·exact h1
 ·have := Nat.testBit_lt_two_pow (x := Span.Math.ext o l) (i := j) (Nat.lt_of_lt_of_le (show Span.Math.ext o l < 2 ^ 64 from Span.Math.ofL_lt _) (Nat.pow_le_pow_right (by decide) h1))
  rw [h] at this
  cases this
theorem warm_heat {m : Mr} (h : Warm m.fly m.hot) (hg : Hot.Good m.hot) (o l : Int) : Warm m.fly (heatH m o l) := fun x hx j hj => by
 refine (Hot.mem_used hg j).2 (.inl (Hot.evict_has _ _ _ (.inr ⟨h x hx j hj, ?_⟩)))
 have : (exts m.fly).testBit j = true := by
  rw [Flight.testBit_exts]
  exact List.any_eq_true.2 ⟨x, hx, hj⟩
 simp [Hot.may, this]
theorem lies_heat {m : Mr} (h : Lies m.d m.fly) (o l : Int) : Lies (heatD m o l) m.fly := by
 unfold heatD
 split
 ·obtain ⟨a, b, c⟩ := log_dry h.dry (Hot.mask (heatH m o l))
  refine ⟨a, b.trans h.size, h.good, h.fit, fun x hx hn i hi => ?_⟩
  have hN : dataN m.d = 16 := by unfold dataN; have := h.size; omega
  have g := good_of (h.fit x hx).good
  rw [c _ (by omega)]
  exact h.lain x hx hn i hi
 ·exact h
theorem Dur.write {m : Mr} (h : Dur m) (w : Lw) (hb : ∀ b ∈ w.bs, b < 256) : Dur (wrS m w) := by
 unfold wrS
 split
 ·rename_i hask
  split
  ·rename_i hfree
   have h1 := lies_heat h.lies w.o w.l
   have h2 := warm_heat h.warm h.hot w.o w.l
   have h3 : Hot.Good (heatH m w.o w.l) := Hot.used_good h.hot
   split
   ·rename_i hheat
    have hN : dataN m.d = 16 := by unfold dataN; have := h.lies.size; omega
    simp only [askB, fitsB, Bool.and_eq_true, decide_eq_true_eq, hN] at hask
    obtain ⟨a1, a2, a3⟩ := hask
    have hf : Fit 16 ⟨w.o, w.l, w.bs, 0⟩ := ⟨a2, by show (w.bs.length : Int) = 16 * w.l; omega, hb⟩
    obtain ⟨s1, s2⟩ := store_own h1.dry h1.size hf (w := w) rfl rfl rfl
    rw [if_pos s1]
    simp only [freeB, Bool.and_eq_true, Bool.not_eq_true'] at hfree
    obtain ⟨-, b2, -⟩ := hfree
    have hbusy : ∀ x ∈ m.fly, Span.Math.over x.2.o x.2.l w.o w.l = false := fun x hx => by
     have := List.any_eq_false.1 b2 x hx
     simpa using this
    refine ⟨(h1.store hb fun x hx _ => hbusy x hx).add _ _ _ _ hf s2, ?_, h3, h.waits⟩
    show Warm (addL m.fly w.id w.o w.l w.bs) (heatH m w.o w.l)
    unfold addL
    split
    ·intro x hx j hj
     rcases Table.mem_ins hx with rfl | e
     ·exact (Hot.mem_used h.hot j).2 (.inr ⟨ext_lt _ _ hj, hj⟩)
     ·exact h2 x e j hj
    ·exact h2
   ·exact ⟨h1, h2, h3, h.waits⟩
  ·exact h
 ·exact h
theorem Dur.take {m : Mr} (h : Dur m) (x : Ms) (hb : ∀ b ∈ x.d, b < 256) : Dur (tkS m x) := by
 unfold tkS
 split
 ·split
  ·unfold dtS
   split
   ·rename_i hv
    exact ⟨h.lies.store (w := wOf x) hb (apart_verd hv), h.warm, h.hot, h.waits⟩
   ·split
    ·refine ⟨h.lies, h.warm, h.hot, fun w hw => ?_⟩
     rcases List.mem_append.1 hw with e | e
     ·exact h.waits w e
     ·rw [List.mem_singleton.1 e]
      exact hb
    ·exact h
  ·split
   ·exact ⟨h.lies.ends _, h.warm.subs (subs_end _ _), h.hot, h.waits⟩
   ·split
    ·exact ⟨h.lies.turn _ _ (.inl rfl), h.warm.subs (subs_turn _ _ _), h.hot, h.waits⟩
    ·exact h
 ·exact h
theorem Dur.go {m : Mr} (h : Dur m) : Dur (goS m) := by
 obtain ⟨a1, a2⟩ := h.lies.apply m.lat.length m.d m.lat [] h.waits
 unfold goS
 split
 ·obtain ⟨r1, r2, r3⟩ := Lies.resend (appR m).2.1 (againL m.fly) (appR m).1 m.fly [] a1 (owns_again m.fly)
  exact ⟨r1, h.warm.subs r2, h.hot, a2⟩
 ·exact ⟨a1, h.warm, h.hot, a2⟩
theorem Dur.hold {m : Mr} (h : Dur m) : Dur (hoS m) := by
 obtain ⟨r1, r2, r3⟩ := h.lies.lay (againL m.fly) m.d (owns_again m.fly)
 unfold hoS
 rw [if_pos (show hoE m = 0 from r1)]
 have hl : ∀ x ∈ m.fly, Lain (layR (againL m.fly) m.d).1 x.2 := fun x hx => by
  by_cases e : x.2.st = 1
  ·exact r3 x hx (.inr ⟨lwOf x, List.mem_map.2 ⟨x, List.mem_filter.2 ⟨hx, by simpa using e⟩, rfl⟩, rfl⟩)
  ·exact r3 x hx (.inl (h.lies.lain x hx e))
 obtain ⟨t1, t2⟩ := Lies.held (m.fly.map (·.1)) m.fly r2 hl
 exact ⟨t1, h.warm.subs t2, h.hot, fun w hw => by cases hw⟩
theorem Dur.release {m : Mr} (h : Dur m) : Dur (reS m) := by
 obtain ⟨t1, t2⟩ := Lies.free (heldL m.fly) m.fly h.lies
 exact ⟨t1, h.warm.subs t2, h.hot, h.waits⟩
theorem Dur.told {m : Mr} (h : Dur m) {x : Int × Fw} (hx : x ∈ m.fly) : gotE m.d x.2.o x.2.l = 0 ∧ (x.2.st ≠ 1 → gotL m.d x.2.o x.2.l = x.2.bs) := by
 have hN : dataN m.d = 16 := by unfold dataN; have := h.lies.size; omega
 have hf := h.lies.fit x hx
 refine ⟨?_, fun hn => (got_is h.lies.dry (w := ⟨0, x.2.o, x.2.l, x.2.bs⟩) (by rw [hN]; exact hf.good) hf.len (h.lies.lain x hx hn)).2⟩
 unfold gotE
 rw [hN, if_pos hf.good, h.lies.dry.calm.1]
 rfl
theorem Dur.extents {m : Mr} (h : Dur m) {x : Int × Fw} (hx : x ∈ m.fly) (j : Nat) : (Span.Math.ext x.2.o x.2.l).testBit j = true → (Hot.mask m.hot).testBit j = true := fun hj => by
 rw [Hot.mask_bit _ h.hot.lt]
 exact decide_eq_true (h.warm x hx j hj)
structure Much (m : Mr) (k : Nat) : Prop where
 size : m.d.size ≤ 1024
 ops : m.d.ops ≤ 1000000 * k
 fly : m.fly.length ≤ k
 lat : m.lat.length ≤ k
theorem turn_len (F : List (Int × Fw)) (t s : Int) : (turnL F t s).length = F.length := by
 unfold turnL
 split
 ·exact Flight.setSt_length F t s
 ·rfl
theorem resend_much (q : List Lw) : ∀ (ws : List Lw) (d : Dk) (F : List (Int × Fw)) (acc : List Lw), d.size ≤ 1024 → (resendR q ws d F acc).1.ops ≤ d.ops + 1030 * ws.length ∧ (resendR q ws d F acc).1.size = d.size ∧ (resendR q ws d F acc).2.1.length = F.length
 | [], d, F, acc, _ => ⟨by simp [resendR], rfl, rfl⟩
 | w :: ws, d, F, acc, h => by
  obtain ⟨s1, s2⟩ := storeS_ops h w
  unfold resendR
  split
  ·obtain ⟨a, b, c⟩ := resend_much q ws d F acc h
   exact ⟨by rw [List.length_cons]; omega, b, c⟩
  ·split
   ·obtain ⟨a, b, c⟩ := resend_much q ws (storeS d w) (turnL F w.id 0) (acc ++ [w]) (by omega)
    exact ⟨by rw [List.length_cons]; omega, b.trans s2, c.trans (turn_len F _ _)⟩
   ·exact ⟨Nat.le_trans s1 (by rw [List.length_cons]; omega), s2, rfl⟩
theorem lay_much : ∀ (ws : List Lw) (d : Dk), d.size ≤ 1024 → (layR ws d).1.ops ≤ d.ops + 1030 * ws.length ∧ (layR ws d).1.size = d.size
 | [], d, _ => ⟨by simp [layR], rfl⟩
 | w :: ws, d, h => by
  obtain ⟨s1, s2⟩ := storeS_ops h w
  unfold layR
  split
  ·obtain ⟨a, b⟩ := lay_much ws (storeS d w) (by omega)
   exact ⟨by rw [List.length_cons]; omega, b.trans s2⟩
  ·exact ⟨Nat.le_trans s1 (by rw [List.length_cons]; omega), s2⟩
theorem again_le (F : List (Int × Fw)) : (againL F).length ≤ F.length := by
 unfold againL
 rw [List.length_map]
 exact List.length_filter_le _ _
theorem end_le (F : List (Int × Fw)) (t : Int) : (endL F t).length ≤ F.length := by
 unfold endL
 split
 ·unfold del
  simp
  omega
 ·exact Nat.le_refl _
theorem flush_size (s : Dk) : (flushS s).size = s.size := by
 unfold flushS
 split <;> rfl
theorem heat_size (M : Mr) (o l : Int) : (heatD M o l).size = M.d.size := by
 have h : ∀ s : Dk, ∀ z, (logS s z).size = s.size := fun s z => by
  unfold logS
  split
  ·rfl
  split
  ·rfl
  unfold putS
  split
  ·split
   ·rfl
   ·unfold putsS
    split
    ·rw [flush_size, wroteS_size]
    ·exact wroteS_size _ _ _
  ·rfl
 unfold heatD
 split
 ·exact h _ _
 ·rfl
theorem add_le (F : List (Int × Fw)) (t o l : Int) (bs : List Nat) : (addL F t o l bs).length ≤ F.length + 1 := by
 unfold addL
 split
 ·rw [Table.ins_length]
  omega
 ·omega
theorem Much.write {m : Mr} {k : Nat} (h : Much m k) (w : Lw) : Much (wrS m w) (k + 1) := by
 obtain ⟨a, b, c, e⟩ := h
 have h0 : Much m (k + 1) := ⟨a, by omega, by omega, by omega⟩
 have o1 := heat_ops m w.o w.l
 have o2 := heat_size m w.o w.l
 obtain ⟨o3, o4⟩ := storeS_ops (s := heatD m w.o w.l) (by omega) w
 have o5 := add_le m.fly w.id w.o w.l w.bs
 unfold wrS
 split
 ·split
  ·split
   ·refine ⟨?_, ?_, ?_, ?_⟩
    ·show (storeS (heatD m w.o w.l) w).size ≤ _
     omega
    ·show (storeS (heatD m w.o w.l) w).ops ≤ _
     omega
    ·show (if _ then _ else _ : List (Int × Fw)).length ≤ _
     split <;> omega
    ·show m.lat.length ≤ _
     omega
   ·refine ⟨?_, ?_, ?_, ?_⟩
    ·show (heatD m w.o w.l).size ≤ _
     omega
    ·show (heatD m w.o w.l).ops ≤ _
     omega
    ·show m.fly.length ≤ _
     omega
    ·show m.lat.length ≤ _
     omega
  ·exact h0
 ·exact h0
theorem Much.take {m : Mr} {k : Nat} (h : Much m k) (x : Ms) : Much (tkS m x) (k + 1) := by
 obtain ⟨a, b, c, e⟩ := h
 have h0 : Much m (k + 1) := ⟨a, by omega, by omega, by omega⟩
 obtain ⟨o3, o4⟩ := storeS_ops a (wOf x)
 unfold tkS
 split
 ·split
  ·unfold dtS
   split
   ·exact ⟨by show (storeS m.d (wOf x)).size ≤ _; omega, by show (storeS m.d (wOf x)).ops ≤ _; omega, by show m.fly.length ≤ _; omega, by show m.lat.length ≤ _; omega⟩
   ·split
    ·exact ⟨a, by show m.d.ops ≤ _; omega, by show m.fly.length ≤ _; omega, by show (m.lat ++ [wOf x]).length ≤ _; simp; omega⟩
    ·exact h0
  ·split
   ·have := end_le m.fly x.i
    exact ⟨a, by show m.d.ops ≤ _; omega, by show (endL m.fly x.i).length ≤ _; omega, by show m.lat.length ≤ _; omega⟩
   ·split
    ·have := turn_len m.fly x.i 1
     exact ⟨a, by show m.d.ops ≤ _; omega, by show (turnL m.fly x.i 1).length ≤ _; omega, by show m.lat.length ≤ _; omega⟩
    ·exact h0
 ·exact h0
theorem Much.go {m : Mr} {k : Nat} (h : Much m k) (hk : k ≤ 400) : Much (goS m) (k + 1) := by
 obtain ⟨a, b, c, e⟩ := h
 obtain ⟨o1, o2, o3⟩ := applyR_ops (ownsM m.fly) m.lat.length m.d m.lat [] a
 obtain ⟨r1, r2, r3⟩ := resend_much (appR m).2.1 (againL m.fly) (appR m).1 m.fly [] (by unfold appR; omega)
 have := again_le m.fly
 unfold appR at r1 r2
 unfold goS
 split
 ·exact ⟨by show (resR m).1.size ≤ _; unfold resR appR; omega, by show (resR m).1.ops ≤ _; unfold resR appR; omega, by show (resR m).2.1.length ≤ _; unfold resR; omega, by show (appR m).2.1.length ≤ _; unfold appR; omega⟩
 ·exact ⟨by show (appR m).1.size ≤ _; unfold appR; omega, by show (appR m).1.ops ≤ _; unfold appR; omega, by show m.fly.length ≤ _; omega, by show (appR m).2.1.length ≤ _; unfold appR; omega⟩
theorem held_len2 : ∀ (ts : List Int) (F : List (Int × Fw)), (ts.foldl (fun G t => turnL G t 2) F).length = F.length
 | [], _ => rfl
 | t :: ts, F => (held_len2 ts (turnL F t 2)).trans (turn_len F t 2)
theorem free_le : ∀ (ts : List Int) (F : List (Int × Fw)), (ts.foldl (fun G t => endL G t) F).length ≤ F.length
 | [], _ => Nat.le_refl _
 | t :: ts, F => Nat.le_trans (free_le ts (endL F t)) (end_le F t)
theorem Much.hold {m : Mr} {k : Nat} (h : Much m k) (hk : k ≤ 400) : Much (hoS m) (k + 1) := by
 obtain ⟨a, b, c, e⟩ := h
 obtain ⟨o1, o2⟩ := lay_much (againL m.fly) m.d a
 have := again_le m.fly
 have h2 := held_len2 (m.fly.map (·.1)) m.fly
 unfold hoS
 split
 ·exact ⟨by show (layR (againL m.fly) m.d).1.size ≤ _; omega, by show (layR (againL m.fly) m.d).1.ops ≤ _; omega, by show (holdF m.fly).length ≤ _; unfold holdF; omega, Nat.zero_le _⟩
 ·exact ⟨by show (layR (againL m.fly) m.d).1.size ≤ _; omega, by show (layR (againL m.fly) m.d).1.ops ≤ _; omega, by show m.fly.length ≤ _; omega, Nat.zero_le _⟩
theorem Much.release {m : Mr} {k : Nat} (h : Much m k) : Much (reS m) (k + 1) := by
 obtain ⟨a, b, c, e⟩ := h
 have := free_le (heldL m.fly) m.fly
 exact ⟨a, by show m.d.ops ≤ _; omega, by show ((heldL m.fly).foldl (fun G t => endL G t) m.fly).length ≤ _; omega, by show m.lat.length ≤ _; omega⟩
end Go.Proofs.YtoaeficfmcncjaaGreat.Mirror
