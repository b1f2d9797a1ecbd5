/-
 What goes at two mirrors; where nothing is on its way, nothing flies; how many messages there can be.
-/
import Derived.Test.YtoaeficfmcncjaaGreatM51
import Derived.Test.YtoaeficfmcncjaaGreatM48
namespace Go.Proofs.YtoaeficfmcncjaaGreat.Mirror
open Math
open Flight (Fw busy addL turnL endL endOk exts addOk setSt)
open Later (Lw overL wentB wentW leftL lw0 may pick gone)
open Clash (Ow verd)
open Pack (Ms)
open Table (Rising ins del tks)
theorem msg3 (w : Lw) : msgOf 3 w = am 3 w.id := rfl
theorem msg2 (w : Lw) : msgOf 2 w = ⟨2, w.id, w.o, 0, false, w.bs⟩ := rfl
theorem apply_ok : ∀ (k : Nat) (n : Net) (acc : List Lw), NInv n → n.b.lat.length ≤ k → ∃ d q ws, applyR (ownsM n.b.fly) k n.b.d n.b.lat acc = (d, q, acc ++ ws, 0) ∧
  NInv { n with b := { n.b with d := d, lat := q }, wa := n.wa ++ ws.map (msgOf 3) } ∧ phi { n with b := { n.b with d := d, lat := q }, wa := n.wa ++ ws.map (msgOf 3) } ≤ phi n ∧ wentB (ownsM n.b.fly) q = false ∧ ws.length ≤ n.b.lat.length
 | 0, n, acc, h, hk => by
  have e : n.b.lat = [] := List.eq_nil_of_length_eq_zero (by omega)
  refine ⟨n.b.d, n.b.lat, [], by simp [applyR], by simpa using h, by simp, by rw [e]; rfl, by simp⟩
 | k + 1, n, acc, h, hk => by
  by_cases hw : wentB (ownsM n.b.fly) n.b.lat = true
  ·obtain ⟨l1, l2, e1, e2, e3⟩ := went_split hw
   obtain ⟨W, hW⟩ : ∃ W, wentW (ownsM n.b.fly) n.b.lat = W := ⟨_, rfl⟩
   obtain ⟨Q, hQ⟩ : ∃ Q, leftL (ownsM n.b.fly) n.b.lat = Q := ⟨_, rfl⟩
   rw [hW] at e1 e3
   rw [hQ] at e2
   have hmem : W ∈ n.b.lat := by rw [e1]; simp
   obtain ⟨y, hy, ew⟩ := h.inv.mL _ hmem
   have hf := (h.inv.fineA _ y hy).1
   obtain ⟨i, o, l, bs⟩ := W
   cases ew
   subst e2
   rw [may_is] at e3
   have hno := not_held h.goodB.rising (y := y) (by simpa using e3)
   obtain ⟨s1, s2, s3, s4⟩ := store_sect h.dryB h.sizeB hf (w := ⟨i, y.o, y.l, y.bs⟩) rfl rfl rfl
   have hI := h.inv
   rw [e1] at hI
   have hN : NInv { n with b := { n.b with d := storeS n.b.d ⟨i, y.o, y.l, y.bs⟩, lat := l1 ++ l2 }, wa := n.wa ++ [am 3 i] } := by
    refine ⟨?_, h.dryA, s2, h.sizeA, s3, h.arbA, h.arbB, h.latA, h.goodA, h.goodB⟩
    show Inv 32 _ _ (l1 ++ l2) (n.wa ++ [am 3 i]) _ _ (sect (storeS n.b.d ⟨i, y.o, y.l, y.bs⟩))
    rw [s4]
    exact hI.applyB2 hy hno
   have hP : phi { n with b := { n.b with d := storeS n.b.d ⟨i, y.o, y.l, y.bs⟩, lat := l1 ++ l2 }, wa := n.wa ++ [am 3 i] } ≤ phi n := by
    unfold phi
    simp only [e1, dI_app, dI_a (show (3 : Int) ≠ 2 by decide), kI_app, kI_a]
    unfold phiN
    simp only [List.length_append, List.length_cons, show (dI []).length = 0 from rfl, show (kI []).length = 0 from rfl, Nat.add_zero]
    have hu := cu_le (l1 ++ l2) (againL n.b.fly)
    have e5 : (dI n.wb).length + (l1.length + (l2.length + 1)) = ((dI n.wb).length + (l1.length + l2.length)).succ := by omega
    rw [e5, Nat.succ_mul ((dI n.wb).length + (l1.length + l2.length))]
    obtain ⟨P, hP⟩ : ∃ P, (dI n.wa).length + cR n.wb + (againL n.b.fly).length = P := ⟨_, rfl⟩
    rw [hP]
    generalize ((dI n.wb).length + (l1.length + l2.length)) * P = Y
    omega
   obtain ⟨d, q, ws, r1, r2, r3, r4, r5⟩ := apply_ok k _ (acc ++ [⟨i, y.o, y.l, y.bs⟩]) hN (by rw [e1] at hk; simp at hk ⊢; omega)
   refine ⟨d, q, ⟨i, y.o, y.l, y.bs⟩ :: ws, ?_, ?_, ?_, r4, ?_⟩
   ·unfold applyR
    rw [if_pos hw, hW, hQ, if_pos s1]
    exact r1.trans (by simp)
   ·simpa [msg3] using r2
   ·simpa [msg3] using Nat.le_trans r3 hP
   ·rw [e1]
    simp at r5 ⊢
    omega
  ·refine ⟨n.b.d, n.b.lat, [], ?_, by simpa using h, by simp, by simpa using hw, by simp⟩
   unfold applyR
   rw [if_neg hw]
   simp
theorem resend_ok : ∀ (ws : List Lw) (n : Net) (acc : List Lw), NInv n → (∀ w ∈ ws, ∃ x, Table.look n.b.fly w.id = some x ∧ x.st = 1 ∧ w = lwOf (w.id, x)) → (lI ws).Nodup → wentB (ownsM n.b.fly) n.b.lat = false →
  (∀ i x, Table.look n.b.fly i = some x → x.st = 1 → i ∈ lI ws ∨ overL n.b.lat x.o x.l = true) → ∃ d F us, resendR n.b.lat ws n.b.d n.b.fly acc = (d, F, acc ++ us, 0) ∧
  NInv { n with b := { n.b with d := d, fly := F }, wa := n.wa ++ us.map (msgOf 2) } ∧ phi { n with b := { n.b with d := d, fly := F }, wa := n.wa ++ us.map (msgOf 2) } ≤ phi n ∧ Stable { n.b with d := d, fly := F } ∧ us.length ≤ ws.length ∧ F.length = n.b.fly.length
 | [], n, acc, h, _, _, hw, ha => ⟨n.b.d, n.b.fly, [], by simp [resendR], by simpa using h, by simp, ⟨hw, fun i x hx h1 => (ha i x hx h1).resolve_left (by simp [lI])⟩, by simp, rfl⟩
 | w :: ws, n, acc, h, hws, hnd, hw, ha => by
  have hnd' : (lI ws).Nodup := (List.nodup_cons.1 hnd).2
  have hni : w.id ∉ lI ws := (List.nodup_cons.1 hnd).1
  obtain ⟨x, hx, h1, ew⟩ := hws w (by simp)
  by_cases ho : overL n.b.lat w.o w.l = true
  ·obtain ⟨d, F, us, r1, r2, r3, r4, r5, r6⟩ := resend_ok ws n acc h (fun v hv => hws v (by simp [hv])) hnd' hw (fun i z hz hz1 => by
    rcases ha i z hz hz1 with e | e
    ·rcases List.mem_cons.1 e with e | e
     ·subst e
      rw [hx] at hz
      cases hz
      rw [ew] at ho
      exact .inr ho
     ·exact .inl e
    ·exact .inr e)
   refine ⟨d, F, us, ?_, r2, r3, r4, by simp; omega, r6⟩
   unfold resendR
   rw [if_pos ho]
   exact r1
  ·have hf0 := (h.inv.fineB _ x hx).1
   have hf : FineF 32 w.id { x with st := 0 } := ⟨hf0.id, hf0.good, hf0.len, hf0.eight, hf0.byt⟩
   obtain ⟨i, o, l, bs⟩ := w
   simp only [lwOf, Lw.mk.injEq, true_and] at ew
   obtain ⟨rfl, rfl, rfl⟩ := ew
   have hT : turnL n.b.fly i 0 = setSt n.b.fly i 0 := by unfold turnL Flight.turnOk; rw [show Table.look n.b.fly i = some x from hx]; rfl
   obtain ⟨s1, s2, s3, s4⟩ := store_sect h.dryB h.sizeB hf (w := ⟨i, x.o, x.l, x.bs⟩) rfl rfl rfl
   have hN : NInv { n with b := { n.b with d := storeS n.b.d ⟨i, x.o, x.l, x.bs⟩, fly := setSt n.b.fly i 0 }, wa := n.wa ++ [dm i { x with st := 0 }] } := by
    refine ⟨?_, h.dryA, s2, h.sizeA, s3, h.arbA, h.arbB, h.latA, h.goodA, by rw [← hT]; exact h.goodB.turn i 0⟩
    show Inv 32 _ (Table.look (setSt n.b.fly i 0)) _ (n.wa ++ [dm i { x with st := 0 }]) _ _ (sect (storeS n.b.d ⟨i, x.o, x.l, x.bs⟩))
    rw [s4, fn_set hx]
    refine h.inv.sendB hf rfl (fun z hz => ?_) (fun j z hj hz => ?_)
    ·rw [show Table.look n.b.fly i = some x from hx] at hz
     cases hz
     exact ⟨h1, rfl, rfl⟩
    ·cases hov : ov { x with st := 0 } z with
     | false => rfl
     | true => exact absurd (h.inv.apB i j x z hx hz hov).symm hj
   have hlook : ∀ j z, Table.look (setSt n.b.fly i 0) j = some z → j ≠ i → Table.look n.b.fly j = some z := fun j z hz hj => by
    rw [fn_set hx, upd_other _ _ hj] at hz
    exact hz
   have hP : phi { n with b := { n.b with d := storeS n.b.d ⟨i, x.o, x.l, x.bs⟩, fly := setSt n.b.fly i 0 }, wa := n.wa ++ [dm i { x with st := 0 }] } ≤ phi n := by
    obtain ⟨A, B, e1, e2, _⟩ := split_of h.goodB.rising hx
    unfold phi
    simp only [dI_app, dI_d, kI_app, kI_d]
    rw [e2 0, e1]
    simp only [againL_app, againL_cons, h1, cu_app, List.length_append]
    unfold phiN
    have e3 : cu n.b.lat [lwOf (i, x)] = 1 := by
     have : overL n.b.lat x.o x.l = false := by simpa [lwOf] using ho
     simp [cu, lwOf, this]
    have e4 : cu n.b.lat [] = 0 := rfl
    simp only [if_true, show ¬ ((0 : Int) = 1) by decide, if_false, e3, e4, List.length_cons, List.length_nil, show (dI []).length = 0 from rfl, show (kI []).length = 0 from rfl]
    have e5 : (dI n.wa).length + (0 + 1) + cR n.wb + ((againL A).length + (0 + (againL B).length)) = (dI n.wa).length + cR n.wb + ((againL A).length + (0 + 1 + (againL B).length)) := by omega
    rw [e5]
    omega
   obtain ⟨d, F, us, r1, r2, r3, r4, r5, r6⟩ := resend_ok ws _ (acc ++ [⟨i, x.o, x.l, x.bs⟩]) hN (fun v hv => by
    obtain ⟨z, hz, hz1, ev⟩ := hws v (by simp [hv])
    have hne : v.id ≠ i := fun e => hni (List.mem_map.2 ⟨v, hv, e⟩)
    exact ⟨z, by show Table.look (setSt n.b.fly i 0) v.id = some z; rw [fn_set hx, upd_other _ _ hne]; exact hz, hz1, ev⟩) hnd' (by
    refine none_went fun v hv => ?_
    show may (ownsM (setSt n.b.fly i 0)) v = false
    have := went_none hw v hv
    rw [may_is] at this ⊢
    simp only [Bool.not_eq_false'] at this ⊢
    obtain ⟨j, z, hz, hz1, hzo⟩ := (held_iff h.goodB.rising _ _).1 this
    have hne : j ≠ i := fun e => by
     subst e
     rw [show Table.look n.b.fly j = some x from hx] at hz
     cases hz
     exact hz1 h1
    exact (held_iff (Flight.setSt_rising h.goodB.rising i 0) _ _).2 ⟨j, z, by rw [fn_set hx, upd_other _ _ hne]; exact hz, hz1, hzo⟩) (fun j z hz hz1 => by
    have hne : j ≠ i := fun e => by
     subst e
     have hz : Table.look (setSt n.b.fly j 0) j = some z := hz
     rw [fn_set hx, upd_same] at hz
     cases hz
     have : (0 : Int) = 1 := hz1
     omega
    rcases ha j z (hlook j z hz hne) hz1 with e | e
    ·rcases List.mem_cons.1 e with e | e
     ·exact absurd e hne
     ·exact .inl e
    ·exact .inr e)
   refine ⟨d, F, ⟨i, x.o, x.l, x.bs⟩ :: us, ?_, ?_, ?_, r4, by simp; omega, by rw [r6]; exact Flight.setSt_length _ _ _⟩
   ·unfold resendR
    rw [if_neg ho]
    show (if storeE n.b.d ⟨i, x.o, x.l, x.bs⟩ = 0 then _ else _) = _
    rw [if_pos s1]
    show resendR n.b.lat ws (storeS n.b.d ⟨i, x.o, x.l, x.bs⟩) (turnL n.b.fly i 0) _ = _
    rw [hT]
    exact r1.trans (by simp)
   ·simpa [msg2, dm] using r2
   ·simpa [msg2, dm] using Nat.le_trans r3 hP
theorem mem_again {F : List (Int × Fw)} (hr : Rising F) {w : Lw} (h : w ∈ againL F) : ∃ x, Table.look F w.id = some x ∧ x.st = 1 ∧ w = lwOf (w.id, x) := by
 obtain ⟨p, hp, e⟩ := List.mem_map.1 h
 obtain ⟨h1, h2⟩ := List.mem_filter.1 hp
 subst e
 exact ⟨p.2, Flight.look_some hr h1, by simpa using h2, rfl⟩
theorem nodup_again {F : List (Int × Fw)} (hr : Rising F) : (lI (againL F)).Nodup := by
 have e : lI (againL F) = (F.filter fun x => decide (x.2.st = 1)).map (·.1) := by simp [lI, againL, lwOf, Function.comp_def]
 rw [e]
 exact List.Nodup.sublist (List.Sublist.map _ List.filter_sublist) (Table.tks_nodup hr)
theorem again_mem {F : List (Int × Fw)} {i : Int} {x : Fw} (h : Table.look F i = some x) (h1 : x.st = 1) : i ∈ lI (againL F) :=
 List.mem_map.2 ⟨lwOf (i, x), List.mem_map.2 ⟨(i, x), List.mem_filter.2 ⟨Table.look_mem h, by simpa using h1⟩, rfl⟩, rfl⟩
theorem NInv.goB {n : Net} (h : NInv n) : goE n.b = 0 ∧ NInv { n with b := goS n.b, wa := n.wa ++ goO n.b } ∧ phi { n with b := goS n.b, wa := n.wa ++ goO n.b } ≤ phi n ∧ Stable (goS n.b) ∧ (goS n.b).fly.length = n.b.fly.length ∧ (goO n.b).length ≤ n.b.lat.length + n.b.fly.length := by
 obtain ⟨d, q, ws, r1, r2, r3, r4, r5⟩ := apply_ok n.b.lat.length n [] h (Nat.le_refl _)
 obtain ⟨e, F, us, t1, t2, t3, t4, t5, t6⟩ := resend_ok (againL n.b.fly) { n with b := { n.b with d := d, lat := q }, wa := n.wa ++ ws.map (msgOf 3) } [] r2 (fun w hw => mem_again h.goodB.rising hw) (nodup_again h.goodB.rising) r4 (fun i x hx h1 => .inl (again_mem hx h1))
 have a1 : appR n.b = (d, q, ws, 0) := r1
 have a2 : resR n.b = (e, F, us, 0) := by
  unfold resR
  rw [a1]
  exact t1
 have eS : goS n.b = { n.b with d := e, fly := F, lat := q } := by unfold goS; rw [a1, a2]; rfl
 have eE : goE n.b = 0 := by unfold goE; rw [a1, a2]; rfl
 have eO : goO n.b = ws.map (msgOf 3) ++ us.map (msgOf 2) := by unfold goO; rw [eE, a1, a2]; rfl
 have hl : (againL n.b.fly).length ≤ n.b.fly.length := by unfold againL; rw [List.length_map]; exact List.length_filter_le _ _
 rw [eS, eO]
 refine ⟨eE, by simpa using t2, by simpa using Nat.le_trans t3 r3, t4, t6, by simp; omega⟩
theorem NInv.goA {n : Net} (h : NInv n) : goE n.a = 0 ∧ goS n.a = n.a ∧ goO n.a = [] := by
 have hA : againL n.a.fly = [] := by
  unfold againL
  rw [List.map_eq_nil_iff, List.filter_eq_nil_iff]
  intro x hx
  have := (h.inv.fineA _ _ (Flight.look_some h.goodA.rising hx)).2
  simp
  omega
 have hl := h.latA
 have a1 : appR n.a = (n.a.d, [], [], 0) := by unfold appR; rw [hl]; rfl
 have a2 : resR n.a = (n.a.d, n.a.fly, [], 0) := by unfold resR; rw [hA, a1]; rfl
 refine ⟨by unfold goE; rw [a1, a2]; rfl, ?_, by unfold goO goE; rw [a1, a2]; rfl⟩
 unfold goS
 rw [a1, a2, if_pos rfl]
 show { n.a with d := n.a.d, fly := n.a.fly, lat := [] } = n.a
 rw [← hl]
theorem look_all {F : List (Int × Fw)} (hr : Rising F) (h : ∀ i, Table.look F i = none) : F = [] := by
 cases F with
 | nil => rfl
 | cons c F =>
  have := Flight.look_some hr (x := c) (by simp)
  rw [h] at this
  cases this
theorem NInv.rest {n : Net} (h : NInv n) (hs : Stable n.b) (ha : n.wa = []) (hb : n.wb = []) : n.a.fly = [] ∧ n.b.fly = [] ∧ n.b.lat = [] ∧ imgL n.a.d = imgL n.b.d ∧ keys n.a.d = [] ∧ keys n.b.d = [] := by
 have hi := h.inv
 rw [ha, hb] at hi
 have hsent : ∀ i x, Table.look n.b.fly i = some x → x.st ≠ 0 := fun i x hx h0 => by
  rcases hi.tB' i x hx h0 with e | e
  ·simp [dI] at e
  ·simp [nI] at e
 have hlat : n.b.lat = [] := by
  cases hl : n.b.lat with
  | nil => rfl
  | cons w q =>
   have h1 := went_none hs.go w (by rw [hl]; simp)
   rw [may_is] at h1
   obtain ⟨i, x, hx, hx1, _⟩ := (held_iff h.goodB.rising _ _).1 (by simpa using h1)
   have := (hi.fineB i x hx).2
   have := hsent i x hx
   omega
 have hB : n.b.fly = [] := look_all h.goodB.rising fun i => by
  cases hx : Table.look n.b.fly i with
  | none => rfl
  | some x =>
   have h2 := (hi.fineB i x hx).2
   have h3 := hsent i x hx
   have h4 := hs.again i x hx (by omega)
   rw [hlat] at h4
   cases h4
 have hA : n.a.fly = [] := look_all h.goodA.rising fun i => by
  cases hx : Table.look n.a.fly i with
  | none => rfl
  | some y =>
   rcases hi.tA' i y hx with e | e | e
   ·simp [dI] at e
   ·rw [hlat] at e
    simp [lI] at e
   ·simp [kI] at e
 refine ⟨hA, hB, hlat, img_same h.dryA h.dryB (n := 32) (by omega) (by unfold dataN; have := h.sizeA; omega) (by unfold dataN; have := h.sizeB; omega) fun j hj => ?_, keys_dry h.dryA, keys_dry h.dryB⟩
 exact hi.eq j hj (fun i y hy => by rw [hA] at hy; cases hy) (fun i y hy => by rw [hB] at hy; cases hy)
theorem nodup_le : ∀ {A B : List Int}, A.Nodup → (∀ x ∈ A, x ∈ B) → A.length ≤ B.length
 | [], _, _, _ => Nat.zero_le _
 | a :: A, B, h, hs => by
  have ha := hs a (by simp)
  have h1 := List.nodup_cons.1 h
  have := nodup_le (A := A) (B := B.erase a) h1.2 fun x hx => (List.mem_erase_of_ne (show x ≠ a from fun e => h1.1 (by rw [← e]; exact hx))).2 (hs x (by simp [hx]))
  rw [List.length_erase_of_mem ha] at this
  have := List.length_pos_of_mem ha
  simp
  omega
theorem NInv.phi_le {n : Net} (h : NInv n) (hl : n.a.fly.length + n.b.fly.length ≤ 60) : phi n ≤ 4000 := by
 have hi := h.inv
 have hA : (dI n.wb).length + (n.b.lat.length + (kI n.wa).length) ≤ n.a.fly.length := by
  have := nodup_le (B := tks n.a.fly) hi.tA fun i hm => by
   refine Table.mem_tks.2 ?_
   rcases List.mem_append.1 hm with hm | hm
   ·obtain ⟨y, _, hy⟩ := hi.isD hm
    rw [hy]
    rfl
   ·rcases List.mem_append.1 hm with hm | hm
    ·obtain ⟨y, _, hy⟩ := hi.isL hm
     rw [hy]
     rfl
    ·obtain ⟨_, y, hy⟩ := hi.isK hm
     rw [hy]
     rfl
  simpa [lI, tks] using this
 have hsplit : ∀ F : List (Int × Fw), (F.filter fun x => decide (x.2.st = 0)).length + (againL F).length ≤ F.length := fun F => by
  unfold againL
  rw [List.length_map, ← List.countP_eq_length_filter, ← List.countP_eq_length_filter]
  induction F with
  | nil => simp
  | cons c F ih =>
   simp only [List.countP_cons, List.length_cons]
   by_cases h0 : c.2.st = 0
   ·simp [h0]
    omega
   ·by_cases h1 : c.2.st = 1 <;> simp [h0, h1] <;> omega
 have hB : (dI n.wa).length + (nI n.wb).length ≤ (n.b.fly.filter fun x => decide (x.2.st = 0)).length := by
  have := nodup_le (B := (n.b.fly.filter fun x => decide (x.2.st = 0)).map (·.1)) hi.tB fun i hm => by
   have key : ∃ x, Table.look n.b.fly i = some x ∧ x.st = 0 := by
    rcases List.mem_append.1 hm with hm | hm
    ·obtain ⟨m, hm, e⟩ := List.mem_filterMap.1 hm
     by_cases hk : m.k = 2
     ·obtain ⟨x, h1, h2⟩ := hi.dA hm hk
      rw [if_pos hk] at e
      cases e
      exact ⟨x, h1, h2⟩
     ·rw [if_neg hk] at e
      cases e
    ·obtain ⟨k, x, _, _, h1, h2⟩ := hi.isN hm
     exact ⟨x, h1, h2⟩
   obtain ⟨x, h1, h2⟩ := key
   exact List.mem_map.2 ⟨(i, x), List.mem_filter.2 ⟨Table.look_mem h1, by simpa using h2⟩, rfl⟩
  simpa using this
 have hn : ∀ W : List Ms, cR W + cK W ≤ (nI W).length := fun W => by
  unfold cR cK nI
  induction W with
  | nil => simp
  | cons m W ih =>
   by_cases h2 : m.k = 2
   ·simp [h2] at ih ⊢
    omega
   ·by_cases h5 : m.k = 5
    ·simp [h5] at ih ⊢
     omega
    ·simp only [List.countP_cons, List.filterMap_cons, h2, if_false, List.length_cons] at ih ⊢
     have : (m.k == 5) = false := by simpa using h5
     simp only [this, Bool.false_eq_true, if_false]
     split <;> omega
 have h1 := hsplit n.b.fly
 have h2 := hn n.wb
 have h3 := cu_le n.b.lat (againL n.b.fly)
 have hm : ((dI n.wb).length + n.b.lat.length) * ((dI n.wa).length + cR n.wb + (againL n.b.fly).length) ≤ 900 := by
  refine Nat.le_trans (Nat.mul_le_mul (show (dI n.wb).length + n.b.lat.length ≤ n.a.fly.length by omega) (show _ ≤ 60 - n.a.fly.length by omega)) ?_
  have : ∀ a, a ≤ 60 → a * (60 - a) ≤ 900 := by decide
  exact this _ (by omega)
 unfold phi phiN
 omega
def mr0 (who : Int) (most : Nat) : Mr := ⟨made 40, most, Bits.Math.elems 0, [], [], decide (who = 0)⟩
theorem ninv_start (most : Nat) : NInv ⟨mr0 0 most, mr0 1 most, [], []⟩ := by
 have hd : Dry (made 40) := ⟨valid_made 40 (by decide) (by decide), calm_made 40, fun _ => rfl⟩
 refine ⟨?_, hd, hd, rfl, rfl, rfl, rfl, rfl, Flight.good_nil, Flight.good_nil⟩
 exact {
  fineA := fun i y h => by cases h
  fineB := fun i y h => by cases h
  apA := fun i j x y h => by cases h
  apB := fun i j x y h => by cases h
  mB := fun m h => by cases h
  mA := fun m h => by cases h
  mL := fun m h => by cases h
  tA := List.nodup_nil
  tA' := fun i y h => by cases h
  tB := List.nodup_nil
  tB' := fun i y h => by cases h
  oK := List.Pairwise.nil
  kD := fun j x i y h => by cases h
  oD := List.Pairwise.nil
  oL := trivial
  conA := fun i y h => by cases h
  conB := fun i y h => by cases h
  eq := fun _ _ _ _ => rfl }
theorem stable_start (most : Nat) : Stable (mr0 1 most) := ⟨rfl, fun i x h => by cases h⟩
theorem Stable.write {n : Net} (h : NInv n) (hs : Stable n.b) {w : Lw} (hw : Asks w) : Stable (wrS n.b w) := by
 rcases wr_cases h.dryB h.sizeB hw with ⟨e1, e2, e3, e4, e5, e6, e7⟩ | ⟨f, b1, b2, b3, e1, e2, e3, e4, e5, e6, e7⟩
 ·exact ⟨by rw [e2, e3]; exact hs.go, by rw [e2, e3]; exact hs.again⟩
 ·refine ⟨?_, ?_⟩
  ·rw [e2, e3]
   refine none_went fun v hv => ?_
   have := went_none hs.go v hv
   rw [may_is] at this ⊢
   simp only [Bool.not_eq_false'] at this ⊢
   obtain ⟨j, z, hz, hz1, hzo⟩ := (held_iff h.goodB.rising _ _).1 this
   exact (held_iff (Table.ins_rising h.goodB.rising b1 _) _ _).2 ⟨j, z, by rw [fn_ins b1, upd_other _ _ (ne_none b1 hz)]; exact hz, hz1, hzo⟩
  ·rw [e2, e3]
   intro j z hz hz1
   rw [fn_ins b1] at hz
   rcases upd_is hz with ⟨_, e⟩ | ⟨_, e⟩
   ·cases e
    have : (0 : Int) = 1 := hz1
    omega
   ·exact hs.again j z e hz1
end Go.Proofs.YtoaeficfmcncjaaGreat.Mirror
namespace Go.Proofs.YtoaeficfmcncjaaGreat.Mirror
open Go.RowKit
open Math
open Flight (Fw busy addL turnL endL endOk exts addOk setSt)
open Later (Lw overL wentB wentW leftL lw0 may pick gone)
open Clash (Ow verd)
open Pack (Ms)
open Table (Rising ins del tks)
theorem turn_len (F : List (Int × Fw)) (t s : Int) : (turnL F t s).length = F.length := by
 unfold turnL
 split
 ·exact Flight.setSt_length F t s
 ·rfl
theorem resend_much (q : List Lw) : ∀ (ws : List Lw) (d : Dk) (F : List (Int × Fw)) (acc : List Lw), d.size ≤ 1024 → (resendR q ws d F acc).1.ops ≤ d.ops + 1030 * ws.length ∧ (resendR q ws d F acc).1.size = d.size ∧ (resendR q ws d F acc).2.1.length = F.length
 | [], d, F, acc, _ => ⟨by simp [resendR], rfl, rfl⟩
 | w :: ws, d, F, acc, h => by
  obtain ⟨s1, s2⟩ := storeS_ops h w
  unfold resendR
  split
  ·obtain ⟨a, b, c⟩ := resend_much q ws d F acc h
   exact ⟨by rw [List.length_cons]; omega, b, c⟩
  ·split
   ·obtain ⟨a, b, c⟩ := resend_much q ws (storeS d w) (turnL F w.id 0) (acc ++ [w]) (by omega)
    exact ⟨by rw [List.length_cons]; omega, b.trans s2, c.trans (turn_len F _ _)⟩
   ·exact ⟨Nat.le_trans s1 (by rw [List.length_cons]; omega), s2, rfl⟩
theorem again_le (F : List (Int × Fw)) : (againL F).length ≤ F.length := by
 unfold againL
 rw [List.length_map]
 exact List.length_filter_le _ _
theorem flush_size (s : Dk) : (flushS s).size = s.size := by
 unfold flushS
 split <;> rfl
theorem heat_size (M : Mr) (o l : Int) : (heatD M o l).size = M.d.size := by
 have h : ∀ s : Dk, ∀ z, (logS s z).size = s.size := fun s z => by
  unfold logS
  split
  ·rfl
  split
  ·rfl
  unfold putS
  split
  ·split
   ·rfl
   ·unfold putsS
    split
    ·rw [flush_size, wroteS_size]
    ·exact wroteS_size _ _ _
  ·rfl
 unfold heatD
 split
 ·exact h _ _
 ·rfl
theorem tk_ops (m : Mr) (h : m.d.size ≤ 1024) (x : Ms) : (tkS m x).d.ops ≤ m.d.ops + 1030 := by
 have o := (storeS_ops h (wOf x)).1
 unfold tkS
 split
 ·split
  ·unfold dtS
   split
   ·exact o
   ·split
    ·exact Nat.le_add_right _ _
    ·exact Nat.le_add_right _ _
  ·split
   ·exact Nat.le_add_right _ _
   ·split <;> exact Nat.le_add_right _ _
 ·exact Nat.le_add_right _ _
theorem go_ops (m : Mr) (h : m.d.size ≤ 1024) : (goS m).d.ops ≤ m.d.ops + 1030 * m.lat.length + 1030 * m.fly.length := by
 obtain ⟨o1, o2, o3⟩ := applyR_ops (ownsM m.fly) m.lat.length m.d m.lat [] h
 obtain ⟨r1, r2, r3⟩ := resend_much (appR m).2.1 (againL m.fly) (appR m).1 m.fly [] (by unfold appR; omega)
 have := again_le m.fly
 unfold appR at r1 r2
 unfold goS
 split
 ·show (resR m).1.ops ≤ _
  unfold resR appR
  omega
 ·show (appR m).1.ops ≤ _
  unfold appR
  omega
theorem wr_ops (m : Mr) (h : m.d.size ≤ 1024) (w : Lw) : (wrS m w).d.ops ≤ m.d.ops + 1040 := by
 have o1 := heat_ops m w.o w.l
 have o2 := heat_size m w.o w.l
 obtain ⟨o3, o4⟩ := storeS_ops (s := heatD m w.o w.l) (by omega) w
 unfold wrS
 split
 ·split
  ·split
   ·show (storeS (heatD m w.o w.l) w).ops ≤ _
    omega
   ·show (heatD m w.o w.l).ops ≤ _
    omega
  ·exact Nat.le_add_right _ _
 ·exact Nat.le_add_right _ _
theorem two_kinds : ∀ {W : List Ms}, (∀ m ∈ W, m.k = 2 ∨ m.k = 3) → W.length = (dI W).length + (kI W).length
 | [], _ => rfl
 | m :: W, h => by
  have ih := two_kinds (W := W) fun u hu => h u (by simp [hu])
  rcases h m (by simp) with e | e <;> simp [dI, kI, e] at ih ⊢ <;> omega
theorem four_kinds : ∀ {W : List Ms}, (∀ m ∈ W, m.k = 2 ∨ m.k = 3 ∨ m.k = 4 ∨ m.k = 5) → W.length = (dI W).length + (cR W + cK W)
 | [], _ => rfl
 | m :: W, h => by
  have ih := four_kinds (W := W) fun u hu => h u (by simp [hu])
  rcases h m (by simp) with e | e | e | e <;> simp [dI, cR, cK, e] at ih ⊢ <;> omega
theorem NInv.len {n : Net} (h : NInv n) : n.wa.length ≤ phi n ∧ n.wb.length ≤ phi n ∧ n.b.lat.length ≤ phi n := by
 have h1 := two_kinds (W := n.wa) fun m hm => by
  rcases h.inv.mA m hm with ⟨i, x, rfl, _⟩ | ⟨i, y, rfl, _⟩
  ·exact .inl rfl
  ·exact .inr rfl
 have h2 := four_kinds (W := n.wb) fun m hm => by
  rcases h.inv.mB m hm with ⟨i, x, rfl, _⟩ | ⟨k, i, y, hk, rfl, _⟩
  ·exact .inl rfl
  ·exact .inr hk
 unfold phi phiN
 generalize 4 * (((dI n.wb).length + n.b.lat.length) * ((dI n.wa).length + cR n.wb + (againL n.b.fly).length)) = Y
 omega
theorem NInv.msg {n : Net} (h : NInv n) {m : Ms} (hm : m ∈ n.wa ∨ m ∈ n.wb) : (-9223372036854775808 ≤ m.i ∧ m.i ≤ 9223372036854775807) ∧ m.d.length ≤ 1000 := by
 have key : ∀ i x, FineF 32 i x → (-9223372036854775808 ≤ i ∧ i ≤ 9223372036854775807) ∧ x.bs.length ≤ 1000 := fun i x f => ⟨⟨by have := f.id; omega, by have := f.id; omega⟩, by have h1 := f.len; have h2 := f.eight; omega⟩
 rcases hm with hm | hm
 ·rcases h.inv.mA m hm with ⟨i, x, rfl, hx, _⟩ | ⟨i, y, rfl, hy⟩
  ·exact key i x (h.inv.fineB i x hx).1
  ·exact ⟨(key i y (h.inv.fineA i y hy).1).1, by show ([] : List Nat).length ≤ 1000; simp⟩
 ·rcases h.inv.mB m hm with ⟨i, x, rfl, hx⟩ | ⟨k, i, y, hk, rfl, hy, _⟩
  ·exact key i x (h.inv.fineA i x hx).1
  ·exact ⟨(key i y (h.inv.fineB i y hy).1).1, by show ([] : List Nat).length ≤ 1000; simp⟩
def stpA (n : Net) : Net := match n.wa with
 | [] => n
 | m :: t => { n with a := tkS n.a m, wa := t, wb := n.wb ++ tkO n.a m }
def stpB (n : Net) : Net := match n.wb with
 | [] => n
 | m :: t => { n with b := tkS n.b m, wb := t, wa := n.wa ++ tkO n.b m }
def goesB (n : Net) : Net := { n with b := goS n.b, wa := n.wa ++ goO n.b }
structure Runs (n : Net) (j k : Nat) : Prop where
 inv : NInv n
 stable : Stable n.b
 fly : n.a.fly.length + n.b.fly.length ≤ j
 few : j ≤ 60
 opsA : n.a.d.ops ≤ 10000000 * k
 opsB : n.b.d.ops ≤ 10000000 * k
theorem Runs.phi {n : Net} {j k : Nat} (h : Runs n j k) : Mirror.phi n ≤ 4000 := h.inv.phi_le (Nat.le_trans h.fly h.few)
theorem take_opsA {n : Net} (h : NInv n) : (stpA n).a.d.ops ≤ n.a.d.ops + 1030 ∧ (stpA n).b = n.b := by
 unfold stpA
 split
 ·exact ⟨Nat.le_add_right _ _, rfl⟩
 ·exact ⟨tk_ops _ (by rw [h.sizeA]; decide) _, rfl⟩
theorem NInv.took_a {n : Net} (h : NInv n) : NInv (stpA n) ∧ (stpA n).a.fly.length ≤ n.a.fly.length ∧ Mirror.phi (stpA n) + (if n.wa = [] then 0 else 1) ≤ Mirror.phi n := by
 unfold stpA
 split
 ·rename_i e
  rw [if_pos e]
  exact ⟨h, Nat.le_refl _, Nat.le_refl _⟩
 ·rename_i m t e
  obtain ⟨_, t2, t3, t4, _⟩ := h.takeA e
  rw [if_neg (by rw [e]; simp)]
  exact ⟨t2, t4, t3⟩
theorem NInv.took_b {n : Net} (h : NInv n) : NInv (stpB n) ∧ (stpB n).b.fly.length ≤ n.b.fly.length ∧ Mirror.phi (stpB n) + (if n.wb = [] then 0 else 1) ≤ Mirror.phi n ∧ (stpB n).b.d.ops ≤ n.b.d.ops + 1030 ∧ (stpB n).a = n.a := by
 unfold stpB
 split
 ·rename_i e
  rw [if_pos e]
  exact ⟨h, Nat.le_refl _, Nat.le_refl _, Nat.le_add_right _ _, rfl⟩
 ·rename_i m t e
  obtain ⟨_, t2, t3, t4, _⟩ := h.takeB e
  rw [if_neg (by rw [e]; simp)]
  exact ⟨t2, t4, t3, tk_ops _ (by rw [h.sizeB]; decide) _, rfl⟩
theorem Runs.stepA {n : Net} {j k : Nat} (h : Runs n j k) : Runs (stpA n) j (k + 1) ∧ Mirror.phi (stpA n) + (if n.wa = [] then 0 else 1) ≤ Mirror.phi n := by
 obtain ⟨t1, t2, t3⟩ := h.inv.took_a
 obtain ⟨o1, o2⟩ := take_opsA h.inv
 have f := h.fly
 have a := h.opsA
 have b := h.opsB
 exact ⟨⟨t1, by rw [o2]; exact h.stable, by rw [o2]; omega, h.few, by omega, by rw [o2]; omega⟩, t3⟩
theorem Runs.stepB {n : Net} {j k : Nat} (h : Runs n j k) : Runs (goesB (stpB n)) j (k + 1) ∧ Mirror.phi (goesB (stpB n)) + (if n.wb = [] then 0 else 1) ≤ Mirror.phi n := by
 obtain ⟨t1, t2, t3, t4, t5⟩ := h.inv.took_b
 obtain ⟨g1, g2, g3, g4, g5, g6⟩ := t1.goB
 have hph := h.phi
 have hl := t1.len.2.2
 have ho := go_ops (stpB n).b (by rw [t1.sizeB]; decide)
 have f := h.fly
 have e := h.few
 have a := h.opsA
 have b := h.opsB
 have ea : (goesB (stpB n)).a = n.a := t5
 have eo : (goesB (stpB n)).b.d.ops = (goS (stpB n).b).d.ops := rfl
 have el : (goesB (stpB n)).b.fly.length = (goS (stpB n).b).fly.length := rfl
 have hp : Mirror.phi (goesB (stpB n)) ≤ Mirror.phi (stpB n) := g3
 refine ⟨⟨g2, g4, by rw [ea, el, g5]; omega, h.few, by rw [ea]; omega, by rw [eo]; omega⟩, by omega⟩
theorem Runs.writeA {n : Net} {j k : Nat} (h : Runs n j k) (hj : j < 60) {w : Lw} (hw : Asks w) : Runs { n with a := wrS n.a w, wb := n.wb ++ wrO n.a w } (j + 1) (k + 1) := by
 obtain ⟨w1, w2⟩ := h.inv.writeA hw
 have o := wr_ops n.a (by rw [h.inv.sizeA]; decide) w
 have f := h.fly
 have a := h.opsA
 have b := h.opsB
 exact ⟨w1, h.stable, by show (wrS n.a w).fly.length + n.b.fly.length ≤ _; omega, by omega, by show (wrS n.a w).d.ops ≤ _; omega, by show n.b.d.ops ≤ _; omega⟩
theorem Runs.writeB {n : Net} {j k : Nat} (h : Runs n j k) (hj : j < 60) {w : Lw} (hw : Asks w) : Runs { n with b := wrS n.b w, wa := n.wa ++ wrO n.b w } (j + 1) (k + 1) := by
 obtain ⟨w1, w2⟩ := h.inv.writeB hw
 have o := wr_ops n.b (by rw [h.inv.sizeB]; decide) w
 have f := h.fly
 have a := h.opsA
 have b := h.opsB
 exact ⟨w1, h.stable.write h.inv hw, by show n.a.fly.length + (wrS n.b w).fly.length ≤ _; omega, by omega, by show n.a.d.ops ≤ _; omega, by show (wrS n.b w).d.ops ≤ _; omega⟩
theorem Runs.more {n : Net} {j k : Nat} (h : Runs n j k) (hj : j < 60) : Runs n (j + 1) (k + 1) := ⟨h.inv, h.stable, by have := h.fly; omega, by omega, by have := h.opsA; omega, by have := h.opsB; omega⟩
theorem Runs.j {n : Net} {j j' k : Nat} (h : Runs n j k) (hj : j ≤ j') (h6 : j' ≤ 60) : Runs n j' k := ⟨h.inv, h.stable, by have := h.fly; omega, h6, h.opsA, h.opsB⟩
def stepN (i : Nat) (n : Net) : Net := if i % 2 = 0 then stpA n else goesB (stpB n)
def mu (i : Nat) (n : Net) : Nat := 2 * phi n + (if (if i % 2 = 0 then n.wa else n.wb) = [] then 1 else 0)
theorem Runs.step {n : Net} {j k : Nat} (h : Runs n j k) (i : Nat) : Runs (stepN i n) j (k + 1) := by
 unfold stepN
 split
 ·exact h.stepA.1
 ·exact h.stepB.1
theorem Runs.less {n : Net} {j k : Nat} (h : Runs n j k) (i : Nat) (hne : ¬ (n.wa = [] ∧ n.wb = [])) : mu (i + 1) (stepN i n) + 1 ≤ mu i n := by
 unfold mu stepN
 by_cases hi : i % 2 = 0
 ·have hi1 : ¬ (i + 1) % 2 = 0 := by omega
  rw [if_pos hi, if_pos hi, if_neg hi1]
  have hs := h.stepA.2
  by_cases ha : n.wa = []
  ·have e : stpA n = n := by unfold stpA; rw [ha]
   rw [e, if_pos ha, if_neg (fun hb => hne ⟨ha, hb⟩)]
   omega
  ·rw [if_neg ha] at hs ⊢
   split <;> omega
 ·have hi1 : (i + 1) % 2 = 0 := by omega
  rw [if_neg hi, if_neg hi, if_pos hi1]
  have hs := h.stepB.2
  by_cases hb : n.wb = []
  ·have e : stpB n = n := by unfold stpB; rw [hb]
   rw [if_pos hb] at hs ⊢
   have hwa : (goesB (stpB n)).wa ≠ [] := by
    rw [e]
    unfold goesB
    intro h0
    exact hne ⟨(List.append_eq_nil_iff.1 h0).1, hb⟩
   rw [if_neg hwa]
   omega
  ·rw [if_neg hb] at hs ⊢
   split <;> omega
theorem bit_one (p : Prop) [Decidable p] : (if p then 1 else 0) ≤ 1 := by split <;> omega
theorem Runs.most {n : Net} {j k : Nat} (h : Runs n j k) : mu 0 n ≤ 8001 := by
 have h1 := h.phi
 have h2 := bit_one ((if 0 % 2 = 0 then n.wa else n.wb) = [])
 unfold mu
 omega
theorem Runs.still {n : Net} {j k : Nat} (h : Runs n j k) (ha : n.wa = []) (hb : n.wb = []) : stpA n = n ∧ goesB (stpB n) = n ∧ n.a.fly = [] ∧ n.b.fly = [] ∧ n.b.lat = [] ∧ n.a.lat = [] ∧ imgL n.a.d = imgL n.b.d ∧ keys n.a.d = [] ∧ keys n.b.d = [] := by
 obtain ⟨r1, r2, r3, r4, r5, r6⟩ := h.inv.rest h.stable ha hb
 refine ⟨by unfold stpA; rw [ha], ?_, r1, r2, r3, h.inv.latA, r4, r5, r6⟩
 have e : stpB n = n := by unfold stpB; rw [hb]
 rw [e]
 obtain ⟨a, ⟨d, most, hot, fly, lat, arb⟩, wa, wb⟩ := n
 simp only at r2 r3 ha
 subst r2 r3 ha
 rfl
end Go.Proofs.YtoaeficfmcncjaaGreat.Mirror
namespace Go.Proofs.YtoaeficfmcncjaaGreat.Mirror
open Go.RowKit
open Math
open Later (Lw)
open Pack (Ms Mv)
def NetAt (w0 W : World) (g : Nat) (x y : Ad) (n : Net) : Prop := ∃ K L vo vt P Q, PairIn W w0.heap.size g 0 x y K L vo vt n.a n.b n.wa n.wb P Q ∧ Past w0.heap.size w0 W
variable {w0 w : World} {g : Nat} {x y : Ad} {n : Net} {j k : Nat}
theorem NetAt.kept (h : NetAt w0 w g x y n) : Kept [] w0 w := by
 obtain ⟨_, _, _, _, _, _, _, hp⟩ := h
 exact hp.kept
theorem NetAt.kept0 {W : World} (h : NetAt w0 w g x y n) (hk : Kept [] w W) : NetAt w0 W g x y n := by
 obtain ⟨K, L, vo, vt, P, Q, H, hp⟩ := h
 exact ⟨K, L, vo, vt, P, Q, H.kept0 hk, hp.trans (Past.of hk (by simp))⟩
set_option maxRecDepth 100000 in
theorem net_a (h : NetAt w0 w g x y n) (hr : Runs n j k) (hk : k ≤ 100000) : Calls Tryz.prog 30 #[.pointer (some ⟨g, 0, none⟩), .int .i64 0] w fun e w' => e = .returned (.tuple #[]) ∧ NetAt w0 w' g x y (stpA n) := by
 obtain ⟨K, L, vo, vt, P, Q, H, hp⟩ := h
 obtain ⟨g1, g2, g3⟩ := hr.inv.goA
 obtain ⟨l1, l2, l3⟩ := hr.inv.len
 have hph := hr.phi
 have hl := hr.inv.latA
 have hf := hr.fly
 have h6 := hr.few
 have ho := hr.opsA
 have hb := hp.size
 cases e : n.wa with
 | nil =>
  rw [e] at H
  refine (step0_none w H hb g1 (by omega) (by rw [hl]; simp) (by rw [hl]; simp only [List.length_nil]; omega) (by rw [g3]; simp only [List.length_nil]; omega)).mono ?_
  rintro e1 w' ⟨rfl, K', vo', vt', P', Q', H', hp'⟩
  rw [g2, g3, List.append_nil] at H'
  refine ⟨rfl, K', L, vo', vt', P', Q', ?_, hp.trans hp'⟩
  have es : stpA n = n := by unfold stpA; rw [e]
  rw [es, e]
  exact H'
 | cons m t =>
  obtain ⟨t1, t2, t3, t4, t5⟩ := hr.inv.takeA e
  have hmsg := hr.inv.msg (m := m) (.inl (by rw [e]; simp))
  obtain ⟨i1, i2, i3⟩ := t2.goA
  have ol := tk_ops n.a (by rw [hr.inv.sizeA]; decide) m
  have hl2 : (tkS n.a m).lat = [] := t2.latA
  rw [e] at H l1
  simp only [List.length_cons] at l1
  have i1' : goE (tkS n.a m) = 0 := i1
  have i2' : goS (tkS n.a m) = tkS n.a m := i2
  have i3' : goO (tkS n.a m) = [] := i3
  refine (step0_some m t w H hb hmsg.1 hmsg.2 t1 i1' (by omega) (by rw [hl]; simp) (by rw [hl]; simp only [List.length_nil]; omega) (by omega) (by rw [hl2]; simp) (by rw [hl2]; simp only [List.length_nil]; omega) (by omega) (by omega) (by rw [i3', List.length_append]; simp only [List.length_nil]; omega)).mono ?_
  rintro e1 w' ⟨rfl, K', vo', vt', P', Q', H', hp'⟩
  rw [i2', i3', List.append_nil] at H'
  refine ⟨rfl, K', L, vo', vt', P', Q', ?_, hp.trans hp'⟩
  have es : stpA n = { n with a := tkS n.a m, wa := t, wb := n.wb ++ tkO n.a m } := by unfold stpA; rw [e]
  rw [es]
  exact H'
set_option maxRecDepth 100000 in
theorem net_b (h : NetAt w0 w g x y n) (hr : Runs n j k) (hk : k ≤ 100000) : Calls Tryz.prog 30 #[.pointer (some ⟨g, 0, none⟩), .int .i64 1] w fun e w' => e = .returned (.tuple #[]) ∧ NetAt w0 w' g x y (goesB (stpB n)) := by
 obtain ⟨K, L, vo, vt, P, Q, H, hp⟩ := h
 replace H := H.swap (.inl rfl)
 obtain ⟨g1, g2, g3, g4, g5, g6⟩ := hr.inv.goB
 obtain ⟨l1, l2, l3⟩ := hr.inv.len
 have hph := hr.phi
 have hf := hr.fly
 have h6 := hr.few
 have ho := hr.opsB
 have hb := hp.size
 cases e : n.wb with
 | nil =>
  rw [e] at H
  refine (step1_none w H hb g1 (by omega) (by omega) (by omega) (by omega)).mono ?_
  rintro e1 w' ⟨rfl, K', vo', vt', P', Q', H', hp'⟩
  refine ⟨rfl, K, K', vt', vo', Q', P', ?_, hp.trans hp'⟩
  have es : stpB n = n := by unfold stpB; rw [e]
  rw [es]
  have H2 := H'.swap (.inr rfl)
  rw [← e] at H2
  exact H2
 | cons m t =>
  obtain ⟨t1, t2, t3, t4, t5⟩ := hr.inv.takeB e
  have hmsg := hr.inv.msg (m := m) (.inr (by rw [e]; simp))
  obtain ⟨i1, i2, i3, i4, i5, i6⟩ := t2.goB
  obtain ⟨q1, q2, q3⟩ := t2.len
  have ol := tk_ops n.b (by rw [hr.inv.sizeB]; decide) m
  rw [e] at H l2
  simp only [List.length_cons] at l2
  have i1' : goE (tkS n.b m) = 0 := i1
  have q3' : (tkS n.b m).lat.length ≤ phi { n with b := tkS n.b m, wb := t, wa := n.wa ++ tkO n.b m } := q3
  have i6' : (goO (tkS n.b m)).length ≤ (tkS n.b m).lat.length + (tkS n.b m).fly.length := i6
  refine (step1_some m t w H hb hmsg.1 hmsg.2 t1 i1' (by omega) (by omega) (by omega) (by omega) (by omega) (by omega) (by omega) (by omega) (by rw [List.length_append]; omega)).mono ?_
  rintro e1 w' ⟨rfl, K', vo', vt', P', Q', H', hp'⟩
  refine ⟨rfl, K, K', vt', vo', Q', P', ?_, hp.trans hp'⟩
  have es : stpB n = { n with b := tkS n.b m, wb := t, wa := n.wa ++ tkO n.b m } := by unfold stpB; rw [e]
  rw [es]
  exact H'.swap (.inr rfl)
end Go.Proofs.YtoaeficfmcncjaaGreat.Mirror
