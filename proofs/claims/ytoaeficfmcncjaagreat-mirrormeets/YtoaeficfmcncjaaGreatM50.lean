/-
 Two mirrors, plain: what flies, what waits, what is on its way, what the disks have; what holds at any time.
-/
import Derived.Test.YtoaeficfmcncjaaGreatM49
namespace Go.Proofs.YtoaeficfmcncjaaGreat.Mirror
open Math
open Flight (Fw)
open Later (Lw)
open Pack (Ms)
abbrev Fn := Int → Option Fw
def ov (x y : Fw) : Bool := Span.Math.over x.o x.l y.o y.l
def cov (x : Fw) (s : Nat) : Prop := x.o.toNat ≤ s ∧ s < x.o.toNat + x.l.toNat
structure FineF (N : Nat) (i : Int) (x : Fw) : Prop where
 id : 1 ≤ i ∧ i ≤ 72057594037927935
 good : Span.Math.good x.o x.l (N : Int) = true
 len : (x.bs.length : Int) = 16 * x.l
 eight : x.l ≤ 8
 byt : ∀ b ∈ x.bs, b < 256
theorem FineF.in {N : Nat} {i : Int} {x : Fw} (h : FineF N i x) : 0 ≤ x.o ∧ 1 ≤ x.l ∧ x.o + x.l ≤ N := by
 have := good_of h.good
 omega
theorem ov_comm (x y : Fw) : ov x y = ov y x := Span.Math.over_comm _ _ _ _
theorem ov_iff {N : Nat} {i j : Int} {x y : Fw} (hx : FineF N i x) (hy : FineF N j y) : ov x y = true ↔ ∃ s, s < N ∧ cov x s ∧ cov y s := by
 have a := good_of hx.good
 have b := good_of hy.good
 constructor
 ·intro h
  obtain ⟨_, _, g⟩ := Span.Math.over_plain h
  exact ⟨(max x.o y.o).toNat, by omega, by unfold cov; omega, by unfold cov; omega⟩
 ·rintro ⟨s, _, c, e⟩
  unfold cov at c e
  exact Span.Math.over_true (Span.Math.plain_of (by omega)) (Span.Math.plain_of (by omega)) (by omega)
def dm (i : Int) (x : Fw) : Ms := ⟨2, i, x.o, 0, false, x.bs⟩
def am (k i : Int) : Ms := ⟨k, i, 0, 0, false, []⟩
theorem am_inj {k i k' i' : Int} (h : am k i = am k' i') : k = k' ∧ i = i' := by
 simp [am] at h
 exact h
theorem dm_am {i k j : Int} {x : Fw} (hk : k ≠ 2) : dm i x ≠ am k j := fun h => by
 simp [am, dm] at h
 exact hk h.1.symm
def dI (W : List Ms) : List Int := W.filterMap fun m => if m.k = 2 then some m.i else none
def kI (W : List Ms) : List Int := W.filterMap fun m => if m.k = 3 then some m.i else none
def nI (W : List Ms) : List Int := W.filterMap fun m => if m.k = 2 then none else some m.i
def lI (L : List Lw) : List Int := L.map (·.id)
theorem dI_app (U V : List Ms) : dI (U ++ V) = dI U ++ dI V := by simp [dI]
theorem kI_app (U V : List Ms) : kI (U ++ V) = kI U ++ kI V := by simp [kI]
theorem nI_app (U V : List Ms) : nI (U ++ V) = nI U ++ nI V := by simp [nI]
theorem lI_app (U V : List Lw) : lI (U ++ V) = lI U ++ lI V := by simp [lI]
theorem dI_d (i : Int) (x : Fw) (W : List Ms) : dI (dm i x :: W) = i :: dI W := by simp [dI, dm]
theorem dI_a {k : Int} (hk : k ≠ 2) (i : Int) (W : List Ms) : dI (am k i :: W) = dI W := by simp [dI, am, hk]
theorem kI_d (i : Int) (x : Fw) (W : List Ms) : kI (dm i x :: W) = kI W := by simp [kI, dm]
theorem kI_a (i : Int) (W : List Ms) : kI (am 3 i :: W) = i :: kI W := by simp [kI, am]
theorem nI_d (i : Int) (x : Fw) (W : List Ms) : nI (dm i x :: W) = nI W := by simp [nI, dm]
theorem nI_a {k : Int} (hk : k ≠ 2) (i : Int) (W : List Ms) : nI (am k i :: W) = i :: nI W := by simp [nI, am, hk]
theorem mem_nI {k i : Int} (hk : k ≠ 2) {W : List Ms} (h : am k i ∈ W) : i ∈ nI W := List.mem_filterMap.2 ⟨_, h, by simp [am, hk]⟩
theorem mem_dI {i : Int} {x : Fw} {W : List Ms} (h : dm i x ∈ W) : i ∈ dI W := List.mem_filterMap.2 ⟨_, h, rfl⟩
def Lead (fA fB : Fn) (i : Int) (m : Ms) : Prop := ∃ y x, fA i = some y ∧ fB m.i = some x ∧ ov x y = true ∧ (m.k = 4 → ∀ s, cov x s → cov y s)
def Led (fA fB : Fn) : List Int → List Ms → Prop
 | _, [] => True
 | ids, m :: W => (m.k = 4 ∨ m.k = 5 → ∃ i ∈ ids, Lead fA fB i m) ∧ Led fA fB (if m.k = 2 then m.i :: ids else ids) W
theorem dI_cons (u : Ms) (W : List Ms) : dI (u :: W) = if u.k = 2 then u.i :: dI W else dI W := by
 by_cases hu : u.k = 2 <;> simp [dI, hu]
theorem Led.imp {fA fB gA gB : Fn} : ∀ {W : List Ms} {ids ids' : List Int}, Led fA fB ids W → (∀ m ∈ W, m.k = 4 ∨ m.k = 5 → ∀ i, i ∈ ids ∨ i ∈ dI W → Lead fA fB i m → Lead gA gB i m ∧ (i ∈ ids → i ∈ ids')) → Led gA gB ids' W
 | [], _, _, _, _ => trivial
 | u :: W, ids, ids', hw, H => by
  refine ⟨fun hk => ?_, hw.2.imp fun m hm hk i hi hl => ?_⟩
  ·obtain ⟨i, hi, hl⟩ := hw.1 hk
   obtain ⟨h1, h2⟩ := H u (by simp) hk i (.inl hi) hl
   exact ⟨i, h2 hi, h1⟩
  ·rw [dI_cons] at H
   by_cases hu : u.k = 2
   ·rw [if_pos hu] at hi H ⊢
    rw [if_pos hu]
    obtain ⟨h1, h2⟩ := H m (by simp [hm]) hk i (by
     rcases hi with hi | hi
     ·rcases List.mem_cons.1 hi with e | e
      ·exact .inr (by simp [e])
      ·exact .inl e
     ·exact .inr (by simp [hi])) hl
    refine ⟨h1, fun he => ?_⟩
    rcases List.mem_cons.1 he with e | e
    ·exact List.mem_cons.2 (.inl e)
    ·exact List.mem_cons.2 (.inr (h2 e))
   ·rw [if_neg hu] at hi H ⊢
    rw [if_neg hu]
    exact H m (by simp [hm]) hk i hi hl
theorem led_snoc {fA fB : Fn} {m : Ms} : ∀ {W : List Ms} {ids : List Int}, Led fA fB ids W → (m.k = 4 ∨ m.k = 5 → ∃ i, (i ∈ ids ∨ i ∈ dI W) ∧ Lead fA fB i m) → Led fA fB ids (W ++ [m])
 | [], ids, _, h => ⟨fun hk => by
   obtain ⟨i, hi, hl⟩ := h hk
   rcases hi with hi | hi
   ·exact ⟨i, hi, hl⟩
   ·simp [dI] at hi, trivial⟩
 | u :: W, ids, hw, h => ⟨hw.1, led_snoc hw.2 fun hk => by
   obtain ⟨i, hi, hl⟩ := h hk
   refine ⟨i, ?_, hl⟩
   by_cases hu : u.k = 2
   ·rw [if_pos hu]
    rcases hi with hi | hi
    ·exact .inl (by simp [hi])
    ·have e : dI (u :: W) = u.i :: dI W := by simp [dI, hu]
     rw [e] at hi
     rcases List.mem_cons.1 hi with e | e
     ·exact .inl (by simp [e])
     ·exact .inr e
   ·rw [if_neg hu]
    have e : dI (u :: W) = dI W := by simp [dI, hu]
    rw [e] at hi
    exact hi⟩
structure Inv (N : Nat) (fA fB : Fn) (lat : List Lw) (wa wb : List Ms) (cA cB : Nat → List Nat) : Prop where
 fineA : ∀ i y, fA i = some y → FineF N i y ∧ y.st = 0
 fineB : ∀ i x, fB i = some x → FineF N i x ∧ (x.st = 0 ∨ x.st = 1)
 apA : ∀ i j x y, fA i = some x → fA j = some y → ov x y = true → i = j
 apB : ∀ i j x y, fB i = some x → fB j = some y → ov x y = true → i = j
 mB : ∀ m ∈ wb, (∃ i y, m = dm i y ∧ fA i = some y) ∨ ∃ k i x, (k = 3 ∨ k = 4 ∨ k = 5) ∧ m = am k i ∧ fB i = some x ∧ x.st = 0
 mA : ∀ m ∈ wa, (∃ i x, m = dm i x ∧ fB i = some x ∧ x.st = 0) ∨ ∃ i y, m = am 3 i ∧ fA i = some y
 mL : ∀ w ∈ lat, ∃ y, fA w.id = some y ∧ w = ⟨w.id, y.o, y.l, y.bs⟩
 tA : (dI wb ++ (lI lat ++ kI wa)).Nodup
 tA' : ∀ i y, fA i = some y → i ∈ dI wb ∨ i ∈ lI lat ∨ i ∈ kI wa
 tB : (dI wa ++ nI wb).Nodup
 tB' : ∀ i x, fB i = some x → x.st = 0 → i ∈ dI wa ∨ i ∈ nI wb
 oK : wb.Pairwise fun m m' => m.k = 2 → m'.k = 3 → ∀ y x, fA m.i = some y → fB m'.i = some x → ov x y = false
 kD : ∀ j x i y, am 3 j ∈ wb → fB j = some x → fA i = some y → ov x y = true → i ∈ dI wb
 oD : wa.Pairwise fun m m' => m.k = 2 → m'.k = 3 → ∀ x y, fB m.i = some x → fA m'.i = some y → ov x y = false
 oL : Led fA fB (lI lat) wb
 conA : ∀ i y, fA i = some y → ∀ k, k < y.l.toNat → cA (y.o.toNat + k) = piece y.bs k
 conB : ∀ i x, fB i = some x → x.st = 0 → ∀ k, k < x.l.toNat → cB (x.o.toNat + k) = piece x.bs k
 eq : ∀ s, s < N → (∀ i y, fA i = some y → cov y s → i ∈ kI wa) → (∀ j x, fB j = some x → cov x s → am 3 j ∈ wb) → cA s = cB s
def lay (c : Nat → List Nat) (x : Fw) : Nat → List Nat := fun s => if x.o.toNat ≤ s ∧ s < x.o.toNat + x.l.toNat then piece x.bs (s - x.o.toNat) else c s
theorem lay_in (c : Nat → List Nat) (x : Fw) {k : Nat} (hk : k < x.l.toNat) : lay c x (x.o.toNat + k) = piece x.bs k := by
 unfold lay
 rw [if_pos ⟨by omega, by omega⟩]
 congr 1
 omega
theorem lay_out (c : Nat → List Nat) {x : Fw} {s : Nat} (h : ¬ cov x s) : lay c x s = c s := if_neg h
theorem lay_other {N : Nat} {i j : Int} {c : Nat → List Nat} {x y : Fw} (hx : FineF N i x) (hy : FineF N j y) (ho : ov x y = false) (h : ∀ k, k < y.l.toNat → c (y.o.toNat + k) = piece y.bs k) : ∀ k, k < y.l.toNat → lay c x (y.o.toNat + k) = piece y.bs k := fun k hk => by
 rw [lay_out c fun hc => ?_]
 ·exact h k hk
 ·have hi := hy.in
  have := (ov_iff hx hy).2 ⟨y.o.toNat + k, by omega, hc, by unfold cov; omega⟩
  rw [this] at ho
  cases ho
variable {N : Nat} {fA fB : Fn} {lat : List Lw} {wa wb : List Ms} {cA cB : Nat → List Nat}
theorem Inv.isD (h : Inv N fA fB lat wa wb cA cB) {i : Int} (hi : i ∈ dI wb) : ∃ y, dm i y ∈ wb ∧ fA i = some y := by
 obtain ⟨m, hm, e⟩ := List.mem_filterMap.1 hi
 rcases h.mB m hm with ⟨j, y, rfl, hj⟩ | ⟨k, j, x, hk, rfl, _⟩
 ·simp [dm] at e
  subst e
  exact ⟨y, hm, hj⟩
 ·have : k ≠ 2 := by omega
  simp [am, this] at e
theorem Inv.isL (h : Inv N fA fB lat wa wb cA cB) {i : Int} (hi : i ∈ lI lat) : ∃ y, (⟨i, y.o, y.l, y.bs⟩ : Lw) ∈ lat ∧ fA i = some y := by
 obtain ⟨w, hw, e⟩ := List.mem_map.1 hi
 obtain ⟨y, hy, ew⟩ := h.mL w hw
 rw [e] at hy ew
 exact ⟨y, ew ▸ hw, hy⟩
theorem Inv.isK (h : Inv N fA fB lat wa wb cA cB) {i : Int} (hi : i ∈ kI wa) : am 3 i ∈ wa ∧ ∃ y, fA i = some y := by
 obtain ⟨m, hm, e⟩ := List.mem_filterMap.1 hi
 rcases h.mA m hm with ⟨j, x, rfl, _⟩ | ⟨j, y, rfl, hy⟩
 ·simp [dm] at e
 ·simp [am] at e
  subst e
  exact ⟨hm, y, hy⟩
theorem Inv.isN (h : Inv N fA fB lat wa wb cA cB) {i : Int} (hi : i ∈ nI wb) : ∃ k x, (k = 3 ∨ k = 4 ∨ k = 5) ∧ am k i ∈ wb ∧ fB i = some x ∧ x.st = 0 := by
 obtain ⟨m, hm, e⟩ := List.mem_filterMap.1 hi
 rcases h.mB m hm with ⟨j, y, rfl, hj⟩ | ⟨k, j, x, hk, rfl, hx⟩
 ·simp [dm] at e
 ·have : k ≠ 2 := by omega
  simp [am, this] at e
  subst e
  exact ⟨k, x, hk, hm, hx⟩
theorem nd_of {l l' : List Int} (h : l.Nodup) (p : ∀ a, l'.count a = l.count a) : l'.Nodup := (List.perm_iff_count.2 p).nodup_iff.2 h
theorem Inv.dB (h : Inv N fA fB lat wa wb cA cB) {m : Ms} (hm : m ∈ wb) (hk : m.k = 2) : ∃ y, fA m.i = some y := by
 rcases h.mB m hm with ⟨j, y, rfl, hj⟩ | ⟨k, j, x, hk', rfl, _⟩
 ·exact ⟨y, hj⟩
 ·have : k = 2 := hk
  omega
theorem Inv.nB (h : Inv N fA fB lat wa wb cA cB) {m : Ms} (hm : m ∈ wb) (hk : m.k ≠ 2) : ∃ x, fB m.i = some x ∧ x.st = 0 := by
 rcases h.mB m hm with ⟨j, y, rfl, hj⟩ | ⟨k, j, x, hk', rfl, h1, h2⟩
 ·exact absurd rfl hk
 ·exact ⟨x, h1, h2⟩
theorem Inv.dA (h : Inv N fA fB lat wa wb cA cB) {m : Ms} (hm : m ∈ wa) (hk : m.k = 2) : ∃ x, fB m.i = some x ∧ x.st = 0 := by
 rcases h.mA m hm with ⟨j, y, rfl, hj⟩ | ⟨j, y, rfl, _⟩
 ·exact ⟨y, hj⟩
 ·have : (3 : Int) = 2 := hk
  omega
theorem Inv.nA (h : Inv N fA fB lat wa wb cA cB) {m : Ms} (hm : m ∈ wa) (hk : m.k ≠ 2) : ∃ y, fA m.i = some y := by
 rcases h.mA m hm with ⟨j, y, rfl, hj⟩ | ⟨j, y, rfl, h1⟩
 ·exact absurd rfl hk
 ·exact ⟨y, h1⟩
theorem upd_is {f : Fn} {i : Int} {v : Option Fw} {j : Int} {z : Fw} (h : upd f i v j = some z) : (j = i ∧ v = some z) ∨ (j ≠ i ∧ f j = some z) := by
 by_cases e : j = i
 ·subst e
  rw [upd_same] at h
  exact .inl ⟨rfl, h⟩
 ·rw [upd_other _ _ e] at h
  exact .inr ⟨e, h⟩
theorem upd_keep {f : Fn} {i : Int} (v : Option Fw) {j : Int} {z : Fw} (h : f j = some z) (hn : j ≠ i) : upd f i v j = some z := by rw [upd_other _ _ hn]; exact h
theorem ne_none {f : Fn} {i j : Int} {z : Fw} (hn : f i = none) (h : f j = some z) : j ≠ i := fun e => by rw [e, hn] at h; cases h
theorem Inv.sendA (h : Inv N fA fB lat wa wb cA cB) {i : Int} {y : Fw} (hf : FineF N i y) (hs : y.st = 0) (hn : fA i = none) (ha : ∀ j z, fA j = some z → ov y z = false) :
  Inv N (upd fA i (some y)) fB lat wa (wb ++ [dm i y]) (lay cA y) cB where
 fineA := fun j z hz => by
  rcases upd_is hz with ⟨rfl, e⟩ | ⟨_, e⟩
  ·cases e
   exact ⟨hf, hs⟩
  ·exact h.fineA j z e
 fineB := h.fineB
 apA := fun j k x z hx hz ho => by
  rcases upd_is hx with ⟨rfl, e⟩ | ⟨n1, e⟩ <;> rcases upd_is hz with ⟨rfl, e'⟩ | ⟨n2, e'⟩
  ·rfl
  ·cases e
   rw [ha k z e'] at ho
   cases ho
  ·cases e'
   rw [ov_comm, ha j x e] at ho
   cases ho
  ·exact h.apA j k x z e e' ho
 apB := h.apB
 mB := fun m hm => by
  rcases List.mem_append.1 hm with hm | hm
  ·rcases h.mB m hm with ⟨j, z, rfl, hj⟩ | hr
   ·exact .inl ⟨j, z, rfl, upd_keep _ hj (ne_none hn hj)⟩
   ·exact .inr hr
  ·rw [List.mem_singleton] at hm
   exact .inl ⟨i, y, hm, upd_same _ _ _⟩
 mA := fun m hm => by
  rcases h.mA m hm with hr | ⟨j, z, rfl, hj⟩
  ·exact .inl hr
  ·exact .inr ⟨j, z, rfl, upd_keep _ hj (ne_none hn hj)⟩
 mL := fun w hw => by
  obtain ⟨z, hz, e⟩ := h.mL w hw
  exact ⟨z, upd_keep _ hz (ne_none hn hz), e⟩
 tA := by
  have hi : i ∉ dI wb ++ (lI lat ++ kI wa) := fun hm => by
   rcases List.mem_append.1 hm with hm | hm
   ·obtain ⟨z, _, hz⟩ := h.isD hm
    exact ne_none hn hz rfl
   ·rcases List.mem_append.1 hm with hm | hm
    ·obtain ⟨z, _, hz⟩ := h.isL hm
     exact ne_none hn hz rfl
    ·obtain ⟨_, z, hz⟩ := h.isK hm
     exact ne_none hn hz rfl
  refine nd_of (List.nodup_cons.2 ⟨hi, h.tA⟩) fun a => ?_
  rw [dI_app, dI_d]
  simp [dI, List.count_append, List.count_cons]
  omega
 tA' := fun j z hz => by
  rw [dI_app, dI_d]
  rcases upd_is hz with ⟨rfl, e⟩ | ⟨_, e⟩
  ·simp
  ·rcases h.tA' j z e with h1 | h1
   ·exact .inl (by simp [h1])
   ·exact .inr h1
 tB := by
  rw [nI_app, nI_d]
  simpa [nI] using h.tB
 tB' := fun j x hx hz => by
  rw [nI_app, nI_d]
  simpa [nI] using h.tB' j x hx hz
 oK := by
  refine List.pairwise_append.2 ⟨h.oK.imp_of_mem fun {a b} ha' hb R h2 h3 z x hz hx => ?_, by simp, fun a _ b hb h2 h3 => ?_⟩
  ·obtain ⟨z', hz'⟩ := h.dB ha' h2
   rw [upd_other _ _ (ne_none hn hz')] at hz
   exact R h2 h3 z x hz hx
  ·rw [List.mem_singleton] at hb
   subst hb
   have : (2 : Int) = 3 := h3
   omega
 kD := fun j x k z hm hx hz ho => by
  rw [dI_app, dI_d]
  have hm' : am 3 j ∈ wb := by
   rcases List.mem_append.1 hm with hm | hm
   ·exact hm
   ·exact absurd (List.mem_singleton.1 hm).symm (dm_am (by decide))
  rcases upd_is hz with ⟨rfl, e⟩ | ⟨_, e⟩
  ·simp
  ·simp [h.kD j x k z hm' hx e ho]
 oD := h.oD.imp_of_mem fun {a b} _ hb R h2 h3 x z hx hz => by
  obtain ⟨z', hz'⟩ := h.nA hb (by omega)
  rw [upd_other _ _ (ne_none hn hz')] at hz
  exact R h2 h3 x z hx hz
 oL := led_snoc (h.oL.imp fun m _ _ j _ hl => ⟨by
  obtain ⟨z, x, h1, h2, h3⟩ := hl
  exact ⟨z, x, upd_keep _ h1 (ne_none hn h1), h2, h3⟩, id⟩) (fun hk => by simp [dm] at hk)
 conA := fun j z hz => by
  rcases upd_is hz with ⟨rfl, e⟩ | ⟨_, e⟩
  ·cases e
   exact fun k hk => lay_in _ _ hk
  ·exact lay_other hf (h.fineA j z e).1 (ha j z e) (h.conA j z e)
 conB := h.conB
 eq := fun s hsN h1 h2 => by
  by_cases c : cov y s
  ·obtain ⟨_, z, hz⟩ := h.isK (h1 i y (upd_same _ _ _) c)
   exact absurd rfl (ne_none hn hz)
  ·rw [lay_out _ c]
   refine h.eq s hsN (fun j z hz hc => h1 j z (upd_keep _ hz (ne_none hn hz)) hc) fun j x hx hc => ?_
   rcases List.mem_append.1 (h2 j x hx hc) with hm | hm
   ·exact hm
   ·exact absurd (List.mem_singleton.1 hm).symm (dm_am (by decide))
theorem Inv.sendB (h : Inv N fA fB lat wa wb cA cB) {i : Int} {x : Fw} (hf : FineF N i x) (hs : x.st = 0) (hn : ∀ z, fB i = some z → z.st = 1 ∧ z.o = x.o ∧ z.l = x.l) (ha : ∀ j z, j ≠ i → fB j = some z → ov x z = false) :
  Inv N fA (upd fB i (some x)) lat (wa ++ [dm i x]) wb cA (lay cB x) := by
 have hne : ∀ j z, fB j = some z → z.st = 0 → j ≠ i := fun j z hz h0 e => by
  rw [e] at hz
  have := (hn z hz).1
  omega
 have hnw : ∀ m ∈ wb, m.k ≠ 2 → m.i ≠ i := fun m hm hk => by
  obtain ⟨z, h1, h2⟩ := h.nB hm hk
  exact hne _ z h1 h2
 have hna : i ∉ dI wa := fun hm => by
  obtain ⟨m, hm, e⟩ := List.mem_filterMap.1 hm
  by_cases hk : m.k = 2
  ·obtain ⟨z, h1, h2⟩ := h.dA hm hk
   rw [if_pos hk] at e
   injection e with e
   exact hne _ z h1 h2 e
  ·rw [if_neg hk] at e
   cases e
 have hnn : i ∉ nI wb := fun hm => by
  obtain ⟨k, z, _, _, h1, h2⟩ := h.isN hm
  exact hne _ z h1 h2 rfl
 exact {
  fineA := h.fineA
  fineB := fun j z hz => by
   rcases upd_is hz with ⟨rfl, e⟩ | ⟨_, e⟩
   ·cases e
    exact ⟨hf, .inl hs⟩
   ·exact h.fineB j z e
  apA := h.apA
  apB := fun j k u z hu hz ho => by
   rcases upd_is hu with ⟨rfl, e⟩ | ⟨n1, e⟩ <;> rcases upd_is hz with ⟨rfl, e'⟩ | ⟨n2, e'⟩
   ·rfl
   ·cases e
    rw [ha k z n2 e'] at ho
    cases ho
   ·cases e'
    rw [ov_comm, ha j u n1 e] at ho
    cases ho
   ·exact h.apB j k u z e e' ho
  mB := fun m hm => by
   rcases h.mB m hm with hr | ⟨k, j, z, hk, rfl, h1, h2⟩
   ·exact .inl hr
   ·exact .inr ⟨k, j, z, hk, rfl, upd_keep _ h1 (hne j z h1 h2), h2⟩
  mA := fun m hm => by
   rcases List.mem_append.1 hm with hm | hm
   ·rcases h.mA m hm with ⟨j, z, rfl, h1, h2⟩ | hr
    ·exact .inl ⟨j, z, rfl, upd_keep _ h1 (hne j z h1 h2), h2⟩
    ·exact .inr hr
   ·rw [List.mem_singleton] at hm
    exact .inl ⟨i, x, hm, upd_same _ _ _, hs⟩
  mL := h.mL
  tA := by
   rw [kI_app, kI_d]
   simpa [kI] using h.tA
  tA' := fun j z hz => by
   rw [kI_app, kI_d]
   simpa [kI] using h.tA' j z hz
  tB := by
   refine nd_of (List.nodup_cons.2 ⟨fun hm => (List.mem_append.1 hm).elim hna hnn, h.tB⟩) fun a => ?_
   rw [dI_app, dI_d]
   simp [dI, List.count_append, List.count_cons]
   omega
  tB' := fun j z hz h0 => by
   rw [dI_app, dI_d]
   rcases upd_is hz with ⟨rfl, e⟩ | ⟨_, e⟩
   ·simp
   ·rcases h.tB' j z e h0 with h1 | h1
    ·exact .inl (by simp [h1])
    ·exact .inr h1
  oK := h.oK.imp_of_mem fun {a b} _ hb R h2 h3 y z hy hz => by
   rw [upd_other _ _ (hnw b hb (by omega))] at hz
   exact R h2 h3 y z hy hz
  kD := fun j z k y hm hz hy ho => by
   rw [upd_other _ _ (show j ≠ i from hnw _ hm (by simp [am]))] at hz
   exact h.kD j z k y hm hz hy ho
  oD := by
   refine List.pairwise_append.2 ⟨h.oD.imp_of_mem fun {a b} ha' _ R h2 h3 z y hz hy => ?_, by simp, fun a _ b hb h2 h3 => ?_⟩
   ·obtain ⟨u, h4, h5⟩ := h.dA ha' h2
    rw [upd_other _ _ (hne _ u h4 h5)] at hz
    exact R h2 h3 z y hz hy
   ·rw [List.mem_singleton] at hb
    subst hb
    have : (2 : Int) = 3 := h3
    omega
  oL := h.oL.imp fun m hm hk j _ hl => ⟨by
   obtain ⟨y, z, h1, h2, h3⟩ := hl
   exact ⟨y, z, h1, upd_keep _ h2 (hnw m hm (by omega)), h3⟩, id⟩
  conA := h.conA
  conB := fun j z hz h0 => by
   rcases upd_is hz with ⟨rfl, e⟩ | ⟨n1, e⟩
   ·cases e
    exact fun k hk => lay_in _ _ hk
   ·exact lay_other hf (h.fineB j z e).1 (ha j z n1 e) (h.conB j z e h0)
  eq := fun s hsN h1 h2 => by
   by_cases c : cov x s
   ·obtain ⟨z, h3, h4⟩ := h.nB (h2 i x (upd_same _ _ _) c) (by simp [am])
    exact absurd rfl (hne i z h3 h4)
   ·rw [lay_out _ c]
    refine h.eq s hsN (fun j z hz hc => by
     have := h1 j z hz hc
     rw [kI_app, kI_d] at this
     simpa [kI] using this) fun j z hz hc => ?_
    by_cases e : j = i
    ·subst e
     obtain ⟨_, e1, e2⟩ := hn z hz
     exact absurd (show cov x s by unfold cov at *; rw [← e1, ← e2]; exact hc) c
    ·exact h2 j z (upd_keep _ hz e) hc }
theorem Inv.ackA {i : Int} (h : Inv N fA fB lat (am 3 i :: wa) wb cA cB) : Inv N (upd fA i none) fB lat wa wb cA cB := by
 have ht := h.tA
 rw [kI_a] at ht
 have n1 : ∀ j, j ∈ dI wb → j ≠ i := fun j hj e => (List.nodup_append.1 ht).2.2 j hj i (by simp) e
 have n2 : ∀ j, j ∈ lI lat → j ≠ i := fun j hj e => (List.nodup_append.1 (List.nodup_append.1 ht).2.1).2.2 j hj i (by simp) e
 have n3 : i ∉ kI wa := (List.nodup_cons.1 (List.nodup_append.1 (List.nodup_append.1 ht).2.1).2.1).1
 have nw : ∀ m ∈ wa, m.k = 3 → m.i ≠ i := fun m hm hk e => n3 (List.mem_filterMap.2 ⟨m, hm, by rw [if_pos hk, e]⟩)
 exact {
  fineA := fun j z hz => by
   rcases upd_is hz with ⟨_, e⟩ | ⟨_, e⟩
   ·cases e
   ·exact h.fineA j z e
  fineB := h.fineB
  apA := fun j k x z hx hz ho => by
   rcases upd_is hx with ⟨_, e⟩ | ⟨_, e⟩
   ·cases e
   rcases upd_is hz with ⟨_, e'⟩ | ⟨_, e'⟩
   ·cases e'
   exact h.apA j k x z e e' ho
  apB := h.apB
  mB := fun m hm => by
   rcases h.mB m hm with ⟨j, z, rfl, hj⟩ | hr
   ·exact .inl ⟨j, z, rfl, upd_keep _ hj (n1 j (mem_dI hm))⟩
   ·exact .inr hr
  mA := fun m hm => by
   rcases h.mA m (by simp [hm]) with hr | ⟨j, z, rfl, hj⟩
   ·exact .inl hr
   ·exact .inr ⟨j, z, rfl, upd_keep _ hj (nw _ hm rfl)⟩
  mL := fun w hw => by
   obtain ⟨z, hz, e⟩ := h.mL w hw
   exact ⟨z, upd_keep _ hz (n2 _ (List.mem_map.2 ⟨w, hw, rfl⟩)), e⟩
  tA := by
   refine List.Nodup.sublist ?_ ht
   exact List.Sublist.append_left (List.Sublist.append_left (List.sublist_cons_self _ _) _) _
  tA' := fun j z hz => by
   rcases upd_is hz with ⟨_, e⟩ | ⟨n, e⟩
   ·cases e
   ·have := h.tA' j z e
    rw [kI_a] at this
    simpa [n] using this
  tB := by
   have := h.tB
   rwa [dI_a (by decide)] at this
  tB' := fun j x hx h0 => by
   have := h.tB' j x hx h0
   rwa [dI_a (by decide)] at this
  oK := h.oK.imp_of_mem fun {a b} ha _ R h2 h3 y x hy hx => by
   rw [upd_other _ _ (n1 _ (List.mem_filterMap.2 ⟨a, ha, by rw [if_pos h2]⟩))] at hy
   exact R h2 h3 y x hy hx
  kD := fun j x k z hm hx hz ho => by
   rcases upd_is hz with ⟨_, e⟩ | ⟨_, e⟩
   ·cases e
   ·exact h.kD j x k z hm hx e ho
  oD := (List.pairwise_cons.1 h.oD).2.imp_of_mem fun {a b} _ hb R h2 h3 x z hx hz => by
   rw [upd_other _ _ (nw b hb h3)] at hz
   exact R h2 h3 x z hx hz
  oL := h.oL.imp fun m hm hk j hj hl => ⟨by
   obtain ⟨y, x, h1, h2, h3⟩ := hl
   exact ⟨y, x, upd_keep _ h1 (hj.elim (n2 j) (n1 j)), h2, h3⟩, id⟩
  conA := fun j z hz => by
   rcases upd_is hz with ⟨_, e⟩ | ⟨_, e⟩
   ·cases e
   ·exact h.conA j z e
  conB := h.conB
  eq := fun s hsN h1 h2 => by
   refine h.eq s hsN (fun j z hz hc => ?_) h2
   rw [kI_a]
   by_cases e : j = i
   ·simp [e]
   ·exact List.mem_cons_of_mem _ (h1 j z (upd_keep _ hz e) hc) }
theorem Inv.applyA {i : Int} {x : Fw} (h : Inv N fA fB lat (dm i x :: wa) wb cA cB) (hx : fB i = some x) (h0 : x.st = 0) (ha : ∀ j y, fA j = some y → ov x y = false) :
  Inv N fA fB lat wa (wb ++ [am 3 i]) (lay cA x) cB := by
 have hf := (h.fineB i x hx).1
 exact {
  fineA := h.fineA
  fineB := h.fineB
  apA := h.apA
  apB := h.apB
  mB := fun m hm => by
   rcases List.mem_append.1 hm with hm | hm
   ·exact h.mB m hm
   ·rw [List.mem_singleton] at hm
    exact .inr ⟨3, i, x, .inl rfl, hm, hx, h0⟩
  mA := fun m hm => h.mA m (by simp [hm])
  mL := h.mL
  tA := by
   have := h.tA
   rw [kI_d] at this
   rw [dI_app, dI_a (by decide)]
   simpa [dI] using this
  tA' := fun j z hz => by
   have := h.tA' j z hz
   rw [kI_d] at this
   rw [dI_app, dI_a (by decide)]
   simpa [dI] using this
  tB := by
   have := h.tB
   rw [dI_d] at this
   refine nd_of this fun a => ?_
   rw [nI_app, nI_a (by decide)]
   simp [nI, List.count_append, List.count_cons]
   omega
  tB' := fun j z hz h1 => by
   have := h.tB' j z hz h1
   rw [dI_d] at this
   rw [nI_app, nI_a (by decide)]
   simp at this ⊢
   rcases this with (h2 | h2) | h2
   ·exact .inr (.inr (by simp [h2, nI]))
   ·exact .inl h2
   ·exact .inr (.inl h2)
  oK := by
   refine List.pairwise_append.2 ⟨h.oK, by simp, fun a ha' b hb h2 h3 y z hy hz => ?_⟩
   rw [List.mem_singleton] at hb
   subst hb
   rw [show (am 3 i).i = i from rfl, hx] at hz
   cases hz
   exact ha _ _ hy
  kD := fun j z k y hm hz hy ho => by
   rw [dI_app, dI_a (by decide)]
   rcases List.mem_append.1 hm with hm | hm
   ·simp [h.kD j z k y hm hz hy ho]
   ·have e := (am_inj (List.mem_singleton.1 hm)).2
    subst e
    rw [hx] at hz
    cases hz
    rw [ha k y hy] at ho
    cases ho
  oD := (List.pairwise_cons.1 h.oD).2
  oL := led_snoc h.oL (fun hk => by simp [am] at hk)
  conA := fun j y hy => lay_other hf (h.fineA j y hy).1 (ha j y hy) (h.conA j y hy)
  conB := h.conB
  eq := fun s hsN h1 h2 => by
   by_cases c : cov x s
   ·have c' : x.o.toNat ≤ s ∧ s < x.o.toNat + x.l.toNat := c
    have e : s = x.o.toNat + (s - x.o.toNat) := by omega
    rw [e, lay_in _ _ (by omega), h.conB i x hx h0 _ (by omega)]
   ·rw [lay_out _ c]
    refine h.eq s hsN (fun j y hy hc => by rw [kI_d]; exact h1 j y hy hc) fun j z hz hc => ?_
    rcases List.mem_append.1 (h2 j z hz hc) with hm | hm
    ·exact hm
    ·have e := (am_inj (List.mem_singleton.1 hm)).2
     subst e
     rw [hx] at hz
     cases hz
     exact absurd hc c }
theorem Inv.refuseA {i k : Int} {x : Fw} (h : Inv N fA fB lat (dm i x :: wa) wb cA cB) (hx : fB i = some x) (h0 : x.st = 0) (hk : k = 4 ∨ k = 5) (ha : ∃ j y, fA j = some y ∧ ov x y = true ∧ (k = 4 → ∀ s, cov x s → cov y s)) :
  Inv N fA fB lat wa (wb ++ [am k i]) cA cB := by
 have k2 : k ≠ 2 := by omega
 have k3 : k ≠ 3 := by omega
 exact {
  fineA := h.fineA
  fineB := h.fineB
  apA := h.apA
  apB := h.apB
  mB := fun m hm => by
   rcases List.mem_append.1 hm with hm | hm
   ·exact h.mB m hm
   ·rw [List.mem_singleton] at hm
    exact .inr ⟨k, i, x, .inr hk, hm, hx, h0⟩
  mA := fun m hm => h.mA m (by simp [hm])
  mL := h.mL
  tA := by
   have := h.tA
   rw [kI_d] at this
   rw [dI_app, dI_a k2]
   simpa [dI] using this
  tA' := fun j z hz => by
   have := h.tA' j z hz
   rw [kI_d] at this
   rw [dI_app, dI_a k2]
   simpa [dI] using this
  tB := by
   have := h.tB
   rw [dI_d] at this
   refine nd_of this fun a => ?_
   rw [nI_app, nI_a k2]
   simp [nI, List.count_append, List.count_cons]
   omega
  tB' := fun j z hz h1 => by
   have := h.tB' j z hz h1
   rw [dI_d] at this
   rw [nI_app, nI_a k2]
   simp at this ⊢
   rcases this with (h2 | h2) | h2
   ·exact .inr (.inr (by simp [h2, nI]))
   ·exact .inl h2
   ·exact .inr (.inl h2)
  oK := by
   refine List.pairwise_append.2 ⟨h.oK, by simp, fun a _ b hb _ h3 => ?_⟩
   rw [List.mem_singleton] at hb
   subst hb
   exact absurd h3 k3
  kD := fun j z l y hm hz hy ho => by
   rw [dI_app, dI_a k2]
   rcases List.mem_append.1 hm with hm | hm
   ·simp [h.kD j z l y hm hz hy ho]
   ·exact absurd (am_inj (List.mem_singleton.1 hm)).1.symm k3
  oD := (List.pairwise_cons.1 h.oD).2
  oL := led_snoc h.oL fun _ => by
   obtain ⟨j, y, hy, ho, hc⟩ := ha
   refine ⟨j, ?_, y, x, hy, hx, ho, hc⟩
   rcases h.tA' j y hy with h1 | h1 | h1
   ·exact .inr h1
   ·exact .inl h1
   ·rw [kI_d] at h1
    obtain ⟨m, hm, e⟩ := List.mem_filterMap.1 h1
    by_cases h3 : m.k = 3
    ·rw [if_pos h3] at e
     injection e with e
     have := (List.pairwise_cons.1 h.oD).1 m hm rfl h3 x y hx (by rw [e]; exact hy)
     rw [this] at ho
     cases ho
    ·rw [if_neg h3] at e
     cases e
  conA := h.conA
  conB := h.conB
  eq := fun s hsN h1 h2 => by
   refine h.eq s hsN (fun j y hy hc => by rw [kI_d]; exact h1 j y hy hc) fun j z hz hc => ?_
   rcases List.mem_append.1 (h2 j z hz hc) with hm | hm
   ·exact hm
   ·exact absurd (am_inj (List.mem_singleton.1 hm)).1.symm k3 }
theorem Inv.endB {i k : Int} {x : Fw} (h : Inv N fA fB lat wa (am k i :: wb) cA cB) (hk : k = 3 ∨ k = 4) (hx : fB i = some x) : Inv N fA (upd fB i none) lat wa wb cA cB := by
 have k2 : k ≠ 2 := by omega
 have ht := h.tB
 rw [nI_a k2] at ht
 have n1 : ∀ j, j ∈ dI wa → j ≠ i := fun j hj e => (List.nodup_append.1 ht).2.2 j hj i (by simp) e
 have n2 : i ∉ nI wb := (List.nodup_cons.1 (List.nodup_append.1 ht).2.1).1
 have nw : ∀ m ∈ wb, m.k ≠ 2 → m.i ≠ i := fun m hm hk e => n2 (List.mem_filterMap.2 ⟨m, hm, by rw [if_neg hk, e]⟩)
 exact {
  fineA := h.fineA
  fineB := fun j z hz => by
   rcases upd_is hz with ⟨_, e⟩ | ⟨_, e⟩
   ·cases e
   ·exact h.fineB j z e
  apA := h.apA
  apB := fun j k x z hx hz ho => by
   rcases upd_is hx with ⟨_, e⟩ | ⟨_, e⟩
   ·cases e
   rcases upd_is hz with ⟨_, e'⟩ | ⟨_, e'⟩
   ·cases e'
   exact h.apB j k x z e e' ho
  mB := fun m hm => by
   rcases h.mB m (by simp [hm]) with hr | ⟨k', j, z, hk', rfl, h1, h2⟩
   ·exact .inl hr
   ·exact .inr ⟨k', j, z, hk', rfl, upd_keep _ h1 (nw _ hm (show k' ≠ 2 by omega)), h2⟩
  mA := fun m hm => by
   rcases h.mA m hm with ⟨j, z, rfl, h1, h2⟩ | hr
   ·exact .inl ⟨j, z, rfl, upd_keep _ h1 (n1 _ (mem_dI hm)), h2⟩
   ·exact .inr hr
  mL := h.mL
  tA := by
   have := h.tA
   rwa [dI_a k2] at this
  tA' := fun j z hz => by
   have := h.tA' j z hz
   rwa [dI_a k2] at this
  tB := List.Nodup.sublist (List.Sublist.append_left (List.sublist_cons_self _ _) _) ht
  tB' := fun j z hz h0 => by
   rcases upd_is hz with ⟨_, e⟩ | ⟨n, e⟩
   ·cases e
   ·have := h.tB' j z e h0
    rw [nI_a k2] at this
    simpa [n] using this
  oK := (List.pairwise_cons.1 h.oK).2.imp_of_mem fun {a b} _ hb R h2 h3 y z hy hz => by
   rw [upd_other _ _ (nw b hb (by omega))] at hz
   exact R h2 h3 y z hy hz
  kD := fun j z l y hm hz hy ho => by
   rcases upd_is hz with ⟨_, e⟩ | ⟨_, e⟩
   ·cases e
   ·have := h.kD j z l y (by simp [hm]) e hy ho
    rwa [dI_a k2] at this
  oD := h.oD.imp_of_mem fun {a b} ha _ R h2 h3 z y hz hy => by
   rw [upd_other _ _ (n1 _ (List.mem_filterMap.2 ⟨a, ha, by rw [if_pos h2]⟩))] at hz
   exact R h2 h3 z y hz hy
  oL := by
   have := h.oL.2
   rw [if_neg (show (am k i).k ≠ 2 from k2)] at this
   exact this.imp fun m hm hk j hj hl => ⟨by
    obtain ⟨y, z, h1, h2, h3⟩ := hl
    exact ⟨y, z, h1, upd_keep _ h2 (nw m hm (by omega)), h3⟩, id⟩
  conA := h.conA
  conB := fun j z hz h0 => by
   rcases upd_is hz with ⟨_, e⟩ | ⟨_, e⟩
   ·cases e
   ·exact h.conB j z e h0
  eq := fun s hsN h1 h2 => by
   by_cases hc : cov x s ∧ k = 4
   ·obtain ⟨j, hj, y, z, hy, hz, ho, hcov⟩ := h.oL.1 (.inl hc.2)
    rw [show (am k i).i = i from rfl, hx] at hz
    cases hz
    have := h1 j y hy (hcov hc.2 s hc.1)
    exact absurd rfl ((List.nodup_append.1 (List.nodup_append.1 h.tA).2.1).2.2 j hj j this)
   ·refine h.eq s hsN h1 fun j z hz hc' => ?_
    by_cases e : j = i
    ·subst e
     rw [hx] at hz
     cases hz
     have : k = 3 := by
      rcases hk with hk | hk
      ·exact hk
      ·exact absurd ⟨hc', hk⟩ hc
     rw [this]
     simp
    ·exact List.mem_cons_of_mem _ (h2 j z (upd_keep _ hz e) hc') }
theorem Inv.retryB {i : Int} {x : Fw} (h : Inv N fA fB lat wa (am 5 i :: wb) cA cB) (hx : fB i = some x) :
  Inv N fA (upd fB i (some { x with st := 1 })) lat wa wb cA cB ∧ ∃ w ∈ lat, Span.Math.over w.o w.l x.o x.l = true := by
 have k2 : (5 : Int) ≠ 2 := by omega
 have ht := h.tB
 rw [nI_a k2] at ht
 have n1 : ∀ j, j ∈ dI wa → j ≠ i := fun j hj e => (List.nodup_append.1 ht).2.2 j hj i (by simp) e
 have n2 : i ∉ nI wb := (List.nodup_cons.1 (List.nodup_append.1 ht).2.1).1
 have nw : ∀ m ∈ wb, m.k ≠ 2 → m.i ≠ i := fun m hm hk e => n2 (List.mem_filterMap.2 ⟨m, hm, by rw [if_neg hk, e]⟩)
 refine ⟨{
  fineA := h.fineA
  fineB := fun j z hz => by
   rcases upd_is hz with ⟨e0, e⟩ | ⟨_, e⟩
   ·cases e
    subst e0
    have := (h.fineB j x hx).1
    exact ⟨⟨this.id, this.good, this.len, this.eight, this.byt⟩, .inr rfl⟩
   ·exact h.fineB j z e
  apA := h.apA
  apB := fun j k u z hu hz ho => by
   rcases upd_is hu with ⟨rfl, e⟩ | ⟨m1, e⟩ <;> rcases upd_is hz with ⟨rfl, e'⟩ | ⟨m2, e'⟩
   ·rfl
   ·cases e
    exact h.apB j k x z hx e' ho
   ·cases e'
    exact h.apB j k u x e hx ho
   ·exact h.apB j k u z e e' ho
  mB := fun m hm => by
   rcases h.mB m (by simp [hm]) with hr | ⟨k', j, z, hk', rfl, h1, h2⟩
   ·exact .inl hr
   ·exact .inr ⟨k', j, z, hk', rfl, upd_keep _ h1 (nw _ hm (show k' ≠ 2 by omega)), h2⟩
  mA := fun m hm => by
   rcases h.mA m hm with ⟨j, z, rfl, h1, h2⟩ | hr
   ·exact .inl ⟨j, z, rfl, upd_keep _ h1 (n1 _ (mem_dI hm)), h2⟩
   ·exact .inr hr
  mL := h.mL
  tA := by
   have := h.tA
   rwa [dI_a k2] at this
  tA' := fun j z hz => by
   have := h.tA' j z hz
   rwa [dI_a k2] at this
  tB := List.Nodup.sublist (List.Sublist.append_left (List.sublist_cons_self _ _) _) ht
  tB' := fun j z hz h0 => by
   rcases upd_is hz with ⟨_, e⟩ | ⟨n, e⟩
   ·cases e
    have : (1 : Int) = 0 := h0
    omega
   ·have := h.tB' j z e h0
    rw [nI_a k2] at this
    simpa [n] using this
  oK := (List.pairwise_cons.1 h.oK).2.imp_of_mem fun {a b} _ hb R h2 h3 y z hy hz => by
   rw [upd_other _ _ (nw b hb (by omega))] at hz
   exact R h2 h3 y z hy hz
  kD := fun j z l y hm hz hy ho => by
   rw [upd_other _ _ (show j ≠ i from nw _ hm (by simp [am]))] at hz
   have := h.kD j z l y (by simp [hm]) hz hy ho
   rwa [dI_a k2] at this
  oD := h.oD.imp_of_mem fun {a b} ha _ R h2 h3 z y hz hy => by
   rw [upd_other _ _ (n1 _ (List.mem_filterMap.2 ⟨a, ha, by rw [if_pos h2]⟩))] at hz
   exact R h2 h3 z y hz hy
  oL := by
   have := h.oL.2
   rw [if_neg (show (am 5 i).k ≠ 2 from k2)] at this
   exact this.imp fun m hm hk j hj hl => ⟨by
    obtain ⟨y, z, h1, h2, h3⟩ := hl
    exact ⟨y, z, h1, upd_keep _ h2 (nw m hm (by omega)), h3⟩, id⟩
  conA := h.conA
  conB := fun j z hz h0 => by
   rcases upd_is hz with ⟨_, e⟩ | ⟨_, e⟩
   ·cases e
    have : (1 : Int) = 0 := h0
    omega
   ·exact h.conB j z e h0
  eq := fun s hsN h1 h2 => by
   refine h.eq s hsN h1 fun j z hz hc => ?_
   by_cases e : j = i
   ·subst e
    rw [hx] at hz
    cases hz
    exact absurd (mem_nI (by decide) (h2 j { x with st := 1 } (upd_same _ _ _) hc)) n2
   ·exact List.mem_cons_of_mem _ (h2 j z (upd_keep _ hz e) hc) }, ?_⟩
 obtain ⟨j, hj, y, z, hy, hz, ho, _⟩ := h.oL.1 (.inr rfl)
 rw [show (am 5 i).i = i from rfl, hx] at hz
 cases hz
 obtain ⟨y', hw, hy'⟩ := h.isL hj
 rw [hy] at hy'
 cases hy'
 exact ⟨_, hw, by rw [Span.Math.over_comm]; exact ho⟩
theorem Inv.laterB {i : Int} {y : Fw} (h : Inv N fA fB lat wa (dm i y :: wb) cA cB) (hy : fA i = some y) : Inv N fA fB (lat ++ [⟨i, y.o, y.l, y.bs⟩]) wa wb cA cB :=
 {fineA := h.fineA
  fineB := h.fineB
  apA := h.apA
  apB := h.apB
  mB := fun m hm => h.mB m (by simp [hm])
  mA := h.mA
  mL := fun w hw => by
   rcases List.mem_append.1 hw with hw | hw
   ·exact h.mL w hw
   ·rw [List.mem_singleton] at hw
    subst hw
    exact ⟨y, hy, rfl⟩
  tA := by
   have := h.tA
   rw [dI_d] at this
   refine nd_of this fun a => ?_
   simp [lI, List.count_append, List.count_cons]
   omega
  tA' := fun j z hz => by
   have := h.tA' j z hz
   rw [dI_d] at this
   simp only [lI_app, List.mem_append, List.mem_cons] at this ⊢
   rcases this with (h1 | h1) | h1 | h1
   ·exact .inr (.inl (.inr (by simp [h1, lI])))
   ·exact .inl h1
   ·exact .inr (.inl (.inl h1))
   ·exact .inr (.inr h1)
  tB := by
   have := h.tB
   rwa [nI_d] at this
  tB' := fun j z hz h0 => by
   have := h.tB' j z hz h0
   rwa [nI_d] at this
  oK := (List.pairwise_cons.1 h.oK).2
  kD := fun j x k z hm hx hz ho => by
   have := h.kD j x k z (by simp [hm]) hx hz ho
   rw [dI_d] at this
   rcases List.mem_cons.1 this with e | e
   ·subst e
    have := (List.pairwise_cons.1 h.oK).1 _ hm rfl rfl z x hz hx
    rw [this] at ho
    cases ho
   ·exact e
  oD := h.oD
  oL := by
   have := h.oL.2
   rw [if_pos (show (dm i y).k = 2 from rfl)] at this
   refine this.imp fun m _ _ j _ hl => ⟨hl, fun hj => ?_⟩
   rw [lI_app]
   rcases List.mem_cons.1 hj with e | e
   ·rw [e]
    simp [lI, dm]
   ·simp [e]
  conA := h.conA
  conB := h.conB
  eq := fun s hsN h1 h2 => by
   exact h.eq s hsN h1 fun j z hz hc => List.mem_cons_of_mem _ (h2 j z hz hc) }
theorem Inv.applyB {lat' : List Lw} {wb' : List Ms} {i : Int} {y : Fw} (h : Inv N fA fB lat wa wb cA cB) (hy : fA i = some y) (ha : ∀ j x, fB j = some x → x.st = 0 → ov x y = false)
  (hw : ∀ m ∈ wb', m ∈ wb) (hl : ∀ w ∈ lat', w ∈ lat) (hc : ∀ a, (dI wb' ++ (lI lat' ++ (kI wa ++ [i]))).count a = (dI wb ++ (lI lat ++ kI wa)).count a)
  (hd : ∀ j, j ∈ dI wb → j = i ∨ j ∈ dI wb') (hs : wb'.Sublist wb) (hn : nI wb' = nI wb) (hL : Led fA fB (lI lat) wb → ∃ ids, Led fA fB ids wb' ∧ ∀ j ∈ ids, j = i ∨ j ∈ lI lat') :
  Inv N fA fB lat' (wa ++ [am 3 i]) wb' cA (lay cB y) := by
 have hf := (h.fineA i y hy).1
 exact {
  fineA := h.fineA
  fineB := h.fineB
  apA := h.apA
  apB := h.apB
  mB := fun m hm => h.mB m (hw m hm)
  mA := fun m hm => by
   rcases List.mem_append.1 hm with hm | hm
   ·exact h.mA m hm
   ·rw [List.mem_singleton] at hm
    exact .inr ⟨i, y, hm, hy⟩
  mL := fun w hw => h.mL w (hl w hw)
  tA := by
   refine nd_of h.tA fun a => ?_
   rw [kI_app, kI_a]
   exact hc a
  tA' := fun j z hz => by
   have h1 : j ∈ dI wb ++ (lI lat ++ kI wa) := by simpa using h.tA' j z hz
   have h2 : 0 < (dI wb' ++ (lI lat' ++ (kI wa ++ [i]))).count j := by rw [hc]; exact List.count_pos_iff.2 h1
   have h3 := List.count_pos_iff.1 h2
   rw [kI_app, kI_a]
   simpa [show kI [] = [] from rfl] using h3
  tB := by
   have := h.tB
   rw [dI_app, dI_a (by decide), hn]
   simpa [dI] using this
  tB' := fun j z hz h0 => by
   have := h.tB' j z hz h0
   rw [dI_app, dI_a (by decide), hn]
   simpa [dI] using this
  oK := h.oK.sublist hs
  kD := fun j x k z hm hx hz ho => by
   rcases hd k (h.kD j x k z (hw _ hm) hx hz ho) with e | e
   ·subst e
    rw [hy] at hz
    cases hz
    obtain ⟨x', h1, h2⟩ := h.nB (hw _ hm) (by simp [am])
    rw [show (am 3 j).i = j from rfl, hx] at h1
    cases h1
    rw [ha j x hx h2] at ho
    cases ho
   ·exact e
  oD := by
   refine List.pairwise_append.2 ⟨h.oD, by simp, fun a ha' b hb h2 _ x z hx hz => ?_⟩
   rw [List.mem_singleton] at hb
   subst hb
   rw [show (am 3 i).i = i from rfl, hy] at hz
   cases hz
   obtain ⟨x', h4, h5⟩ := h.dA ha' h2
   rw [hx] at h4
   cases h4
   exact ha _ x hx h5
  oL := by
   obtain ⟨ids, h1, h2⟩ := hL h.oL
   refine h1.imp fun m hm hk j _ hl => ⟨hl, fun hj => ?_⟩
   rcases h2 j hj with e | e
   ·subst e
    obtain ⟨z, x, h3, h4, h5, _⟩ := hl
    rw [hy] at h3
    cases h3
    obtain ⟨x', h6, h7⟩ := h.nB (hw m hm) (by omega)
    rw [h4] at h6
    cases h6
    rw [ha _ x h4 h7] at h5
    cases h5
   ·exact e
  conA := h.conA
  conB := fun j x hx h0 => lay_other hf (h.fineB j x hx).1 (by rw [ov_comm]; exact ha j x hx h0) (h.conB j x hx h0)
  eq := fun s hsN h1 h2 => by
   by_cases c : cov y s
   ·have c' : y.o.toNat ≤ s ∧ s < y.o.toNat + y.l.toNat := c
    have e : s = y.o.toNat + (s - y.o.toNat) := by omega
    rw [e, lay_in _ _ (by omega), h.conA i y hy _ (by omega)]
   ·rw [lay_out _ c]
    refine h.eq s hsN (fun j z hz hc => ?_) fun j x hx hc => hw _ (h2 j x hx hc)
    have := h1 j z hz hc
    rw [kI_app, kI_a] at this
    rcases List.mem_append.1 this with e | e
    ·exact e
    ·have e : j = i := by simpa [kI] using e
     subst e
     rw [hy] at hz
     cases hz
     exact absurd hc c }
theorem Inv.applyB1 {i : Int} {y : Fw} (h : Inv N fA fB lat wa (dm i y :: wb) cA cB) (hy : fA i = some y) (ha : ∀ j x, fB j = some x → x.st = 0 → ov x y = false) : Inv N fA fB lat (wa ++ [am 3 i]) wb cA (lay cB y) :=
 h.applyB hy ha (fun m hm => by simp [hm]) (fun _ h => h) (fun a => by
   rw [dI_d]
   simp [List.count_append, List.count_cons]
   omega) (fun j hj => by
   rw [dI_d] at hj
   simpa using hj) (List.sublist_cons_self _ _) (nI_d _ _ _).symm (fun hL => ⟨i :: lI lat, by
    have := hL.2
    rwa [if_pos (show (dm i y).k = 2 from rfl)] at this, fun j hj => by simpa using hj⟩)
theorem Inv.applyB2 {l1 l2 : List Lw} {i : Int} {y : Fw} (h : Inv N fA fB (l1 ++ ⟨i, y.o, y.l, y.bs⟩ :: l2) wa wb cA cB) (hy : fA i = some y) (ha : ∀ j x, fB j = some x → x.st = 0 → ov x y = false) : Inv N fA fB (l1 ++ l2) (wa ++ [am 3 i]) wb cA (lay cB y) :=
 h.applyB hy ha (fun _ h => h) (fun w hw => by
  rcases List.mem_append.1 hw with e | e <;> simp [e]) (fun a => by
   simp [lI, List.count_append, List.count_cons]
   omega) (fun _ h => .inr h) (List.Sublist.refl _) rfl (fun hL => ⟨_, hL, fun j hj => by
    rw [show lI (l1 ++ ⟨i, y.o, y.l, y.bs⟩ :: l2) = lI l1 ++ i :: lI l2 by simp [lI]] at hj
    rw [lI_app]
    simp only [List.mem_append, List.mem_cons] at hj ⊢
    rcases hj with e | e | e
    ·exact .inr (.inl e)
    ·exact .inl e
    ·exact .inr (.inr e)⟩)
end Go.Proofs.YtoaeficfmcncjaaGreat.Mirror
