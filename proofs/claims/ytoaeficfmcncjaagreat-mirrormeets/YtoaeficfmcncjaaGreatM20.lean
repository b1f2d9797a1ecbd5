/-
 Plain facts on balanced trees of spans: what stands in one, in order; how a side that is too high comes up; the way down to a place, and the way up again. No program is named here.
-/
import Derived.Test.YtoaeficfmcncjaaGreatM3
import Derived.Test.YtoaeficfmcncjaaGreatM13
import Derived.Test.YtoaeficfmcncjaaGreatM14
namespace Go.Proofs.YtoaeficfmcncjaaGreat.Itree
inductive Tr where
 | nil : Tr
 | node (b : Nat) (x : It) (e : Int) (h : Nat) (l r : Tr) : Tr
namespace Tr
def toL : Tr → List It
 | nil => []
 | node _ x _ _ l r => toL l ++ x :: toL r
def blks : Tr → List Nat
 | nil => []
 | node b _ _ _ l r => b :: (blks l ++ blks r)
def tall : Tr → Nat
 | nil => 0
 | node _ _ _ h _ _ => h
def fin (c : Int) : Tr → Int
 | nil => c
 | node _ _ e _ _ _ => max c e
def kidL : Tr → Tr
 | nil => nil
 | node _ _ _ _ l _ => l
def kidR : Tr → Tr
 | nil => nil
 | node _ _ _ _ _ r => r
def reach (f : Int) : Tr → Bool
 | nil => false
 | node _ _ e _ _ _ => decide (f < e)
def most : Tr → Nat
 | nil => 0
 | node _ _ _ h l r => max h (max (most l) (most r))
end Tr
def cnt (b : Nat) (x : It) (l r : Tr) : Tr := .node b x (r.fin (l.fin (Span.Math.endN x.o x.l))) (max l.tall r.tall + 1) l r
def rotR : Tr → Tr
 | .node b x _ _ (.node ub ux _ _ ul ur) r => cnt ub ux ul (cnt b x ur r)
 | t => t
def rotL : Tr → Tr
 | .node b x _ _ l (.node ub ux _ _ ul ur) => cnt ub ux (cnt b x l ul) ur
 | t => t
def lv : Tr → Tr
 | .nil => .nil
 | .node b x _ _ l r =>
  if r.tall + 1 < l.tall then
   (if l.kidL.tall < l.kidR.tall then rotR (.node b x (cnt b x l r |>.fin 0) 0 (rotL l) r) else rotR (cnt b x l r))
  else if l.tall + 1 < r.tall then
   (if r.kidR.tall < r.kidL.tall then rotL (.node b x (cnt b x l r |>.fin 0) 0 l (rotR r)) else rotL (cnt b x l r))
  else cnt b x l r
theorem lv_node (b : Nat) (x : It) (e : Int) (h : Nat) (l r : Tr) : lv (.node b x e h l r) = if r.tall + 1 < l.tall then
   (if l.kidL.tall < l.kidR.tall then rotR (.node b x (cnt b x l r |>.fin 0) 0 (rotL l) r) else rotR (cnt b x l r))
  else if l.tall + 1 < r.tall then
   (if r.kidR.tall < r.kidL.tall then rotL (.node b x (cnt b x l r |>.fin 0) 0 l (rotR r)) else rotL (cnt b x l r))
  else cnt b x l r := rfl
theorem cnt_toL (b : Nat) (x : It) (l r : Tr) : (cnt b x l r).toL = l.toL ++ x :: r.toL := rfl
theorem cnt_blks (b : Nat) (x : It) (l r : Tr) : (cnt b x l r).blks = b :: (l.blks ++ r.blks) := rfl
theorem cnt_tall (b : Nat) (x : It) (l r : Tr) : (cnt b x l r).tall = max l.tall r.tall + 1 := rfl
theorem toL_length : ∀ t : Tr, t.toL.length = t.blks.length
 | .nil => rfl
 | .node b x e h l r => by
  simp only [Tr.toL, Tr.blks, List.length_append, List.length_cons, toL_length l, toL_length r]
  omega
theorem rotR_toL : ∀ t : Tr, (rotR t).toL = t.toL := fun t => by
 unfold rotR
 split
 ·simp [cnt_toL, Tr.toL]
 ·rfl
theorem rotL_toL : ∀ t : Tr, (rotL t).toL = t.toL := fun t => by
 unfold rotL
 split
 ·simp [cnt_toL, Tr.toL]
 ·rfl
theorem lv_toL : ∀ t : Tr, (lv t).toL = t.toL := fun t => by
 unfold lv
 split
 ·rfl
 ·split
  ·split
   ·rw [rotR_toL]
    simp [Tr.toL, rotL_toL]
   ·rw [rotR_toL]
    rfl
  ·split
   ·split
    ·rw [rotL_toL]
     simp [Tr.toL, rotR_toL]
    ·rw [rotL_toL]
     rfl
   ·rfl
theorem rotR_blks (t : Tr) : (rotR t).blks.Perm t.blks := by
 unfold rotR
 split
 ·rename_i b x _ _ ub ux _ _ ul ur r
  simp only [cnt_blks, Tr.blks, List.cons_append]
  refine (List.Perm.cons ub ?_).trans (List.Perm.swap b ub _)
  rw [List.append_assoc]
  exact List.perm_middle
 ·exact List.Perm.refl _
theorem rotL_blks (t : Tr) : (rotL t).blks.Perm t.blks := by
 unfold rotL
 split
 ·rename_i b x _ _ l ub ux _ _ ul ur
  simp only [cnt_blks, Tr.blks, List.cons_append]
  refine (List.Perm.swap b ub _).trans (List.Perm.cons b ?_)
  rw [List.append_assoc]
  exact List.perm_middle.symm
 ·exact List.Perm.refl _
theorem lv_blks (t : Tr) : (lv t).blks.Perm t.blks := by
 unfold lv
 split
 ·exact List.Perm.refl _
 ·split
  ·split
   ·refine (rotR_blks _).trans ?_
    exact List.Perm.cons _ ((rotL_blks _).append_right _)
   ·exact rotR_blks _
  ·split
   ·split
    ·refine (rotL_blks _).trans ?_
     exact List.Perm.cons _ ((rotR_blks _).append_left _)
    ·exact rotL_blks _
   ·exact List.Perm.refl _
theorem most_node {b : Nat} {x : It} {e : Int} {h : Nat} {l r : Tr} {m : Nat} (hm : (Tr.node b x e h l r).most ≤ m) : h ≤ m ∧ l.most ≤ m ∧ r.most ≤ m := by
 simp only [Tr.most] at hm
 omega
theorem tall_most (t : Tr) : t.tall ≤ t.most := by
 cases t with
 | nil => exact Nat.le_refl _
 | node b x e h l r => simp only [Tr.tall, Tr.most]; omega
theorem cnt_most {b : Nat} {x : It} {l r : Tr} {m : Nat} (hl : l.most ≤ m) (hr : r.most ≤ m) : (cnt b x l r).most ≤ m + 1 := by
 have := tall_most l
 have := tall_most r
 simp only [cnt, Tr.most]
 omega
theorem rotR_most {t : Tr} {m : Nat} (h : t.most ≤ m) : (rotR t).most ≤ m + 2 := by
 unfold rotR
 split
 ·obtain ⟨_, h2, h3⟩ := most_node h
  obtain ⟨_, h4, h5⟩ := most_node h2
  exact cnt_most (m := m + 1) (by omega) (cnt_most h5 h3)
 ·omega
theorem rotL_most {t : Tr} {m : Nat} (h : t.most ≤ m) : (rotL t).most ≤ m + 2 := by
 unfold rotL
 split
 ·obtain ⟨_, h2, h3⟩ := most_node h
  obtain ⟨_, h4, h5⟩ := most_node h3
  exact cnt_most (m := m + 1) (cnt_most h2 h4) (by omega)
 ·omega
theorem lv_most {t : Tr} {m : Nat} (h : t.most ≤ m) : (lv t).most ≤ m + 4 := by
 unfold lv
 split
 ·exact Nat.zero_le _
 ·obtain ⟨_, h2, h3⟩ := most_node h
  have hc := fun b x => cnt_most (b := b) (x := x) h2 h3
  split
  ·split
   ·refine rotR_most (m := m + 2) ?_
    have := rotL_most h2
    simp only [Tr.most]
    omega
   ·exact Nat.le_trans (rotR_most (hc _ _)) (by omega)
  ·split
   ·split
    ·refine rotL_most (m := m + 2) ?_
     have := rotR_most h3
     simp only [Tr.most]
     omega
    ·exact Nat.le_trans (rotL_most (hc _ _)) (by omega)
   ·exact Nat.le_trans (hc _ _) (by omega)
def Good : Tr → Prop
 | .nil => True
 | .node _ x e h l r => Good l ∧ Good r ∧ good x = true ∧ h = max l.tall r.tall + 1 ∧ l.tall ≤ r.tall + 1 ∧ r.tall ≤ l.tall + 1 ∧ e = r.fin (l.fin (Span.Math.endN x.o x.l))
theorem good_end {x : It} (h : good x = true) : Span.Math.endN x.o x.l = x.o + x.l ∧ 0 ≤ x.o ∧ x.o ≤ 1073741824 ∧ 1 ≤ x.l ∧ x.l ≤ 1073741824 := by
 unfold good at h
 simp at h
 have := Span.Math.of_plain h.1
 unfold Span.Math.endN
 rw [h.1]
 exact ⟨rfl, by omega, by omega, h.2, by omega⟩
theorem cnt_good {b : Nat} {x : It} {l r : Tr} (hl : Good l) (hr : Good r) (hx : good x = true) (h1 : l.tall ≤ r.tall + 1) (h2 : r.tall ≤ l.tall + 1) : Good (cnt b x l r) := ⟨hl, hr, hx, rfl, h1, h2, rfl⟩
theorem good_cnt {b : Nat} {x : It} {e : Int} {h : Nat} {l r : Tr} (hg : Good (.node b x e h l r)) : Tr.node b x e h l r = cnt b x l r := by
 obtain ⟨_, _, _, h1, _, _, h2⟩ := hg
 rw [h1, h2]
 rfl
theorem lv_good {b : Nat} {x : It} {e : Int} {h : Nat} {l r : Tr} (hl : Good l) (hr : Good r) (hx : good x = true) (h1 : l.tall ≤ r.tall + 2) (h2 : r.tall ≤ l.tall + 2) :
  Good (lv (.node b x e h l r)) ∧ max l.tall r.tall ≤ (lv (.node b x e h l r)).tall ∧ (lv (.node b x e h l r)).tall ≤ max l.tall r.tall + 1 ∧ (l.tall ≤ r.tall + 1 → r.tall ≤ l.tall + 1 → (lv (.node b x e h l r)).tall = max l.tall r.tall + 1) := by
 rw [lv_node]
 by_cases hlt : r.tall + 1 < l.tall
 ·rw [if_pos hlt]
  cases l with
  | nil => exact absurd hlt (by show ¬ (_ < 0); omega)
  | node lb lx le lh ll lr =>
   obtain ⟨g1, g2, g3, g4, g5, g6, _⟩ := hl
   change r.tall + 1 < lh at hlt
   change lh ≤ r.tall + 2 at h1
   change r.tall ≤ lh + 2 at h2
   show Good (if ll.tall < lr.tall then _ else _) ∧ max lh r.tall ≤ Tr.tall (if ll.tall < lr.tall then _ else _) ∧ Tr.tall (if ll.tall < lr.tall then _ else _) ≤ max lh r.tall + 1 ∧ (lh ≤ r.tall + 1 → _ → Tr.tall (if ll.tall < lr.tall then _ else _) = _)
   by_cases hlt2 : ll.tall < lr.tall
   ·rw [if_pos hlt2]
    cases lr with
    | nil => exact absurd hlt2 (by show ¬ (_ < 0); omega)
    | node mb mx me mh ml mr =>
     obtain ⟨k1, k2, k3, k4, k5, k6, _⟩ := g2
     change ll.tall < mh at hlt2
     change lh = max ll.tall mh + 1 at g4
     change ll.tall ≤ mh + 1 at g5
     change mh ≤ ll.tall + 1 at g6
     show Good (cnt mb mx (cnt lb lx ll ml) (cnt b x mr r)) ∧ _ ≤ (cnt mb mx (cnt lb lx ll ml) (cnt b x mr r)).tall ∧ (cnt mb mx (cnt lb lx ll ml) (cnt b x mr r)).tall ≤ _ ∧ _
     refine ⟨cnt_good (cnt_good g1 k1 g3 (by omega) (by omega)) (cnt_good k2 hr hx (by omega) (by omega)) k3 ?_ ?_, ?_, ?_, fun _ _ => by omega⟩ <;> simp only [cnt_tall] <;> omega
   ·rw [if_neg hlt2]
    show Good (cnt lb lx ll (cnt b x lr r)) ∧ _ ≤ (cnt lb lx ll (cnt b x lr r)).tall ∧ (cnt lb lx ll (cnt b x lr r)).tall ≤ _ ∧ _
    refine ⟨cnt_good g1 (cnt_good g2 hr hx (by omega) (by omega)) g3 ?_ ?_, ?_, ?_, fun _ _ => by omega⟩ <;> simp only [cnt_tall] <;> omega
 ·rw [if_neg hlt]
  by_cases hlt' : l.tall + 1 < r.tall
  ·rw [if_pos hlt']
   cases r with
   | nil => exact absurd hlt' (by show ¬ (_ < 0); omega)
   | node lb lx le lh ll lr =>
    obtain ⟨g1, g2, g3, g4, g5, g6, _⟩ := hr
    change l.tall + 1 < lh at hlt'
    change lh ≤ l.tall + 2 at h2
    change l.tall ≤ lh + 2 at h1
    show Good (if lr.tall < ll.tall then _ else _) ∧ max l.tall lh ≤ Tr.tall (if lr.tall < ll.tall then _ else _) ∧ Tr.tall (if lr.tall < ll.tall then _ else _) ≤ max l.tall lh + 1 ∧ (_ → lh ≤ l.tall + 1 → Tr.tall (if lr.tall < ll.tall then _ else _) = _)
    by_cases hlt2 : lr.tall < ll.tall
    ·rw [if_pos hlt2]
     cases ll with
     | nil => exact absurd hlt2 (by show ¬ (_ < 0); omega)
     | node mb mx me mh ml mr =>
      obtain ⟨k1, k2, k3, k4, k5, k6, _⟩ := g1
      change lr.tall < mh at hlt2
      change lh = max mh lr.tall + 1 at g4
      change mh ≤ lr.tall + 1 at g5
      change lr.tall ≤ mh + 1 at g6
      show Good (cnt mb mx (cnt b x l ml) (cnt lb lx mr lr)) ∧ _ ≤ (cnt mb mx (cnt b x l ml) (cnt lb lx mr lr)).tall ∧ (cnt mb mx (cnt b x l ml) (cnt lb lx mr lr)).tall ≤ _ ∧ _
      refine ⟨cnt_good (cnt_good hl k1 hx (by omega) (by omega)) (cnt_good k2 g2 g3 (by omega) (by omega)) k3 ?_ ?_, ?_, ?_, fun _ _ => by omega⟩ <;> simp only [cnt_tall] <;> omega
    ·rw [if_neg hlt2]
     show Good (cnt lb lx (cnt b x l ll) lr) ∧ _ ≤ (cnt lb lx (cnt b x l ll) lr).tall ∧ (cnt lb lx (cnt b x l ll) lr).tall ≤ _ ∧ _
     refine ⟨cnt_good (cnt_good hl g1 hx (by omega) (by omega)) g2 g3 ?_ ?_, ?_, ?_, fun _ _ => by omega⟩ <;> simp only [cnt_tall] <;> omega
  ·rw [if_neg hlt']
   exact ⟨cnt_good hl hr hx (by omega) (by omega), by rw [cnt_tall]; omega, by rw [cnt_tall]; omega, fun _ _ => cnt_tall _ _ _ _⟩
theorem lv_same {t : Tr} (h : Good t) : lv t = t := by
 cases t with
 | nil => rfl
 | node b x e h' l r =>
  have e1 := good_cnt h
  obtain ⟨_, _, _, _, h3, h4, _⟩ := h
  rw [lv_node, if_neg (by omega), if_neg (by omega)]
  exact e1.symm
theorem good_tall_le {t : Tr} (h : Good t) : t.tall ≤ t.toL.length := by
 induction t with
 | nil => exact Nat.le_refl _
 | node b x e h' l r ihl ihr =>
  obtain ⟨g1, g2, _, g4, _⟩ := h
  have := ihl g1
  have := ihr g2
  simp only [Tr.tall, Tr.toL, List.length_append, List.length_cons]
  omega
theorem good_most : ∀ t : Tr, Good t → t.most ≤ t.toL.length
 | .nil, _ => Nat.le_refl _
 | .node b x e h l r, hg => by
  have h0 := good_tall_le hg
  obtain ⟨g1, g2, _⟩ := hg
  have i1 := good_most l g1
  have i2 := good_most r g2
  simp only [Tr.tall, Tr.most, Tr.toL, List.length_append, List.length_cons] at *
  omega
theorem good_item {t : Tr} (h : Good t) : ∀ y ∈ t.toL, good y = true := by
 induction t with
 | nil => intro y hy; cases hy
 | node b x e h' l r ihl ihr =>
  obtain ⟨g1, g2, g3, _⟩ := h
  intro y hy
  simp only [Tr.toL, List.mem_append, List.mem_cons] at hy
  rcases hy with hy | rfl | hy
  ·exact ihl g1 y hy
  ·exact g3
  ·exact ihr g2 y hy
theorem fin_le (c : Int) (t : Tr) : c ≤ t.fin c := by
 cases t with
 | nil => exact Int.le_refl _
 | node b x e h l r => simp only [Tr.fin]; omega
theorem fin_ends {t : Tr} (h : Good t) : ∀ c : Int, ∀ y ∈ t.toL, y.o + y.l ≤ t.fin c := by
 induction t with
 | nil => intro c y hy; cases hy
 | node b x e h' l r ihl ihr =>
  obtain ⟨g1, g2, g3, _, _, _, g7⟩ := h
  intro c y hy
  have e0 := (good_end g3).1
  have f1 := fin_le (l.fin (Span.Math.endN x.o x.l)) r
  have f2 := fin_le (Span.Math.endN x.o x.l) l
  simp only [Tr.toL, List.mem_append, List.mem_cons] at hy
  simp only [Tr.fin]
  rcases hy with hy | rfl | hy
  ·have := ihl g1 (Span.Math.endN x.o x.l) y hy
   omega
  ·omega
  ·have := ihr g2 (l.fin (Span.Math.endN x.o x.l)) y hy
   omega
theorem fin_is {t : Tr} (h : Good t) : ∀ c : Int, t.fin c = c ∨ ∃ y ∈ t.toL, t.fin c = y.o + y.l := by
 induction t with
 | nil => intro c; exact .inl rfl
 | node b x e h' l r ihl ihr =>
  obtain ⟨g1, g2, g3, _, _, _, g7⟩ := h
  intro c
  have e0 := (good_end g3).1
  have he : ∃ y ∈ (Tr.node b x e h' l r).toL, e = y.o + y.l := by
   rcases ihr g2 (l.fin (Span.Math.endN x.o x.l)) with e1 | ⟨y, hy, e1⟩
   ·rcases ihl g1 (Span.Math.endN x.o x.l) with e2 | ⟨y, hy, e2⟩
    ·exact ⟨x, by simp [Tr.toL], by omega⟩
    ·exact ⟨y, by simp [Tr.toL, hy], by omega⟩
   ·exact ⟨y, by simp [Tr.toL, hy], by omega⟩
  simp only [Tr.fin]
  obtain ⟨y, hy, e3⟩ := he
  by_cases hc : e ≤ c
  ·exact .inl (by omega)
  ·exact .inr ⟨y, hy, by omega⟩
theorem reach_fin (f : Int) (t : Tr) : t.reach f = true ↔ f < t.fin f := by
 cases t with
 | nil => simp [Tr.reach, Tr.fin]
 | node b x e h l r => simp only [Tr.reach, Tr.fin, decide_eq_true_iff]; omega
theorem reach_no {f : Int} {t : Tr} (h : Good t) (hr : t.reach f = false) : ∀ y ∈ t.toL, y.o + y.l ≤ f := fun y hy => by
 have h1 := fin_ends h f y hy
 have h2 : ¬ f < t.fin f := fun k => by
  rw [(reach_fin f t).2 k] at hr
  cases hr
 omega
theorem reach_yes {f : Int} {t : Tr} (h : Good t) (hr : t.reach f = true) : ∃ y ∈ t.toL, f < y.o + y.l := by
 have h1 := (reach_fin f t).1 hr
 rcases fin_is h f with e | ⟨y, hy, e⟩
 ·omega
 ·exact ⟨y, hy, by omega⟩
structure Fr where
 b : Nat
 x : It
 e : Int
 h : Nat
 s : Bool
 t : Tr
def Fr.fill (f : Fr) (u : Tr) : Tr := if f.s then .node f.b f.x f.e f.h f.t u else .node f.b f.x f.e f.h u f.t
def plug : List Fr → Tr → Tr
 | [], u => u
 | f :: fs, u => plug fs (f.fill u)
def ctx : List Fr → List Nat
 | [] => []
 | f :: fs => f.b :: (f.t.blks ++ ctx fs)
def pre : List Fr → List It
 | [] => []
 | f :: fs => pre fs ++ (if f.s then f.t.toL ++ [f.x] else [])
def post : List Fr → List It
 | [] => []
 | f :: fs => (if f.s then [] else f.x :: f.t.toL) ++ post fs
theorem plug_toL : ∀ (fs : List Fr) (u : Tr), (plug fs u).toL = pre fs ++ u.toL ++ post fs
 | [], u => by simp [plug, pre, post]
 | f :: fs, u => by
  simp only [plug, pre, post]
  rw [plug_toL fs]
  unfold Fr.fill
  cases f.s <;> simp [Tr.toL]
theorem fill_blks (f : Fr) (u : Tr) : (f.fill u).blks.Perm (f.b :: (f.t.blks ++ u.blks)) := by
 unfold Fr.fill
 cases f.s
 ·exact List.Perm.cons _ List.perm_append_comm
 ·exact List.Perm.refl _
theorem plug_blks : ∀ (fs : List Fr) (u : Tr), (plug fs u).blks.Perm (ctx fs ++ u.blks)
 | [], u => List.Perm.refl _
 | f :: fs, u => by
  simp only [plug, ctx]
  refine (plug_blks fs _).trans ?_
  refine (List.Perm.append_left _ (fill_blks f u)).trans ?_
  refine List.perm_middle.trans ?_
  rw [List.cons_append]
  refine List.Perm.cons _ ?_
  rw [← List.append_assoc]
  exact List.perm_append_comm.append_right _
theorem fs_length (fs : List Fr) : fs.length ≤ (ctx fs).length := by
 induction fs with
 | nil => exact Nat.le_refl _
 | cons f fs ih => simp only [ctx, List.length_cons, List.length_append]; omega
theorem fill_most (f : Fr) (u : Tr) : (f.fill u).most = max f.h (max f.t.most u.most) := by
 unfold Fr.fill
 cases f.s <;> simp only [Tr.most, Bool.false_eq_true, if_false, if_true]
 omega
theorem fill_tall (f : Fr) (u : Tr) : (f.fill u).tall = f.h := by
 unfold Fr.fill
 cases f.s <;> rfl
def mostF : List Fr → Nat
 | [] => 0
 | f :: fs => max f.h (max f.t.most (mostF fs))
theorem plug_most : ∀ (fs : List Fr) (u : Tr), (plug fs u).most = max (mostF fs) u.most
 | [], u => by simp [plug, mostF]
 | f :: fs, u => by
  simp only [plug, mostF]
  rw [plug_most fs, fill_most]
  omega
inductive Ln where
 | root : Ln
 | kid (b : Nat) (s : Bool) : Ln
 deriving DecidableEq
def lnk : List Fr → Ln
 | [] => .root
 | f :: _ => .kid f.b f.s
def lnks : List Fr → List Ln
 | [] => [.root]
 | f :: fs => lnks fs ++ [.kid f.b f.s]
theorem lnks_last (fs : List Fr) : ∃ l, lnks fs = l ++ [lnk fs] ∧ l.length = fs.length := by
 induction fs with
 | nil => exact ⟨[], rfl, rfl⟩
 | cons f fs ih =>
  obtain ⟨l, h1, h2⟩ := ih
  exact ⟨lnks fs, rfl, by rw [h1]; simp [h2]⟩
theorem lnks_length (fs : List Fr) : (lnks fs).length = fs.length + 1 := by
 obtain ⟨l, h1, h2⟩ := lnks_last fs
 rw [h1]
 simp [h2]
def lvKid (b : Nat) (s : Bool) : Tr → Tr
 | .nil => .nil
 | .node c x e h l r => if b = c then (if s then .node c x e h l (lv r) else .node c x e h (lv l) r) else .node c x e h (lvKid b s l) (lvKid b s r)
def lvAt : Ln → Tr → Tr
 | .root, t => lv t
 | .kid b s, t => lvKid b s t
theorem lvKid_off (b : Nat) (s : Bool) : ∀ t : Tr, b ∉ t.blks → lvKid b s t = t
 | .nil, _ => rfl
 | .node c x e h l r, hb => by
  simp only [Tr.blks, List.mem_cons, List.mem_append, not_or] at hb
  simp only [lvKid]
  rw [if_neg hb.1, lvKid_off b s l hb.2.1, lvKid_off b s r hb.2.2]
theorem lvKid_fill {b : Nat} {s : Bool} {f : Fr} {u : Tr} (hb : b ≠ f.b) (ht : b ∉ f.t.blks) : lvKid b s (f.fill u) = f.fill (lvKid b s u) := by
 unfold Fr.fill
 cases f.s
 ·simp only [Bool.false_eq_true, if_false, lvKid]
  rw [if_neg hb, lvKid_off b s f.t ht]
 ·simp only [if_true, lvKid]
  rw [if_neg hb, lvKid_off b s f.t ht]
theorem lvKid_in (b : Nat) (s : Bool) : ∀ (fs : List Fr) (u : Tr), b ∉ ctx fs → lvKid b s (plug fs u) = plug fs (lvKid b s u)
 | [], _, _ => rfl
 | f :: fs, u, hb => by
  simp only [ctx, List.mem_cons, List.mem_append, not_or] at hb
  simp only [plug]
  rw [lvKid_in b s fs _ hb.2.2, lvKid_fill hb.1 hb.2.1]
theorem lvAt_plug (fs : List Fr) (u : Tr) (h : (ctx fs).Nodup) : lvAt (lnk fs) (plug fs u) = plug fs (lv u) := by
 cases fs with
 | nil => rfl
 | cons f fs =>
  simp only [ctx, List.nodup_cons, List.mem_append, not_or] at h
  simp only [plug, lnk, lvAt]
  rw [lvKid_in f.b f.s fs _ h.1.2]
  congr 1
  unfold Fr.fill
  cases hs : f.s
  ·simp [lvKid]
  ·simp [lvKid]
theorem lvAt_blks (l : Ln) : ∀ t : Tr, (lvAt l t).blks.Perm t.blks := fun t => by
 cases l with
 | root => exact lv_blks t
 | kid b s =>
  show (lvKid b s t).blks.Perm t.blks
  induction t with
  | nil => exact List.Perm.refl _
  | node c x e h l r ihl ihr =>
   simp only [lvKid]
   split
   ·split
    ·exact List.Perm.cons _ ((lv_blks _).append_left _)
    ·exact List.Perm.cons _ ((lv_blks _).append_right _)
   ·exact List.Perm.cons _ (ihl.append ihr)
theorem lvAt_most (l : Ln) (m : Nat) : ∀ t : Tr, t.most ≤ m → (lvAt l t).most ≤ m + 4 := fun t h => by
 cases l with
 | root => exact lv_most h
 | kid b s =>
  show (lvKid b s t).most ≤ m + 4
  induction t with
  | nil => exact Nat.zero_le _
  | node c x e h' l r ihl ihr =>
   obtain ⟨h1, h2, h3⟩ := most_node h
   simp only [lvKid]
   split
   ·split
    ·have := lv_most h3
     simp only [Tr.most]
     omega
    ·have := lv_most h2
     simp only [Tr.most]
     omega
   ·have := ihl h2
    have := ihr h3
    simp only [Tr.most]
    omega
theorem way_to : ∀ (t : Tr) (b : Nat) (s : Bool), b ∈ t.blks → ∃ fs u, t = plug fs u ∧ lnk fs = .kid b s := by
 have key : ∀ (t : Tr) (b : Nat) (s : Bool) (gs : List Fr), b ∈ t.blks → ∃ fs u, plug gs t = plug fs u ∧ lnk fs = .kid b s := by
  intro t
  induction t with
  | nil => intro b s gs hb; cases hb
  | node c x e h l r ihl ihr =>
   intro b s gs hb
   simp only [Tr.blks, List.mem_cons, List.mem_append] at hb
   rcases hb with rfl | hb | hb
   ·cases s
    ·exact ⟨⟨b, x, e, h, false, r⟩ :: gs, l, rfl, rfl⟩
    ·exact ⟨⟨b, x, e, h, true, l⟩ :: gs, r, rfl, rfl⟩
   ·exact ihl b s (⟨c, x, e, h, false, r⟩ :: gs) hb
   ·exact ihr b s (⟨c, x, e, h, true, l⟩ :: gs) hb
 intro t b s hb
 exact key t b s [] hb
def settleT : List Fr → Tr → Tr
 | [], u => lv u
 | f :: fs, u => settleT fs (f.fill (lv u))
theorem settle_fold : ∀ (fs : List Fr) (u : Tr), (ctx fs).Nodup → (lnks fs).reverse.foldl (fun t l => lvAt l t) (plug fs u) = settleT fs u
 | [], u, _ => rfl
 | f :: fs, u, h => by
  have h' : (ctx fs).Nodup := by
   simp only [ctx, List.nodup_cons] at h
   exact (List.nodup_append.1 h.2).2.1
  simp only [lnks, List.reverse_append, List.reverse_cons, List.reverse_nil, List.nil_append, List.singleton_append, List.foldl_cons]
  rw [show Ln.kid f.b f.s = lnk (f :: fs) from rfl, lvAt_plug (f :: fs) u h]
  exact settle_fold fs (f.fill (lv u)) h'
theorem settle_toL : ∀ (fs : List Fr) (u : Tr), (settleT fs u).toL = pre fs ++ u.toL ++ post fs
 | [], u => by simp [settleT, lv_toL, pre, post]
 | f :: fs, u => by
  simp only [settleT]
  rw [settle_toL fs, ← plug_toL fs, show plug fs (f.fill (lv u)) = plug (f :: fs) (lv u) from rfl, plug_toL, lv_toL]
theorem settle_blks : ∀ (fs : List Fr) (u : Tr), (settleT fs u).blks.Perm (ctx fs ++ u.blks)
 | [], u => lv_blks u
 | f :: fs, u => by
  simp only [settleT]
  refine (settle_blks fs _).trans ?_
  refine ((plug_blks fs (f.fill (lv u))).symm.trans ?_)
  rw [show plug fs (f.fill (lv u)) = plug (f :: fs) (lv u) from rfl]
  refine (plug_blks (f :: fs) (lv u)).trans ?_
  exact List.Perm.append_left _ (lv_blks u)
def GoodF : List Fr → Nat → Prop
 | [], _ => True
 | f :: fs, k => Good f.t ∧ good f.x = true ∧ f.h = max k f.t.tall + 1 ∧ k ≤ f.t.tall + 1 ∧ f.t.tall ≤ k + 1 ∧ GoodF fs f.h
theorem good_plug : ∀ (fs : List Fr) (u : Tr), Good (plug fs u) → GoodF fs u.tall ∧ Good u
 | [], _, h => ⟨trivial, h⟩
 | f :: fs, u, h => by
  obtain ⟨h1, h2⟩ := good_plug fs (f.fill u) h
  rw [fill_tall] at h1
  unfold Fr.fill at h2
  cases hs : f.s
  ·rw [hs] at h2
   obtain ⟨g1, g2, g3, g4, g5, g6, _⟩ := h2
   exact ⟨⟨g2, g3, g4, g5, g6, h1⟩, g1⟩
  ·rw [hs] at h2
   obtain ⟨g1, g2, g3, g4, g5, g6, _⟩ := h2
   exact ⟨⟨g1, g3, by omega, g6, g5, h1⟩, g2⟩
theorem settle_good : ∀ (fs : List Fr) (u : Tr) (k : Nat), GoodF fs k → Good (lv u) → (lv u).tall ≤ k + 1 → k ≤ (lv u).tall + 1 → Good (settleT fs u)
 | [], _, _, _, h, _, _ => h
 | f :: fs, u, k, hF, h, h1, h2 => by
  obtain ⟨f1, f2, f3, f4, f5, f6⟩ := hF
  simp only [settleT]
  have hk : Good (lv (f.fill (lv u))) ∧ (lv (f.fill (lv u))).tall ≤ f.h + 1 ∧ f.h ≤ (lv (f.fill (lv u))).tall + 1 := by
   unfold Fr.fill
   cases f.s
   ·obtain ⟨a1, a2, a3, a4⟩ := lv_good (b := f.b) (x := f.x) (e := f.e) (h := f.h) h f1 f2 (by omega) (by omega)
    refine ⟨a1, ?_, ?_⟩
    ·by_cases hb : (lv u).tall ≤ f.t.tall + 1 ∧ f.t.tall ≤ (lv u).tall + 1
     ·have := a4 hb.1 hb.2
      simp only [Bool.false_eq_true, if_false]
      omega
     ·simp only [Bool.false_eq_true, if_false]
      omega
    ·by_cases hb : (lv u).tall ≤ f.t.tall + 1 ∧ f.t.tall ≤ (lv u).tall + 1
     ·have := a4 hb.1 hb.2
      simp only [Bool.false_eq_true, if_false]
      omega
     ·simp only [Bool.false_eq_true, if_false]
      omega
   ·obtain ⟨a1, a2, a3, a4⟩ := lv_good (b := f.b) (x := f.x) (e := f.e) (h := f.h) f1 h f2 (by omega) (by omega)
    refine ⟨a1, ?_, ?_⟩
    ·by_cases hb : (lv u).tall ≤ f.t.tall + 1 ∧ f.t.tall ≤ (lv u).tall + 1
     ·have := a4 hb.2 hb.1
      simp only [if_true]
      omega
     ·simp only [if_true]
      omega
    ·by_cases hb : (lv u).tall ≤ f.t.tall + 1 ∧ f.t.tall ≤ (lv u).tall + 1
     ·have := a4 hb.2 hb.1
      simp only [if_true]
      omega
     ·simp only [if_true]
      omega
  exact settle_good fs _ f.h f6 hk.1 hk.2.1 hk.2.2
end Go.Proofs.YtoaeficfmcncjaaGreat.Itree
namespace Go.Proofs.YtoaeficfmcncjaaGreat.Itree
open Go.RowKit
def It.val (x : It) : Value := .agg #[.int .i64 x.o, .int .i64 x.l, .int .i64 x.i]
end Go.Proofs.YtoaeficfmcncjaaGreat.Itree
