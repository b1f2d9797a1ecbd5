/-
  Plain facts on two nodes that meet: what a message does, what both tell one another, and how it ends. No program is named here.
-/
import Derived.Test.YtfiofdmefgkloaaGreatReM
import Derived.Test.YtfiofdmefgkloaaGreatCpD
import Derived.Test.YtfiofdmefgkloaaGreatRoM
namespace Go.Proofs.YtfiofdmefgkloaaGreat.Resync
open Math Copying
open Pack (Ms)
open Bits.Math (has without)

/-- A resync: its disk, whether it gives, what is left, whether it is over. -/
structure Rs where
  d : Dk
  src : Bool
  left : Nat
  over : Bool
def endM : Ms := ⟨8, 0, 0, 0, false, []⟩
def haveM (o : Int) : Ms := ⟨7, 0, o, 0, false, []⟩
/-- What a message does: its error, what is told, what is left. -/
def takeE (r : Rs) (x : Ms) : Nat :=
  if r.over = true then 0 else if r.src = true then (if x.k = 7 ∧ has r.left x.o = true then toldE r.d x.o else 0) else if x.k = 6 then extE r.d x else 0
def takeL (r : Rs) (x : Ms) : List Ms :=
  if r.over = true ∨ takeE r x ≠ 0 then [] else if r.src = true then (if x.k = 7 ∧ has r.left x.o = true ∧ without r.left x.o = 0 then [endM] else []) else if x.k = 6 then [haveM x.o] else []
def takeS (r : Rs) (x : Ms) : Rs :=
  if r.over = true then r else if r.src = true then
    (if x.k = 7 ∧ has r.left x.o = true then (if toldE r.d x.o = 0 then ⟨toldS r.d x.o, true, without r.left x.o, decide (without r.left x.o = 0)⟩ else ⟨toldS r.d x.o, true, r.left, false⟩) else r)
  else if x.k = 6 then (if extE r.d x = 0 then ⟨extS r.d x, false, without r.left x.o, false⟩ else ⟨extS r.d x, false, r.left, false⟩) else if x.k = 8 then ⟨r.d, false, r.left, true⟩ else r
/-- Messages one behind the other, up to the first that fails. -/
def feed (r : Rs) : List Ms → Bool × Rs × List Ms
  | [] => (true, r, [])
  | x :: l => if takeE r x = 0 then ((feed (takeS r x) l).1, (feed (takeS r x) l).2.1, takeL r x ++ (feed (takeS r x) l).2.2) else (false, takeS r x, [])
/-- Two resyncs tell one another all, n rounds at most. -/
def pumpF : Nat → Rs → Rs → List Ms → List Ms → Bool × Rs × Rs
  | 0, a, b, _, _ => (true, a, b)
  | n + 1, a, b, x, y => if x = [] ∧ y = [] then (true, a, b) else
    if (feed b x).1 = false then (false, a, (feed b x).2.1) else if (feed a y).1 = false then (false, (feed a y).2.1, (feed b x).2.1) else pumpF n (feed a y).2.1 (feed b x).2.1 (feed a y).2.2 (feed b x).2.2

/-- All that is in the one set is in the other one. -/
def Sub (x y : Nat) : Prop := ∀ j, x.testBit j = true → y.testBit j = true
theorem Sub.refl (x : Nat) : Sub x x := fun _ h => h
theorem Sub.trans {x y z : Nat} (h : Sub x y) (k : Sub y z) : Sub x z := fun j hj => k j (h j hj)
theorem sub_without (m : Nat) (e : Int) : Sub (without m e) m := fun j hj => without_sub m e j hj
theorem sub_strip (m : Nat) (l : List Nat) : Sub (strip m l) m := by
  induction l generalizing m with
  | nil => exact Sub.refl _
  | cons e l ih => exact (ih (without m (e : Int))).trans (sub_without m e)
theorem isExt_of {e : Nat} (he : e ≤ 3) {bs : List Nat} (hl : bs.length = 64) : isExt ⟨6, 0, e, 0, false, bs⟩ = true := by
  have hf : Pack.Fine ⟨6, 0, e, 0, false, bs⟩ := by
    unfold Pack.Fine
    simp only
    rw [hl]
    simp
    omega
  have hg : Pack.good ⟨6, 0, e, 0, false, bs⟩ = true := by
    unfold Pack.good
    exact @decide_eq_true _ (Pack.fineD _) hf
  unfold isExt
  rw [hg]
  rfl
theorem ext_done (s : Dk) {e : Nat} (he : e ≤ 3) {bs : List Nat} (hl : bs.length = 64) : extE s ⟨6, 0, e, 0, false, bs⟩ = doneE s e bs ∧ extS s ⟨6, 0, e, 0, false, bs⟩ = doneS s e bs := by
  have h1 : extE s ⟨6, 0, e, 0, false, bs⟩ = stepE s e bs := if_pos (isExt_of he hl)
  have h2 : extS s ⟨6, 0, e, 0, false, bs⟩ = stepS s e bs := if_pos (isExt_of he hl)
  rw [h1, h2]
  unfold stepE stepS doneE doneS
  rw [Span.wOff_in (by omega) (by omega), Span.wLen_in (by omega) (by omega)]
  exact ⟨rfl, rfl⟩
theorem told_is (s : Dk) {e : Nat} (he : e ≤ 3) : toldE s (e : Int) = mapE s (clearM s (e : Int)) ∧ toldS s (e : Int) = mapS s (clearM s (e : Int)) := ⟨if_pos (by omega), if_pos (by omega)⟩
/-- The message that has an extent's bytes. -/
def extM (G : Nat → List Nat) (e : Nat) : Ms := ⟨6, 0, e, 0, false, extF G e⟩

/-- What comes of messages that give extents, at the one that gets them. -/
theorem feed_exts (G : Nat → List Nat) (hG : ∀ i, Sec (G i)) : ∀ (l : List Nat), (∀ e ∈ l, e ≤ 3) → ∀ (t : Rs) (c b m : Nat) (F : Nat → List Nat), t.src = false → t.over = false → c + l.length < 1000 → m < 18446744073709551616 → Rest t.d c b 0 m F →
    (∃ t' F', feed t (l.map (extM G)) = (true, t', l.map (fun e : Nat => haveM (e : Int))) ∧ t'.src = false ∧ t'.over = false ∧ t'.left = strip t.left l ∧ Rest t'.d (c + l.length) b 0 (strip m l) F' ∧ (t.d.fuse < 0 → t'.d.fuse < 0) ∧ (∀ e ∈ l, extF F' e = extF G e) ∧ (∀ e, e ∉ l → extF F' e = extF F e)) ∨
    (∃ t' o, feed t (l.map (extM G)) = (false, t', o) ∧ 0 ≤ t.d.fuse ∧ ∀ mask, ∃ c' m' F', Rest (Math.crashed t'.d mask) c' b 0 m' F' ∧ Sub m' m)
  | [], _, t, c, b, m, F, _, ho, _, _, h => .inl ⟨t, F, rfl, ‹_›, ho, rfl, h, fun g => g, fun e he => by simp at he, fun e _ => rfl⟩
  | e :: l, hl, t, c, b, m, F, hs, ho, hc, hm, h => by
    have he : e ≤ 3 := hl e (by simp)
    have hlen : (extF G e).length = 64 := extF_length (fun i => (hG i).1) e
    have hby : ∀ x ∈ extF G e, x < 256 := flatL_byte (fun i => (hG _).2) 4
    obtain ⟨x1, x2⟩ := ext_done t.d he hlen
    have hE : takeE t (extM G e) = doneE t.d e (extF G e) := by
      unfold takeE extM
      rw [ho, hs]
      simpa using x1
    have hc1 : c + 1 + l.length < 1000 := by simp at hc; omega
    rcases h.put (by omega) hm e he (extF G e) hlen hby with ⟨a1, a2, a3⟩ | ⟨a1, a2, a3⟩
    · have hS : takeS t (extM G e) = ⟨doneS t.d e (extF G e), false, without t.left e, false⟩ := by
        unfold takeS extM
        rw [ho, hs]
        have : extE t.d ⟨6, 0, e, 0, false, extF G e⟩ = 0 := x1.trans a1
        simp [this, x2]
      have hL : takeL t (extM G e) = [haveM e] := by
        unfold takeL
        rw [ho, hs, hE, a1]
        simp [extM]
      have ih := feed_exts G hG l (fun x hx => hl x (by simp [hx])) (takeS t (extM G e)) (c + 1) b (without m e) (putF F e (extF G e)) (by rw [hS]) (by rw [hS]) hc1 (Bits.Math.without_lt _ _ hm) (by rw [hS]; exact a2)
      have hcons : feed t ((e :: l).map (extM G)) = ((feed (takeS t (extM G e)) (l.map (extM G))).1, (feed (takeS t (extM G e)) (l.map (extM G))).2.1, takeL t (extM G e) ++ (feed (takeS t (extM G e)) (l.map (extM G))).2.2) := by
        rw [List.map_cons, feed, if_pos (hE.trans a1)]
      have hfu : t.d.fuse < 0 → (takeS t (extM G e)).d.fuse < 0 := fun g => by rw [hS]; exact a3 g
      have hle : (takeS t (extM G e)).left = without t.left e := by rw [hS]
      rcases ih with ⟨t', F', f1, f2, f3, f4, f5, f6, f7, f8⟩ | ⟨t', o, f1, f2, f3⟩
      · left
        refine ⟨t', F', ?_, f2, f3, ?_, ?_, fun g => f6 (hfu g), fun x hx => ?_, fun x hx => ?_⟩
        · rw [hcons, f1, hL]
          rfl
        · rw [f4, hle]
          rfl
        · have : c + 1 + l.length = c + (e :: l).length := by simp; omega
          rw [← this]
          exact f5
        · by_cases g : x ∈ l
          · exact f7 x g
          · have hx' : x = e := by
              rcases List.mem_cons.1 hx with h | h
              · exact h
              · exact absurd h g
            subst hx'
            exact (f8 x g).trans (extF_same F x _ hlen)
        · have h1 : x ∉ l := fun g => hx (by simp [g])
          have h2 : e ≠ x := fun g => hx (by simp [g])
          exact (f8 x h1).trans (extF_other F h2 _)
      · refine .inr ⟨t', takeL t (extM G e) ++ o, ?_, ?_, fun mask => ?_⟩
        · rw [hcons, f1]
        · by_cases g : t.d.fuse < 0
          · have := hfu g
            omega
          · omega
        · obtain ⟨c', m', F', r, s⟩ := f3 mask
          exact ⟨c', m', F', r, s.trans (sub_without m e)⟩
    · have hS : takeS t (extM G e) = ⟨doneS t.d e (extF G e), false, t.left, false⟩ := by
        unfold takeS extM
        rw [ho, hs]
        have : extE t.d ⟨6, 0, e, 0, false, extF G e⟩ ≠ 0 := by rw [x1]; exact a1
        simp [this, x2]
      refine .inr ⟨takeS t (extM G e), [], ?_, a2, fun mask => ?_⟩
      · rw [List.map_cons, feed, if_neg (by rw [hE]; exact a1)]
      · obtain ⟨m', F', hm', r⟩ := a3 mask
        refine ⟨c + 1, m', F', by rw [hS]; exact r, ?_⟩
        rcases hm' with rfl | rfl
        · exact Sub.refl _
        · exact sub_without _ _
/-- Is extent e in the set? -/
theorem has_bit {m e : Nat} (he : e < 64) : has m (e : Int) = m.testBit e := by
  unfold Bits.Math.has
  simp
  omega
theorem strip_zero {m : Nat} {l : List Nat} (hl : ∀ e ∈ l, e < 64) (hz : strip m l = 0) : ∀ j, j < 64 → m.testBit j = true → j ∈ l := fun j hj hb => by
  have := strip_bit m l hl j hj
  rw [hz, Nat.zero_testBit, hb] at this
  simpa using this.symm
/-- What comes of messages that tell that extents are there, at the one that gives them. -/
theorem feed_haves : ∀ (l : List Nat), l.Nodup → (∀ e ∈ l, e ≤ 3) → ∀ (s : Rs) (c b m : Nat) (F : Nat → List Nat), s.src = true → s.over = false → (∀ e ∈ l, s.left.testBit e = true) → (strip s.left l = 0 ∨ l = []) → c + l.length < 1000 → m < 18446744073709551616 → Rest s.d c b 0 m F →
    (∃ s', feed s (l.map (fun e : Nat => haveM (e : Int))) = (true, s', if l = [] then [] else [endM]) ∧ s'.src = true ∧ (l ≠ [] → s'.over = true ∧ s'.left = 0) ∧ (l = [] → s' = s) ∧ Rest s'.d (c + l.length) b 0 (strip m l) F ∧ (s.d.fuse < 0 → s'.d.fuse < 0)) ∨
    (∃ s' o, feed s (l.map (fun e : Nat => haveM (e : Int))) = (false, s', o) ∧ 0 ≤ s.d.fuse ∧ ∀ mask, ∃ c' m', Rest (Math.crashed s'.d mask) c' b 0 m' F ∧ Sub m' m)
  | [], _, _, s, c, b, m, F, hs, ho, _, _, _, _, h => .inl ⟨s, rfl, hs, fun g => absurd rfl g, fun _ => rfl, h, fun g => g⟩
  | e :: l, hn, hl, s, c, b, m, F, hs, ho, hin, hz, hc, hm, h => by
    have he : e ≤ 3 := hl e (by simp)
    obtain ⟨x1, x2⟩ := told_is s.d he
    have hh : has s.left (e : Int) = true := (has_bit (by omega)).trans (hin e (by simp))
    have hE : takeE s (haveM e) = mapE s.d (clearM s.d (e : Int)) := by
      unfold takeE haveM
      rw [ho, hs]
      simpa [hh] using x1
    have hc1 : c + 1 + l.length < 1000 := by simp at hc; omega
    have hz' : strip (without s.left (e : Int)) l = 0 := by
      rcases hz with hz | hz
      · exact hz
      · cases hz
    have hn1 : e ∉ l := (List.nodup_cons.1 hn).1
    rcases h.clear (by omega) hm (e : Int) with ⟨a1, a2, a3⟩ | ⟨a1, a2, a3⟩
    · have ht : toldE s.d (e : Int) = 0 := x1.trans a1
      have hS : takeS s (haveM e) = ⟨mapS s.d (clearM s.d (e : Int)), true, without s.left e, decide (without s.left (e : Int) = 0)⟩ := by
        unfold takeS haveM
        rw [ho, hs]
        simp [hh, ht, x2]
      have hcons : feed s ((e :: l).map (fun e : Nat => haveM (e : Int))) = ((feed (takeS s (haveM e)) (l.map (fun e : Nat => haveM (e : Int)))).1, (feed (takeS s (haveM e)) (l.map (fun e : Nat => haveM (e : Int)))).2.1, takeL s (haveM e) ++ (feed (takeS s (haveM e)) (l.map (fun e : Nat => haveM (e : Int)))).2.2) := by
        rw [List.map_cons, feed, if_pos (hE.trans a1)]
      have hfu : s.d.fuse < 0 → (takeS s (haveM e)).d.fuse < 0 := fun g => by rw [hS]; exact a3 g
      by_cases hl0 : l = []
      · subst hl0
        have hz2 : without s.left (e : Int) = 0 := hz'
        have hL : takeL s (haveM e) = [endM] := by
          unfold takeL
          rw [ho, hs, hE, a1]
          simp [haveM, hh, hz2]
        left
        refine ⟨takeS s (haveM e), ?_, by rw [hS], fun _ => ⟨by rw [hS]; simp [hz2], by rw [hS]; exact hz2⟩, fun g => absurd g (by simp), by rw [hS]; exact a2, hfu⟩
        rw [hcons, hL]
        rfl
      · have hz2 : without s.left (e : Int) ≠ 0 := fun g => by
          obtain ⟨x, hx⟩ := List.exists_mem_of_ne_nil l hl0
          have h1 := hin x (by simp [hx])
          have h2 := without_bit s.left e (by omega) x (by have := hl x (by simp [hx]); omega)
          have h3 : x ≠ e := fun g2 => hn1 (g2 ▸ hx)
          rw [g, Nat.zero_testBit, h1] at h2
          simp [h3] at h2
        have hL : takeL s (haveM e) = [] := by
          unfold takeL
          rw [ho, hs, hE, a1]
          simp [haveM, hz2]
        have ih := feed_haves l (List.nodup_cons.1 hn).2 (fun x hx => hl x (by simp [hx])) (takeS s (haveM e)) (c + 1) b (without m e) F (by rw [hS]) (by rw [hS]; simp [hz2])
          (fun x hx => by
            rw [hS]
            have h2 := without_bit s.left e (by omega) x (by have := hl x (by simp [hx]); omega)
            have h3 : x ≠ e := fun g2 => hn1 (g2 ▸ hx)
            rw [hin x (by simp [hx])] at h2
            rw [h2]
            simp [h3]) (.inl (by rw [hS]; exact hz')) hc1 (Bits.Math.without_lt _ _ hm) (by rw [hS]; exact a2)
        rcases ih with ⟨s', f1, f2, f3, f4, f5, f6⟩ | ⟨s', o, f1, f2, f3⟩
        · left
          refine ⟨s', ?_, f2, fun _ => f3 hl0, fun g => absurd g (by simp), ?_, fun g => f6 (hfu g)⟩
          · rw [hcons, f1, hL, if_neg hl0, if_neg (by simp)]
            rfl
          · have : c + 1 + l.length = c + (e :: l).length := by simp; omega
            rw [← this]
            exact f5
        · refine .inr ⟨s', takeL s (haveM e) ++ o, ?_, ?_, fun mask => ?_⟩
          · rw [hcons, f1]
          · by_cases g : s.d.fuse < 0
            · have := hfu g
              omega
            · omega
          · obtain ⟨c', m', r, q⟩ := f3 mask
            exact ⟨c', m', r, q.trans (sub_without m e)⟩
    · have ht : toldE s.d (e : Int) ≠ 0 := by rw [x1]; exact a1
      have hS : takeS s (haveM e) = ⟨mapS s.d (clearM s.d (e : Int)), true, s.left, false⟩ := by
        unfold takeS haveM
        rw [ho, hs]
        simp [hh, ht, x2]
      refine .inr ⟨takeS s (haveM e), [], ?_, a2, fun mask => ?_⟩
      · rw [List.map_cons, feed, if_neg (by rw [hE]; exact a1)]
      · obtain ⟨m', hm', r⟩ := a3 mask
        refine ⟨c + 1, m', by rw [hS]; exact r, ?_⟩
        rcases hm' with rfl | rfl
        · exact Sub.refl _
        · exact sub_without _ _
/-- The last message, at the one that gets. -/
theorem feed_end (t : Rs) (hs : t.src = false) (ho : t.over = false) : feed t [endM] = (true, ⟨t.d, false, t.left, true⟩, []) := by
  have h1 : takeE t endM = 0 := by
    unfold takeE endM
    rw [ho, hs]
    simp
  have h2 : takeS t endM = ⟨t.d, false, t.left, true⟩ := by
    unfold takeS endM
    rw [ho, hs]
    simp
  have h3 : takeL t endM = [] := by
    unfold takeL
    rw [ho, hs, h1]
    simp [endM]
  rw [feed, if_pos h1, h2, h3]
  rfl
/-- The members of a set of the first four extents. -/
theorem mem_elems {z e : Nat} : e ∈ Bits.Math.elems z ↔ e < 64 ∧ z.testBit e = true := by
  unfold Bits.Math.elems Bits.Math.lst
  simp
theorem nodup_elems (z : Nat) : (Bits.Math.elems z).Nodup := by
  unfold Bits.Math.elems Bits.Math.lst
  exact List.nodup_range.filter _
theorem elems_four {z : Nat} (hz : z < 16) : ∀ e ∈ Bits.Math.elems z, e ≤ 3 := fun e he => by
  have h := (mem_elems.1 he).2
  by_cases g : e ≤ 3
  · exact g
  · have : z.testBit e = false := Nat.testBit_lt_two_pow (Nat.lt_of_lt_of_le hz (Nat.pow_le_pow_right (n := 2) (by omega) (show 4 ≤ e by omega)))
    rw [this] at h
    cases h
theorem elems_nil {z : Nat} (hz : z < 16) (h : z ≠ 0) : Bits.Math.elems z ≠ [] := fun g => h (by
  apply Nat.eq_of_testBit_eq
  intro j
  rw [Nat.zero_testBit]
  by_cases hj : j < 64
  · cases hb : z.testBit j with
    | false => rfl
    | true =>
      have := mem_elems.2 ⟨hj, hb⟩
      rw [g] at this
      simp at this
  · exact Nat.testBit_lt_two_pow (Nat.lt_of_lt_of_le hz (Nat.pow_le_pow_right (n := 2) (by omega) (show 4 ≤ j by omega))))
theorem elems_len {z : Nat} (hz : z < 16) : (Bits.Math.elems z).length ≤ 4 := by
  have := Role.four z
  rwa [Nat.mod_eq_of_lt hz] at this
/-- What the one that gives tells first. -/
def opening (z : Nat) (F : Nat → List Nat) : List Ms := if z = 0 then [endM] else (Bits.Math.elems z).map (extM F)
theorem pump_step (n : Nat) {a b a' b' : Rs} {x y oA oB : List Ms} (h : ¬ (x = [] ∧ y = [])) (hb : feed b x = (true, b', oA)) (ha : feed a y = (true, a', oB)) : pumpF (n + 1) a b x y = pumpF n a' b' oB oA := by
  rw [pumpF, if_neg h, hb, ha]
  rfl
theorem pump_b (n : Nat) {a b b' : Rs} {x y o : List Ms} (h : ¬ (x = [] ∧ y = [])) (hb : feed b x = (false, b', o)) : pumpF (n + 1) a b x y = (false, a, b') := by
  rw [pumpF, if_neg h, hb]
  rfl
theorem pump_a (n : Nat) {a b a' b' : Rs} {x y oA o : List Ms} (h : ¬ (x = [] ∧ y = [])) (hb : feed b x = (true, b', oA)) (ha : feed a y = (false, a', o)) : pumpF (n + 1) a b x y = (false, a', b') := by
  rw [pumpF, if_neg h, hb, ha]
  rfl
theorem pump_nil (n : Nat) (a b : Rs) : pumpF (n + 1) a b [] [] = (true, a, b) := by
  rw [pumpF, if_pos ⟨rfl, rfl⟩]
theorem feed_nil (r : Rs) : feed r [] = (true, r, []) := rfl
/-- Both, behind all that they tell one another: how it ends, and what a crash leaves. -/
structure Met (z : Nat) (b b' : Nat) (F : Nat → List Nat) (S T : Rs) : Prop where
  crash : ∀ mask, ∃ c1 m1 c2 m2 G, Rest (Math.crashed S.d mask) c1 b 0 m1 F ∧ Rest (Math.crashed T.d mask) c2 b' 0 m2 G ∧ Sub m1 z ∧ Sub m2 z ∧ ∀ e, z.testBit e = true → m1.testBit e = false → m2.testBit e = false → extF G e = extF F e
/-- How it ends, where neither breaks. -/
structure Done (z : Nat) (b b' : Nat) (F : Nat → List Nat) (S T : Rs) : Prop where
  over : S.over = true ∧ T.over = true
  left : S.left = 0 ∧ T.left = 0
  one : ∃ c, Rest S.d c b 0 0 F
  two : ∃ c G, Rest T.d c b' 0 0 G ∧ ∀ e, z.testBit e = true → extF G e = extF F e
theorem met {z : Nat} (hz : z < 16) {S T : Rs} {c b c' b' : Nat} {F G : Nat → List Nat} (hF : ∀ i, Sec (F i)) (hc : c + 4 < 1000) (hc' : c' + 4 < 1000) (hs : Rest S.d c b 0 z F) (ht : Rest T.d c' b' 0 z G)
    (s1 : S.src = true) (s2 : S.left = z) (s3 : S.over = decide (z = 0)) (t1 : T.src = false) (t2 : T.left = z) (t3 : T.over = false) :
    ∃ ok S' T', pumpF 100 S T (opening z F) [] = (ok, S', T') ∧ pumpF 100 T S [] (opening z F) = (ok, T', S') ∧ (S.d.fuse < 0 → T.d.fuse < 0 → ok = true ∧ Done z b b' F S' T') ∧ (S.d.fuse < 0 ∨ T.d.fuse < 0 → Met z b b' F S' T') := by
  by_cases z0 : z = 0
  · subst z0
    have he := feed_end T t1 t3
    refine ⟨true, S, ⟨T.d, false, T.left, true⟩, ?_, ?_, fun _ _ => ⟨rfl, ⟨by rw [s3]; rfl, rfl⟩, ⟨s2, t2⟩, ⟨c, hs⟩, ⟨c', G, ht, fun e h => by simp at h⟩⟩, fun _ => ⟨fun mask => ?_⟩⟩
    · exact (pump_step 99 (by simp) he (feed_nil S)).trans (pump_nil 98 _ _)
    · exact (pump_step 99 (by simp) (feed_nil S) he).trans (pump_nil 98 _ _)
    · exact ⟨c, 0, c', 0, G, hs.crashed mask, ht.crashed mask, Sub.refl _, Sub.refl _, fun e h => by simp at h⟩
  · have hz64 : z < 18446744073709551616 := by omega
    have hl4 := elems_four hz
    have hl0 := elems_nil hz z0
    have hlen := elems_len hz
    have hop : opening z F = (Bits.Math.elems z).map (extM F) := if_neg z0
    have hst : strip z (Bits.Math.elems z) = 0 := strip_all z z hz64 (fun j _ h => h)
    have hmem : ∀ e ∈ Bits.Math.elems z, S.left.testBit e = true := fun e he => by rw [s2]; exact (mem_elems.1 he).2
    have hone : (Bits.Math.elems z).map (extM F) ≠ [] := by simpa using hl0
    have hhv : (Bits.Math.elems z).map (fun e : Nat => haveM (e : Int)) ≠ [] := by simpa using hl0
    have so : S.over = false := by rw [s3]; simpa using z0
    rw [hop]
    rcases feed_exts F hF (Bits.Math.elems z) hl4 T c' b' z G t1 t3 (by omega) hz64 ht with ⟨T1, G1, f1, f2, f3, f4, f5, f6, f7, f8⟩ | ⟨T1, o, f1, f2, f3⟩
    · rw [hst] at f5
      have f4' : T1.left = 0 := by rw [f4, t2, hst]
      have h64 : ∀ e, z.testBit e = true → e < 64 := fun e he => by
        by_cases g : e < 64
        · exact g
        · have : z.testBit e = false := Nat.testBit_lt_two_pow (Nat.lt_of_lt_of_le hz (Nat.pow_le_pow_right (n := 2) (by omega) (show 4 ≤ e by omega)))
          rw [this] at he
          cases he
      have h7 : ∀ e, z.testBit e = true → extF G1 e = extF F e := fun e he => f7 e (mem_elems.2 ⟨h64 e he, he⟩)
      rcases feed_haves (Bits.Math.elems z) (nodup_elems z) hl4 S c b z F s1 so hmem (.inl (by rw [s2]; exact hst)) (by omega) hz64 hs with ⟨S1, g1, g2, g3, g4, g5, g6⟩ | ⟨S1, o, g1, g2, g3⟩
      · rw [hst] at g5
        rw [if_neg hl0] at g1
        have he := feed_end T1 f2 f3
        refine ⟨true, S1, ⟨T1.d, false, T1.left, true⟩, ?_, ?_, fun _ _ => ⟨rfl, ⟨(g3 hl0).1, rfl⟩, ⟨(g3 hl0).2, f4'⟩, ⟨_, g5⟩, ⟨_, G1, f5, h7⟩⟩, fun _ => ⟨fun mask => ⟨_, 0, _, 0, G1, g5.crashed mask, f5.crashed mask, fun j h => by simp at h, fun j h => by simp at h, fun e h _ _ => h7 e h⟩⟩⟩
        · exact (pump_step 99 (by simp [hone]) f1 (feed_nil S)).trans ((pump_step 98 (by simp [hhv]) (feed_nil T1) g1).trans ((pump_step 97 (by simp) he (feed_nil S1)).trans (pump_nil 96 _ _)))
        · exact (pump_step 99 (by simp [hone]) (feed_nil S) f1).trans ((pump_step 98 (by simp [hhv]) g1 (feed_nil T1)).trans ((pump_step 97 (by simp) (feed_nil S1) he).trans (pump_nil 96 _ _)))
      · refine ⟨false, S1, T1, ?_, ?_, fun h => by omega, fun _ => ⟨fun mask => ?_⟩⟩
        · exact (pump_step 99 (by simp [hone]) f1 (feed_nil S)).trans (pump_a 98 (by simp [hhv]) (feed_nil T1) g1)
        · exact (pump_step 99 (by simp [hone]) (feed_nil S) f1).trans (pump_b 98 (by simp [hhv]) g1)
        · obtain ⟨c1, m1, r, q⟩ := g3 mask
          exact ⟨c1, m1, _, 0, G1, r, f5.crashed mask, q, fun j h => by simp at h, fun e h _ _ => h7 e h⟩
    · refine ⟨false, S, T1, ?_, ?_, fun _ h => by omega, fun hh => ⟨fun mask => ?_⟩⟩
      · exact pump_b 99 (by simp [hone]) f1
      · exact pump_a 99 (by simp [hone]) (feed_nil S) f1
      · obtain ⟨c1, m1, G1, r, q⟩ := f3 mask
        exact ⟨c, z, c1, m1, G1, hs.crashed mask, r, Sub.refl _, q, fun e h h1 => by rw [h] at h1; cases h1⟩
/-- A write into the data area of a disk at rest that does not break, and its flush. -/
theorem Rest.wrote {s : Dk} {c b l m : Nat} {F : Nat → List Nat} (h : Rest s c b l m F) (hf : s.fuse < 0) {n : Nat} (h1 : 1 ≤ n) (hn : n ≤ 16) {bs : List Nat} (hl : bs.length = 16 * n) (hbs : ∀ x ∈ bs, x < 256) :
    areaE s 0 n bs = 0 ∧ flushE (areaS s 0 n bs) = 0 ∧ Rest (flushS (areaS s 0 n bs)) c b l m (fun i => if i < n then piece bs i else F i) ∧ (flushS (areaS s 0 n bs)).fuse < 0 := by
  have hd : dataN s = 16 := by unfold dataN; rw [h.size]
  have hg : Span.Math.good 0 (n : Int) (dataN s : Nat) = true := of_good (by rw [hd]; omega)
  have eS : areaS s 0 n bs = wroteL s 0 bs (List.range n) := by
    unfold areaS
    rw [if_pos hg, if_pos (by omega)]
    rfl
  have eE : areaE s 0 n bs = if (wroteL s 0 bs (List.range n)).broken then 3 else 0 := by
    unfold areaE
    rw [if_pos hg, if_pos (by omega)]
    rfl
  have hsz := h.size
  have R := laid_of h.none h.ok 0 bs n (by omega)
  have hvt : Valid (wroteL s 0 bs (List.range n)) := valid_wroteL h.valid (l := n) hbs hl _ (fun i hi => by simpa using hi)
  rw [eS, eE]
  generalize wroteL s 0 bs (List.range n) = t at *
  have tb : t.broken = false := by
    cases g : t.broken with
    | false => rfl
    | true => have := R.bad g; omega
  obtain ⟨q1, q2, q3⟩ := R.fine tb
  have tf := q1 hf
  obtain ⟨a, b'⟩ := flush_is (t := t) tb (by omega)
  rw [a, b', tb]
  have hvu : Valid (spent (done t) full) := valid_spent (valid_done hvt) _
  refine ⟨rfl, rfl, ⟨Three.ahead h.three hvu R.size (fun _ => rfl) (fun k hk => ?_), R.size.trans hsz, tb, fun i hi => ?_⟩, ?_⟩
  · show settled (done t) full k = _
    rw [settled_none (s := done t) (R.off k (.inl (by unfold spot; omega)))]
    show t.safe k = _
    rw [R.safe]
  · by_cases g : i < n
    · rw [if_pos g]
      exact settled_full (s := done t) (q3 i g)
    · rw [if_neg g]
      show settled (done t) full _ = _
      rw [settled_none (s := done t) (R.off _ (by unfold spot; omega))]
      show t.safe _ = _
      rw [R.safe]
      exact h.area i hi
  · show (if 0 < t.fuse then t.fuse - 1 else t.fuse) < 0
    rw [if_neg (by omega)]
    exact tf
theorem rest_made : Rest (made 24) 0 0 0 0 (fun _ => nought) := ⟨three_made 24 (by decide) (by decide), rfl, rfl, fun _ _ => rfl⟩
/-- A boot of a disk at rest that does not break. -/
theorem Rest.boot {s : Dk} {c b l m : Nat} {F : Nat → List Nat} (h : Rest s c b l m F) (hf : s.fuse < 0) (hc : c + 1 < 4294967296) (hb : b < 4294967295) : nextE s = 0 ∧ Rest (nextS s) (c + 1) (b + 1) l m F ∧ (nextS s).fuse < 0 := by
  obtain ⟨p1, p2, p3, p4⟩ := h.three.booted h.ok hc hb (.inl hf)
  have ht := (h.three.tells h.ok).1
  have hbo : YtfiofdmefgkloaaGreat.boot s = b := by
    unfold YtfiofdmefgkloaaGreat.boot
    rw [ht]
    omega
  obtain ⟨n, hn, a⟩ := h.three.boot
  have e : nextS s = putS s 0 2 (b + 1) := by
    unfold nextS
    rw [hbo, if_neg (by omega)]
  refine ⟨p1, ⟨p2, ?_, p3, fun i hi => ?_⟩, by rw [p4 hf]; exact hf⟩
  · rw [e]
    exact (putS_size24 _ _ _ _).trans h.size
  · have := put_area a (by omega) h.ok (by omega) (b + 1) 0 (spot_high i)
    have e' : nextS s = putS s ((0 : Nat) : Int) ((2 : Nat) : Int) (b + 1) := e
    rw [← e'] at this
    obtain ⟨n2, _, a2⟩ := p2.map
    rw [crashed_safe (a2.none _)] at this
    exact this.trans (h.area i hi)
/-- The disk of a side, as ResyncEnds makes it. -/
def sideD (D : Nat) (bs : List Nat) : Dk := flushS (areaS (mapS (nextS (made 24)) (D % 16)) 0 (bs.length / 16 : Nat) bs)
theorem side_rest (D : Nat) {bs : List Nat} {n : Nat} (h1 : 1 ≤ n) (hn : n ≤ 16) (hl : bs.length = 16 * n) (hbs : ∀ x ∈ bs, x < 256) :
    nextE (made 24) = 0 ∧ mapE (nextS (made 24)) (D % 16) = 0 ∧ areaE (mapS (nextS (made 24)) (D % 16)) 0 n bs = 0 ∧ flushE (areaS (mapS (nextS (made 24)) (D % 16)) 0 n bs) = 0 ∧
    ∃ F, (∀ i, Sec (F i)) ∧ Rest (sideD D bs) 2 1 0 (D % 16) F ∧ (sideD D bs).fuse < 0 := by
  obtain ⟨a1, a2, a3⟩ := rest_made.boot (by decide) (by decide) (by decide)
  rcases a2.map (by decide) (D % 16) (by omega) with ⟨b1, b2, b3⟩ | ⟨b1, b2, b3⟩
  · obtain ⟨c1, c2, c3, c4⟩ := b2.wrote (b3 a3) h1 hn hl hbs
    have e : bs.length / 16 = n := by omega
    unfold sideD
    rw [e]
    refine ⟨a1, b1, c1, c2, _, fun i => ?_, c3, c4⟩
    by_cases g : i < n
    · simp only [g, if_true]
      exact sec_piece hbs hl g
    · simp only [g, if_false]
      exact sec_nought
  · omega
end Go.Proofs.YtfiofdmefgkloaaGreat.Resync
