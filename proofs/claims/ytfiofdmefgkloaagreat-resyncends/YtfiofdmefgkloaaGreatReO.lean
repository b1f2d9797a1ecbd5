/-
  Plain facts: what a node tells first, how a meeting of two sides ends, and what a crash within leaves. No program is named here.
-/
import Derived.Test.YtfiofdmefgkloaaGreatReN
namespace Go.Proofs.YtfiofdmefgkloaaGreat.Resync
open Math Copying
open Pack (Ms)
open Bits.Math (has without elems)

/-- What a node tells first, and what it is then. -/
def beginL (s : Dk) (z : Nat) (src : Bool) : List Ms := if src = true then (if z = 0 then [endM] else (elems z).map (fun e : Nat => giveM s (e : Int))) else []
def beginR (s : Dk) (z : Nat) (src : Bool) : Rs := ⟨s, src, z, src && decide (z = 0)⟩
theorem Rest.gives {s : Dk} {c b l m : Nat} {F : Nat → List Nat} (h : Rest s c b l m F) {e : Nat} (he : e ≤ 3) : gotE s (Span.wOff e) (Span.wLen e) = 0 ∧ gotL s (Span.wOff e) (Span.wLen e) = extF F e := by
  rw [Span.wOff_in (by omega) (by omega), Span.wLen_in (by omega) (by omega)]
  exact ⟨(h.got he).2, (h.got he).1⟩
theorem Rest.give {s : Dk} {c b l m : Nat} {F : Nat → List Nat} (h : Rest s c b l m F) {e : Nat} (he : e ≤ 3) : giveM s (e : Int) = extM F e := by
  obtain ⟨h1, h2⟩ := h.gives he
  unfold giveM
  rw [if_pos h1, h2]
  rfl
theorem Rest.opens {s : Dk} {c b l m : Nat} {F : Nat → List Nat} (h : Rest s c b l m F) {z : Nat} (hz : z < 16) : beginL s z true = opening z F := by
  unfold beginL opening
  rw [if_pos rfl]
  split
  · rfl
  · exact List.map_congr_left fun e he => h.give (elems_four hz e he)
/-- All extents of a set are read, and are the same on both. -/
def Alike (s t : Dk) (z : Nat) : Prop := ∀ e ∈ elems z, gotE s (Span.wOff e) (Span.wLen e) = 0 ∧ gotE t (Span.wOff e) (Span.wLen e) = 0 ∧ gotL s (Span.wOff e) (Span.wLen e) = gotL t (Span.wOff e) (Span.wLen e)
theorem alike_of {s t : Dk} {c b l m c' b' l' m' : Nat} {F G : Nat → List Nat} (hs : Rest s c b l m F) (ht : Rest t c' b' l' m' G) {z : Nat} (hz : z < 16) (h : ∀ e, z.testBit e = true → extF F e = extF G e) : Alike s t z := fun e he => by
  have h3 := elems_four hz e he
  obtain ⟨a1, a2⟩ := hs.gives h3
  obtain ⟨b1, b2⟩ := ht.gives h3
  exact ⟨a1, b1, by rw [a2, b2]; exact h e (mem_elems.1 he).2⟩
theorem img_of {s t : Dk} {c b l m c' b' l' m' : Nat} {F : Nat → List Nat} (hs : Rest s c b l m F) (ht : Rest t c' b' l' m' F) : imgL s = imgL t := by rw [hs.img, ht.img]
theorem gives_one (wa wb : Bool) : Role.gives 1 wb wa = !Role.gives 0 wa wb := by cases wa <;> cases wb <;> rfl
theorem or_lt16 {x y : Nat} (hx : x < 16) (hy : y < 16) : x ||| y < 16 := Nat.or_lt_two_pow (n := 4) hx hy
theorem sub_or_left (x y : Nat) : Sub x (x ||| y) := fun j hj => by rw [Nat.testBit_or, hj]; rfl
theorem sub_or_right (x y : Nat) : Sub y (x ||| y) := fun j hj => by rw [Nat.testBit_or, hj]; simp
/-- A meeting: both begin, and tell one another all. -/
def meetF (sa sb : Dk) (z : Nat) (ga gb : Bool) : Bool × Rs × Rs := pumpF 100 (beginR (retS sa z) z ga) (beginR (retS sb z) z gb) (beginL (retS sa z) z ga) (beginL (retS sb z) z gb)
/-- What a meeting does, behind two Retires that end well. -/
theorem meets {sa sb : Dk} {c b c' b' z : Nat} {F G : Nat → List Nat} (ga gb : Bool) (hg : gb = !ga) (hz : z < 16) (hF : ∀ i, Sec (F i)) (hG : ∀ i, Sec (G i)) (hc : c + 4 < 1000) (hc' : c' + 4 < 1000) (ha : Rest (retS sa z) c b 0 z F) (hb : Rest (retS sb z) c' b' 0 z G) :
    ((retS sa z).fuse < 0 → (retS sb z).fuse < 0 → (meetF sa sb z ga gb).1 = true ∧ (if ga = true then Done z b b' F (meetF sa sb z ga gb).2.1 (meetF sa sb z ga gb).2.2 else Done z b' b G (meetF sa sb z ga gb).2.2 (meetF sa sb z ga gb).2.1)) ∧
    ((retS sa z).fuse < 0 ∨ (retS sb z).fuse < 0 → if ga = true then Met z b b' F (meetF sa sb z ga gb).2.1 (meetF sa sb z ga gb).2.2 else Met z b' b G (meetF sa sb z ga gb).2.2 (meetF sa sb z ga gb).2.1) := by
  subst hg
  cases ga with
  | true =>
    obtain ⟨ok, S, T, h1, _, h3, h4⟩ := met (S := beginR (retS sa z) z true) (T := beginR (retS sb z) z false) hz hF hc hc' ha hb rfl rfl rfl rfl rfl rfl
    have e : meetF sa sb z true (!true) = (ok, S, T) := by
      unfold meetF
      rw [ha.opens hz]
      exact h1
    rw [e]
    exact ⟨fun x y => by obtain ⟨e1, e2⟩ := h3 x y; exact ⟨e1, by rw [if_pos rfl]; exact e2⟩, fun x => by rw [if_pos rfl]; exact h4 x⟩
  | false =>
    obtain ⟨ok, S, T, _, h2, h3, h4⟩ := met (S := beginR (retS sb z) z true) (T := beginR (retS sa z) z false) hz hG hc' hc hb ha rfl rfl rfl rfl rfl rfl
    have e : meetF sa sb z false (!false) = (ok, T, S) := by
      unfold meetF
      rw [show (!false) = true from rfl, hb.opens hz]
      exact h2
    rw [e]
    exact ⟨fun x y => by obtain ⟨e1, e2⟩ := h3 y x; exact ⟨e1, by rw [if_neg (by decide)]; exact e2⟩, fun x => by rw [if_neg (by decide)]; exact h4 x.symm⟩
/-- What ResyncEnds asks of both at the end. -/
structure Ended (sa sb : Dk) (z : Nat) (gb : Bool) (A B : Rs) : Prop where
  over : A.over = true ∧ B.over = true
  left : A.left = 0 ∧ B.left = 0
  alike : Alike A.d B.d z
  img : imgL (if gb = true then B.d else A.d) = imgL (if gb = true then sb else sa)
  log : latestY A.d 2 4 = 0 ∧ latestY B.d 2 4 = 0
  map : latestY A.d 6 2 = 0 ∧ latestY B.d 6 2 = 0
theorem ends {sa sb : Dk} {za zb : Nat} {F G : Nat → List Nat} (wa wb : Bool) (hza : za < 16) (hzb : zb < 16) (hF : ∀ i, Sec (F i)) (hG : ∀ i, Sec (G i)) (ha : Rest sa 2 1 0 za F) (hb : Rest sb 2 1 0 zb G) (fa : sa.fuse < 0) (fb : sb.fuse < 0) :
    retE sa (za ||| zb) = 0 ∧ retE sb (za ||| zb) = 0 ∧ (meetF sa sb (za ||| zb) (Role.gives 0 wa wb) (Role.gives 1 wb wa)).1 = true ∧ Ended sa sb (za ||| zb) (Role.gives 1 wb wa) (meetF sa sb (za ||| zb) (Role.gives 0 wa wb) (Role.gives 1 wb wa)).2.1 (meetF sa sb (za ||| zb) (Role.gives 0 wa wb) (Role.gives 1 wb wa)).2.2 := by
  have hz := or_lt16 hza hzb
  rw [gives_one]
  generalize Role.gives 0 wa wb = ga
  generalize za ||| zb = z at *
  rcases ha.retire (by decide) z (by omega) with ⟨a1, a2, a3⟩ | ⟨a1, a2, a3⟩
  · rcases hb.retire (by decide) z (by omega) with ⟨b1, b2, b3⟩ | ⟨b1, b2, b3⟩
    · obtain ⟨m1, m2⟩ := (meets ga (!ga) rfl hz hF hG (by decide) (by decide) a2 b2).1 (a3 fa) (b3 fb)
      refine ⟨a1, b1, m1, ?_⟩
      generalize (meetF sa sb z ga (!ga)).2.1 = A at *
      generalize (meetF sa sb z ga (!ga)).2.2 = B at *
      cases ga with
      | true =>
        rw [if_pos rfl] at m2
        obtain ⟨c1, r1⟩ := m2.one
        obtain ⟨c2, G2, r2, h2⟩ := m2.two
        exact ⟨m2.over, m2.left, alike_of r1 r2 hz (fun e he => (h2 e he).symm), img_of r1 ha, ⟨r1.log_is, r2.log_is⟩, ⟨r1.map_is, r2.map_is⟩⟩
      | false =>
        rw [if_neg (by decide)] at m2
        obtain ⟨c1, r1⟩ := m2.one
        obtain ⟨c2, G2, r2, h2⟩ := m2.two
        exact ⟨m2.over.symm, m2.left.symm, alike_of r2 r1 hz h2, img_of r1 hb, ⟨r2.log_is, r1.log_is⟩, ⟨r2.map_is, r1.map_is⟩⟩
    · omega
  · omega
theorem Rest.lt {s : Dk} {c b l m : Nat} {F : Nat → List Nat} (h : Rest s c b l m F) : l < 18446744073709551616 ∧ m < 18446744073709551616 := by
  rw [← h.log_is, ← h.map_is]
  exact ⟨latestY_lt h.valid _ _, latestY_lt h.valid _ _⟩
/-- Both disks behind a meeting that may have come to nothing. -/
def leftD (sa sb : Dk) (z : Nat) (ga gb : Bool) : Dk × Dk := if retE sa z = 0 ∧ retE sb z = 0 then ((meetF sa sb z ga gb).2.1.d, (meetF sa sb z ga gb).2.2.d) else (retS sa z, retS sb z)
theorem alike_known {s t : Dk} {c b m c' b' m' : Nat} {F G : Nat → List Nat} (hs : Rest s c b 0 m F) (ht : Rest t c' b' 0 m' G) {z : Nat} (hz : z < 16) (hm : Sub m z) (hm' : Sub m' z)
    (h : ∀ e, z.testBit e = true → m.testBit e = false → m'.testBit e = false → extF F e = extF G e) :
    latestY s 2 4 = 0 ∧ latestY t 2 4 = 0 ∧ latestY s 6 2 = m ∧ latestY t 6 2 = m' ∧ m < 18446744073709551616 ∧ m' < 18446744073709551616 ∧ z &&& (18446744073709551615 - (m ||| m')) < 16 ∧ Alike s t (z &&& (18446744073709551615 - (m ||| m'))) ∧ (m ||| m') &&& (18446744073709551615 - z) = 0 := by
  have h1 := hs.lt.2
  have h2 := ht.lt.2
  have ho : m ||| m' < 18446744073709551616 := or_lt64 h1 h2
  have hlt : z &&& (18446744073709551615 - (m ||| m')) < 16 := Nat.lt_of_le_of_lt Nat.and_le_left hz
  refine ⟨hs.log_is, ht.log_is, hs.map_is, ht.map_is, h1, h2, hlt, alike_of hs ht hlt fun e he => ?_, andNot_of_in ho (by omega) fun j hj => ?_⟩
  · rw [Nat.testBit_and, Bool.and_eq_true] at he
    obtain ⟨e1, e2⟩ := he
    rw [show 18446744073709551615 - (m ||| m') = 2 ^ 64 - ((m ||| m') + 1) by omega, Nat.testBit_two_pow_sub_succ (by omega), Nat.testBit_or] at e2
    simp at e2
    exact h e e1 e2.2.1 e2.2.2
  · rw [Nat.testBit_or, Bool.or_eq_true] at hj
    rcases hj with g | g
    · exact hm j g
    · exact hm' j g
theorem safe {sa sb : Dk} {za zb : Nat} {F G : Nat → List Nat} (wa wb : Bool) (hza : za < 16) (hzb : zb < 16) (hF : ∀ i, Sec (F i)) (hG : ∀ i, Sec (G i)) (ha : Rest sa 2 1 0 za F) (hb : Rest sb 2 1 0 zb G) (hf : sa.fuse < 0 ∨ sb.fuse < 0) (mask : Nat) :
    ∃ c1 b1 m1 F1 c2 b2 m2 F2, Rest (Math.crashed (leftD sa sb (za ||| zb) (Role.gives 0 wa wb) (Role.gives 1 wb wa)).1 mask) c1 b1 0 m1 F1 ∧ Rest (Math.crashed (leftD sa sb (za ||| zb) (Role.gives 0 wa wb) (Role.gives 1 wb wa)).2 mask) c2 b2 0 m2 F2 ∧ Sub m1 (za ||| zb) ∧ Sub m2 (za ||| zb) ∧ ∀ e, (za ||| zb).testBit e = true → m1.testBit e = false → m2.testBit e = false → extF F1 e = extF F2 e := by
  have hz := or_lt16 hza hzb
  have s1 := sub_or_left za zb
  have s2 := sub_or_right za zb
  rw [gives_one]
  generalize Role.gives 0 wa wb = ga
  generalize za ||| zb = z at *
  unfold leftD
  have known : ∀ {e : Nat}, z.testBit e = true → z.testBit e = false → False := fun h g => by rw [h] at g; cases g
  rcases ha.retire (by decide) z (by omega) with ⟨a1, a2, a3⟩ | ⟨a1, a2, a3⟩
  · rcases hb.retire (by decide) z (by omega) with ⟨b1, b2, b3⟩ | ⟨b1, b2, b3⟩
    · rw [if_pos ⟨a1, b1⟩]
      have hm := (meets ga (!ga) rfl hz hF hG (by decide) (by decide) a2 b2).2 (hf.imp a3 b3)
      generalize (meetF sa sb z ga (!ga)).2.1 = A at *
      generalize (meetF sa sb z ga (!ga)).2.2 = B at *
      cases ga with
      | true =>
        rw [if_pos rfl] at hm
        obtain ⟨c1, m1, c2, m2, G2, r1, r2, q1, q2, q3⟩ := hm.crash mask
        exact ⟨c1, 1, m1, F, c2, 1, m2, G2, r1, r2, q1, q2, fun e e1 e2 e3 => (q3 e e1 e2 e3).symm⟩
      | false =>
        rw [if_neg (by decide)] at hm
        obtain ⟨c1, m1, c2, m2, G2, r1, r2, q1, q2, q3⟩ := hm.crash mask
        exact ⟨c2, 1, m2, G2, c1, 1, m1, G, r2, r1, q2, q1, fun e e1 e2 e3 => q3 e e1 e3 e2⟩
    · rw [if_neg (fun g => b1 g.2)]
      obtain ⟨m', hm', r⟩ := b3 mask
      refine ⟨_, _, z, F, _, _, m', G, a2.crashed mask, r, Sub.refl _, ?_, fun e e1 e2 _ => (known e1 e2).elim⟩
      rcases hm' with rfl | rfl
      · exact s2
      · exact Sub.refl _
  · rw [if_neg (fun g => a1 g.1)]
    obtain ⟨m', hm', r⟩ := a3 mask
    rcases hb.retire (by decide) z (by omega) with ⟨b1, b2, b3⟩ | ⟨b1, b2, b3⟩
    · refine ⟨_, _, m', F, _, _, z, G, r, b2.crashed mask, ?_, Sub.refl _, fun e e1 _ e3 => (known e1 e3).elim⟩
      rcases hm' with rfl | rfl
      · exact s1
      · exact Sub.refl _
    · omega
end Go.Proofs.YtfiofdmefgkloaaGreat.Resync
