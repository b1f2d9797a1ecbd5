/-
 Plain facts on the extents that are hot: an order as a list of numbers below 64, its set, who fits, who leaves, and what a use makes of it.
-/
import Derived.Test.YtoaeficfmcncjaaGreatM4
import Derived.Test.YtoaeficfmcncjaaGreatM2
namespace Go.Proofs.YtoaeficfmcncjaaGreat.Hot
open Bits.Math
def mask (l : List Nat) : Nat := ofL (l.map Int.ofNat)
theorem mask_lt (l : List Nat) : mask l < 18446744073709551616 := ofL_lt _
theorem mask_bit (l : List Nat) (h : ∀ x ∈ l, x < 64) (j : Nat) : (mask l).testBit j = decide (j ∈ l) := by
 unfold mask ofL
 rw [testBit_foldl j l 0 h]
 simp
theorem mem_elems (x j : Nat) : j ∈ elems x ↔ j < 64 ∧ x.testBit j = true := by simp [elems, lst]
theorem elems_nodup (x : Nat) : (elems x).Nodup := by
 unfold elems lst
 exact List.Pairwise.filter _ List.nodup_range
theorem elems_len (x : Nat) : (elems x).length ≤ 64 := by
 rw [← pop_elems]
 exact pop_le x
structure Good (l : List Nat) : Prop where
 nodup : l.Nodup
 lt : ∀ x ∈ l, x < 64
theorem Good.elems (x : Nat) : Good (elems x) := ⟨elems_nodup x, elems_lt x⟩
theorem Good.nil : Good [] := ⟨List.nodup_nil, fun _ h => by cases h⟩
theorem Good.sub {l k : List Nat} (h : Good l) (hs : k.Sublist l) : Good k := ⟨h.nodup.sublist hs, fun x hx => h.lt x (hs.subset hx)⟩
theorem pop_of {x : Nat} {l : List Nat} (hn : l.Nodup) (hm : ∀ j, j ∈ l ↔ j < 64 ∧ x.testBit j = true) : pop x = l.length := by
 rw [pop_elems]
 exact List.Perm.length_eq ((List.perm_ext_iff_of_nodup (elems_nodup x) hn).2 fun j => by rw [mem_elems, hm])
theorem pop_mask {l : List Nat} (h : Good l) : pop (mask l) = l.length :=
 pop_of h.nodup fun j => by
  rw [mask_bit l h.lt]
  simp
  exact h.lt j
theorem Good.len {l : List Nat} (h : Good l) : l.length ≤ 64 := by
 rw [← pop_mask h]
 exact pop_le _
theorem pop_mono {a b : Nat} (h : ∀ j, j < 64 → a.testBit j = true → b.testBit j = true) : pop a ≤ pop b := by
 rw [pop_elems, pop_elems]
 unfold elems lst
 rw [← List.countP_eq_length_filter, ← List.countP_eq_length_filter]
 exact List.countP_mono_left fun x hx hp => h x (by simpa using hx) hp
def may (need busy x : Nat) : Bool := !(need.testBit x || busy.testBit x)
def over (most need : Nat) (l : List Nat) : Bool := decide (most < pop (mask l ||| need))
def fits (most need busy : Nat) (l : List Nat) : Bool := decide (pop (need ||| (mask l &&& busy)) ≤ most)
def evict (most need busy : Nat) : List Nat → List Nat → List Nat
 | k, [] => k
 | k, e :: r => if (over most need (k ++ e :: r) && may need busy e) = true then evict most need busy k r else evict most need busy (k ++ [e]) r
section
variable {most need busy : Nat}
theorem evict_done (r : List Nat) : ∀ k : List Nat, over most need (k ++ r) = false → evict most need busy k r = k ++ r := by
 induction r with
 | nil => intro k _; simp [evict]
 | cons e r ih =>
  intro k h
  have h' : over most need ((k ++ [e]) ++ r) = false := by rw [List.append_assoc]; exact h
  unfold evict
  rw [if_neg (by rw [h]; simp), ih (k ++ [e]) h', List.append_assoc]
  rfl
theorem evict_pass : ∀ (m k r : List Nat), (∀ x ∈ m, may need busy x = false) → evict most need busy k (m ++ r) = evict most need busy (k ++ m) r
 | [], k, r, _ => by simp
 | e :: m, k, r, h => by
  have h0 := h e (by simp)
  rw [List.cons_append]
  simp only [evict]
  rw [if_neg (by rw [h0]; simp), evict_pass m (k ++ [e]) r (fun x hx => h x (by simp [hx]))]
  simp
theorem evict_sub : ∀ (r k : List Nat), (evict most need busy k r).Sublist (k ++ r)
 | [], k => by simp [evict]
 | e :: r, k => by
  simp only [evict]
  split
  ·exact (evict_sub r k).trans (List.Sublist.append_left (List.sublist_cons_self e r) k)
  ·have := evict_sub r (k ++ [e])
   simpa using this
theorem room {l0 l : List Nat} (hf : fits most need busy l0 = true) (h0 : Good l0) (hs : ∀ x ∈ l, x ∈ l0) (hn : ∀ x ∈ l, may need busy x = false) : over most need l = false := by
 have hf' : pop (need ||| (mask l0 &&& busy)) ≤ most := by simpa [fits] using hf
 have : pop (mask l ||| need) ≤ pop (need ||| (mask l0 &&& busy)) := pop_mono fun j _ hb => by
  rw [Nat.testBit_or, mask_bit l (fun x hx => h0.lt x (hs x hx))] at hb
  rw [Nat.testBit_or, Nat.testBit_and, mask_bit l0 h0.lt]
  by_cases hj : j ∈ l
  ·have a := hn j hj
   have b := hs j hj
   simp [may] at a
   cases c : need.testBit j
   ·simp [b, a c]
   ·simp
  ·simp [hj] at hb
   simp [hb]
 simp [over]
 omega
theorem found {l0 l : List Nat} (hf : fits most need busy l0 = true) (h0 : Good l0) (hs : ∀ x ∈ l, x ∈ l0) (ho : over most need l = true) : l.findIdx (may need busy) < l.length := by
 rw [List.findIdx_lt_length]
 apply Classical.byContradiction
 intro hc
 have : over most need l = false := room hf h0 hs fun x hx => by
  cases hm : may need busy x with
  | false => rfl
  | true => exact (hc ⟨x, hx, hm⟩).elim
 rw [this] at ho
 cases ho
theorem erase_parts (l : List Nat) (i : Nat) : l.eraseIdx i = l.take i ++ l.drop (i + 1) := List.eraseIdx_eq_take_drop_succ l i
theorem evict_step {l : List Nat} (ho : over most need l = true) (hi : l.findIdx (may need busy) < l.length) :
  evict most need busy [] (l.eraseIdx (l.findIdx (may need busy))) = evict most need busy [] l := by
 obtain ⟨i, hI⟩ : ∃ i, l.findIdx (may need busy) = i := ⟨_, rfl⟩
 have hm : may need busy (l[l.findIdx (may need busy)]'hi) = true := List.findIdx_getElem (w := hi)
 have hb : ∀ x ∈ l.take i, may need busy x = false := fun x hx => by
  obtain ⟨j, hj, rfl⟩ := List.getElem_of_mem hx
  rw [List.length_take] at hj
  have := List.not_of_lt_findIdx (p := may need busy) (xs := l) (i := j) (by omega)
  simpa using this
 simp only [hI] at hm hi ⊢
 have hp : l = l.take i ++ l[i] :: l.drop (i + 1) := by simp
 rw [erase_parts, evict_pass _ _ _ hb]
 conv => rhs; rw [hp, evict_pass _ _ _ hb]
 simp only [List.nil_append]
 conv => rhs; simp only [evict]
 rw [if_pos]
 rw [← hp, ho, hm]
 rfl
end
def rest (need : Nat) (l : List Nat) : List Nat := l.filter fun x => !need.testBit x
def used (most need busy : Nat) (l : List Nat) : List Nat := rest need (evict most need busy [] l) ++ elems need
theorem evict_good {most need busy : Nat} {l : List Nat} (h : Good l) : Good (evict most need busy [] l) := h.sub (by simpa using evict_sub (most := most) (need := need) (busy := busy) l [])
theorem used_good {most need busy : Nat} {l : List Nat} (h : Good l) : Good (used most need busy l) := by
 have g := evict_good (most := most) (need := need) (busy := busy) h
 constructor
 ·unfold used rest
  rw [List.nodup_append]
  refine ⟨g.nodup.filter _, elems_nodup need, fun a ha b hb e => ?_⟩
  subst e
  simp at ha
  have := ((mem_elems need a).1 hb).2
  rw [ha.2] at this
  cases this
 ·intro x hx
  rcases List.mem_append.1 hx with h1 | h1
  ·exact g.lt x (List.mem_filter.1 h1).1
  ·exact elems_lt need x h1
def gone (l d : List Nat) : List Nat := l.filter fun x => !d.contains x
theorem gone_nil (l : List Nat) : gone l [] = l := by simp [gone]
theorem gone_sub (l d : List Nat) : (gone l d).Sublist l := List.filter_sublist
theorem gone_snoc {l : List Nat} (h : l.Nodup) (d : List Nat) (e : Nat) : (gone l d).eraseIdx ((gone l d).idxOf e) = gone l (d ++ [e]) := by
 rw [← List.erase_eq_eraseIdx_of_idxOf rfl, List.Nodup.erase_eq_filter (h.sublist (gone_sub l d))]
 unfold gone
 rw [List.filter_filter]
 congr 1
 funext x
 by_cases hx : x = e <;> simp [hx]
theorem gone_mem {l d : List Nat} {x : Nat} (h : x ∈ l) (hd : x ∉ d) : x ∈ gone l d := by
 unfold gone
 simp [h, hd]
theorem gone_needed {l : List Nat} (hl : ∀ x ∈ l, x < 64) (need : Nat) : gone l (elems (need &&& mask l)) = rest need l := by
 unfold gone rest
 apply List.filter_congr
 intro x hx
 have := hl x hx
 cases hb : need.testBit x with
 | false =>
  have : ¬ x ∈ elems (need &&& mask l) := by rw [mem_elems, Nat.testBit_and, hb]; simp
  simp [this]
 | true =>
  have : x ∈ elems (need &&& mask l) := by rw [mem_elems, Nat.testBit_and, hb, mask_bit l hl]; simp [hx, this]
  simp [this]
theorem take_not_mem {d : List Nat} (h : d.Nodup) {k : Nat} (hk : k < d.length) : d[k] ∉ d.take k := by
 intro hm
 obtain ⟨j, hj, e⟩ := List.getElem_of_mem hm
 rw [List.length_take] at hj
 rw [List.getElem_take] at e
 have := (List.getElem_inj h).1 e
 omega
end Go.Proofs.YtoaeficfmcncjaaGreat.Hot
namespace Go.Proofs.YtoaeficfmcncjaaGreat
namespace Math
def Sec (l : List Nat) : Prop := l.length = 16 ∧ ∀ b ∈ l, b < 256
def nought : List Nat := [0, 0, 0, 0, 0, 0, 0, 0, 0, 0, 0, 0, 0, 0, 0, 0]
theorem sec_nought : Sec nought := ⟨rfl, by decide⟩
structure Dk where
 size : Nat
 safe : Int → List Nat
 fresh : Int → Option (List Nat)
 fuse : Int
 broken : Bool
 ops : Nat
structure Valid (s : Dk) : Prop where
 pos : 1 ≤ s.size
 top : s.size ≤ 1024
 fresh : ∀ k x, s.fresh k = some x → 0 ≤ k ∧ k < s.size ∧ Sec x
 safe : ∀ k, Sec (s.safe k)
 out : ∀ k : Int, k < 0 ∨ (s.size : Int) ≤ k → s.safe k = nought
 low : -9223372036854775808 ≤ s.fuse
 high : s.fuse ≤ 9223372036854775807
def below (f : Int → Option (List Nat)) (n : Nat) : List Nat := (List.range n).filter fun i => (f (i : Int)).isSome
def keys (s : Dk) : List Nat := below s.fresh s.size
def bit (mask i : Nat) : Bool := decide (mask / 2 ^ (i % 64) % 2 = 1)
def settled (s : Dk) (mask : Nat) (k : Int) : List Nat :=
 match s.fresh k with
 | some x => if bit mask (below s.fresh k.toNat).length then x else s.safe k
 | none => s.safe k
def spent (s : Dk) (mask : Nat) : Dk := { s with safe := settled s mask, fresh := fun _ => none }
def upd {α : Type} (f : Int → α) (k : Int) (v : α) : Int → α := fun j => if j = k then v else f j
theorem upd_same {α : Type} (f : Int → α) (k : Int) (v : α) : upd f k v k = v := if_pos rfl
theorem upd_other {α : Type} (f : Int → α) {k j : Int} (v : α) (h : j ≠ k) : upd f k v j = f j := if_neg h
def worn (s : Dk) : Bool := s.broken || decide (s.fuse = 0)
def burnt (s : Dk) : Dk := { s with broken := true }
def done (s : Dk) : Dk := { s with fuse := if 0 < s.fuse then s.fuse - 1 else s.fuse, ops := s.ops + 1 }
def inside (s : Dk) (k : Int) : Bool := decide (0 ≤ k) && decide (k < s.size)
def laid (s : Dk) (k : Int) (x : List Nat) : Dk := { s with fresh := upd s.fresh k (some x) }
def wroteE (s : Dk) (k : Int) : Nat := if inside s k then if worn s then 3 else 0 else 13
def wroteS (s : Dk) (k : Int) (x : List Nat) : Dk := if inside s k then if worn s then burnt s else laid (done s) k x else s
def full : Nat := 18446744073709551615
def flushE (s : Dk) : Nat := if worn s then 3 else 0
def flushS (s : Dk) : Dk := if worn s then burnt s else spent (done s) full
def fused (s : Dk) (k : Int) : Dk := { s with fuse := k }
def readE (s : Dk) (k : Int) : Nat := if inside s k then if s.broken then 3 else 0 else 13
def readL (s : Dk) (k : Int) : List Nat := if inside s k then if s.broken then nought else (s.fresh k).getD (s.safe k) else nought
def made (n : Nat) : Dk := { size := n, safe := fun _ => nought, fresh := fun _ => none, fuse := -1, broken := false, ops := 0 }
theorem valid_made (n : Nat) (h1 : 1 ≤ n) (h2 : n ≤ 1024) : Valid (made n) :=
 ⟨h1, h2, by simp [made], fun _ => sec_nought, fun _ _ => rfl, by simp [made], by simp [made]⟩
theorem below_succ (f : Int → Option (List Nat)) (n : Nat) : below f (n + 1) = if (f (n : Int)).isSome then below f n ++ [n] else below f n := by
 unfold below
 rw [List.range_succ, List.filter_append]
 by_cases h : (f (n : Int)).isSome = true
 ·simp [h]
 ·simp [h]
theorem mem_below (f : Int → Option (List Nat)) (n i : Nat) : i ∈ below f n ↔ i < n ∧ (f (i : Int)).isSome = true := by simp [below]
theorem below_length (f : Int → Option (List Nat)) : ∀ n, (below f n).length ≤ n
 | 0 => Nat.le_refl _
 | n + 1 => by
  have := below_length f n
  rw [below_succ]
  split
  ·simp; omega
  ·omega
theorem below_rank (f : Int → Option (List Nat)) : ∀ (n j k : Nat), (below f n)[j]? = some k → (below f k).length = j
 | 0, j, k, h => by simp [below] at h
 | n + 1, j, k, h => by
  rw [below_succ] at h
  split at h
  ·by_cases hj : j < (below f n).length
   ·rw [List.getElem?_append_left hj] at h
    exact below_rank f n j k h
   ·rw [List.getElem?_append_right (by omega)] at h
    by_cases e : j - (below f n).length = 0
    ·rw [e] at h
     simp at h
     subst h
     omega
    ·obtain ⟨m, hm⟩ : ∃ m, j - (below f n).length = m + 1 := ⟨j - (below f n).length - 1, by omega⟩
     rw [hm] at h
     simp at h
  ·exact below_rank f n j k h
theorem below_none (f : Int → Option (List Nat)) (n : Nat) (h : ∀ k, f k = none) : below f n = [] := by
 unfold below
 rw [List.filter_eq_nil_iff]
 intro a _
 simp [h]
theorem below_sorted (f : Int → Option (List Nat)) (n : Nat) : (below f n).Pairwise (· < ·) := List.Pairwise.filter _ List.pairwise_lt_range
theorem below_nodup (f : Int → Option (List Nat)) (n : Nat) : (below f n).Nodup := (below_sorted f n).imp fun h => Nat.ne_of_lt h
def part (s : Dk) (mask j : Nat) : Dk :=
 { s with safe := fun k => if 0 ≤ k ∧ k.toNat ∈ (keys s).take j then settled s mask k else s.safe k,
           fresh := fun k => if 0 ≤ k ∧ k.toNat ∈ (keys s).take j then none else s.fresh k }
theorem part_start (s : Dk) (mask : Nat) : part s mask 0 = s := by simp [part]
theorem mem_keys {s : Dk} (h : Valid s) (k : Int) : (0 ≤ k ∧ k.toNat ∈ keys s) ↔ (s.fresh k).isSome = true := by
 unfold keys
 rw [mem_below]
 constructor
 ·rintro ⟨h0, _, h2⟩
  rwa [Int.toNat_of_nonneg h0] at h2
 ·intro h2
  obtain ⟨x, hx⟩ := Option.isSome_iff_exists.1 h2
  obtain ⟨a, b, _⟩ := h.fresh k x hx
  refine ⟨a, by omega, ?_⟩
  rwa [Int.toNat_of_nonneg a]
theorem part_end {s : Dk} (h : Valid s) (mask : Nat) : part s mask (keys s).length = spent s mask := by
 unfold part spent
 rw [List.take_length]
 congr 1
 ·funext k
  split
  ·rfl
  ·rename_i hk
   rw [mem_keys h] at hk
   unfold settled
   cases hf : s.fresh k with
   | none => rfl
   | some x => rw [hf] at hk; exact absurd rfl hk
 ·funext k
  split
  ·rfl
  ·rename_i hk
   rw [mem_keys h] at hk
   simpa using hk
theorem part_step {s : Dk} (h : Valid s) (mask j k : Nat) (hj : (keys s)[j]? = some k) :
  ∃ x, s.fresh (k : Int) = some x ∧ Sec x ∧ (part s mask j).fresh (k : Int) = some x ∧ k < s.size ∧
   part s mask (j + 1) = { part s mask j with safe := (if bit mask j then upd (part s mask j).safe k x else (part s mask j).safe), fresh := upd (part s mask j).fresh k none } := by
 have hm : k ∈ keys s := List.mem_of_getElem? hj
 have hs : (s.fresh (k : Int)).isSome = true := (mem_keys h k).1 ⟨by omega, by simpa using hm⟩
 obtain ⟨x, hx⟩ := Option.isSome_iff_exists.1 hs
 have hv := h.fresh k x hx
 have hr : (below s.fresh k).length = j := below_rank s.fresh s.size j k hj
 have ht : (keys s).take (j + 1) = (keys s).take j ++ [k] := by
  rw [List.take_add_one, hj]
  rfl
 have hnot : k ∉ (keys s).take j := by
  have hn : ((keys s).take (j + 1)).Nodup := (below_nodup s.fresh s.size).sublist (List.take_sublist _ _)
  rw [ht, List.nodup_append] at hn
  intro hk
  exact hn.2.2 k hk k (by simp) rfl
 refine ⟨x, hx, hv.2.2, ?_, by omega, ?_⟩
 ·show (if 0 ≤ (k : Int) ∧ (k : Int).toNat ∈ (keys s).take j then none else s.fresh k) = some x
  rw [if_neg (by simpa using hnot)]
  exact hx
 ·unfold part
  congr 1
  ·funext i
   rw [ht]
   have hset : settled s mask (k : Int) = if bit mask j then x else s.safe k := by
    unfold settled
    rw [hx]
    simp only [Int.toNat_natCast, hr]
   by_cases hi : i = (k : Int)
   ·subst hi
    rw [if_pos ⟨by omega, by simp⟩, hset]
    by_cases hb : bit mask j = true
    ·rw [if_pos hb, if_pos hb, upd_same]
    ·rw [if_neg hb, if_neg hb]
     show _ = if _ then _ else _
     rw [if_neg (by simpa using hnot)]
   ·have hmem : (0 ≤ i ∧ i.toNat ∈ (keys s).take j ++ [k]) ↔ (0 ≤ i ∧ i.toNat ∈ (keys s).take j) := by
     constructor
     ·rintro ⟨a, b⟩
      refine ⟨a, ?_⟩
      rcases List.mem_append.1 b with c | c
      ·exact c
      ·simp at c; omega
     ·rintro ⟨a, b⟩
      exact ⟨a, List.mem_append.2 (.inl b)⟩
    simp only [hmem]
    by_cases hb : bit mask j = true
    ·rw [if_pos hb, upd_other _ _ hi]
    ·rw [if_neg hb]
  ·funext i
   rw [ht]
   by_cases hi : i = (k : Int)
   ·subst hi
    rw [if_pos ⟨by omega, by simp⟩, upd_same]
   ·rw [upd_other _ _ hi]
    have hmem : (0 ≤ i ∧ i.toNat ∈ (keys s).take j ++ [k]) ↔ (0 ≤ i ∧ i.toNat ∈ (keys s).take j) := by
     constructor
     ·rintro ⟨a, b⟩
      refine ⟨a, ?_⟩
      rcases List.mem_append.1 b with c | c
      ·exact c
      ·simp at c; omega
     ·rintro ⟨a, b⟩
      exact ⟨a, List.mem_append.2 (.inl b)⟩
    simp only [hmem]
theorem settled_sec {s : Dk} (h : Valid s) (mask : Nat) (k : Int) : Sec (settled s mask k) := by
 unfold settled
 cases hf : s.fresh k with
 | none => exact h.safe k
 | some x =>
  show Sec (if _ then _ else _)
  split
  ·exact (h.fresh k x hf).2.2
  ·exact h.safe k
theorem settled_out {s : Dk} (h : Valid s) (mask : Nat) (k : Int) (hk : k < 0 ∨ (s.size : Int) ≤ k) : settled s mask k = nought := by
 unfold settled
 cases hf : s.fresh k with
 | none => exact h.out k hk
 | some x =>
  have := h.fresh k x hf
  omega
theorem valid_part {s : Dk} (h : Valid s) (mask j : Nat) : Valid (part s mask j) := by
 refine ⟨h.pos, h.top, fun k x hx => ?_, fun k => ?_, fun k hk => ?_, h.low, h.high⟩
 ·simp only [part] at hx
  split at hx
  ·cases hx
  ·exact h.fresh k x hx
 ·show Sec (if _ then _ else _)
  split
  ·exact settled_sec h mask k
  ·exact h.safe k
 ·show (if _ then _ else _) = _
  split
  ·exact settled_out h mask k hk
  ·exact h.out k hk
theorem valid_spent {s : Dk} (h : Valid s) (mask : Nat) : Valid (spent s mask) := by
 rw [← part_end h mask]
 exact valid_part h mask _
theorem valid_burnt {s : Dk} (h : Valid s) : Valid (burnt s) := ⟨h.pos, h.top, h.fresh, h.safe, h.out, h.low, h.high⟩
theorem valid_done {s : Dk} (h : Valid s) : Valid (done s) := by
 have h1 := h.low
 have h2 := h.high
 refine ⟨h.pos, h.top, h.fresh, h.safe, h.out, ?_, ?_⟩
 ·simp only [done]; split <;> omega
 ·simp only [done]; split <;> omega
theorem valid_laid {s : Dk} (h : Valid s) {k : Int} {x : List Nat} (h0 : 0 ≤ k) (h1 : k < s.size) (hx : Sec x) : Valid (laid s k x) := by
 refine ⟨h.pos, h.top, fun j y hy => ?_, h.safe, h.out, h.low, h.high⟩
 by_cases hj : j = k
 ·subst hj
  rw [laid] at hy
  simp only [upd_same] at hy
  cases hy
  exact ⟨h0, h1, hx⟩
 ·simp only [laid, upd_other _ _ hj] at hy
  exact h.fresh j y hy
theorem valid_wrote {s : Dk} (h : Valid s) (k : Int) {x : List Nat} (hx : Sec x) : Valid (wroteS s k x) := by
 unfold wroteS
 split
 ·rename_i hk
  simp [inside] at hk
  split
  ·exact valid_burnt h
  ·exact valid_laid (valid_done h) hk.1 hk.2 hx
 ·exact h
theorem valid_fused {s : Dk} (h : Valid s) {k : Int} (h0 : -9223372036854775808 ≤ k) (h1 : k ≤ 9223372036854775807) : Valid (fused s k) := ⟨h.pos, h.top, h.fresh, h.safe, h.out, h0, h1⟩
theorem sec_read {s : Dk} (h : Valid s) (k : Int) : Sec (readL s k) := by
 unfold readL
 split
 ·split
  ·exact sec_nought
  ·cases hf : s.fresh k with
   | none => exact h.safe k
   | some x => exact (h.fresh k x hf).2.2
 ·exact sec_nought
theorem pigeon : ∀ (n : Nat) (l : List Nat), l.Nodup → (∀ x ∈ l, x < n) → l.length ≤ n
 | 0, l, _, h => by
  cases l with
  | nil => simp
  | cons a l => exact absurd (h a (by simp)) (by omega)
 | n + 1, l, hd, h => by
  have h1 := pigeon n (l.filter (· ≠ n)) (hd.filter _) (fun x hx => by
   have := h x (List.mem_filter.1 hx).1
   have h2 : x ≠ n := by simpa using (List.mem_filter.1 hx).2
   omega)
  have h2 : l.length ≤ (l.filter (· ≠ n)).length + 1 := by
   clear h1 h
   induction l with
   | nil => simp
   | cons a l ih =>
    obtain ⟨ha, hl⟩ := List.nodup_cons.1 hd
    by_cases e : a = n
    ·subst e
     have : l.filter (· ≠ a) = l := List.filter_eq_self.2 (fun x hx => by
      have : x ≠ a := fun e => ha (e ▸ hx)
      simpa using this)
     rw [List.filter_cons_of_neg (by simp), this]
     exact Nat.le_refl _
    ·have := ih hl
     simp [e] at this ⊢
     omega
  omega
end Math
end Go.Proofs.YtoaeficfmcncjaaGreat
namespace Go.Proofs.YtoaeficfmcncjaaGreat
namespace Math
def piece (bs : List Nat) (i : Nat) : List Nat := (bs.drop (16 * i)).take 16
theorem piece_length {bs : List Nat} {i l : Nat} (h : bs.length = 16 * l) (hi : i < l) : (piece bs i).length = 16 := by
 simp [piece, h]
 omega
theorem sec_piece {bs : List Nat} (hb : ∀ b ∈ bs, b < 256) {i l : Nat} (h : bs.length = 16 * l) (hi : i < l) : Sec (piece bs i) :=
 ⟨piece_length h hi, fun b hm => hb b (List.mem_of_mem_drop (List.mem_of_mem_take hm))⟩
theorem piece_get {bs : List Nat} {i j : Nat} (hj : j < 16) : (piece bs i)[j]? = bs[16 * i + j]? := by
 unfold piece
 rw [List.getElem?_take_of_lt hj, List.getElem?_drop]
def dataN (s : Dk) : Nat := s.size - 8
def spot (o i : Nat) : Int := ((8 + o + i : Nat) : Int)
def wroteL (s : Dk) (o : Nat) (bs : List Nat) (pre : List Nat) : Dk := pre.foldl (fun s i => wroteS s (spot o i) (piece bs i)) s
theorem wroteL_snoc (s : Dk) (o : Nat) (bs pre : List Nat) (i : Nat) : wroteL s o bs (pre ++ [i]) = wroteS (wroteL s o bs pre) (spot o i) (piece bs i) := by simp [wroteL]
theorem wroteS_size (s : Dk) (k : Int) (x : List Nat) : (wroteS s k x).size = s.size := by
 unfold wroteS
 split
 ·split <;> rfl
 ·rfl
theorem wroteL_size (s : Dk) (o : Nat) (bs : List Nat) : ∀ pre, (wroteL s o bs pre).size = s.size := fun pre => by
 unfold wroteL
 induction pre generalizing s with
 | nil => rfl
 | cons i pre ih => rw [List.foldl_cons, ih, wroteS_size]
theorem wroteS_ops (s : Dk) (k : Int) (x : List Nat) : (wroteS s k x).ops ≤ s.ops + 1 := by
 unfold wroteS
 split
 ·split
  ·simp [burnt]
  ·simp [laid, done]
 ·omega
theorem wroteL_ops (s : Dk) (o : Nat) (bs : List Nat) : ∀ pre, (wroteL s o bs pre).ops ≤ s.ops + pre.length := fun pre => by
 unfold wroteL
 induction pre generalizing s with
 | nil => simp
 | cons i pre ih =>
  rw [List.foldl_cons]
  refine Nat.le_trans (ih _) ?_
  have := wroteS_ops s (spot o i) (piece bs i)
  simp
  omega
theorem valid_wroteL {s : Dk} (h : Valid s) {o : Nat} {bs : List Nat} {l : Nat} (hb : ∀ b ∈ bs, b < 256) (hl : bs.length = 16 * l) : ∀ pre : List Nat, (∀ i ∈ pre, i < l) → Valid (wroteL s o bs pre) := fun pre => by
 unfold wroteL
 induction pre generalizing s with
 | nil => exact fun _ => h
 | cons i pre ih =>
  intro hp
  rw [List.foldl_cons]
  exact ih (valid_wrote h _ (sec_piece hb hl (hp i (by simp)))) (fun j hj => hp j (by simp [hj]))
theorem wroteS_broken {s : Dk} (h : s.broken = true) (k : Int) (x : List Nat) : wroteS s k x = s := by
 unfold wroteS
 split
 ·have hw : worn s = true := by simp [worn, h]
  rw [if_pos hw]
  cases s
  simp [burnt] at *
  first | exact h | exact h.symm
 ·rfl
theorem wroteL_broken {s : Dk} (h : s.broken = true) (o : Nat) (bs : List Nat) : ∀ pre, wroteL s o bs pre = s := fun pre => by
 unfold wroteL
 induction pre with
 | nil => rfl
 | cons i pre ih => rw [List.foldl_cons, wroteS_broken h, ih]
theorem wroteL_append (s : Dk) (o : Nat) (bs p q : List Nat) : wroteL s o bs (p ++ q) = wroteL (wroteL s o bs p) o bs q := by simp [wroteL]
theorem wroteE_inside {s : Dk} {k : Int} (x : List Nat) (h : inside s k = true) : wroteE s k = if (wroteS s k x).broken then 3 else 0 := by
 unfold wroteE wroteS
 rw [if_pos h, if_pos h]
 by_cases hw : worn s = true
 ·rw [if_pos hw, if_pos hw]
  rfl
 ·rw [if_neg hw, if_neg hw]
  have hb : s.broken = false := by
   simp [worn] at hw
   exact hw.1
  have : (laid (done s) k x).broken = false := hb
  rw [this]
  rfl
def areaS (s : Dk) (o l : Int) (bs : List Nat) : Dk := if Span.Math.good o l (dataN s : Nat) then if (bs.length : Int) = 16 * l then wroteL s o.toNat bs (List.range l.toNat) else s else s
def areaE (s : Dk) (o l : Int) (bs : List Nat) : Nat := if Span.Math.good o l (dataN s : Nat) then if (bs.length : Int) = 16 * l then if (wroteL s o.toNat bs (List.range l.toNat)).broken then 3 else 0 else 2 else 13
theorem good_of {o l n : Int} (h : Span.Math.good o l n = true) : 0 ≤ o ∧ 1 ≤ l ∧ o + l ≤ n ∧ o ≤ 1073741824 ∧ l ≤ 1073741824 := by
 simp [Span.Math.good, Span.Math.plain] at h
 omega
theorem of_good {o l n : Int} (h : 0 ≤ o ∧ 1 ≤ l ∧ o + l ≤ n ∧ o ≤ 1073741824 ∧ l ≤ 1073741824) : Span.Math.good o l n = true := by
 simp [Span.Math.good, Span.Math.plain]
 omega
theorem putS_size (s : Dk) (o l : Int) (bs : List Nat) : (areaS s o l bs).size = s.size := by
 unfold areaS
 split
 ·split
  ·exact wroteL_size _ _ _ _
  ·rfl
 ·rfl
theorem putS_ops (s : Dk) (hs : s.size ≤ 1024) (o l : Int) (bs : List Nat) : (areaS s o l bs).ops ≤ s.ops + 1024 := by
 unfold areaS
 split
 ·rename_i hg
  have hg := good_of hg
  split
  ·refine Nat.le_trans (wroteL_ops _ _ _ _) ?_
   simp [dataN] at *
   omega
  ·omega
 ·omega
theorem valid_putS {s : Dk} (h : Valid s) (o l : Int) {bs : List Nat} (hb : ∀ b ∈ bs, b < 256) : Valid (areaS s o l bs) := by
 unfold areaS
 split
 ·rename_i hg
  have hg := good_of hg
  split
  ·rename_i hl
   exact valid_wroteL h (l := l.toNat) hb (by omega) _ (fun i hi => by simpa using hi)
  ·exact h
 ·exact h
def flatL (f : Nat → List Nat) : Nat → List Nat
 | 0 => []
 | k + 1 => flatL f k ++ f k
theorem flatL_length {f : Nat → List Nat} (h : ∀ i, (f i).length = 16) : ∀ k, (flatL f k).length = 16 * k
 | 0 => rfl
 | k + 1 => by
  rw [flatL, List.length_append, flatL_length h k, h k]
  omega
theorem flatL_byte {f : Nat → List Nat} (h : ∀ i, ∀ b ∈ f i, b < 256) : ∀ k, ∀ b ∈ flatL f k, b < 256
 | 0, b, hb => by simp [flatL] at hb
 | k + 1, b, hb => by
  rw [flatL, List.mem_append] at hb
  rcases hb with hb | hb
  ·exact flatL_byte h k b hb
  ·exact h k b hb
def readF (s : Dk) (o i : Nat) : List Nat := readL s (spot o i)
theorem sec_readF {s : Dk} (h : Valid s) (o i : Nat) : Sec (readF s o i) := sec_read h _
def gotL (s : Dk) (o l : Int) : List Nat := if Span.Math.good o l (dataN s : Nat) then if s.broken then [] else flatL (readF s o.toNat) l.toNat else []
def gotE (s : Dk) (o l : Int) : Nat := if Span.Math.good o l (dataN s : Nat) then if s.broken then 3 else 0 else 13
def imgL (s : Dk) : List Nat := gotL s 0 (dataN s : Nat)
theorem inside_spot {s : Dk} {o l : Int} (hg : Span.Math.good o l (dataN s : Nat) = true) {i : Nat} (hi : i < l.toNat) : inside s (spot o.toNat i) = true := by
 have hg := good_of hg
 simp [inside, spot, dataN] at *
 omega
def over (L : List Nat) (p : Nat) (l : List Nat) : List Nat := L.take p ++ l ++ L.drop (p + l.length)
theorem over_length {L l : List Nat} {p : Nat} (h : p + l.length ≤ L.length) : (over L p l).length = L.length := by
 simp [over]
 omega
def fillL (f : Nat → List Nat) (n : Nat) (pre : List Nat) : List Nat := pre.foldl (fun L i => over L (16 * i) (f i)) (List.replicate (16 * n) 0)
theorem fillL_snoc (f : Nat → List Nat) (n : Nat) (pre : List Nat) (i : Nat) : fillL f n (pre ++ [i]) = over (fillL f n pre) (16 * i) (f i) := by simp [fillL]
theorem fillL_length {f : Nat → List Nat} (h : ∀ i, (f i).length = 16) {n : Nat} {pre : List Nat} (hp : ∀ i ∈ pre, i < n) : (fillL f n pre).length = 16 * n := by
 suffices ∀ L : List Nat, L.length = 16 * n → (pre.foldl (fun L i => over L (16 * i) (f i)) L).length = 16 * n by exact this _ (by simp)
 induction pre with
 | nil => exact fun L hL => hL
 | cons i pre ih =>
  intro L hL
  rw [List.foldl_cons]
  have hi := hp i (by simp)
  exact ih (fun j hj => hp j (by simp [hj])) _ (by rw [over_length (by rw [h, hL]; omega), hL])
theorem fillL_range {f : Nat → List Nat} (h : ∀ i, (f i).length = 16) (n : Nat) : ∀ k, k ≤ n → fillL f n (List.range k) = flatL f k ++ List.replicate (16 * (n - k)) 0
 | 0, _ => by simp [fillL, flatL]
 | k + 1, hk => by
  have hl := flatL_length h k
  rw [List.range_succ, fillL_snoc, fillL_range h n k (by omega), flatL, over]
  have e1 : (flatL f k ++ List.replicate (16 * (n - k)) 0).take (16 * k) = flatL f k := by
   rw [List.take_append_of_le_length (by omega), List.take_of_length_le (by omega)]
  have e2 : (flatL f k ++ List.replicate (16 * (n - k)) 0).drop (16 * k + (f k).length) = List.replicate (16 * (n - (k + 1))) 0 := by
   rw [h k, List.drop_append, hl, List.drop_eq_nil_of_le (by omega), List.nil_append, List.drop_replicate]
   congr 1
   omega
  rw [e1, e2]
theorem fillL_all {f : Nat → List Nat} (h : ∀ i, (f i).length = 16) (n : Nat) : fillL f n (List.range n) = flatL f n := by
 rw [fillL_range h n n (Nat.le_refl _)]
 simp
def Calm (s : Dk) : Prop := s.broken = false ∧ s.fuse < 0
theorem calm_made (n : Nat) : Calm (made n) := ⟨rfl, by simp [made]⟩
theorem Calm.wrote {s : Dk} (h : Calm s) (k : Int) (x : List Nat) : Calm (wroteS s k x) := by
 unfold wroteS
 split
 ·have hw : worn s = false := by
   have := h.2
   simp [worn, h.1]
   omega
  rw [hw]
  refine ⟨h.1, ?_⟩
  have := h.2
  simp [laid, done]
  split <;> omega
 ·exact h
theorem Calm.wroteL {s : Dk} (h : Calm s) (o : Nat) (bs : List Nat) : ∀ pre, Calm (wroteL s o bs pre) := fun pre => by
 unfold Math.wroteL
 induction pre generalizing s with
 | nil => exact h
 | cons i pre ih => rw [List.foldl_cons]; exact ih (h.wrote _ _)
theorem Calm.put {s : Dk} (h : Calm s) (o l : Int) (bs : List Nat) : Calm (areaS s o l bs) := by
 unfold areaS
 split
 ·split
  ·exact h.wroteL _ _ _
  ·exact h
 ·exact h
theorem read_wrote {s : Dk} (h : Calm s) {k : Int} (hk : inside s k = true) (x : List Nat) (j : Int) (hj : inside s j = true) : readL (wroteS s k x) j = if j = k then x else readL s j := by
 have hw : worn s = false := by
  have := h.2
  simp [worn, h.1]
  omega
 have hc := h.wrote k x
 have hi : inside (wroteS s k x) j = true := by
  have e := wroteS_size s k x
  simp only [inside, e] at hj ⊢
  exact hj
 unfold readL
 rw [if_pos hi, if_pos hj, hc.1, h.1]
 have e : wroteS s k x = laid (done s) k x := by unfold wroteS; rw [if_pos hk, hw]; rfl
 rw [e]
 simp only [Bool.false_eq_true, if_false, laid]
 by_cases hjk : j = k
 ·subst hjk
  simp [upd_same]
 ·rw [upd_other _ _ hjk, if_neg hjk]
  rfl
theorem read_wroteL {s : Dk} (h : Calm s) {o l : Int} (hg : Span.Math.good o l (dataN s : Nat) = true) (bs : List Nat) : ∀ k, k ≤ l.toNat → ∀ j : Nat, inside s (spot 0 j) = true →
  readL (Math.wroteL s o.toNat bs (List.range k)) (spot 0 j) = if o.toNat ≤ j ∧ j < o.toNat + k then piece bs (j - o.toNat) else readL s (spot 0 j)
 | 0, _, j, _ => by
  rw [if_neg (by omega)]
  rfl
 | k + 1, hk, j, hj => by
  have hin := inside_spot hg (i := k) (by omega)
  have hsz := wroteL_size s o.toNat bs (List.range k)
  have hin2 : inside (Math.wroteL s o.toNat bs (List.range k)) (spot o.toNat k) = true := by simpa only [inside, hsz] using hin
  have hj2 : inside (Math.wroteL s o.toNat bs (List.range k)) (spot 0 j) = true := by simpa only [inside, hsz] using hj
  rw [List.range_succ, wroteL_snoc, read_wrote (h.wroteL _ _ _) hin2 _ _ hj2, read_wroteL h hg bs k (by omega) j hj]
  by_cases e : j = o.toNat + k
  ·subst e
   rw [if_pos (by simp only [spot]; omega), if_pos (by omega), show o.toNat + k - o.toNat = k by omega]
  ·rw [if_neg (by simp only [spot]; omega)]
   by_cases e2 : o.toNat ≤ j ∧ j < o.toNat + k
   ·rw [if_pos e2, if_pos (by omega)]
   ·rw [if_neg e2, if_neg (by omega)]
theorem img_calm {s : Dk} (h : Calm s) (h1 : 1 ≤ dataN s) (h2 : dataN s ≤ 1024) : imgL s = flatL (readF s 0) (dataN s) := by
 unfold imgL gotL
 rw [of_good (by omega), h.1]
 simp
end Math
end Go.Proofs.YtoaeficfmcncjaaGreat
