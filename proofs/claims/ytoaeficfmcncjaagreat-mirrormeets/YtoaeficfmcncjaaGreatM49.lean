/-
 Plain facts on a disk that is whole, and on which nothing is cached: a write laid, the log written, what is read.
-/
import Derived.Test.YtoaeficfmcncjaaGreatM18
namespace Go.Proofs.YtoaeficfmcncjaaGreat.Mirror
open Math
open Later (Lw)
structure Dry (d : Dk) : Prop where
 valid : Valid d
 calm : Math.Calm d
 dry : ∀ k, d.fresh k = none
def sect (d : Dk) (j : Nat) : List Nat := readL d (spot 0 j)
theorem bit_full (i : Nat) : bit full i = true := by
 have h : ∀ j, j < 64 → full / 2 ^ j % 2 = 1 := by decide
 simp only [bit]
 exact decide_eq_true (h (i % 64) (Nat.mod_lt _ (by decide)))
theorem worn_calm {d : Dk} (h : Math.Calm d) : worn d = false := by
 have := h.2
 simp [worn, h.1]
 omega
theorem flush_calm {d : Dk} (hv : Valid d) (h : Math.Calm d) : flushE d = 0 ∧ Dry (flushS d) ∧ (flushS d).size = d.size ∧ ∀ j, readL (flushS d) j = readL d j := by
 have hw := worn_calm h
 have e : flushS d = spent (done d) full := by unfold flushS; rw [hw]; rfl
 refine ⟨by unfold flushE; rw [hw]; rfl, ⟨by rw [e]; exact valid_spent (valid_done hv) _, ?_, by rw [e]; exact fun _ => rfl⟩, by rw [e]; rfl, fun j => ?_⟩
 ·rw [e]
  refine ⟨h.1, ?_⟩
  have := h.2
  show (if 0 < d.fuse then d.fuse - 1 else d.fuse) < 0
  split <;> omega
 ·rw [e]
  unfold readL
  have hi : inside (spent (done d) full) j = inside d j := rfl
  have hb : (spent (done d) full).broken = d.broken := rfl
  rw [hi, hb]
  by_cases hj : inside d j = true
  ·rw [if_pos hj, if_pos hj, h.1]
   simp only [Bool.false_eq_true, if_false]
   show (none : Option (List Nat)).getD (settled (done d) full j) = _
   unfold settled
   have hf : (done d).fresh j = d.fresh j := rfl
   have hs : (done d).safe j = d.safe j := rfl
   rw [hf, hs]
   cases d.fresh j with
   | none => rfl
   | some x => simp [bit_full]
  ·rw [if_neg hj, if_neg hj]
theorem inside_at {d : Dk} {j : Nat} (h : j < dataN d) : inside d (spot 0 j) = true := by
 have h' : j < d.size - 8 := h
 simp only [inside, spot, Bool.and_eq_true]
 exact ⟨decide_eq_true (by omega), decide_eq_true (by omega)⟩
theorem store_good {d : Dk} (h : Dry d) {w : Lw} (hg : Span.Math.good w.o w.l (dataN d : Nat) = true) (hl : (w.bs.length : Int) = 16 * w.l) (hb : ∀ b ∈ w.bs, b < 256) :
  storeE d w = 0 ∧ Dry (storeS d w) ∧ (storeS d w).size = d.size ∧ ∀ j, j < dataN d → sect (storeS d w) j = if w.o.toNat ≤ j ∧ j < w.o.toNat + w.l.toNat then piece w.bs (j - w.o.toNat) else sect d j := by
 have hput : areaS d w.o w.l w.bs = Math.wroteL d w.o.toNat w.bs (List.range w.l.toNat) := by unfold areaS; rw [if_pos hg, if_pos hl]
 have hE : areaE d w.o w.l w.bs = 0 := by unfold areaE; rw [if_pos hg, if_pos hl, (h.calm.wroteL _ _ _).1]; rfl
 obtain ⟨f1, f2, f3, f4⟩ := flush_calm (valid_putS h.valid w.o w.l hb) (h.calm.put w.o w.l w.bs)
 unfold storeE storeS
 rw [if_pos hE, if_pos hE]
 refine ⟨f1, f2, by rw [f3, putS_size], fun j hj => ?_⟩
 unfold sect
 rw [f4, hput]
 exact read_wroteL h.calm hg w.bs w.l.toNat (Nat.le_refl _) j (inside_at hj)
theorem log_dry {d : Dk} (h : Dry d) (m : Nat) : Dry (logS d m) ∧ (logS d m).size = d.size ∧ ∀ j, j < dataN d → sect (logS d m) j = sect d j := by
 have H : Dry d ∧ d.size = d.size ∧ ∀ j, j < dataN d → sect d j = sect d j := ⟨h, rfl, fun _ _ => rfl⟩
 unfold logS
 split
 ·exact H
 split
 ·exact H
 unfold putS
 split
 ·rename_i hr
  split
  ·exact H
  simp only [hasRing, Bool.and_eq_true, decide_eq_true_eq] at hr
  have hk : 0 ≤ putK d 2 4 ∧ putK d 2 4 < 8 ∧ putK d 2 4 < d.size := by
   unfold putK
   omega
  have hi : inside d (putK d 2 4) = true := by
   simp only [inside, Bool.and_eq_true, decide_eq_true_eq]
   omega
  have hx : Sec (putX d 2 4 m) := sec_record _ _
  have hw := worn_calm h.calm
  have he : wroteE d (putK d 2 4) = 0 := by unfold wroteE; rw [if_pos hi, hw]; rfl
  unfold putsS
  rw [if_pos he]
  obtain ⟨-, f2, f3, f4⟩ := flush_calm (valid_wrote h.valid (putK d 2 4) hx) (h.calm.wrote (putK d 2 4) (putX d 2 4 m))
  refine ⟨f2, by rw [f3, wroteS_size], fun j hj => ?_⟩
  unfold sect
  rw [f4, read_wrote h.calm hi _ _ (inside_at hj), if_neg]
  simp only [spot]
  omega
 ·exact H
theorem img_same {a b : Dk} (ha : Dry a) (hb : Dry b) {n : Nat} (h1 : 1 ≤ n) (ea : dataN a = n) (eb : dataN b = n) (h : ∀ j, j < n → sect a j = sect b j) : imgL a = imgL b := by
 have ta := ha.valid.top
 have hn : n ≤ 1024 := by unfold dataN at ea; omega
 rw [img_calm ha.calm (by omega) (by omega), img_calm hb.calm (by omega) (by omega), ea, eb]
 have key : ∀ k, k ≤ n → flatL (readF a 0) k = flatL (readF b 0) k := fun k => by
  induction k with
  | zero => exact fun _ => rfl
  | succ k ih =>
   intro hk
   unfold flatL
   rw [ih (by omega)]
   have := h k (by omega)
   unfold sect at this
   unfold readF
   rw [this]
 exact key n (Nat.le_refl _)
theorem keys_dry {d : Dk} (h : Dry d) : keys d = [] := below_none _ _ h.dry
end Go.Proofs.YtoaeficfmcncjaaGreat.Mirror
