/-
 A mirror in memory: its own block, what flies, what waits, what is hot, the disk; bytes that lie in none of these.
-/
import Derived.Test.YtoaeficfmcncjaaGreatM32
import Derived.Test.YtoaeficfmcncjaaGreatM37
namespace Go.Proofs.YtoaeficfmcncjaaGreat.Mirror
open Go.RowKit
open Math
open Flight (Fw Fv FlAt Off)
open Later (Lw Lv QAt Foot)
open Pack (Ms Mv)
def Clean (W : World) (K : List Nat) : Prop := ∀ k ∈ K, ∀ t c, Blk W k t c → t ≠ 5 ∧ t ≠ 3
theorem clean_of {W : World} {k : Nat} {t : TypeId} {c : Array Value} (h : Blk W k t c) (h5 : t ≠ 5) (h3 : t ≠ 3) : ∀ t' c', Blk W k t' c' → t' ≠ 5 ∧ t' ≠ 3 := fun t' c' h' => by
 have e := Later.blk_type h h'
 subst e
 exact ⟨h5, h3⟩
theorem clean_map {W : World} {k : Nat} {es clock} (h : W.heap[k]? = some (.map es clock)) : ∀ t' c', Blk W k t' c' → t' ≠ 5 ∧ t' ≠ 3 := fun t' c' h' => by
 unfold Blk at h'
 rw [h] at h'
 cases h'
theorem Clean.off {W : World} {K : List Nat} (h : Clean W K) (lo hi : Nat) : ∀ k ∈ K, Off lo hi W k := fun k hk => .inr (.inr fun c hc => (h k hk 5 c hc).1 rfl)
theorem Clean.mono {W : World} {K L : List Nat} (h : Clean W K) (hs : ∀ k ∈ L, k ∈ K) : Clean W L := fun k hk => h k (hs k hk)
theorem Clean.app {W : World} {K L : List Nat} (h : Clean W K) (h' : Clean W L) : Clean W (K ++ L) := fun k hk => (List.mem_append.1 hk).elim (h k) (h' k)
theorem clean_nil (W : World) : Clean W [] := fun k hk => by cases hk
theorem Clean.foot {W : World} {K : List Nat} (h : Clean W K) : ∃ ts, Foot ts W K ∧ (5 : TypeId) ∉ ts := by
 refine ⟨K.filterMap (fun k => match W.heap[k]? with | some (Obj.cells _ t (0, 0)) => some t | _ => none), fun k hk t c hb => List.mem_filterMap.2 ⟨k, hk, by unfold Blk at hb; rw [hb]; rfl⟩, fun hm => ?_⟩
 obtain ⟨k, hk, e⟩ := List.mem_filterMap.1 hm
 split at e
 ·rename_i c t hb
  injection e with e
  subst e
  exact (h k hk 5 c hb).1 rfl
 ·cases e
theorem tr_clean {W : World} : ∀ {t : Itree.Tr}, Itree.TrAt W t → Clean W t.blks
 | .nil, _, _, hk => by cases hk
 | .node b x e h l r, ⟨h1, h2, h3⟩, k, hk => by
  simp only [Itree.Tr.blks, List.mem_cons, List.mem_append] at hk
  rcases hk with rfl | hk | hk
  ·exact clean_of h1 (by decide) (by decide)
  ·exact tr_clean h2 k hk
  ·exact tr_clean h3 k hk
theorem tt_clean {W : World} {p : Nat} {F : List Nat} {M : List Itree.It} (h : Itree.TT W p F M) : Clean W F := by
 obtain ⟨t, h1, _, _, rfl⟩ := h
 intro k hk
 rcases List.mem_cons.1 hk with rfl | hk
 ·exact clean_of h1.blk (by decide) (by decide)
 ·exact tr_clean h1.nodes k hk
theorem disk_clean {W : World} {d b1 b2 : Nat} {s : Dk} (h : DiskAt W d b1 b2 s) : Clean W [d, b1, b2] := fun k hk => by
 obtain ⟨m, h1, _⟩ := h.safe
 obtain ⟨_, _, e1⟩ := h1.isMap
 obtain ⟨_, _, e2⟩ := h.fresh.isMap
 simp only [List.mem_cons, List.not_mem_nil, or_false] at hk
 rcases hk with rfl | rfl | rfl
 ·exact clean_of h.cells (by decide) (by decide)
 ·exact clean_map e1
 ·exact clean_map e2
def Bts (W : World) (X : List Nat) (v : Value) (bs : List Nat) : Prop :=
 (∀ b ∈ bs, b < 256) ∧ ∃ a cap, v = .slice a bs.length cap ∧ (a = none → cap = 0) ∧ (bs = [] ∨ ∃ g off, a = some ⟨g, off, none⟩ ∧ bs.length ≤ cap ∧ g < W.heap.size ∧ g ∉ X ∧ ∀ j, j < bs.length → W.cell? ⟨g, off + j, none⟩ = some (.int .u8 ((bs[j]?.getD 0 : Nat) : Int)))
theorem Bts.kept {A B : World} {X X' : List Nat} {v : Value} {bs : List Nat} (h : Bts A X v bs) (hk : Kept X A B) (hX : ∀ x ∈ X', x ∈ X ∨ A.heap.size ≤ x) : Bts B X' v bs := by
 obtain ⟨hb, a, cap, e, hn, h | ⟨g, off, e2, hl, hg, hgx, hc⟩⟩ := h
 ·exact ⟨hb, a, cap, e, hn, .inl h⟩
 ·refine ⟨hb, a, cap, e, hn, .inr ⟨g, off, e2, hl, Nat.lt_of_lt_of_le hg hk.size, fun hm => ?_, fun j hj => ?_⟩⟩
  ·rcases hX g hm with h | h
   ·exact hgx h
   ·omega
  ·rw [World.cell?_of_block (w := A) (w' := B) (hk.block g hg hgx)]
   exact hc j hj
theorem Bts.kept0 {A B : World} {X : List Nat} {v : Value} {bs : List Nat} (h : Bts A X v bs) (hk : Kept [] A B) : Bts B X v bs := h.kept (hk.mono (by simp)) (fun _ h => .inl h)
theorem Bts.mono {W : World} {X Y : List Nat} {v : Value} {bs : List Nat} (h : Bts W X v bs) (hX : ∀ x ∈ Y, x ∈ X) : Bts W Y v bs := h.kept (Kept.refl _ _) (fun x hx => .inl (hX x hx))
theorem Bts.fl {W : World} {X : List Nat} {v : Value} {bs : List Nat} (h : Bts W X v bs) : Flight.ByteRow W.heap.size W v bs := by
 obtain ⟨hb, a, cap, e, hn, h | ⟨g, off, e2, hl, hg, hgx, hc⟩⟩ := h
 ·exact ⟨hb, a, cap, e, hn, .inl h⟩
 ·exact ⟨hb, a, cap, e, hn, .inr ⟨g, off, e2, hl, hg, hc⟩⟩
theorem Bts.lt {W : World} {X : List Nat} {v : Value} {bs : List Nat} (h : Bts W X v bs) : Later.ByteRow W.heap.size W v bs := by
 obtain ⟨hb, a, cap, e, hn, h | ⟨g, off, e2, hl, hg, hgx, hc⟩⟩ := h
 ·exact ⟨hb, a, cap, e, hn, .inl h⟩
 ·exact ⟨hb, a, cap, e, hn, .inr ⟨g, off, e2, hl, hg, hc⟩⟩
theorem Bts.da {W : World} {X : List Nat} {v : Value} {bs : List Nat} (h : Bts W X v bs) : ∃ lo hi, ByteRow lo hi W v bs ∧ hi ≤ W.heap.size ∧ ∀ k ∈ X, k < lo ∨ hi ≤ k := by
 obtain ⟨hb, a, cap, e, hn, h | ⟨g, off, e2, hl, hg, hgx, hc⟩⟩ := h
 ·exact ⟨0, 0, ⟨hb, a, cap, e, hn, .inl h⟩, Nat.zero_le _, fun k _ => .inr (Nat.zero_le _)⟩
 ·exact ⟨g, g + 1, ⟨hb, a, cap, e, hn, .inr ⟨g, off, e2, hl, Nat.le_refl _, Nat.lt_succ_self _, hc⟩⟩, hg, fun k hk => by
   have : k ≠ g := fun e => hgx (e ▸ hk)
   omega⟩
theorem Bts.len {W : World} {X : List Nat} {a : Option Addr} {n cap : Nat} {bs : List Nat} (h : Bts W X (.slice a n cap) bs) : n = bs.length := by
 obtain ⟨_, a', cap', e, _⟩ := h
 injection e
theorem bts_later {W : World} {X : List Nat} {v : Value} {bs : List Nat} (h : Later.Byt W v bs) (hX : Clean W X) : Bts W X v bs := by
 obtain ⟨hb, a, cap, e, hn, h | ⟨g, off, cur, e2, hl, h2, hc⟩⟩ := h
 ·exact ⟨hb, a, cap, e, hn, .inl h⟩
 ·exact ⟨hb, a, cap, e, hn, .inr ⟨g, off, e2, hl, h2.lt, fun hm => (hX g hm 5 cur h2).1 rfl, fun j hj => (h2.cell _).trans (hc j hj)⟩⟩
theorem later_flight {lo hi : Nat} {W : World} {v : Value} {bs : List Nat} (h : Flight.Byt lo hi W v bs) : Later.Byt W v bs := by
 obtain ⟨hb, a, cap, e, hn, h | ⟨g, off, cur, e2, hl, h1, h3, h2, hc⟩⟩ := h
 ·exact ⟨hb, a, cap, e, hn, .inl h⟩
 ·exact ⟨hb, a, cap, e, hn, .inr ⟨g, off, cur, e2, hl, h2, hc⟩⟩
theorem Clean.byt {A B : World} {K : List Nat} {v : Value} {bs : List Nat} (h : Clean A K) (hk : Kept K A B) (hb : Later.Byt A v bs) : Later.Byt B v bs := by
 obtain ⟨ts, hf, h5⟩ := h.foot
 exact hb.kept hk hf h5
def HotAt (W : World) (h most : Nat) (l : List Nat) : Prop := ∃ v, Hot.SetAt W h (h + 1) most v l
theorem of_hot {L : List Nat} {A B : World} (h : Hot.Kept L A B) : Kept L A B := ⟨h.os, h.tape, h.output, h.size, h.block⟩
theorem of_below {A B : World} (h : Below A.heap.size A B) : Kept [] A B := of_hot (Hot.Kept.of_below h [])
theorem HotAt.kept {K : List Nat} {A B : World} {h most : Nat} {l : List Nat} (hh : HotAt A h most l) (hk : Kept K A B) (hn : h ∉ K) (hc : Clean A K) : HotAt B h most l := by
 obtain ⟨v, h1, h2, h3, h4, h5, h6, h7⟩ := hh
 refine ⟨v, Blk.kept h1 hk hn, h2, Nat.le_trans h3 hk.size, ?_, h5, h6, h7⟩
 obtain ⟨a, cap, e, hcap, h | ⟨b, off, e2, hb, ⟨cur, hB⟩, hcells⟩⟩ := h4
 ·exact ⟨a, cap, e, hcap, .inl h⟩
 ·have hB' : Blk A b 3 cur := hB
  have hbn : b ∉ K := fun hm => (hc b hm 3 cur hB').2 rfl
  exact ⟨a, cap, e, hcap, .inr ⟨b, off, e2, hb, ⟨cur, Blk.kept hB' hk hbn⟩, fun j hj => (World.cell?_of_block (a := ⟨b, off + j, none⟩) (hk.block b hB'.lt hbn)).trans (hcells j hj)⟩⟩
theorem HotAt.lt {W : World} {h most : Nat} {l : List Nat} (hh : HotAt W h most l) : h < W.heap.size := by
 obtain ⟨v, h⟩ := hh
 exact h.cells.lt
theorem HotAt.clean {W : World} {h most : Nat} {l : List Nat} (hh : HotAt W h most l) : Clean W [h] := by
 obtain ⟨v, h1⟩ := hh
 intro k hk
 rw [List.mem_singleton] at hk
 subst hk
 exact clean_of (show Blk W k _ _ from h1.cells) (by decide) (by decide)
structure MiOp (W : World) (lo m d b1 b2 f b p q h hi : Nat) (F : List Nat) (gr : Option Nat) (M : Mr) : Prop where
 box : Blk W m 105 #[.pointer (some ⟨f, 0, none⟩), .pointer (some ⟨q, 0, none⟩), .pointer (some ⟨h, 0, none⟩), .pointer (some ⟨d, 0, none⟩), .bool M.arb]
 fly : FlAt W lo hi f b p F M.fly
 lat : QAt W lo q gr M.lat
 hot : HotAt W h M.most M.hot
 disk : DiskAt W d b1 b2 M.d
 old : d < lo ∧ b1 < lo ∧ b2 < lo
 lows : lo ≤ m ∧ lo ≤ h
 sepF : ∀ k ∈ f :: b :: F, k ≠ m ∧ k ≠ h ∧ k ∉ q :: gr.toList
 sepq : ∀ k ∈ q :: gr.toList, k ≠ m ∧ k ≠ h
 seph : h ≠ m
def own (m f b q h : Nat) (F : List Nat) (gr : Option Nat) : List Nat := m :: h :: (f :: b :: F ++ q :: gr.toList)
def MiAt (W : World) (lo m d b1 b2 : Nat) (K : List Nat) (M : Mr) : Prop := ∃ f b p q h hi F gr, K = own m f b q h F gr ∧ MiOp W lo m d b1 b2 f b p q h hi F gr M
variable {W A B : World} {lo m d b1 b2 f b p q h hi : Nat} {F K : List Nat} {gr : Option Nat} {M : Mr}
theorem MiOp.clean (H : MiOp W lo m d b1 b2 f b p q h hi F gr M) : Clean W (own m f b q h F gr) := by
 obtain ⟨_, t1, _, _⟩ := H.fly.tree
 obtain ⟨_, _, e1⟩ := H.fly.map.isMap
 obtain ⟨v, P, l1, l2, _⟩ := H.lat.blk
 intro k hk
 simp only [own, List.mem_cons, List.mem_append, List.cons_append] at hk
 rcases hk with rfl | rfl | rfl | rfl | hk | rfl | hk
 ·exact clean_of H.box (by decide) (by decide)
 ·exact H.hot.clean _ (by simp)
 ·exact clean_of H.fly.blk (by decide) (by decide)
 ·exact clean_map e1
 ·exact tt_clean t1 k hk
 ·exact clean_of l1 (by decide) (by decide)
 ·obtain ⟨_, _, c, hc⟩ := l2.low k (by simpa using hk)
  exact clean_of hc (by decide) (by decide)
theorem MiOp.low (H : MiOp W lo m d b1 b2 f b p q h hi F gr M) : ∀ k ∈ own m f b q h F gr, lo ≤ k ∧ k < W.heap.size := by
 obtain ⟨_, t1, _, _⟩ := H.fly.tree
 obtain ⟨v, P, l1, l2, _⟩ := H.lat.blk
 obtain ⟨y1, y2, y3⟩ := H.fly.young
 intro k hk
 simp only [own, List.mem_cons, List.mem_append, List.cons_append] at hk
 rcases hk with rfl | rfl | rfl | rfl | hk | rfl | hk
 ·exact ⟨H.lows.1, H.box.lt⟩
 ·exact ⟨H.lows.2, H.hot.lt⟩
 ·exact ⟨y1, H.fly.blk.lt⟩
 ·exact ⟨y2, H.fly.map.lt⟩
 ·exact ⟨y3 k hk, t1.lt k hk⟩
 ·exact ⟨H.lat.low, l1.lt⟩
 ·obtain ⟨h1, h2, _⟩ := l2.low k (by simpa using hk)
  exact ⟨h1, h2⟩
theorem MiOp.kept {L : List Nat} (H : MiOp A lo m d b1 b2 f b p q h hi F gr M) (hk : Kept L A B) (hn : ∀ k ∈ own m f b q h F gr ++ [d, b1, b2], k ∉ L) (hc : Clean A L) : MiOp B lo m d b1 b2 f b p q h hi F gr M := by
 obtain ⟨ts, hf, h5⟩ := hc.foot
 have n := fun k hk => hn k (List.mem_append.2 (.inl hk))
 have n' := fun k hk => hn k (List.mem_append.2 (.inr hk))
 refine ⟨H.box.kept hk (n m (by simp [own])), H.fly.kept hk (n f (by simp [own])) (n b (by simp [own])) (fun k hm => n k (by simp [own, hm])) (hc.off _ _), H.lat.keptN hk (n q (by simp [own])) (fun g hg => n g (by simp [own, hg])) hf h5, H.hot.kept hk (n h (by simp [own])) hc, H.disk.kept hk (n' d (by simp)) (n' b1 (by simp)) (n' b2 (by simp)), H.old, H.lows, H.sepF, H.sepq, H.seph⟩
theorem MiAt.kept {L : List Nat} (H : MiAt A lo m d b1 b2 K M) (hk : Kept L A B) (hn : ∀ k ∈ K ++ [d, b1, b2], k ∉ L) (hc : Clean A L) : MiAt B lo m d b1 b2 K M := by
 obtain ⟨f, b, p, q, h, hi, F, gr, rfl, H⟩ := H
 exact ⟨f, b, p, q, h, hi, F, gr, rfl, H.kept hk hn hc⟩
theorem MiAt.kept0 (H : MiAt A lo m d b1 b2 K M) (hk : Kept [] A B) : MiAt B lo m d b1 b2 K M := H.kept hk (by simp) (clean_nil _)
theorem MiAt.clean (H : MiAt W lo m d b1 b2 K M) : Clean W (K ++ [d, b1, b2]) := by
 obtain ⟨f, b, p, q, h, hi, F, gr, rfl, H⟩ := H
 exact H.clean.app (disk_clean H.disk)
theorem MiAt.low (H : MiAt W lo m d b1 b2 K M) : (∀ k ∈ K, lo ≤ k ∧ k < W.heap.size) ∧ d < lo ∧ b1 < lo ∧ b2 < lo := by
 obtain ⟨f, b, p, q, h, hi, F, gr, rfl, H⟩ := H
 exact ⟨H.low, H.old⟩
theorem MiAt.lt (H : MiAt W lo m d b1 b2 K M) : ∀ k ∈ K ++ [d, b1, b2], k < W.heap.size := fun k hk => by
 obtain ⟨f, b, p, q, h, hi, F, gr, rfl, H⟩ := H
 rcases List.mem_append.1 hk with hk | hk
 ·exact (H.low k hk).2
 ·have := H.disk.lt
  simp at hk
  omega
theorem MiAt.is (H : MiAt W lo m d b1 b2 K M) : m ∈ K := by
 obtain ⟨f, b, p, q, h, hi, F, gr, rfl, H⟩ := H
 simp [own]
theorem MiOp.flew {F' : List Nat} {hi' : Nat} {L : List (Int × Fw)} (H : MiOp A lo m d b1 b2 f b p q h hi F gr M) (hf : FlAt B lo hi' f b p F' L) (hF : ∀ j ∈ F', j ∈ F ∨ A.heap.size ≤ j) (hk : Kept (b :: F) A B) :
  MiOp B lo m d b1 b2 f b p q h hi' F' gr { M with fly := L } ∧ (∀ k ∈ own m f b q h F' gr, k ∈ own m f b q h F gr ∨ A.heap.size ≤ k) ∧ Kept (own m f b q h F gr) A B := by
 have hc : Clean A (b :: F) := H.clean.mono (fun k hk => by rcases List.mem_cons.1 hk with rfl | hk <;> simp [own, *])
 obtain ⟨ts, hft, h5⟩ := hc.foot
 obtain ⟨_, t1, _, _⟩ := H.fly.tree
 obtain ⟨y1, y2, y3⟩ := H.fly.young
 have s := fun k (hk : k ∈ b :: F) => H.sepF k (by simp at hk ⊢; exact .inr hk)
 have lt := H.low
 have dn : ∀ k, k < lo → k ∉ b :: F := fun k hk hm => by
  have := (lt k (by rcases List.mem_cons.1 hm with rfl | hm <;> simp [own, *])).1
  omega
 refine ⟨⟨H.box.kept hk fun hm => (s m hm).1 rfl, hf, H.lat.keptN hk (fun hm => (s q hm).2.2 (by simp)) (fun g hg hm => (s g hm).2.2 (by simp [hg])) hft h5, H.hot.kept hk (fun hm => (s h hm).2.1 rfl) hc, H.disk.kept hk (dn d H.old.1) (dn b1 H.old.2.1) (dn b2 H.old.2.2), H.old, H.lows, fun k hm => ?_, H.sepq, H.seph⟩, fun k hm => ?_, hk.mono fun k hm => ?_⟩
 ·simp only [List.mem_cons] at hm
  rcases hm with rfl | rfl | hm
  ·exact H.sepF k (by simp)
  ·exact H.sepF k (by simp)
  ·rcases hF k hm with h1 | h1
   ·exact H.sepF k (by simp [h1])
   ·have l1 := (lt m (by simp [own])).2
    have l2 := (lt h (by simp [own])).2
    refine ⟨by omega, by omega, fun hq => ?_⟩
    have := (lt k (by simp only [own, List.mem_cons, List.mem_append, List.cons_append] at hq ⊢; rcases hq with h | h <;> simp [h])).2
    omega
 ·simp only [own, List.mem_cons, List.mem_append, List.cons_append] at hm ⊢
  rcases hm with h1 | h1 | h1 | h1 | h1 | h1
  ·exact .inl (.inl h1)
  ·exact .inl (.inr (.inl h1))
  ·exact .inl (.inr (.inr (.inl h1)))
  ·exact .inl (.inr (.inr (.inr (.inl h1))))
  ·rcases hF k h1 with h2 | h2
   ·exact .inl (.inr (.inr (.inr (.inr (.inl h2)))))
   ·exact .inr h2
  ·exact .inl (.inr (.inr (.inr (.inr (.inr h1)))))
 ·simp only [own, List.mem_cons, List.mem_append, List.cons_append] at hm ⊢
  rcases hm with h1 | h1
  ·exact .inr (.inr (.inr (.inl h1)))
  ·exact .inr (.inr (.inr (.inr (.inl h1))))
theorem MiOp.waits {gr' : Option Nat} {L : List Lw} (H : MiOp A lo m d b1 b2 f b p q h hi F gr M) (hq : QAt B lo q gr' L) (hG : ∀ g, gr' = some g → gr = some g ∨ A.heap.size ≤ g) (hk : Kept (q :: gr.toList) A B) :
  MiOp B lo m d b1 b2 f b p q h hi F gr' { M with lat := L } ∧ (∀ k ∈ own m f b q h F gr', k ∈ own m f b q h F gr ∨ A.heap.size ≤ k) ∧ Kept (own m f b q h F gr) A B := by
 have hc : Clean A (q :: gr.toList) := H.clean.mono (fun k hk => by simp only [own, List.mem_cons, List.mem_append, List.cons_append] at hk ⊢; rcases hk with h | h <;> simp [h])
 have lt := H.low
 have dn : ∀ k, k < lo → k ∉ q :: gr.toList := fun k hk hm => by
  have := (lt k (by simp only [own, List.mem_cons, List.mem_append, List.cons_append] at hm ⊢; rcases hm with h | h <;> simp [h])).1
  omega
 have sF := fun k hm => (H.sepF k hm).2.2
 have hG' : ∀ k, k ∈ gr'.toList → k ∈ gr.toList ∨ A.heap.size ≤ k := fun k hm => by
  rcases hG k (by simpa using hm) with h1 | h1
  ·exact .inl (by simp [h1])
  ·exact .inr h1
 refine ⟨⟨H.box.kept hk fun hm => (H.sepq m hm).1 rfl, H.fly.kept hk (sF f (by simp)) (sF b (by simp)) (fun k hm => sF k (by simp [hm])) (hc.off _ _), hq, H.hot.kept hk (fun hm => (H.sepq h hm).2 rfl) hc, H.disk.kept hk (dn d H.old.1) (dn b1 H.old.2.1) (dn b2 H.old.2.2), H.old, H.lows, fun k hm => ?_, fun k hm => ?_, H.seph⟩, fun k hm => ?_, hk.mono fun k hm => ?_⟩
 ·obtain ⟨s1, s2, s3⟩ := H.sepF k hm
  refine ⟨s1, s2, fun hq => ?_⟩
  rcases List.mem_cons.1 hq with h1 | h1
  ·exact s3 (by simp [h1])
  ·rcases hG' k h1 with h2 | h2
   ·exact s3 (by simp at h2 ⊢; exact .inr h2)
   ·have := (lt k (by simp only [own, List.mem_cons, List.mem_append, List.cons_append] at hm ⊢; rcases hm with h | h | h <;> simp [h])).2
    omega
 ·rcases List.mem_cons.1 hm with h1 | h1
  ·exact H.sepq k (by simp [h1])
  ·rcases hG' k h1 with h2 | h2
   ·exact H.sepq k (by simp at h2 ⊢; exact .inr h2)
   ·have l1 := (lt m (by simp [own])).2
    have l2 := (lt h (by simp [own])).2
    exact ⟨by omega, by omega⟩
 ·simp only [own, List.mem_cons, List.mem_append, List.cons_append] at hm ⊢
  rcases hm with h1 | h1 | h1 | h1 | h1 | h1 | h1
  ·exact .inl (.inl h1)
  ·exact .inl (.inr (.inl h1))
  ·exact .inl (.inr (.inr (.inl h1)))
  ·exact .inl (.inr (.inr (.inr (.inl h1))))
  ·exact .inl (.inr (.inr (.inr (.inr (.inl h1)))))
  ·exact .inl (.inr (.inr (.inr (.inr (.inr (.inl h1))))))
  ·rcases hG' k h1 with h2 | h2
   ·exact .inl (.inr (.inr (.inr (.inr (.inr (.inr h2))))))
   ·exact .inr h2
 ·simp only [own, List.mem_cons, List.mem_append, List.cons_append] at hm ⊢
  rcases hm with h1 | h1 <;> simp [h1]
theorem MiOp.heated {L : List Nat} (H : MiOp A lo m d b1 b2 f b p q h hi F gr M) (hh : HotAt B h M.most L) (hk : Kept [h] A B) : MiOp B lo m d b1 b2 f b p q h hi F gr { M with hot := L } := by
 have hc : Clean A [h] := H.hot.clean
 obtain ⟨ts, hft, h5⟩ := hc.foot
 have lt := H.low
 have lh := H.lows.2
 have o := H.old
 refine ⟨H.box.kept hk (by simpa using Ne.symm H.seph), H.fly.kept hk ?_ ?_ ?_ (hc.off _ _), H.lat.keptN hk ?_ ?_ hft h5, hh, H.disk.kept hk ?_ ?_ ?_, H.old, H.lows, H.sepF, H.sepq, H.seph⟩
 ·simpa using (H.sepF f (by simp)).2.1
 ·simpa using (H.sepF b (by simp)).2.1
 ·exact fun k hm => by simpa using (H.sepF k (by simp [hm])).2.1
 ·simpa using (H.sepq q (by simp)).2
 ·exact fun g hg => by simpa using (H.sepq g (by simp [hg])).2
 ·simp; omega
 ·simp; omega
 ·simp; omega
theorem MiOp.turned {s : Dk} (H : MiOp A lo m d b1 b2 f b p q h hi F gr M) (hd : DiskAt B d b1 b2 s) (hk : Kept [d, b1, b2] A B) : MiOp B lo m d b1 b2 f b p q h hi F gr { M with d := s } := by
 have hc : Clean A [d, b1, b2] := disk_clean H.disk
 obtain ⟨ts, hft, h5⟩ := hc.foot
 have lt := H.low
 have o := H.old
 have n : ∀ k, k ∈ own m f b q h F gr → k ∉ [d, b1, b2] := fun k hm hd => by
  have := (lt k hm).1
  simp at hd
  omega
 exact ⟨H.box.kept hk (n m (by simp [own])), H.fly.kept hk (n f (by simp [own])) (n b (by simp [own])) (fun k hm => n k (by simp [own, hm])) (hc.off _ _), H.lat.keptN hk (n q (by simp [own])) (fun g hg => n g (by simp [own, hg])) hft h5, H.hot.kept hk (n h (by simp [own])) hc, hd, H.old, H.lows, H.sepF, H.sepq, H.seph⟩
theorem MiAt.disk (H : MiAt W lo m d b1 b2 K M) : DiskAt W d b1 b2 M.d := by
 obtain ⟨f, b, p, q, h, hi, F, gr, rfl, H⟩ := H
 exact H.disk
theorem MiOp.five (H : MiOp W lo m d b1 b2 f b p q h hi F gr M) : W.cell? ⟨m, 0, none⟩ = some (.pointer (some ⟨f, 0, none⟩)) ∧ W.cell? ⟨m, 1, none⟩ = some (.pointer (some ⟨q, 0, none⟩)) ∧ W.cell? ⟨m, 2, none⟩ = some (.pointer (some ⟨h, 0, none⟩)) ∧ W.cell? ⟨m, 3, none⟩ = some (.pointer (some ⟨d, 0, none⟩)) ∧ W.cell? ⟨m, 4, none⟩ = some (.bool M.arb) :=
 ⟨(H.box.cell 0).trans rfl, (H.box.cell 1).trans rfl, (H.box.cell 2).trans rfl, (H.box.cell 3).trans rfl, (H.box.cell 4).trans rfl⟩
end Go.Proofs.YtoaeficfmcncjaaGreat.Mirror
