/-
 All along a way, from its end up: slices.Backward, and the walk of settle.
-/
import Derived.Deep.AppendLies
import Derived.Test.YtoaeficfmcncjaaGreatM23
namespace Go.Proofs.YtoaeficfmcncjaaGreat.Itree
open Go.RowKit Go.Maps Go.Shelf
attribute [local go_sem] Oper.semAt_some
def Same2 (a b : Nat) (W W' : World) : Prop := W'.heap[a]? = W.heap[a]? ∧ W'.heap[b]? = W.heap[b]?
theorem same2_t {a b : Nat} {A B C : World} (h : Same2 a b A B) (k : Same2 a b B C) : Same2 a b A C := ⟨k.1.trans h.1, k.2.trans h.2⟩
theorem same2_b {a b n : Nat} (ha : a < n) (hb : b < n) (W : World) (l : Nat) (o o' : Obj) (hl : n ≤ l) (_ : W.heap[l]? = some o) (_ : o.isCells = false) (_ : o.isWalk = false) : Same2 a b W (W.putObj l o') :=
 ⟨World.putObj_heap_other (by omega), World.putObj_heap_other (by omega)⟩
theorem Kept.same2 {L : List Nat} {A B : World} {a b : Nat} (h : Kept L A B) (ha : a < A.heap.size) (hb : b < A.heap.size) (hL : a ∉ L) (hM : b ∉ L) : Same2 a b A B := ⟨h.block a ha hL, h.block b hb hM⟩
def LnsAt (W : World) (p g cap : Nat) (ls : List Ln) : Prop := ls.length ≤ cap ∧ ls.length ≤ 1000000 ∧ g < W.heap.size ∧ ∀ j l, ls[j]? = some l → W.cell? ⟨g, j, none⟩ = some (lnV p l)
theorem LnsAt.block {A B : World} {p g cap : Nat} {ls : List Ln} (h : LnsAt A p g cap ls) (hg : B.heap[g]? = A.heap[g]?) : LnsAt B p g cap ls :=
 ⟨h.1, h.2.1, by
  have h1 := h.2.2.1
  have : (A.heap[g]?).isSome = true := by simp [h1]
  rw [← hg] at this
  simpa using this, fun j l hl => (World.cell?_of_block (by exact hg)).trans (h.2.2.2 j l hl)⟩
def encB (p : Nat) (ls : List Ln) (x : Nat) : Array Value := #[.int .i64 ((ls.length - 1 - x % ls.length : Nat) : Int), lnV p (ls[ls.length - 1 - x % ls.length]?.getD .root)]
section
set_option maxRecDepth 100000
set_option maxHeartbeats 2000000 in
theorem backward1_in (F : Fence) (m : Nat) (hf : F.fn 273) (hro : F.round = none) (hm : 1 ≤ m) (l Bs p g cap n : Nat) (ls : List Ln) (hn : ls.length = n) (J Jx : List Nat → World → Prop)
  (hY : ∀ pre x W, J pre W → pre.length < n → YieldAt F (m - 1) Tryz.prog l (encB p ls x) W fun e W' =>
   (e = .returned (.bool true) ∧ J (pre ++ [x]) W' ∧ Same2 Bs g W W') ∨ (e = .returned (.bool false) ∧ Jx (pre ++ [x]) W'))
  (W : World) (hBs : Blk W Bs 276 #[.slice (some ⟨g, 0, none⟩) n cap]) (hL : LnsAt W p g cap ls) (h0 : J [] W) :
  CallsIn F m Tryz.prog 273 #[.func (.yield l) #[] #[], .pointer (some ⟨Bs, 0, none⟩)] W fun e W' => (∃ v, e = .returned v) ∧
   ((∃ ys, ys = List.range n ∧ J ys W') ∨ (∃ pre, (∃ k, k ≤ n ∧ pre = List.range k) ∧ Jx pre W')) := by
 have c1 : W.cell? ⟨Bs, 0, none⟩ = some (.slice (some ⟨g, 0, none⟩) n cap) := hBs.cell 0
 have hcap : n ≤ cap := hn ▸ hL.1
 have hmax : n ≤ 1000000 := hn ▸ hL.2.1
 refine callsIn_of_wp Tryz.func273 rfl hf ?_ hro
 simp only [Tryz.ntmps273, List.size_toArray, List.length_cons, List.length_nil, Nat.reduceAdd, Nat.reduceSub, Array.replicate_succ, Array.replicate_zero, List.push_toArray, List.append_toArray, List.nil_append, List.cons_append]
 gi_wp2
 gi_loopw [3] (fun i wr => ∃ k : Nat, k ≤ n ∧ i = .int .i64 ((n : Int) - 1 - (k : Int)) ∧ J (List.range k) wr ∧ Same2 Bs g W wr) (fun i _ => (RowKit.intOf i + 1).toNat)
 case atStart => exact ⟨0, Nat.zero_le _, by simp, h0, rfl, rfl⟩
 case round =>
  obtain ⟨k, hk, rfl, hJ, hb⟩ := hrel
  have hBr : Blk wr Bs 276 #[.slice (some ⟨g, 0, none⟩) n cap] := hb.1.trans hBs
  have hLr := hL.block hb.2
  have c0 : wr.cell? ⟨Bs, 0, none⟩ = some (.slice (some ⟨g, 0, none⟩) n cap) := hBr.cell 0
  by_cases hlt : k < n
  ·obtain ⟨fn, tmps, assign, body, hy, hR⟩ := hY _ k wr hJ (by simpa using hlt)
   obtain ⟨i, hi⟩ : ∃ i : Nat, n - 1 - k = i := ⟨_, rfl⟩
   have hin : i < n := by omega
   have hii : (n : Int) - 1 - (k : Int) = (i : Int) := by omega
   obtain ⟨ln, hln⟩ : ∃ ln, ls[i]? = some ln := ⟨_, List.getElem?_eq_getElem (by omega)⟩
   have cg := hLr.2.2.2 i ln hln
   have i1 : (i : Int) < (n : Int) := by omega
   have i2 : (0 : Int) ≤ (i : Int) := by omega
   simp only [encB, hn, Nat.mod_eq_of_lt hlt, hi, hln, Option.getD_some] at hy
   rw [hii]
   have hnx : Hid ((i : Int) - 1 = (n : Int) - 1 - ((k + 1 : Nat) : Int)) := by show _ = _; omega
   clear hY c1 hBs h0 hii hL hLr hi hn
   gi_wp2
   refine hR.mono ?_
   rintro e W3 (⟨rfl, hJ3, hs3⟩ | ⟨rfl, hJx3⟩)
   ·gi_wp2
    go_roundw
    case rel => exact ⟨k + 1, by omega, by rw [hnx.out], by rw [List.range_succ]; exact hJ3, same2_t hb hs3⟩
    case measure => simp [RowKit.intOf]
   ·gi_wp2
    refine bodyPost_ret (results_none rfl _ _ _) rfl ?_
    exact ⟨⟨_, rfl⟩, .inr ⟨_, ⟨k + 1, by omega, List.range_succ.symm⟩, hJx3⟩⟩
  ·obtain rfl : k = n := by omega
   have i1 : ¬ ((k : Int) - 1 - (k : Int) ≥ 0) := by omega
   have i2 : (k : Int) - 1 - (k : Int) = -1 := by omega
   rw [i2]
   clear i1 i2
   gi_wp2
   go_end0
   exact ⟨⟨_, rfl⟩, .inl ⟨_, rfl, hJ⟩⟩
theorem backward_stops (F : Fence) (m : Nat) (hf : F.fn 273) (hro : F.round = none) (hm : 1 ≤ m) (Bs p g cap : Nat) (ls : List Ln) (w : World) (hBs : Blk w Bs 276 #[.slice (some ⟨g, 0, none⟩) ls.length cap]) (hL : LnsAt w p g cap ls) :
  SeqStopsK F m Tryz.prog 273 #[.pointer (some ⟨Bs, 0, none⟩)] (encB p ls) (Same2 Bs g) (fun ys => ys = List.range ls.length) (fun pre => ∃ k, k ≤ ls.length ∧ pre = List.range k) ls.length w := fun l J Jx W hW _ _ hY h0 =>
 backward1_in F m hf hro hm l Bs p g cap ls.length ls rfl J Jx hY W ((hW.block Bs hBs.lt).trans hBs) (hL.block (hW.block g hL.2.2.1)) h0
set_option maxHeartbeats 1000000 in
theorem backward_any (a : Option Addr) (len cap : Nat) (w : World) :
  Calls Tryz.prog 235 #[.slice a len cap] w fun e w' => e = .returned (.func (.func 273) #[] #[.pointer (some ⟨w.heap.size, 0, none⟩)]) ∧ w' = w.alloc (.cells #[.slice a len cap] 276) := by
 go_enter Tryz.func235, Tryz.ntmps235
 go_wp2
 go_ret
 exact ⟨rfl, rfl⟩
end
def foldB (ls : List Ln) (t : Tr) (pre : List Nat) : Tr := pre.foldl (fun t x => lvAt (ls[ls.length - 1 - x % ls.length]?.getD .root) t) t
theorem foldB_snoc (ls : List Ln) (t : Tr) (pre : List Nat) (x : Nat) : foldB ls t (pre ++ [x]) = lvAt (ls[ls.length - 1 - x % ls.length]?.getD .root) (foldB ls t pre) := by simp [foldB]
theorem foldB_blks (ls : List Ln) (t : Tr) (pre : List Nat) : (foldB ls t pre).blks.Perm t.blks := by
 unfold foldB
 induction pre generalizing t with
 | nil => exact List.Perm.refl _
 | cons x pre ih => exact (ih _).trans (lvAt_blks _ _)
theorem foldB_most (ls : List Ln) (m : Nat) : ∀ (pre : List Nat) (t : Tr), t.most ≤ m → (foldB ls t pre).most ≤ m + 4 * pre.length := by
 intro pre
 induction pre generalizing m with
 | nil => intro t h; exact h
 | cons x pre ih =>
  intro t h
  have := ih (m + 4) _ (lvAt_most (ls[ls.length - 1 - x % ls.length]?.getD .root) m t h)
  simp only [List.length_cons]
  exact Nat.le_trans this (by omega)
theorem foldB_all (ls : List Ln) (t : Tr) : foldB ls t (List.range ls.length) = ls.reverse.foldl (fun t l => lvAt l t) t := by
 have e : ls.reverse = (List.range ls.length).map (fun x => ls[ls.length - 1 - x % ls.length]?.getD .root) := by
  apply List.ext_getElem
  ·simp
  ·intro i h1 h2
   simp at h1
   simp only [List.getElem_reverse, List.getElem_map, List.getElem_range, Nat.mod_eq_of_lt h1]
   rw [List.getElem?_eq_getElem (by omega)]
   rfl
 rw [e, List.foldl_map]
 rfl
theorem keepsFrom_kept {L : List Nat} {A B : World} {n : Nat} (h : Kept L A B) (hL : ∀ k ∈ L, k < n) : KeepsFrom n A B :=
 ⟨h.size, fun k o hn hk _ => (h.block k (Array.getElem?_eq_some_iff.1 hk).1 (fun hm => by have := hL k hm; omega)).trans hk⟩
theorem kept_grownB {W W' : World} {row : Option Nat} {B : Nat} (hg : W.grownBy W' row) (hr : ∀ r, row = some r → B ≤ r) : ∃ L, Kept L W W' ∧ ∀ k ∈ L, B ≤ k := by
 refine ⟨row.toList, ⟨hg.os, hg.tape, hg.output, hg.size, fun k hk hn => hg.block k hk (fun e => hn (by simp [← e]))⟩, fun k hk => hr k (by simpa using hk)⟩
theorem kept_put {W : World} {D : Nat} (o : Obj) : Kept [D] W (W.putObj D o) := by
 obtain ⟨L, h1, h2⟩ := kept_grownB (B := D) (grownBy_putObj' W D o) (fun r e => by cases e; exact Nat.le_refl _)
 refine ⟨h1.os, h1.tape, h1.output, h1.size, fun k hk hn => World.putObj_heap_other (by simpa using hn)⟩
structure Mid (W0 W : World) (p n : Nat) (t0 t : Tr) : Prop where
 tree : Whole W p n t
 kept : Kept (p :: t0.blks) W0 W
theorem Mid.grown {W0 A B : World} {row : Option Nat} {p n : Nat} {t0 t : Tr} (h : Mid W0 A p n t0 t) (hlt : ∀ k ∈ p :: t.blks, k < W0.heap.size) (hg : A.grownBy B row) (hr : ∀ r, row = some r → W0.heap.size ≤ r) : Mid W0 B p n t0 t := by
 obtain ⟨L, hk, hL⟩ := kept_grownB hg hr
 refine ⟨h.tree.kept hk (fun k hm hm2 => by have := hL k hm2; have := hlt k hm; omega), ?_⟩
 exact ⟨hk.os.trans h.kept.os, hk.tape.trans h.kept.tape, hk.output.trans h.kept.output, Nat.le_trans h.kept.size hk.size, fun i hi hn => (hk.block i (Nat.lt_of_lt_of_le hi h.kept.size) (fun hm => by have := hL i hm; omega)).trans (h.kept.block i hi hn)⟩
set_option maxRecDepth 100000 in
set_option maxHeartbeats 4000000 in
theorem settle_in (m : Nat) (hm : 3 ≤ m) (p n g cap : Nat) (t : Tr) (ls : List Ln) (w : World) (h : Whole w p n t) (hls : ∀ l ∈ ls, l.of t) (hne : ls ≠ []) (hL : LnsAt w p g cap ls) (hg : g ∉ p :: t.blks) (hmost : t.most + 4 * ls.length ≤ 700000) :
  CallsIn Fence.wide m Tryz.prog 199 #[.slice (some ⟨g, 0, none⟩) ls.length cap] w fun e w' =>
   e = .returned (.tuple #[]) ∧ Whole w' p n (foldB ls t (List.range ls.length)) ∧ Kept (p :: t.blks) w w' := by
 have h1m : 1 ≤ m := by omega
 have hro : Fence.wide.round = none := rfl
 have q := backward_any (some ⟨g, 0, none⟩) ls.length cap w
 refine callsIn_of_wp_marks Tryz.func199 rfl trivial ?_ hro
 simp only [Tryz.ntmps199, List.size_toArray, List.length_cons, List.length_nil, Nat.reduceAdd, Nat.reduceSub, Array.replicate_succ, Array.replicate_zero, List.push_toArray, List.append_toArray, List.nil_append, List.cons_append]
 gi_wp2_with (refine ⟨trivial, ?_⟩; gi_at_call 235; refine (callsIn_wide.2 q).mono ?_; rintro e w1 ⟨rfl, rfl⟩)
 obtain ⟨W0, hW0⟩ : ∃ W0, w.alloc (.cells #[.slice (some ⟨g, 0, none⟩) ls.length cap] 276) = W0 := ⟨_, rfl⟩
 have hkW : Kept [] w W0 := hW0 ▸ kept_alloc [] _ _
 have hT : Whole W0 p n t := h.kept hkW (by simp)
 have hLW : LnsAt W0 p g cap ls := hL.block (hkW.block g hL.2.2.1 (by simp))
 have hbox : Blk W0 w.heap.size 276 #[.slice (some ⟨g, 0, none⟩) ls.length cap] := hW0 ▸ blk_new w _ _
 have hltw := h.lt
 have hltW := hT.lt
 have hBs0 : w.heap.size ∉ p :: t.blks := fun hm => by have := hltw _ hm; omega
 rw [hW0]
 clear hW0 q
 obtain ⟨Bs, hBs⟩ : ∃ Bs, w.heap.size = Bs := ⟨_, rfl⟩
 rw [hBs] at hbox hBs0 ⊢
 clear hBs
 have hltB := hbox.lt
 have hltG := hLW.2.2.1
 have hpos : 0 < ls.length := by
  cases ls with
  | nil => exact absurd rfl hne
  | cons a l => simp
 refine wpIn_rangeFunc_ownG hro h1m (gf := 273) (lb := #[.pointer (some ⟨Bs, 0, none⟩)]) rfl trivial (enters_of Tryz.func273 (by kernel_rfl) rfl)
  (backward_stops Fence.wide (m - 1) trivial hro (by omega) Bs p g cap ls W0 hbox hLW) same2_t (same2_b hltB hltG) (Below.refl _ _) (fun _ => rfl)
  (fun pre W => Mid W0 W p n t (foldB ls t pre))
  (fun _ _ _ => False)
  (fun pre A B row hs hg hr => hs.grown (fun k hm => hltW k (by
   rcases List.mem_cons.1 hm with rfl | hm
   ·simp
   ·exact List.mem_cons_of_mem _ ((foldB_blks ls t pre).mem_iff.1 hm))) hg (fun r e => (hr r e).1))
  (fun _ _ _ _ _ hs _ _ => hs)
  ⟨hT, Kept.refl _ _⟩
  (fun x => { tmps := #[.slice (some ⟨g, 0, none⟩) ls.length cap, undef, undef, lnV p (ls[ls.length - 1 - x % ls.length]?.getD .root), .slice (some ⟨g, 0, none⟩) ls.length cap, .func (.func 273) #[] #[.pointer (some ⟨Bs, 0, none⟩)],
   .int .i64 ((ls.length - 1 - x % ls.length : Nat) : Int), lnV p (ls[ls.length - 1 - x % ls.length]?.getD .root), undef, undef, undef, undef, undef, undef], defers := [] }) ?assign ?body ?done ?stop
 case assign =>
  intro l x W K hK
  simp only [encB]
  gi_wp2
  exact hK
 case body =>
  rintro l pre x W hM hlt
  obtain ⟨ln, hln⟩ : ∃ ln, ls[ls.length - 1 - x % ls.length]?.getD .root = ln := ⟨_, rfl⟩
  have hmem : ln ∈ ls := by
   rw [← hln, List.getElem?_eq_getElem (by omega)]
   exact List.getElem_mem _
  have hof : ln.of (foldB ls t pre) := Ln.of_perm (hls ln hmem) (foldB_blks ls t pre)
  have hmm := foldB_most ls t.most pre t (Nat.le_refl _)
  have hd2 : 1 ≤ m - 1 - 1 := by omega
  have hsn := foldB_snoc ls t pre x
  rw [hln] at hsn ⊢
  replace hsn : Hid _ := hsn
  have hlc := level_at p n (foldB ls t pre) ln W hM.tree hof (by omega)
  have hpm := foldB_blks ls t pre
  generalize foldB ls t pre = T at *
  rcases hlc with ⟨hc, hsame⟩ | ⟨b, hc, hq⟩
  ·unfold lnV
   gi_wp2
   exact ⟨keepsFrom_kept (Kept.refl [] W) (by simp), ⟨rfl, rfl⟩, by show Mid _ _ _ _ _ (foldB ls t (pre ++ [x])); rw [hsn.out, hsame]; exact hM⟩
  ·have hsub : ∀ k ∈ p :: T.blks, k ∈ p :: t.blks := fun k hk => by
    rcases List.mem_cons.1 hk with rfl | hk
    ·simp
    ·exact List.mem_cons_of_mem _ (hpm.mem_iff.1 hk)
   have hsz := hM.kept.size
   replace hsub : Hid _ := hsub
   replace hsz : Hid _ := hsz
   unfold lnV at *
   gi_wp2_with (refine ⟨trivial, ?_⟩; gi_at_call 236; refine (CallsIn.inRound l (callsIn_wide.2 hq)).mono ?_; rintro e W' ⟨rfl, hT', hk'⟩)
   exact ⟨keepsFrom_kept hk' (fun k hk => hltW k (hsub.out k hk)), Kept.same2 hk' (Nat.lt_of_lt_of_le hltB hsz.out) (Nat.lt_of_lt_of_le hltG hsz.out) (fun hm => hBs0 (hsub.out _ hm)) (fun hm => hg (hsub.out _ hm)), by show Mid _ _ _ _ _ (foldB ls t (pre ++ [x])); rw [hsn.out]; exact ⟨hT', hM.kept.trans (hk'.mono hsub.out)⟩⟩
 case done =>
  rintro D ys W hD rfl hM hK
  gi_wp2
  refine ⟨by simp, .inl ⟨_, _, rfl, run_takeDeferred hK, ?_⟩⟩
  have hkP := kept_put (W := W) (D := D) (.deferred none)
  refine ⟨.tuple #[], results_none rfl _ _ _, rfl, hM.tree.kept hkP (fun k hm he => ?_), ?_⟩
  ·simp at he
   subst he
   have := hltW k (by
    rcases List.mem_cons.1 hm with rfl | hm
    ·simp
    ·exact List.mem_cons_of_mem _ ((foldB_blks ls t _).mem_iff.1 hm))
   omega
  ·have hz := hkW.size
   exact kept_youngs ((hkW.mono (by simp)).trans hM.kept) hkP (by simp; omega)
 case stop =>
  rintro D c pre W _ _ hx
  exact hx.elim
set_option maxRecDepth 100000 in
theorem settle_any (p n g cap : Nat) (fs : List Fr) (u : Tr) (w : World) (h : Whole w p n (plug fs u)) (hL : LnsAt w p g cap (lnks fs)) (hg : g ∉ p :: (plug fs u).blks) (hmost : (plug fs u).most + 4 * (fs.length + 1) ≤ 700000) :
  Calls Tryz.prog 199 #[.slice (some ⟨g, 0, none⟩) (fs.length + 1) cap] w fun e w' => e = .returned (.tuple #[]) ∧ Whole w' p n (settleT fs u) ∧ Kept (p :: (plug fs u).blks) w w' := by
 have hlen := lnks_length fs
 have hcn : (ctx fs).Nodup := (List.nodup_append.1 (List.nodup_cons.1 (nodup_plug.1 h.nd)).2).1
 have q := settle_in 3 (by omega) p n g cap (plug fs u) (lnks fs) w h (lnks_of fs u) (fun e => by rw [e] at hlen; simp at hlen) hL hg (by rw [hlen]; exact hmost)
 rw [foldB_all, settle_fold fs u hcn, hlen] at q
 exact callsIn_wide.1 q
end Go.Proofs.YtoaeficfmcncjaaGreat.Itree
namespace Go.Proofs.YtoaeficfmcncjaaGreat.Itree
open Go.RowKit
def cmpI (a b : Int) : Int := if a < b then -1 else if b < a then 1 else 0
def orI (a b c : Int) : Int := if a = 0 then (if b = 0 then c else b) else a
def sideI (a b : It) : Int := orI (cmpI a.o b.o) (cmpI a.l b.l) (cmpI a.i b.i)
theorem cmpI_cases (a b : Int) : (a < b ∧ cmpI a b = -1) ∨ (a = b ∧ cmpI a b = 0) ∨ (b < a ∧ cmpI a b = 1) := by
 unfold cmpI
 by_cases h : a < b
 ·exact .inl ⟨h, if_pos h⟩
 ·by_cases k : b < a
  ·exact .inr (.inr ⟨k, by rw [if_neg h, if_pos k]⟩)
  ·exact .inr (.inl ⟨by omega, by rw [if_neg h, if_neg k]⟩)
theorem sideI_cases (a b : It) : (ahead a b = true ∧ sideI a b < 0) ∨ (a = b ∧ sideI a b = 0) ∨ (ahead b a = true ∧ 0 < sideI a b) := by
 rw [ahead_iff, ahead_iff, It.eq_iff]
 unfold sideI orI
 rcases cmpI_cases a.o b.o with ⟨h1, e1⟩ | ⟨h1, e1⟩ | ⟨h1, e1⟩ <;> rcases cmpI_cases a.l b.l with ⟨h2, e2⟩ | ⟨h2, e2⟩ | ⟨h2, e2⟩ <;> rcases cmpI_cases a.i b.i with ⟨h3, e3⟩ | ⟨h3, e3⟩ | ⟨h3, e3⟩ <;> rw [e1, e2, e3] <;> simp <;> omega
section
set_option maxRecDepth 100000
theorem isNaN_any (a : Int) (w : World) : Calls Tryz.prog 261 #[.int .i64 a] w fun e w' => e = .returned (.bool false) ∧ w' = w := by
 go_enter Tryz.func261, Tryz.ntmps261
 go_wp2
 go_ret
 exact ⟨by simp, rfl⟩
set_option maxHeartbeats 1000000 in
theorem compare_any (a b : Int) (w : World) : Calls Tryz.prog 223 #[.int .i64 a, .int .i64 b] w fun e w' => e = .returned (.int .i64 (cmpI a b)) ∧ w' = w := by
 have qa := isNaN_any a w
 have qb := isNaN_any b w
 rcases cmpI_cases a b with ⟨h, e⟩ | ⟨h, e⟩ | ⟨h, e⟩
 ·rw [e]
  go_enter Tryz.func223, Tryz.ntmps223
  go_wp2_with (first
   | (go_at_call 261; refine qa.mono ?_; clear qa; rintro e w ⟨rfl, rfl⟩)
   | (go_at_call 261; refine qb.mono ?_; clear qb; rintro e w ⟨rfl, rfl⟩))
  go_ret
  exact ⟨rfl, rfl⟩
 ·subst h
  rw [e]
  go_enter Tryz.func223, Tryz.ntmps223
  go_wp2_with (first
   | (go_at_call 261; refine qa.mono ?_; clear qa; rintro e w ⟨rfl, rfl⟩)
   | (go_at_call 261; refine qb.mono ?_; clear qb; rintro e w ⟨rfl, rfl⟩))
  go_ret
  exact ⟨rfl, rfl⟩
 ·rw [e]
  have h' : ¬ a < b := by omega
  go_enter Tryz.func223, Tryz.ntmps223
  go_wp2_with (first
   | (go_at_call 261; refine qa.mono ?_; clear qa; rintro e w ⟨rfl, rfl⟩)
   | (go_at_call 261; refine qb.mono ?_; clear qb; rintro e w ⟨rfl, rfl⟩))
  go_ret
  exact ⟨rfl, rfl⟩
set_option maxHeartbeats 1000000 in
theorem orInt_any (a b c : Int) (g : Nat) (w : World) (h0 : w.cell? ⟨g, 0, none⟩ = some (.int .i64 a)) (h1 : w.cell? ⟨g, 1, none⟩ = some (.int .i64 b)) (h2 : w.cell? ⟨g, 2, none⟩ = some (.int .i64 c)) :
  Calls Tryz.prog 272 #[.slice (some ⟨g, 0, none⟩) 3 3] w fun e w' => e = .returned (.int .i64 (orI a b c)) ∧ w' = w := by
 go_enter Tryz.func272, Tryz.ntmps272
 go_wp2
 go_loopw [8, 5] (fun i _ wr => ∃ k : Nat, i = .int .i64 k ∧ (k = 0 ∨ k = 1 ∧ a = 0 ∨ k = 2 ∧ a = 0 ∧ b = 0 ∨ k = 3 ∧ a = 0 ∧ b = 0 ∧ c = 0) ∧ wr = w) (fun i _ _ => 4 - (RowKit.intOf i).toNat)
 case atStart => exact ⟨0, rfl, .inl rfl, rfl⟩
 case round =>
  obtain ⟨k, rfl, hk, rfl⟩ := hrel
  rcases hk with rfl | ⟨rfl, rfl⟩ | ⟨rfl, rfl, rfl⟩ | ⟨rfl, rfl, rfl, rfl⟩
  ·by_cases ha : a = 0
   ·subst ha
    go_wp2
    go_roundw
    case rel => exact ⟨1, by go_num, by simp, by trivial⟩
    case measure => simp [RowKit.intOf]
   ·have e1 : (a != 0) = true := by simp [ha]
    have e2 : orI a b c = a := if_neg ha
    replace e2 : Hid _ := e2
    go_wp2
    go_ret
    exact ⟨by rw [e2.out]; rfl, rfl⟩
  ·by_cases ha : b = 0
   ·subst ha
    go_wp2
    go_roundw
    case rel => exact ⟨2, by go_num, by simp, by trivial⟩
    case measure => simp [RowKit.intOf]
   ·have e1 : (b != 0) = true := by simp [ha]
    have e2 : orI 0 b c = b := (if_pos rfl).trans (if_neg ha)
    replace e2 : Hid _ := e2
    go_wp2
    go_ret
    exact ⟨by rw [e2.out]; rfl, rfl⟩
  ·by_cases ha : c = 0
   ·subst ha
    go_wp2
    go_roundw
    case rel => exact ⟨3, by go_num, by simp, by trivial⟩
    case measure => simp [RowKit.intOf]
   ·have e1 : (c != 0) = true := by simp [ha]
    go_wp2
    go_ret
    exact ⟨rfl, rfl⟩
  ·go_wp2
   go_ret
   exact ⟨rfl, rfl⟩
set_option maxHeartbeats 4000000 in
theorem against_any (a b : It) (w : World) : Calls Tryz.prog 234 #[a.val, b.val] w fun e w' => e = .returned (.int .i64 (sideI a b)) ∧ Kept [] w w' := by
 unfold It.val
 have kA := kept_alloc [] w (.cells #[.int .i64 a.o, .int .i64 a.l, .int .i64 a.i] 262)
 have bA := blk_new w 262 #[.int .i64 a.o, .int .i64 a.l, .int .i64 a.i]
 have kB := kept_alloc [] (w.alloc (.cells #[.int .i64 a.o, .int .i64 a.l, .int .i64 a.i] 262)) (.cells #[.int .i64 b.o, .int .i64 b.l, .int .i64 b.i] 262)
 have bB := blk_new (w.alloc (.cells #[.int .i64 a.o, .int .i64 a.l, .int .i64 a.i] 262)) 262 #[.int .i64 b.o, .int .i64 b.l, .int .i64 b.i]
 rw [show (w.alloc (.cells #[.int .i64 a.o, .int .i64 a.l, .int .i64 a.i] 262)).heap.size = w.heap.size + 1 by simp] at bB
 have bA' := bA.kept kB (by simp)
 have kAB := kA.trans kB
 obtain ⟨W0, hW0⟩ : ∃ W0, (w.alloc (.cells #[.int .i64 a.o, .int .i64 a.l, .int .i64 a.i] 262)).alloc (.cells #[.int .i64 b.o, .int .i64 b.l, .int .i64 b.i] 262) = W0 := ⟨_, rfl⟩
 rw [hW0] at bA' bB kAB
 go_enter Tryz.func234, Tryz.ntmps234
 go_wp2
 clear hW0 bA kA kB
 have hS : ∀ W, Kept [] W0 W → (W.cell? ⟨w.heap.size, 0, none⟩ = some (.int .i64 a.o) ∧ W.cell? ⟨w.heap.size, 1, none⟩ = some (.int .i64 a.l) ∧ W.cell? ⟨w.heap.size, 2, none⟩ = some (.int .i64 a.i)) ∧ W.cell? ⟨w.heap.size + 1, 0, none⟩ = some (.int .i64 b.o) ∧ W.cell? ⟨w.heap.size + 1, 1, none⟩ = some (.int .i64 b.l) ∧ W.cell? ⟨w.heap.size + 1, 2, none⟩ = some (.int .i64 b.i) := fun W hk =>
  ⟨⟨((bA'.kept hk (by simp)).cell 0).trans rfl, ((bA'.kept hk (by simp)).cell 1).trans rfl, ((bA'.kept hk (by simp)).cell 2).trans rfl⟩, ((bB.kept hk (by simp)).cell 0).trans rfl, ((bB.kept hk (by simp)).cell 1).trans rfl, ((bB.kept hk (by simp)).cell 2).trans rfl⟩
 have hkd := kept_drew [] W0
 have q1 := fun W => compare_any a.o b.o W
 have q2 := fun W => compare_any a.l b.l W
 have q3 := fun W => compare_any a.i b.i W
 have hs : Hid (sideI a b = orI (cmpI a.o b.o) (cmpI a.l b.l) (cmpI a.i b.i)) := rfl
 generalize cmpI a.o b.o = c1 at *
 generalize cmpI a.l b.l = c2 at *
 generalize cmpI a.i b.i = c3 at *
 have bC := (blk_new W0 3 #[.int .i64 c1, .int .i64 c2, .int .i64 c3]).kept (kept_drew [] _) (by simp)
 have q4 := orInt_any c1 c2 c3 W0.heap.size _ ((bC.cell 0).trans rfl) ((bC.cell 1).trans rfl) ((bC.cell 2).trans rfl)
 have kC := (kept_alloc [] W0 (.cells #[.int .i64 c1, .int .i64 c2, .int .i64 c3] 3)).trans (kept_drew [] _)
 go_region_held3 (fun W => (W.cell? ⟨w.heap.size, 0, none⟩ = some (.int .i64 a.o) ∧ W.cell? ⟨w.heap.size, 1, none⟩ = some (.int .i64 a.l) ∧ W.cell? ⟨w.heap.size, 2, none⟩ = some (.int .i64 a.i)) ∧ W.cell? ⟨w.heap.size + 1, 0, none⟩ = some (.int .i64 b.o) ∧ W.cell? ⟨w.heap.size + 1, 1, none⟩ = some (.int .i64 b.l) ∧ W.cell? ⟨w.heap.size + 1, 2, none⟩ = some (.int .i64 b.i)) (exact hS _ (by first | exact hkd | exact hkd.trans (kept_alloc [] _ _))) (first
  | (go_at_call_of 223 (#[.int .i64 a.o, .int .i64 b.o] : Array Value); refine (q1 _).mono ?_; rintro e5 w5 ⟨rfl, rfl⟩)
  | (go_at_call_of 223 (#[.int .i64 a.l, .int .i64 b.l] : Array Value); refine (q2 _).mono ?_; rintro e5 w5 ⟨rfl, rfl⟩)
  | (go_at_call_of 223 (#[.int .i64 a.i, .int .i64 b.i] : Array Value); refine (q3 _).mono ?_; rintro e5 w5 ⟨rfl, rfl⟩)
  | (go_at_call 272; refine q4.mono ?_; rintro e6 w6 ⟨rfl, rfl⟩))
 go_wp2
 go_ret
 exact ⟨by rw [hs.out]; rfl, kAB.trans kC⟩
theorem isMade_any (p n : Nat) (t : Tr) (w : World) (h : Whole w p n t) : Calls Tryz.prog 176 #[.pointer (some ⟨p, 0, none⟩)] w fun e w' => e = .returned (.bool true) ∧ w' = w := by
 have c0 := (h.blk.cell 0).trans (show _ = some (Value.bool true) from rfl)
 go_enter Tryz.func176, Tryz.ntmps176
 go_wp2
 go_ret
 exact ⟨rfl, rfl⟩
theorem hasSector_any (x : It) (w : World) : Calls Tryz.prog 177 #[.agg #[.int .i64 x.o, .int .i64 x.l]] w fun e w' => e = .returned (.bool (good x)) ∧ Kept [] w w' := by
 have k1 := kept_alloc [] w (.cells #[.int .i64 x.o, .int .i64 x.l] 44)
 have b1 := blk_new w 44 #[.int .i64 x.o, .int .i64 x.l]
 have q := Span.plain_any x.o x.l (w.alloc (.cells #[.int .i64 x.o, .int .i64 x.l] 44))
 unfold good
 cases hp : Span.Math.plain x.o x.l with
 | false =>
  rw [hp] at q
  go_enter Tryz.func177, Tryz.ntmps177
  go_wp2_with (go_at_call 181; refine q.mono ?_; rintro e w1 ⟨rfl, hB⟩)
  go_ret
  exact ⟨rfl, k1.trans (Kept.of_below hB [])⟩
 | true =>
  rw [hp] at q
  have hd : Hid ((true && decide (1 ≤ x.l)) = decide (0 < x.l)) := (show _ = _ by rw [Bool.true_and]; congr 1)
  go_enter Tryz.func177, Tryz.ntmps177
  go_wp2_with (go_at_call 181; refine q.mono ?_; rintro e w1 ⟨rfl, hB⟩; have c1 := ((b1.kept (Kept.of_below hB []) (by simp)).cell 1).trans (show _ = some (Value.int .i64 x.l) from rfl))
  go_ret
  exact ⟨by rw [hd.out]; rfl, k1.trans (Kept.of_below hB [])⟩
theorem last_any (g n cap : Nat) (u : Value) (w : World) (h1 : n + 1 ≤ 1000000) (hc : w.cell? ⟨g, n, none⟩ = some u) : Calls Tryz.prog 198 #[.slice (some ⟨g, 0, none⟩) (n + 1) cap] w fun e w' => e = .returned u ∧ w' = w := by
 obtain ⟨m, hm⟩ : ∃ m, n + 1 = m := ⟨_, rfl⟩
 rw [hm] at h1 ⊢
 have e1 : ((m : Nat) : Int) - 1 = (n : Int) := by omega
 have e2 : (n : Int) < (m : Int) := by omega
 clear hm
 go_enter Tryz.func198, Tryz.ntmps198
 go_wp2
 go_ret
 exact ⟨rfl, rfl⟩
set_option maxHeartbeats 1000000 in
theorem or_any (a b : Option Addr) (g : Nat) (w : World) (h0 : w.cell? ⟨g, 0, none⟩ = some (.pointer a)) (h1 : w.cell? ⟨g, 1, none⟩ = some (.pointer b)) :
  Calls Tryz.prog 252 #[.slice (some ⟨g, 0, none⟩) 2 2] w fun e w' => e = .returned (.pointer (if a = none then b else a)) ∧ w' = w := by
 go_enter Tryz.func252, Tryz.ntmps252
 go_wp2
 go_loopw [8, 5] (fun i _ wr => ∃ k : Nat, i = .int .i64 k ∧ (k = 0 ∨ k = 1 ∧ a = none ∨ k = 2 ∧ a = none ∧ b = none) ∧ wr = w) (fun i _ _ => 3 - (RowKit.intOf i).toNat)
 case atStart => exact ⟨0, rfl, .inl rfl, rfl⟩
 case round =>
  obtain ⟨k, rfl, hk, rfl⟩ := hrel
  rcases hk with rfl | ⟨rfl, rfl⟩ | ⟨rfl, rfl, rfl⟩
  ·cases a with
   | none =>
    go_wp2
    go_roundw
    case rel => exact ⟨1, by go_num, by simp, by trivial⟩
    case measure => simp [RowKit.intOf]
   | some a =>
    go_wp2
    go_ret
    exact ⟨by simp, rfl⟩
  ·cases b with
   | none =>
    go_wp2
    go_roundw
    case rel => exact ⟨2, by go_num, by simp, by trivial⟩
    case measure => simp [RowKit.intOf]
   | some a =>
    go_wp2
    go_ret
    exact ⟨by simp, rfl⟩
  ·go_wp2
   go_ret
   exact ⟨by simp, rfl⟩
end
end Go.Proofs.YtoaeficfmcncjaaGreat.Itree
