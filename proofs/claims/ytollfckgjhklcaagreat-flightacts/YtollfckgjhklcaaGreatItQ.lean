import Derived.Test.YtollfckgjhklcaaGreatItP
import Derived.Test.YtollfckgjhklcaaGreatItF
/-
  A balanced tree in memory: its nodes, each in a block; the walks of tall, reaches, count.
-/
namespace Go.Proofs.YtollfckgjhklcaaGreat.Itree
open Go.RowKit

/-- What stands where a tree hangs. -/
def Tr.ptr : Tr → Value
  | .nil => .pointer none
  | .node b _ _ _ _ _ => .pointer (some ⟨b, 0, none⟩)
theorem ptr_nil : Tr.nil.ptr = .pointer none := rfl
theorem ptr_node (b : Nat) (x : It) (e : Int) (h : Nat) (l r : Tr) : (Tr.node b x e h l r).ptr = .pointer (some ⟨b, 0, none⟩) := rfl
def nodeC (x : It) (vl vr : Value) (e : Int) (h : Nat) : Array Value := #[.int .i64 x.o, .int .i64 x.l, .int .i64 x.i, vl, vr, .int .i64 e, .int .i64 (h : Int)]
def TrAt (W : World) : Tr → Prop
  | .nil => True
  | .node b x e h l r => Blk W b 92 (nodeC x l.ptr r.ptr e h) ∧ TrAt W l ∧ TrAt W r
theorem TrAt.kept {K : List Nat} {A B : World} (hk : Kept K A B) : ∀ {t : Tr}, TrAt A t → (∀ k ∈ t.blks, k ∉ K) → TrAt B t
  | .nil, _, _ => trivial
  | .node b x e h l r, ⟨h1, h2, h3⟩, hK => ⟨h1.kept hk (hK b (by simp [Tr.blks])), h2.kept hk (fun k hm => hK k (by simp [Tr.blks, hm])), h3.kept hk (fun k hm => hK k (by simp [Tr.blks, hm]))⟩
theorem TrAt.lt {A : World} : ∀ {t : Tr}, TrAt A t → ∀ k ∈ t.blks, k < A.heap.size
  | .nil, _, _, hk => by cases hk
  | .node b x e h l r, ⟨h1, h2, h3⟩, k, hk => by
    simp only [Tr.blks, List.mem_cons, List.mem_append] at hk
    rcases hk with rfl | hk | hk
    · exact h1.lt
    · exact h2.lt k hk
    · exact h3.lt k hk
theorem nd_cells {W : World} {b : Nat} {x : It} {vl vr : Value} {e : Int} {h : Nat} (hb : Blk W b 92 (nodeC x vl vr e h)) :
    (W.cell? ⟨b, 0, none⟩ = some (.int .i64 x.o) ∧ W.cell? ⟨b, 1, none⟩ = some (.int .i64 x.l) ∧ W.cell? ⟨b, 2, none⟩ = some (.int .i64 x.i)) ∧ W.cell? ⟨b, 3, none⟩ = some vl ∧ W.cell? ⟨b, 4, none⟩ = some vr ∧ W.cell? ⟨b, 5, none⟩ = some (.int .i64 e) ∧ W.cell? ⟨b, 6, none⟩ = some (.int .i64 (h : Int)) :=
  ⟨⟨(hb.cell 0).trans rfl, (hb.cell 1).trans rfl, (hb.cell 2).trans rfl⟩, (hb.cell 3).trans rfl, (hb.cell 4).trans rfl, (hb.cell 5).trans rfl, (hb.cell 6).trans rfl⟩
theorem nd_set3 {W : World} {b : Nat} {x : It} {vl vr : Value} {e : Int} {h : Nat} (hb : Blk W b 92 (nodeC x vl vr e h)) (u : Value) : Blk (W.setCell ⟨b, 3, none⟩ u) b 92 (nodeC x u vr e h) := hb.set 3 u
theorem nd_set4 {W : World} {b : Nat} {x : It} {vl vr : Value} {e : Int} {h : Nat} (hb : Blk W b 92 (nodeC x vl vr e h)) (u : Value) : Blk (W.setCell ⟨b, 4, none⟩ u) b 92 (nodeC x vl u e h) := hb.set 4 u
theorem nd_set5 {W : World} {b : Nat} {x : It} {vl vr : Value} {e : Int} {h : Nat} (hb : Blk W b 92 (nodeC x vl vr e h)) (u : Int) : Blk (W.setCell ⟨b, 5, none⟩ (.int .i64 u)) b 92 (nodeC x vl vr u h) := hb.set 5 _
theorem nd_set6 {W : World} {b : Nat} {x : It} {vl vr : Value} {e : Int} {h : Nat} (hb : Blk W b 92 (nodeC x vl vr e h)) (u : Nat) : Blk (W.setCell ⟨b, 6, none⟩ (.int .i64 (u : Int))) b 92 (nodeC x vl vr e u) := hb.set 6 _

theorem kept_set1 (b j : Nat) (w : World) (u : Value) : Kept [b] w (w.setCell ⟨b, j, none⟩ u) := kept_set (by simp) _ _ _

set_option maxRecDepth 100000 in
/-- tall -/
theorem tall_any (t : Tr) (w : World) (h : TrAt w t) : Calls Tryz.prog 77 #[t.ptr] w fun e w' => e = .returned (.int .i64 (t.tall : Nat)) ∧ w' = w := by
  cases t with
  | nil =>
    unfold Tr.ptr Tr.tall
    go_enter Tryz.func77, Tryz.ntmps77
    go_wp2
    go_ret
    exact ⟨rfl, rfl⟩
  | node b x e h' l r =>
    obtain ⟨h1, _, _⟩ := h
    obtain ⟨_, _, _, _, c6⟩ := nd_cells h1
    unfold Tr.ptr Tr.tall
    go_enter Tryz.func77, Tryz.ntmps77
    go_wp2
    go_ret
    exact ⟨rfl, rfl⟩
set_option maxRecDepth 100000 in
/-- reaches -/
theorem reaches_any (t : Tr) (f : Int) (w : World) (h : TrAt w t) : Calls Tryz.prog 53 #[t.ptr, .int .i64 f] w fun e w' => e = .returned (.bool (t.reach f)) ∧ w' = w := by
  cases t with
  | nil =>
    unfold Tr.ptr Tr.reach
    go_enter Tryz.func53, Tryz.ntmps53
    go_wp2
    go_ret
    exact ⟨rfl, rfl⟩
  | node b x e h' l r =>
    obtain ⟨h1, _, _⟩ := h
    obtain ⟨_, _, _, c5, _⟩ := nd_cells h1
    unfold Tr.ptr Tr.reach
    go_enter Tryz.func53, Tryz.ntmps53
    go_wp2
    go_ret
    exact ⟨rfl, rfl⟩
set_option maxRecDepth 100000 in
theorem index_two0 (a c : Value) (w : World) : (Instr.index 90 (.agg #[a, c]) (.int .i64 0)).run Tryz.prog w = .ok a w := by kernel_rfl
set_option maxRecDepth 100000 in
theorem index_two1 (a c : Value) (w : World) : (Instr.index 90 (.agg #[a, c]) (.int .i64 1)).run Tryz.prog w = .ok c w := by kernel_rfl
set_option maxRecDepth 100000 in
set_option maxHeartbeats 4000000 in
/-- count -/
theorem count_any (b : Nat) (x : It) (e : Int) (h : Nat) (l r : Tr) (w : World) (hb : Blk w b 92 (nodeC x l.ptr r.ptr e h)) (hl : TrAt w l) (hr : TrAt w r) (nl : b ∉ l.blks) (nr : b ∉ r.blks) (ml : l.tall ≤ 1000000) (mr : r.tall ≤ 1000000) (E : Int) (hE : Span.Math.endN x.o x.l = E) :
    Calls Tryz.prog 76 #[.pointer (some ⟨b, 0, none⟩)] w fun en w' => en = .returned (.tuple #[]) ∧ Blk w' b 92 (nodeC x l.ptr r.ptr (r.fin (l.fin E)) (max l.tall r.tall + 1)) ∧ Kept [b] w w' := by
  have q := Span.end_any x.o x.l w
  rw [hE] at q
  clear hE
  obtain ⟨⟨c0, c1, c2⟩, c3, c4, c5, c6⟩ := nd_cells hb
  go_enter Tryz.func76, Tryz.ntmps76
  go_wp2_with (first
    | (go_at_call 56; refine q.mono ?_; rintro e1 w1 ⟨rfl, hB⟩; have k1 := Kept.of_below hB [b]; have b1 := hb.kept (Kept.of_below hB []) (by simp); obtain ⟨⟨d0, d1, d2⟩, d3, d4, d5, d6⟩ := nd_cells b1; have f5 := b1.frozen 5; have f6 := b1.frozen 6))
  have bA := nd_set6 (nd_set5 b1 E) 1
  have kA := (k1.trans (kept_set1 b 5 w1 (.int .i64 E))).trans (kept_set1 b 6 _ (.int .i64 ((1 : Nat) : Int)))
  go_loopw [20, 3] (fun i _ wr => ∃ j : Nat, i = .int .i64 j ∧ (j = 0 ∧ Blk wr b 92 (nodeC x l.ptr r.ptr E 1) ∨ j = 1 ∧ Blk wr b 92 (nodeC x l.ptr r.ptr (l.fin E) (l.tall + 1)) ∨ j = 2 ∧ Blk wr b 92 (nodeC x l.ptr r.ptr (r.fin (l.fin E)) (max l.tall r.tall + 1))) ∧ Kept [b] w wr) (fun i _ _ => 3 - (RowKit.intOf i).toNat)
  case atStart => exact ⟨0, rfl, .inl ⟨rfl, bA⟩, kA⟩
  case round =>
    obtain ⟨j, rfl, hj, hk⟩ := hrel
    clear b1 bA kA k1 hB d0 d1 d2 d3 d4 d5 d6 f5 f6 c0 c1 c2 c3 c4 c5 c6 q
    rcases hj with ⟨rfl, hB0⟩ | ⟨rfl, hB0⟩ | ⟨rfl, hB0⟩
    · obtain ⟨_, c3, c4, c5, c6⟩ := nd_cells hB0
      have f5 := hB0.frozen 5
      have f6 := hB0.frozen 6
      have i0 := index_two0 l.ptr r.ptr
      cases l with
      | nil =>
        simp only [ptr_nil] at *
        go_wp2
        go_roundw
        case rel => exact ⟨1, by go_num, .inr (.inl ⟨rfl, hB0⟩), hk⟩
        case measure => simp [RowKit.intOf]
      | node cb cx ce ch cl cr =>
        have hcb := hl.kept hk (fun k hm he => by simp at he; subst he; exact nl hm)
        obtain ⟨_, _, _, g5, g6⟩ := nd_cells hcb.1
        change ch ≤ 1000000 at ml
        obtain ⟨M, hM⟩ : ∃ M, (if E < ce then ce else E) = M := ⟨_, rfl⟩
        have s1 := (nd_set5 hB0 M).kept (kept_drew [] _) (by simp)
        have k5 := (kept_set1 b 5 wr (.int .i64 M)).trans (kept_drew [b] _)
        replace hM : Hid _ := hM
        simp only [ptr_node] at *
        go_wp2
        go_region
        rw [hM.out]
        obtain ⟨W1, hW1⟩ : ∃ W1, (wr.setCell ⟨b, 5, none⟩ (.int .i64 M)).drew = W1 := ⟨_, rfl⟩
        rw [hW1] at s1 k5 ⊢
        clear hW1
        have hc1 := hcb.kept k5 (fun k hm he => by simp at he; subst he; exact nl hm)
        obtain ⟨_, _, _, g5', g6'⟩ := nd_cells hc1.1
        obtain ⟨_, _, _, c5', c6'⟩ := nd_cells s1
        have f6' := s1.frozen 6
        obtain ⟨H, hH⟩ : ∃ H : Nat, (if (1 : Int) < (ch : Int) + 1 then (ch : Int) + 1 else 1) = (H : Int) := ⟨ch + 1, by split <;> omega⟩
        have s2 := (nd_set6 s1 H).kept (kept_drew [] _) (by simp)
        have k6 := (kept_set1 b 6 W1 (.int .i64 (H : Int))).trans (kept_drew [b] _)
        replace hH : Hid _ := hH
        go_wp2
        go_region
        rw [hH.out]
        go_wp2
        go_roundw
        case rel => exact ⟨1, by go_num, .inr (.inl ⟨rfl, (by
          have e1 := hM.out
          have e2 := hH.out
          have e3 : max E ce = M := by rw [← e1]; split <;> omega
          have e4 : ch + 1 = H := by split at e2 <;> omega
          show Blk _ b _ (nodeC x _ _ (max E ce) (ch + 1))
          rw [e3, e4]
          exact s2)⟩), (hk.trans k5).trans k6⟩
        case measure => simp [RowKit.intOf]
    · obtain ⟨F, hF⟩ : ∃ F, l.fin E = F := ⟨_, rfl⟩
      obtain ⟨h1, hh1⟩ : ∃ h1, l.tall + 1 = h1 := ⟨_, rfl⟩
      rw [hF, hh1] at hB0
      have hb1 : h1 ≤ 1000001 := by omega
      replace hF : Hid _ := hF
      replace hh1 : Hid _ := hh1
      obtain ⟨_, c3, c4, c5, c6⟩ := nd_cells hB0
      have f5 := hB0.frozen 5
      have f6 := hB0.frozen 6
      have i0 := index_two1 l.ptr r.ptr
      cases r with
      | nil =>
        simp only [ptr_nil] at *
        go_wp2
        go_roundw
        case rel => exact ⟨2, by go_num, .inr (.inr ⟨rfl, by
          have := hh1.out
          show Blk _ b _ (nodeC x _ _ (l.fin E) (max l.tall 0 + 1))
          rw [hF.out, show max l.tall 0 + 1 = h1 by omega]
          exact hB0⟩), hk⟩
        case measure => simp [RowKit.intOf]
      | node cb cx ce ch cl cr =>
        have hcb := hr.kept hk (fun k hm he => by simp at he; subst he; exact nr hm)
        obtain ⟨_, _, _, g5, g6⟩ := nd_cells hcb.1
        change ch ≤ 1000000 at mr
        obtain ⟨M, hM⟩ : ∃ M, (if F < ce then ce else F) = M := ⟨_, rfl⟩
        have s1 := (nd_set5 hB0 M).kept (kept_drew [] _) (by simp)
        have k5 := (kept_set1 b 5 wr (.int .i64 M)).trans (kept_drew [b] _)
        replace hM : Hid _ := hM
        simp only [ptr_node] at *
        go_wp2
        go_region
        rw [hM.out]
        obtain ⟨W1, hW1⟩ : ∃ W1, (wr.setCell ⟨b, 5, none⟩ (.int .i64 M)).drew = W1 := ⟨_, rfl⟩
        rw [hW1] at s1 k5 ⊢
        clear hW1
        have hc1 := hcb.kept k5 (fun k hm he => by simp at he; subst he; exact nr hm)
        obtain ⟨_, _, _, g5', g6'⟩ := nd_cells hc1.1
        obtain ⟨_, _, _, c5', c6'⟩ := nd_cells s1
        have f6' := s1.frozen 6
        obtain ⟨H, hH⟩ : ∃ H : Nat, (if ((h1 : Int) : Int) < (ch : Int) + 1 then (ch : Int) + 1 else (h1 : Int)) = (H : Int) := ⟨max h1 (ch + 1), by split <;> omega⟩
        have s2 := (nd_set6 s1 H).kept (kept_drew [] _) (by simp)
        have k6 := (kept_set1 b 6 W1 (.int .i64 (H : Int))).trans (kept_drew [b] _)
        replace hH : Hid _ := hH
        go_wp2
        go_region
        rw [hH.out]
        go_wp2
        go_roundw
        case rel => exact ⟨2, by go_num, .inr (.inr ⟨rfl, (by
          have e1 := hM.out
          have e2 := hH.out
          have e3 : max F ce = M := by rw [← e1]; split <;> omega
          have e4 : max l.tall ch + 1 = H := by have := hh1.out; split at e2 <;> omega
          show Blk _ b _ (nodeC x _ _ (max (l.fin E) ce) (max l.tall ch + 1))
          rw [hF.out, e3, e4]
          exact s2)⟩), (hk.trans k5).trans k6⟩
        case measure => simp [RowKit.intOf]
    · go_wp2
      go_end0
      exact ⟨rfl, hB0, hk⟩
end Go.Proofs.YtollfckgjhklcaaGreat.Itree

