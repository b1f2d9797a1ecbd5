/-
 The document's Insert and Delete: rows joined, a row put in its place.
-/
import Derived.Laws.AppendOwnNone
import Derived.Lib.AppendZeros
import Derived.Test.YtoaeficfmcncjaaGreatM20
import Derived.Test.YtoaeficfmcncjaaGreatM21
namespace Go.Proofs.YtoaeficfmcncjaaGreat.Itree
open Go.RowKit
section
variable {ops : Array Oper} {rest : List Oper} {o : Oper} {a : Act} {w : World} {Q : Exit → Act → World → Prop}
end
theorem kept_grown {w w' : World} {v : Value} {base n : Nat} {e : TypeId} {z k : Nat} {l : List Value} (hown : w.ownsRow base e z v k l) (hg : w.grownBy w' v.ownBlock) (w0 : World) (h0 : Kept [] w0 w) (hb : w0.heap.size ≤ base) (_ : n = base) : Kept [] w0 w' :=
 ⟨hg.os.trans h0.os, hg.tape.trans h0.tape, hg.output.trans h0.output, Nat.le_trans h0.size hg.size, fun j hj _ => (hg.block j (Nat.lt_of_lt_of_le hj h0.size) (fun e => by have := (hown.lt j e.symm).1; omega)).trans (h0.block j hj (by simp))⟩
end Go.Proofs.YtoaeficfmcncjaaGreat.Itree
namespace Go.Proofs.YtoaeficfmcncjaaGreat.Itree
open Go.RowKit
section
variable {ops : Array Oper} {rest : List Oper} {o : Oper} {a : Act} {w : World} {Q : Exit → Act → World → Prop}
end
end Go.Proofs.YtoaeficfmcncjaaGreat.Itree
namespace Go.Proofs.YtoaeficfmcncjaaGreat.Itree
open Go.RowKit
theorem kept_youngs {L M : List Nat} {a b c : World} (h : Kept L a b) (k : Kept M b c) (hM : ∀ x ∈ M, x ∈ L ∨ a.heap.size ≤ x) : Kept L a c :=
 ⟨k.os.trans h.os, k.tape.trans h.tape, k.output.trans h.output, Nat.le_trans h.size k.size, fun i hi hL => (k.block i (Nat.lt_of_lt_of_le hi h.size) (fun hm => by
  rcases hM i hm with e | e
  ·exact hL e
  ·omega)).trans (h.block i hi hL)⟩
def Tr.ptr : Tr → Value
 | .nil => .pointer none
 | .node b _ _ _ _ _ => .pointer (some ⟨b, 0, none⟩)
theorem ptr_nil : Tr.nil.ptr = .pointer none := rfl
theorem ptr_node (b : Nat) (x : It) (e : Int) (h : Nat) (l r : Tr) : (Tr.node b x e h l r).ptr = .pointer (some ⟨b, 0, none⟩) := rfl
def nodeC (x : It) (vl vr : Value) (e : Int) (h : Nat) : Array Value := #[.int .i64 x.o, .int .i64 x.l, .int .i64 x.i, vl, vr, .int .i64 e, .int .i64 (h : Int)]
def TrAt (W : World) : Tr → Prop
 | .nil => True
 | .node b x e h l r => Blk W b 265 (nodeC x l.ptr r.ptr e h) ∧ TrAt W l ∧ TrAt W r
theorem TrAt.kept {K : List Nat} {A B : World} (hk : Kept K A B) : ∀ {t : Tr}, TrAt A t → (∀ k ∈ t.blks, k ∉ K) → TrAt B t
 | .nil, _, _ => trivial
 | .node b x e h l r, ⟨h1, h2, h3⟩, hK => ⟨h1.kept hk (hK b (by simp [Tr.blks])), h2.kept hk (fun k hm => hK k (by simp [Tr.blks, hm])), h3.kept hk (fun k hm => hK k (by simp [Tr.blks, hm]))⟩
theorem TrAt.lt {A : World} : ∀ {t : Tr}, TrAt A t → ∀ k ∈ t.blks, k < A.heap.size
 | .nil, _, _, hk => by cases hk
 | .node b x e h l r, ⟨h1, h2, h3⟩, k, hk => by
  simp only [Tr.blks, List.mem_cons, List.mem_append] at hk
  rcases hk with rfl | hk | hk
  ·exact h1.lt
  ·exact h2.lt k hk
  ·exact h3.lt k hk
theorem max_if (a b : Int) : max a b = if a < b then b else a := by split <;> omega
theorem nd_cells {W : World} {b : Nat} {x : It} {vl vr : Value} {e : Int} {h : Nat} (hb : Blk W b 265 (nodeC x vl vr e h)) :
  (W.cell? ⟨b, 0, none⟩ = some (.int .i64 x.o) ∧ W.cell? ⟨b, 1, none⟩ = some (.int .i64 x.l) ∧ W.cell? ⟨b, 2, none⟩ = some (.int .i64 x.i)) ∧ W.cell? ⟨b, 3, none⟩ = some vl ∧ W.cell? ⟨b, 4, none⟩ = some vr ∧ W.cell? ⟨b, 5, none⟩ = some (.int .i64 e) ∧ W.cell? ⟨b, 6, none⟩ = some (.int .i64 (h : Int)) :=
 ⟨⟨(hb.cell 0).trans rfl, (hb.cell 1).trans rfl, (hb.cell 2).trans rfl⟩, (hb.cell 3).trans rfl, (hb.cell 4).trans rfl, (hb.cell 5).trans rfl, (hb.cell 6).trans rfl⟩
theorem nd_set3 {W : World} {b : Nat} {x : It} {vl vr : Value} {e : Int} {h : Nat} (hb : Blk W b 265 (nodeC x vl vr e h)) (u : Value) : Blk (W.setCell ⟨b, 3, none⟩ u) b 265 (nodeC x u vr e h) := hb.set 3 u
theorem nd_set4 {W : World} {b : Nat} {x : It} {vl vr : Value} {e : Int} {h : Nat} (hb : Blk W b 265 (nodeC x vl vr e h)) (u : Value) : Blk (W.setCell ⟨b, 4, none⟩ u) b 265 (nodeC x vl u e h) := hb.set 4 u
theorem nd_set5 {W : World} {b : Nat} {x : It} {vl vr : Value} {e : Int} {h : Nat} (hb : Blk W b 265 (nodeC x vl vr e h)) (u : Int) : Blk (W.setCell ⟨b, 5, none⟩ (.int .i64 u)) b 265 (nodeC x vl vr u h) := hb.set 5 _
theorem nd_set6 {W : World} {b : Nat} {x : It} {vl vr : Value} {e : Int} {h : Nat} (hb : Blk W b 265 (nodeC x vl vr e h)) (u : Nat) : Blk (W.setCell ⟨b, 6, none⟩ (.int .i64 (u : Int))) b 265 (nodeC x vl vr e u) := hb.set 6 _
theorem kept_set1 (b j : Nat) (w : World) (u : Value) : Kept [b] w (w.setCell ⟨b, j, none⟩ u) := kept_set (by simp) _ _ _
section
set_option maxRecDepth 100000
theorem tall_any (t : Tr) (w : World) (h : TrAt w t) : Calls Tryz.prog 275 #[t.ptr] w fun e w' => e = .returned (.int .i64 (t.tall : Nat)) ∧ w' = w := by
 cases t with
 | nil =>
  unfold Tr.ptr Tr.tall
  go_enter Tryz.func275, Tryz.ntmps275
  go_wp2
  go_ret
  exact ⟨rfl, rfl⟩
 | node b x e h' l r =>
  obtain ⟨h1, _, _⟩ := h
  obtain ⟨_, _, _, _, c6⟩ := nd_cells h1
  unfold Tr.ptr Tr.tall
  go_enter Tryz.func275, Tryz.ntmps275
  go_wp2
  go_ret
  exact ⟨rfl, rfl⟩
theorem reaches_any (t : Tr) (f : Int) (w : World) (h : TrAt w t) : Calls Tryz.prog 179 #[t.ptr, .int .i64 f] w fun e w' => e = .returned (.bool (t.reach f)) ∧ w' = w := by
 cases t with
 | nil =>
  unfold Tr.ptr Tr.reach
  go_enter Tryz.func179, Tryz.ntmps179
  go_wp2
  go_ret
  exact ⟨rfl, rfl⟩
 | node b x e h' l r =>
  obtain ⟨h1, _, _⟩ := h
  obtain ⟨_, _, _, c5, _⟩ := nd_cells h1
  unfold Tr.ptr Tr.reach
  go_enter Tryz.func179, Tryz.ntmps179
  go_wp2
  go_ret
  exact ⟨rfl, rfl⟩
theorem index_two0 (a c : Value) (w : World) : (Instr.index 263 (.agg #[a, c]) (.int .i64 0)).run Tryz.prog w = .ok a w := by kernel_rfl
theorem index_two1 (a c : Value) (w : World) : (Instr.index 263 (.agg #[a, c]) (.int .i64 1)).run Tryz.prog w = .ok c w := by kernel_rfl
set_option maxHeartbeats 4000000 in
theorem count_any (b : Nat) (x : It) (e : Int) (h : Nat) (l r : Tr) (w : World) (hb : Blk w b 265 (nodeC x l.ptr r.ptr e h)) (hl : TrAt w l) (hr : TrAt w r) (nl : b ∉ l.blks) (nr : b ∉ r.blks) (ml : l.tall ≤ 1000000) (mr : r.tall ≤ 1000000) (E : Int) (hE : Span.Math.endN x.o x.l = E) :
  Calls Tryz.prog 274 #[.pointer (some ⟨b, 0, none⟩)] w fun en w' => en = .returned (.tuple #[]) ∧ Blk w' b 265 (nodeC x l.ptr r.ptr (r.fin (l.fin E)) (max l.tall r.tall + 1)) ∧ Kept [b] w w' := by
 have q := Span.end_any x.o x.l w
 rw [hE] at q
 clear hE
 obtain ⟨⟨c0, c1, c2⟩, c3, c4, c5, c6⟩ := nd_cells hb
 go_enter Tryz.func274, Tryz.ntmps274
 go_wp2_with (first
  | (go_at_call 182; refine q.mono ?_; rintro e1 w1 ⟨rfl, hB⟩; have k1 := Kept.of_below hB [b]; have b1 := hb.kept (Kept.of_below hB []) (by simp); obtain ⟨⟨d0, d1, d2⟩, d3, d4, d5, d6⟩ := nd_cells b1; have f5 := b1.frozen 5; have f6 := b1.frozen 6))
 have bA := nd_set6 (nd_set5 b1 E) 1
 have kA := (k1.trans (kept_set1 b 5 w1 (.int .i64 E))).trans (kept_set1 b 6 _ (.int .i64 ((1 : Nat) : Int)))
 go_loopw [20, 3] (fun i _ wr => ∃ j : Nat, i = .int .i64 j ∧ (j = 0 ∧ Blk wr b 265 (nodeC x l.ptr r.ptr E 1) ∨ j = 1 ∧ Blk wr b 265 (nodeC x l.ptr r.ptr (l.fin E) (l.tall + 1)) ∨ j = 2 ∧ Blk wr b 265 (nodeC x l.ptr r.ptr (r.fin (l.fin E)) (max l.tall r.tall + 1))) ∧ Kept [b] w wr) (fun i _ _ => 3 - (RowKit.intOf i).toNat)
 case atStart => exact ⟨0, rfl, .inl ⟨rfl, bA⟩, kA⟩
 case round =>
  obtain ⟨j, rfl, hj, hk⟩ := hrel
  clear b1 bA kA k1 hB d0 d1 d2 d3 d4 d5 d6 f5 f6 c0 c1 c2 c3 c4 c5 c6 q
  rcases hj with ⟨rfl, hB0⟩ | ⟨rfl, hB0⟩ | ⟨rfl, hB0⟩
  ·obtain ⟨_, c3, c4, c5, c6⟩ := nd_cells hB0
   have f5 := hB0.frozen 5
   have f6 := hB0.frozen 6
   have i0 := index_two0 l.ptr r.ptr
   cases l with
   | nil =>
    simp only [ptr_nil] at *
    go_wp2
    go_roundw
    case rel => exact ⟨1, by go_num, .inr (.inl ⟨rfl, hB0⟩), hk⟩
    case measure => simp [RowKit.intOf]
   | node cb cx ce ch cl cr =>
    have hcb := hl.kept hk (fun k hm he => by simp at he; subst he; exact nl hm)
    obtain ⟨_, _, _, g5, g6⟩ := nd_cells hcb.1
    change ch ≤ 1000000 at ml
    obtain ⟨M, hM⟩ : ∃ M, (if E < ce then ce else E) = M := ⟨_, rfl⟩
    have s1 := (nd_set5 hB0 M).kept (kept_drew [] _) (by simp)
    have k5 := (kept_set1 b 5 wr (.int .i64 M)).trans (kept_drew [b] _)
    replace hM : Hid _ := hM
    simp only [ptr_node] at *
    go_wp2
    go_region
    try simp only [max_if]
    rw [hM.out]
    obtain ⟨W1, hW1⟩ : ∃ W1, (wr.setCell ⟨b, 5, none⟩ (.int .i64 M)).drew = W1 := ⟨_, rfl⟩
    rw [hW1] at s1 k5 ⊢
    clear hW1
    have hc1 := hcb.kept k5 (fun k hm he => by simp at he; subst he; exact nl hm)
    obtain ⟨_, _, _, g5', g6'⟩ := nd_cells hc1.1
    obtain ⟨_, _, _, c5', c6'⟩ := nd_cells s1
    have f6' := s1.frozen 6
    obtain ⟨H, hH⟩ : ∃ H : Nat, (if (1 : Int) < (ch : Int) + 1 then (ch : Int) + 1 else 1) = (H : Int) := ⟨ch + 1, by split <;> omega⟩
    have s2 := (nd_set6 s1 H).kept (kept_drew [] _) (by simp)
    have k6 := (kept_set1 b 6 W1 (.int .i64 (H : Int))).trans (kept_drew [b] _)
    replace hH : Hid _ := hH
    go_wp2
    go_region
    try simp only [max_if]
    rw [hH.out]
    go_wp2
    go_roundw
    case rel => exact ⟨1, by go_num, .inr (.inl ⟨rfl, (by
     have e1 := hM.out
     have e2 := hH.out
     have e3 : max E ce = M := by rw [← e1]; split <;> omega
     have e4 : ch + 1 = H := by split at e2 <;> omega
     show Blk _ b _ (nodeC x _ _ (max E ce) (ch + 1))
     rw [e3, e4]
     exact s2)⟩), (hk.trans k5).trans k6⟩
    case measure => simp [RowKit.intOf]
  ·obtain ⟨F, hF⟩ : ∃ F, l.fin E = F := ⟨_, rfl⟩
   obtain ⟨h1, hh1⟩ : ∃ h1, l.tall + 1 = h1 := ⟨_, rfl⟩
   rw [hF, hh1] at hB0
   have hb1 : h1 ≤ 1000001 := by omega
   replace hF : Hid _ := hF
   replace hh1 : Hid _ := hh1
   obtain ⟨_, c3, c4, c5, c6⟩ := nd_cells hB0
   have f5 := hB0.frozen 5
   have f6 := hB0.frozen 6
   have i0 := index_two1 l.ptr r.ptr
   cases r with
   | nil =>
    simp only [ptr_nil] at *
    go_wp2
    go_roundw
    case rel => exact ⟨2, by go_num, .inr (.inr ⟨rfl, by
     have := hh1.out
     show Blk _ b _ (nodeC x _ _ (l.fin E) (max l.tall 0 + 1))
     rw [hF.out, show max l.tall 0 + 1 = h1 by omega]
     exact hB0⟩), hk⟩
    case measure => simp [RowKit.intOf]
   | node cb cx ce ch cl cr =>
    have hcb := hr.kept hk (fun k hm he => by simp at he; subst he; exact nr hm)
    obtain ⟨_, _, _, g5, g6⟩ := nd_cells hcb.1
    change ch ≤ 1000000 at mr
    obtain ⟨M, hM⟩ : ∃ M, (if F < ce then ce else F) = M := ⟨_, rfl⟩
    have s1 := (nd_set5 hB0 M).kept (kept_drew [] _) (by simp)
    have k5 := (kept_set1 b 5 wr (.int .i64 M)).trans (kept_drew [b] _)
    replace hM : Hid _ := hM
    simp only [ptr_node] at *
    go_wp2
    go_region
    try simp only [max_if]
    rw [hM.out]
    obtain ⟨W1, hW1⟩ : ∃ W1, (wr.setCell ⟨b, 5, none⟩ (.int .i64 M)).drew = W1 := ⟨_, rfl⟩
    rw [hW1] at s1 k5 ⊢
    clear hW1
    have hc1 := hcb.kept k5 (fun k hm he => by simp at he; subst he; exact nr hm)
    obtain ⟨_, _, _, g5', g6'⟩ := nd_cells hc1.1
    obtain ⟨_, _, _, c5', c6'⟩ := nd_cells s1
    have f6' := s1.frozen 6
    obtain ⟨H, hH⟩ : ∃ H : Nat, (if ((h1 : Int) : Int) < (ch : Int) + 1 then (ch : Int) + 1 else (h1 : Int)) = (H : Int) := ⟨max h1 (ch + 1), by split <;> omega⟩
    have s2 := (nd_set6 s1 H).kept (kept_drew [] _) (by simp)
    have k6 := (kept_set1 b 6 W1 (.int .i64 (H : Int))).trans (kept_drew [b] _)
    replace hH : Hid _ := hH
    go_wp2
    go_region
    try simp only [max_if]
    rw [hH.out]
    go_wp2
    go_roundw
    case rel => exact ⟨2, by go_num, .inr (.inr ⟨rfl, (by
     have e1 := hM.out
     have e2 := hH.out
     have e3 : max F ce = M := by rw [← e1]; split <;> omega
     have e4 : max l.tall ch + 1 = H := by have := hh1.out; split at e2 <;> omega
     show Blk _ b _ (nodeC x _ _ (max (l.fin E) ce) (max l.tall ch + 1))
     rw [hF.out, e3, e4]
     exact s2)⟩), (hk.trans k5).trans k6⟩
    case measure => simp [RowKit.intOf]
  ·go_wp2
   go_end0
   exact ⟨rfl, hB0, hk⟩
end
end Go.Proofs.YtoaeficfmcncjaaGreat.Itree
namespace Go.Proofs.YtoaeficfmcncjaaGreat.Itree
open Go.RowKit
theorem TrAt.cnt {W : World} {b : Nat} {x : It} {l r : Tr} (hb : Blk W b 265 (nodeC x l.ptr r.ptr (r.fin (l.fin (Span.Math.endN x.o x.l))) (max l.tall r.tall + 1))) (hl : TrAt W l) (hr : TrAt W r) : TrAt W (cnt b x l r) := ⟨hb, hl, hr⟩
theorem blk_get {W : World} {g : Nat} {t : TypeId} {cs : Array Value} {j : Nat} {v : Value} (h : Blk W g t cs) (hj : cs[j]? = some v) : W.cell? ⟨g, j, none⟩ = some v := (h.cell j).trans hj
theorem ptr_is (t : Tr) : ∃ a, t.ptr = .pointer a := by
 cases t with
 | nil => exact ⟨_, rfl⟩
 | node b x e h l r => exact ⟨_, rfl⟩
set_option maxRecDepth 100000 in
set_option maxHeartbeats 4000000 in
theorem lift_R (g j : Nat) (tg : TypeId) (cs : Array Value) (b ub : Nat) (x ux : It) (e ue : Int) (h uh : Nat) (ul ur r : Tr) (w : World)
  (hg : Blk w g tg cs) (hj : cs[j]? = some (.pointer (some ⟨b, 0, none⟩))) (ht : TrAt w (.node b x e h (.node ub ux ue uh ul ur) r)) (hn : (g :: (Tr.node b x e h (.node ub ux ue uh ul ur) r).blks).Nodup)
  (m1 : ul.tall ≤ 900000) (m2 : ur.tall ≤ 900000) (m3 : r.tall ≤ 900000) :
  Calls Tryz.prog 276 #[.pointer (some ⟨g, j, none⟩), .int .i64 0] w fun en w' => en = .returned (.tuple #[]) ∧ Blk w' g tg (cs.setIfInBounds j (.pointer (some ⟨ub, 0, none⟩))) ∧ TrAt w' (cnt ub ux ul (cnt b x ur r)) ∧ Kept [g, b, ub] w w' := by
 obtain ⟨hb, ⟨hub, hul, hur⟩, hr⟩ := ht
 have hn0 := hn
 simp only [Tr.blks, List.cons_append, List.nodup_cons, List.mem_cons, List.mem_append, not_or, List.nodup_append] at hn
 have gb : g ≠ b := fun k => hn.1.1 k
 have gub : g ≠ ub := fun k => absurd k (by exact hn.1.2.1)
 have bub : b ≠ ub := fun k => absurd k (by exact hn.2.1.1)
 have nx : (∀ t ∈ [ul, ur, r], g ∉ t.blks ∧ b ∉ t.blks ∧ ub ∉ t.blks) := by
  have d1 := List.nodup_cons.1 hn0
  simp only [Tr.blks, List.cons_append, List.mem_cons, List.mem_append, not_or] at d1
  have d2 := List.nodup_cons.1 d1.2
  simp only [List.mem_cons, List.mem_append, not_or] at d2
  have d3 := List.nodup_cons.1 d2.2
  simp only [List.mem_append, not_or] at d3
  intro t ht
  simp only [List.mem_cons, List.not_mem_nil, or_false] at ht
  rcases ht with rfl | rfl | rfl
  ·exact ⟨d1.1.2.2.1.1, d2.1.2.1.1, d3.1.1.1⟩
  ·exact ⟨d1.1.2.2.1.2, d2.1.2.1.2, d3.1.1.2⟩
  ·exact ⟨d1.1.2.2.2, d2.1.2.2, d3.1.2⟩
 clear hn hn0
 obtain ⟨gul, bul, ubul⟩ := nx ul (by simp)
 obtain ⟨gur, bur, ubur⟩ := nx ur (by simp)
 obtain ⟨gr, br, ubr⟩ := nx r (by simp)
 clear nx
 rw [ptr_node] at hb
 have cg := blk_get hg hj
 obtain ⟨⟨c0, c1, c2⟩, c3, c4, c5, c6⟩ := nd_cells hb
 obtain ⟨⟨d0, d1, d2⟩, d3, d4, d5, d6⟩ := nd_cells hub
 have f3 := hb.frozen 3
 obtain ⟨pu, hpu⟩ := ptr_is ur
 rw [hpu] at d4
 have hb1 := (nd_set3 hb (.pointer pu)).kept (kept_drew [] _) (by simp)
 have k1 := (kept_set1 b 3 w (.pointer pu)).trans (kept_drew [b] _)
 replace hpu : Hid _ := hpu
 go_enter Tryz.func276, Tryz.ntmps276
 go_wp2
 go_region
 obtain ⟨W1, hW1⟩ : ∃ W1, (w.setCell ⟨b, 3, none⟩ (.pointer pu)).drew = W1 := ⟨_, rfl⟩
 rw [hW1] at hb1 k1 ⊢
 rw [← hpu.out] at hb1
 clear hW1
 have hg1 := hg.kept k1 (by simp; exact gb)
 have hub1 := hub.kept k1 (by simp; exact fun k => bub k.symm)
 have hul1 := hul.kept k1 (fun k hm he => by simp at he; subst he; exact bul hm)
 have hur1 := hur.kept k1 (fun k hm he => by simp at he; subst he; exact bur hm)
 have hr1 := hr.kept k1 (fun k hm he => by simp at he; subst he; exact br hm)
 have k2 := kept_set1 ub 4 W1 (.pointer (some ⟨b, 0, none⟩))
 have hub2 := nd_set4 hub1 (.pointer (some ⟨b, 0, none⟩))
 have hg2 := hg1.kept k2 (by simp; exact gub)
 have hb2 := hb1.kept k2 (by simp; exact bub)
 have hul2 := hul1.kept k2 (fun k hm he => by simp at he; subst he; exact ubul hm)
 have hur2 := hur1.kept k2 (fun k hm he => by simp at he; subst he; exact ubur hm)
 have hr2 := hr1.kept k2 (fun k hm he => by simp at he; subst he; exact ubr hm)
 have k3 := kept_set1 g j (W1.setCell ⟨ub, 4, none⟩ (.pointer (some ⟨b, 0, none⟩))) (.pointer (some ⟨ub, 0, none⟩))
 have hg3 := hg2.set j (.pointer (some ⟨ub, 0, none⟩))
 have hub3 := hub2.kept k3 (by simp; exact fun k => gub k.symm)
 have hb3 := hb2.kept k3 (by simp; exact fun k => gb k.symm)
 have hul3 := hul2.kept k3 (fun k hm he => by simp at he; subst he; exact gul hm)
 have hur3 := hur2.kept k3 (fun k hm he => by simp at he; subst he; exact gur hm)
 have hr3 := hr2.kept k3 (fun k hm he => by simp at he; subst he; exact gr hm)
 have q1 := count_any b x e h ur r _ hb3 hur3 hr3 bur br (by omega) (by omega) _ rfl
 have e1 := (blk_get hg2 hj)
 have e2 := hg2.frozen j
 have e3 := (hub1.cell 4).trans (show _ = some ur.ptr from rfl)
 have e4 := hub1.frozen 4
 have K3 : Kept [g, b, ub] w _ := (k1.mono (by simp)).trans ((k2.mono (by simp)).trans (k3.mono (by simp)))
 obtain ⟨W3, hW3⟩ : ∃ W3, (W1.setCell ⟨ub, 4, none⟩ (.pointer (some ⟨b, 0, none⟩))).setCell ⟨g, j, none⟩ (.pointer (some ⟨ub, 0, none⟩)) = W3 := ⟨_, rfl⟩
 rw [hW3] at q1 hb3 hub3 hul3 hur3 hr3 hg3 K3
 replace hW3 : Hid _ := hW3
 go_wp2_with (first
  | (go_at_call 274; rw [hW3.out]; refine q1.mono ?_; clear q1; rintro e5 w4 ⟨rfl, b4, k4⟩; have tb4 : TrAt w4 (cnt b x ur r) := TrAt.cnt b4 (hur3.kept k4 (fun k hm he => (by simp at he; subst he; exact bur hm))) (hr3.kept k4 (fun k hm he => (by simp at he; subst he; exact br hm))); have tul4 := hul3.kept k4 (fun k hm he => (by simp at he; subst he; exact bul hm)); have hub4 := hub3.kept k4 (by simp; exact fun k => bub k.symm); have hg4 := hg3.kept k4 (by simp; exact gb); have nub : ub ∉ (cnt b x ur r).blks := (by rw [cnt_blks]; simp; exact ⟨fun k => bub k.symm, ubur, ubr⟩); have mcb : (cnt b x ur r).tall ≤ 1000000 := (by rw [cnt_tall]; omega); have q2 := count_any ub ux ue uh ul (cnt b x ur r) w4 hub4 tul4 tb4 ubul nub (by omega) mcb _ rfl)
  | (go_at_call 274; refine q2.mono ?_; clear q2; rintro e6 w5 ⟨rfl, b5, k5⟩; have tb5 := tb4.kept k5 (fun k hm he => (by simp at he; subst he; exact nub hm)); have tul5 := tul4.kept k5 (fun k hm he => (by simp at he; subst he; exact ubul hm)); have hg5 := hg4.kept k5 (by simp; exact gub)))
 go_end0
 exact ⟨rfl, hg5, TrAt.cnt b5 tul5 tb5, K3.trans ((k4.mono (by simp)).trans (k5.mono (by simp)))⟩
set_option maxRecDepth 100000 in
set_option maxHeartbeats 4000000 in
theorem lift_L (g j : Nat) (tg : TypeId) (cs : Array Value) (b ub : Nat) (x ux : It) (e ue : Int) (h uh : Nat) (ul ur r : Tr) (w : World)
  (hg : Blk w g tg cs) (hj : cs[j]? = some (.pointer (some ⟨b, 0, none⟩))) (ht : TrAt w (.node b x e h r (.node ub ux ue uh ul ur))) (hn : (g :: (Tr.node b x e h r (.node ub ux ue uh ul ur)).blks).Nodup)
  (m1 : ul.tall ≤ 900000) (m2 : ur.tall ≤ 900000) (m3 : r.tall ≤ 900000) :
  Calls Tryz.prog 276 #[.pointer (some ⟨g, j, none⟩), .int .i64 1] w fun en w' => en = .returned (.tuple #[]) ∧ Blk w' g tg (cs.setIfInBounds j (.pointer (some ⟨ub, 0, none⟩))) ∧ TrAt w' (cnt ub ux (cnt b x r ul) ur) ∧ Kept [g, b, ub] w w' := by
 obtain ⟨hb, hr, hub, hul, hur⟩ := ht
 have hn0 := hn
 simp only [Tr.blks, List.nodup_cons, List.mem_cons, List.mem_append, not_or, List.nodup_append] at hn
 have gb : g ≠ b := fun k => hn.1.1 k
 have gub : g ≠ ub := fun k => absurd k (by exact hn.1.2.2.1)
 have bub : b ≠ ub := fun k => absurd k (by exact hn.2.1.2.1)
 have nx : (∀ t ∈ [ul, ur, r], g ∉ t.blks ∧ b ∉ t.blks ∧ ub ∉ t.blks) := by
  have d1 := List.nodup_cons.1 hn0
  simp only [Tr.blks, List.mem_cons, List.mem_append, not_or] at d1
  have d2 := List.nodup_cons.1 d1.2
  simp only [List.mem_cons, List.mem_append, not_or] at d2
  have d3 := List.nodup_append.1 d2.2
  have d4 := List.nodup_cons.1 d3.2.1
  simp only [List.mem_append, not_or] at d4
  intro t ht
  simp only [List.mem_cons, List.not_mem_nil, or_false] at ht
  rcases ht with rfl | rfl | rfl
  ·exact ⟨d1.1.2.2.2.1, d2.1.2.2.1, d4.1.1⟩
  ·exact ⟨d1.1.2.2.2.2, d2.1.2.2.2, d4.1.2⟩
  ·exact ⟨d1.1.2.1, d2.1.1, fun hm => d3.2.2 _ hm _ (by simp) rfl⟩
 clear hn hn0
 obtain ⟨gul, bul, ubul⟩ := nx ul (by simp)
 obtain ⟨gur, bur, ubur⟩ := nx ur (by simp)
 obtain ⟨gr, br, ubr⟩ := nx r (by simp)
 clear nx
 rw [ptr_node] at hb
 have cg := blk_get hg hj
 obtain ⟨⟨c0, c1, c2⟩, c3, c4, c5, c6⟩ := nd_cells hb
 obtain ⟨⟨d0, d1, d2⟩, d3, d4, d5, d6⟩ := nd_cells hub
 have f3 := hb.frozen 4
 obtain ⟨pu, hpu⟩ := ptr_is ul
 rw [hpu] at d3
 have hb1 := (nd_set4 hb (.pointer pu)).kept (kept_drew [] _) (by simp)
 have k1 := (kept_set1 b 4 w (.pointer pu)).trans (kept_drew [b] _)
 replace hpu : Hid _ := hpu
 go_enter Tryz.func276, Tryz.ntmps276
 go_wp2
 go_region
 obtain ⟨W1, hW1⟩ : ∃ W1, (w.setCell ⟨b, 4, none⟩ (.pointer pu)).drew = W1 := ⟨_, rfl⟩
 rw [hW1] at hb1 k1 ⊢
 rw [← hpu.out] at hb1
 clear hW1
 have hg1 := hg.kept k1 (by simp; exact gb)
 have hub1 := hub.kept k1 (by simp; exact fun k => bub k.symm)
 have hul1 := hul.kept k1 (fun k hm he => by simp at he; subst he; exact bul hm)
 have hur1 := hur.kept k1 (fun k hm he => by simp at he; subst he; exact bur hm)
 have hr1 := hr.kept k1 (fun k hm he => by simp at he; subst he; exact br hm)
 have k2 := kept_set1 ub 3 W1 (.pointer (some ⟨b, 0, none⟩))
 have hub2 := nd_set3 hub1 (.pointer (some ⟨b, 0, none⟩))
 have hg2 := hg1.kept k2 (by simp; exact gub)
 have hb2 := hb1.kept k2 (by simp; exact bub)
 have hul2 := hul1.kept k2 (fun k hm he => by simp at he; subst he; exact ubul hm)
 have hur2 := hur1.kept k2 (fun k hm he => by simp at he; subst he; exact ubur hm)
 have hr2 := hr1.kept k2 (fun k hm he => by simp at he; subst he; exact ubr hm)
 have k3 := kept_set1 g j (W1.setCell ⟨ub, 3, none⟩ (.pointer (some ⟨b, 0, none⟩))) (.pointer (some ⟨ub, 0, none⟩))
 have hg3 := hg2.set j (.pointer (some ⟨ub, 0, none⟩))
 have hub3 := hub2.kept k3 (by simp; exact fun k => gub k.symm)
 have hb3 := hb2.kept k3 (by simp; exact fun k => gb k.symm)
 have hul3 := hul2.kept k3 (fun k hm he => by simp at he; subst he; exact gul hm)
 have hur3 := hur2.kept k3 (fun k hm he => by simp at he; subst he; exact gur hm)
 have hr3 := hr2.kept k3 (fun k hm he => by simp at he; subst he; exact gr hm)
 have q1 := count_any b x e h r ul _ hb3 hr3 hul3 br bul (by omega) (by omega) _ rfl
 have e1 := (blk_get hg2 hj)
 have e2 := hg2.frozen j
 have e3 := (hub1.cell 3).trans (show _ = some ul.ptr from rfl)
 have e4 := hub1.frozen 3
 have K3 : Kept [g, b, ub] w _ := (k1.mono (by simp)).trans ((k2.mono (by simp)).trans (k3.mono (by simp)))
 obtain ⟨W3, hW3⟩ : ∃ W3, (W1.setCell ⟨ub, 3, none⟩ (.pointer (some ⟨b, 0, none⟩))).setCell ⟨g, j, none⟩ (.pointer (some ⟨ub, 0, none⟩)) = W3 := ⟨_, rfl⟩
 rw [hW3] at q1 hb3 hub3 hul3 hur3 hr3 hg3 K3
 replace hW3 : Hid _ := hW3
 go_wp2_with (first
  | (go_at_call 274; rw [hW3.out]; refine q1.mono ?_; clear q1; rintro e5 w4 ⟨rfl, b4, k4⟩; have tb4 : TrAt w4 (cnt b x r ul) := TrAt.cnt b4 (hr3.kept k4 (fun k hm he => (by simp at he; subst he; exact br hm))) (hul3.kept k4 (fun k hm he => (by simp at he; subst he; exact bul hm))); have tur4 := hur3.kept k4 (fun k hm he => (by simp at he; subst he; exact bur hm)); have hub4 := hub3.kept k4 (by simp; exact fun k => bub k.symm); have hg4 := hg3.kept k4 (by simp; exact gb); have nub : ub ∉ (cnt b x r ul).blks := (by rw [cnt_blks]; simp; exact ⟨fun k => bub k.symm, ubr, ubul⟩); have mcb : (cnt b x r ul).tall ≤ 1000000 := (by rw [cnt_tall]; omega); have q2 := count_any ub ux ue uh (cnt b x r ul) ur w4 hub4 tb4 tur4 nub ubur mcb (by omega) _ rfl)
  | (go_at_call 274; refine q2.mono ?_; clear q2; rintro e6 w5 ⟨rfl, b5, k5⟩; have tb5 := tb4.kept k5 (fun k hm he => (by simp at he; subst he; exact nub hm)); have tur5 := tur4.kept k5 (fun k hm he => (by simp at he; subst he; exact ubur hm)); have hg5 := hg4.kept k5 (by simp; exact gub)))
 go_end0
 exact ⟨rfl, hg5, TrAt.cnt b5 tb5 tur5, K3.trans ((k4.mono (by simp)).trans (k5.mono (by simp)))⟩
end Go.Proofs.YtoaeficfmcncjaaGreat.Itree
