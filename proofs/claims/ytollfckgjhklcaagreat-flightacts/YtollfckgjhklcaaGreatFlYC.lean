/-
  The program's flights and the document's beside each other.
-/
import Derived.Test.YtollfckgjhklcaaGreatFlYB
import Derived.Test.YtollfckgjhklcaaGreatFlX
namespace Go.Proofs.YtollfckgjhklcaaGreat.Flight
open Go.RowKit Go.Maps Go.Sort
open Table (Rising ins del tks)

theorem tr_not {W : World} {u : TypeId} (hu : 92 ≠ u) : ∀ {t : Itree.Tr}, Itree.TrAt W t → ∀ k ∈ t.blks, ∀ cur, ¬ Blk W k u cur
  | .nil, _, _, hk, _ => by cases hk
  | .node b x e h l r, ⟨h1, h2, h3⟩, k, hk, cur => by
    simp only [Itree.Tr.blks, List.mem_cons, List.mem_append] at hk
    rcases hk with rfl | hk | hk
    · exact blk_not h1 hu
    · exact tr_not hu h2 k hk cur
    · exact tr_not hu h3 k hk cur
/-- None of the program's blocks is of another type. -/
theorem FlAt.not {W : World} {lo hi f b p : Nat} {F : List Nat} {L : List (Int × Fw)} (h : FlAt W lo hi f b p F L) {u : TypeId} (h1 : 92 ≠ u) (h2 : 83 ≠ u) (h3 : 67 ≠ u) : ∀ k ∈ f :: b :: F, ∀ cur, ¬ Blk W k u cur := fun k hk cur => by
  obtain ⟨M, ⟨t, t1, _, _, rfl⟩, _, _⟩ := h.tree
  rcases List.mem_cons.1 hk with rfl | hk
  · exact blk_not h.blk h3
  · rcases List.mem_cons.1 hk with rfl | hk
    · intro hc
      obtain ⟨es, clock, hm⟩ := h.map.isMap
      unfold Blk at hc
      rw [hc] at hm
      cases hm
    · rcases List.mem_cons.1 hk with rfl | hk
      · exact blk_not t1.blk h2
      · exact tr_not h1 t1.nodes k hk cur
/-- What a call turns lies from lo on and is no act. -/
def Far (lo : Nat) (A B : World) : Prop := ∃ K, Kept K A B ∧ ∀ k ∈ K, lo ≤ k ∧ ∀ cur, ¬ Blk A k 34 cur
theorem Far.of {lo : Nat} {A B : World} (h : Kept [] A B) : Far lo A B := ⟨[], h, fun k hk => by cases hk⟩
theorem Far.blk {lo k : Nat} {A B : World} {cur : Array Value} (h : Far lo A B) (hb : Blk A k 34 cur) : Blk B k 34 cur := by
  obtain ⟨K, hk, hK⟩ := h
  exact hb.kept hk (fun hm => (hK k hm).2 cur hb)
theorem Far.past {lo : Nat} {X A B : World} (h : Far lo A B) (h0 : Kept [] X A) (hx : X.heap.size ≤ lo) : Kept [] X B := by
  obtain ⟨K, hk, hK⟩ := h
  exact Itree.kept_youngs h0 hk (fun k hm => .inr (Nat.le_trans hx (hK k hm).1))
theorem Far.trans {lo : Nat} {A B C : World} (h : Far lo A B) (h2 : Far lo B C) : Far lo A C := by
  obtain ⟨K, hk, hK⟩ := id h
  obtain ⟨K2, hk2, hK2⟩ := h2
  refine ⟨K ++ K2, (hk.mono (fun x hx => by simp [hx])).trans (hk2.mono (fun x hx => by simp [hx])), fun k hm => ?_⟩
  rcases List.mem_append.1 hm with hm | hm
  · exact hK k hm
  · exact ⟨(hK2 k hm).1, fun cur hc => (hK2 k hm).2 cur (h.blk hc)⟩
theorem Far.size {lo : Nat} {A B : World} (h : Far lo A B) : A.heap.size ≤ B.heap.size := by
  obtain ⟨K, hk, _⟩ := h
  exact hk.size
/-- Both: the program's hold L, the document's hold L'. -/
structure Two (W : World) (lo f b p r : Nat) (L L' : List (Int × Fw)) : Prop where
  a : ∃ F, FlAt W lo W.heap.size f b p F L
  d : ∃ P, tl P = L' ∧ RFl W lo W.heap.size r P
theorem Two.kept0 {A B : World} {lo f b p r : Nat} {L L' : List (Int × Fw)} (h : Two A lo f b p r L L') (hk : Kept [] A B) : Two B lo f b p r L L' := by
  obtain ⟨⟨F, h1⟩, P, h2, h3⟩ := h
  exact ⟨⟨F, (h1.kept0 hk).up⟩, P, h2, (h3.kept0 hk).up⟩
/-- A call of the program's. -/
theorem Two.mine {A B : World} {lo f b p r : Nat} {F F' K : List Nat} {L L' L2 : List (Int × Fw)} (h : ∃ P, tl P = L' ∧ RFl A lo A.heap.size r P) (h1 : FlAt A lo A.heap.size f b p F L) (hk : Kept K A B) (hK : ∀ k ∈ K, k ∈ b :: F) (h2 : FlAt B lo B.heap.size f b p F' L2) : Two B lo f b p r L2 L' ∧ Far lo A B := by
  obtain ⟨P, e, h3⟩ := h
  obtain ⟨v, hr, _⟩ := h3.row
  have hin : ∀ k ∈ K, k ∈ f :: b :: F := fun k hm => List.mem_cons_of_mem _ (hK k hm)
  refine ⟨⟨⟨F', h2⟩, P, e, (h3.kept hk (fun k hm => ⟨fun ek => ?_, h1.not (by decide) (by decide) (by decide) k (hin k hm)⟩) (fun k hm => h1.off _ _ k (hin k hm))).up⟩, K, hk, fun k hm => ⟨?_, h1.not (by decide) (by decide) (by decide) k (hin k hm)⟩⟩
  · subst ek
    exact h1.not (by decide) (by decide) (by decide) k (hin k hm) _ hr
  · rcases List.mem_cons.1 (hK k hm) with rfl | hm
    · exact h1.young.2.1
    · exact h1.young.2.2 k hm
/-- A call of the document's. -/
theorem Two.theirs {A B : World} {lo f b p r : Nat} {L L' L2 : List (Int × Fw)} (h : Two A lo f b p r L L') (hd : RDone A B lo r L2) : Two B lo f b p r L L2 ∧ Far lo A B := by
  obtain ⟨⟨F, h1⟩, P, e, h3⟩ := h
  obtain ⟨P2, e2, h4, K, hk, hK⟩ := hd
  obtain ⟨v, hr, _⟩ := h3.row
  have hty : ∀ k ∈ K, (∃ cur, Blk A k 31 cur) ∨ ∃ cur, Blk A k 42 cur := fun k hm => by
    rcases (hK k hm).2 with e | ⟨cur, hc⟩
    · rw [e]
      exact .inl ⟨_, hr⟩
    · exact .inr ⟨cur, hc⟩
  have hno : ∀ k ∈ f :: b :: F, k ∉ K := fun k hk hm => by
    rcases hty k hm with ⟨cur, hc⟩ | ⟨cur, hc⟩
    · exact h1.not (by decide) (by decide) (by decide) k hk cur hc
    · exact h1.not (by decide) (by decide) (by decide) k hk cur hc
  refine ⟨⟨⟨F, (h1.kept hk (hno f (by simp)) (hno b (by simp)) (fun k hm => hno k (by simp [hm])) (fun k hm => ?_)).up⟩, P2, e2, h4⟩, K, hk, fun k hm => ⟨(hK k hm).1, fun cur => ?_⟩⟩
  · rcases hty k hm with ⟨cur, hc⟩ | ⟨cur, hc⟩
    · exact off_blk hc (by decide)
    · exact off_blk hc (by decide)
  · rcases hty k hm with ⟨c, hc⟩ | ⟨c, hc⟩
    · exact blk_not hc (by decide)
    · exact blk_not hc (by decide)
theorem tl_few {P : List Fv} {L : List (Int × Fw)} (h : tl P = L) (hn : L.length ≤ 600) : P.length ≤ 600 := by
  rw [← tl_length, h]
  exact hn
section
variable {lo f b p r : Nat} {L L' : List (Int × Fw)}
set_option maxRecDepth 100000 in
theorem two_add (t o l : Int) (v : Value) (bs : List Nat) (h0 : -9223372036854775808 ≤ t) (h1 : t ≤ 9223372036854775807) (hO : (Itree.It.mk o l t).Ok) (X w : World) (h : Two w lo f b p r L L') (hn : L.length ≤ 600) (hlo : lo ≤ w.heap.size) (hX : Kept [] X w) (hxl : X.heap.size ≤ lo) (hv : ByteRow X.heap.size X v bs) (hlen : bs.length ≤ 140737488351232) :
    Calls Tryz.prog 6 #[.pointer (some ⟨f, 0, none⟩), .int .i64 t, .agg #[.int .i64 o, .int .i64 l], v] w fun e w' => e = .returned (.bool (addOk L t o l)) ∧ Two w' lo f b p r (addL L t o l bs) L' ∧ Far lo w w' := by
  obtain ⟨F, hF⟩ := h.a
  refine (add_any t o l v bs h0 h1 hO w hF hn hlo ((hv.kept (Nat.le_refl _) hX (by simp)).far hX.size (fun k hk' => Nat.le_trans hxl (hF.young.2.2 k hk'))) hlen).mono ?_
  rintro e w' ⟨F', rfl, h2, -, hk⟩
  exact ⟨rfl, Two.mine h.d hF hk (fun k hk => hk) h2⟩
set_option maxRecDepth 100000 in
theorem two_radd (t o l : Int) (v : Value) (bs : List Nat) (h1 : t ≤ 9223372036854775807) (X w : World) (h : Two w lo f b p r L' L) (hn : L.length ≤ 600) (hX : Kept [] X w) (hv : ByteRow X.heap.size X v bs) (hlen : bs.length ≤ 140737488351232) :
    Calls Tryz.prog 7 #[.pointer (some ⟨r, 0, none⟩), .int .i64 t, .agg #[.int .i64 o, .int .i64 l], v] w fun e w' => e = .returned (.bool (addOk L t o l)) ∧ Two w' lo f b p r L' (addL L t o l bs) ∧ Far lo w w' := by
  obtain ⟨P, e, hP⟩ := h.d
  have hv2 := hv.kept (Nat.le_refl _) hX (by simp)
  refine (radd_any t o l v bs h1 w hP (tl_few e hn) (hv2.far hX.size (by simp)) hlen).mono ?_
  rintro e' w' ⟨rfl, h2⟩
  rw [e] at h2 ⊢
  exact ⟨rfl, h.theirs h2⟩
set_option maxRecDepth 100000 in
theorem two_turn (t s : Int) (h0 : -9223372036854775808 ≤ t) (h1 : t ≤ 9223372036854775807) (w : World) (h : Two w lo f b p r L L') (hn : L.length ≤ 600) :
    Calls Tryz.prog 8 #[.pointer (some ⟨f, 0, none⟩), .int .i64 t, .int .i64 s] w fun e w' => e = .returned (.bool (turnOk L t s)) ∧ Two w' lo f b p r (turnL L t s) L' ∧ Far lo w w' := by
  obtain ⟨F, hF⟩ := h.a
  refine (turn_any t s h0 h1 w hF hn).mono ?_
  rintro e w' ⟨rfl, h2, hk⟩
  exact ⟨rfl, Two.mine h.d hF hk (fun k hk => by simp at hk; simp [hk]) h2.up⟩
set_option maxRecDepth 100000 in
theorem two_rturn (t s : Int) (w : World) (h : Two w lo f b p r L' L) (hn : L.length ≤ 600) :
    Calls Tryz.prog 9 #[.pointer (some ⟨r, 0, none⟩), .int .i64 t, .int .i64 s] w fun e w' => e = .returned (.bool (turnOk L t s)) ∧ Two w' lo f b p r L' (turnL L t s) ∧ Far lo w w' := by
  obtain ⟨P, e, hP⟩ := h.d
  refine (rturn_any t s w hP (tl_few e hn)).mono ?_
  rintro e' w' ⟨rfl, h2⟩
  rw [e] at h2 ⊢
  exact ⟨rfl, h.theirs h2⟩
set_option maxRecDepth 100000 in
theorem two_end (t : Int) (h0 : -9223372036854775808 ≤ t) (h1 : t ≤ 9223372036854775807) (w : World) (h : Two w lo f b p r L L') (hn : L.length ≤ 600) (hlo : lo ≤ w.heap.size) :
    Calls Tryz.prog 10 #[.pointer (some ⟨f, 0, none⟩), .int .i64 t] w fun e w' => e = .returned (.bool (endOk L t)) ∧ Two w' lo f b p r (endL L t) L' ∧ Far lo w w' := by
  obtain ⟨F, hF⟩ := h.a
  refine (end_any t h0 h1 w hF hn hlo).mono ?_
  rintro e w' ⟨F', rfl, h2, -, hk⟩
  exact ⟨rfl, Two.mine h.d hF hk (fun k hk => hk) h2.up⟩
set_option maxRecDepth 100000 in
theorem two_rend (t : Int) (w : World) (h : Two w lo f b p r L' L) (hn : L.length ≤ 600) :
    Calls Tryz.prog 11 #[.pointer (some ⟨r, 0, none⟩), .int .i64 t] w fun e w' => e = .returned (.bool (endOk L t)) ∧ Two w' lo f b p r L' (endL L t) ∧ Far lo w w' := by
  obtain ⟨P, e, hP⟩ := h.d
  refine (rend_any t w hP (tl_few e hn)).mono ?_
  rintro e' w' ⟨rfl, h2⟩
  rw [e] at h2 ⊢
  exact ⟨rfl, h.theirs h2⟩
set_option maxRecDepth 100000 in
theorem two_get (t : Int) (h0 : -9223372036854775808 ≤ t) (h1 : t ≤ 9223372036854775807) (w : World) (h : Two w lo f b p r L L') :
    Calls Tryz.prog 12 #[.pointer (some ⟨f, 0, none⟩), .int .i64 t] w fun e w' => ∃ y : Fv, e = .returned (.tuple #[y.val, .bool (Table.look L t).isSome]) ∧ Found L t y ∧ y.At w.heap.size w'.heap.size w' ∧ Kept [] w w' := by
  obtain ⟨F, hF⟩ := h.a
  exact get_any t h0 h1 w hF
set_option maxRecDepth 100000 in
theorem two_rget (t : Int) (w : World) (h : Two w lo f b p r L' L) (hn : L.length ≤ 600) :
    Calls Tryz.prog 13 #[.pointer (some ⟨r, 0, none⟩), .int .i64 t] w fun e w' => ∃ y : Fv, e = .returned (.tuple #[y.val, .bool (Table.look L t).isSome]) ∧ Found L t y ∧ y.At w.heap.size w'.heap.size w' ∧ Kept [] w w' := by
  obtain ⟨P, e, hP⟩ := h.d
  rw [← e]
  exact rget_any t w hP (tl_few e hn)
set_option maxRecDepth 100000 in
theorem two_busy (o l : Int) (ho : (Itree.It.mk o l 0).Ok) (w : World) (h : Two w lo f b p r L L') (hn : L.length ≤ 600) :
    Calls Tryz.prog 16 #[.pointer (some ⟨f, 0, none⟩), .agg #[.int .i64 o, .int .i64 l]] w fun e w' => e = .returned (.bool (busy L o l)) ∧ Kept [] w w' := by
  obtain ⟨F, hF⟩ := h.a
  exact busy_any o l ho w hF hn
set_option maxRecDepth 100000 in
theorem two_rbusy (o l : Int) (w : World) (h : Two w lo f b p r L' L) (hn : L.length ≤ 600) :
    Calls Tryz.prog 17 #[.pointer (some ⟨r, 0, none⟩), .agg #[.int .i64 o, .int .i64 l]] w fun e w' => e = .returned (.bool (busy L o l)) ∧ Kept [] w w' := by
  obtain ⟨P, e, hP⟩ := h.d
  rw [← e]
  exact rbusy_any o l w hP (tl_few e hn)
set_option maxRecDepth 100000 in
theorem two_ext (w : World) (h : Two w lo f b p r L L') :
    Calls Tryz.prog 18 #[.pointer (some ⟨f, 0, none⟩)] w fun e w' => e = .returned (.int .u64 (exts L : Nat)) ∧ Kept [] w w' := by
  obtain ⟨F, hF⟩ := h.a
  exact extents_any w hF
set_option maxRecDepth 100000 in
theorem two_rext (w : World) (h : Two w lo f b p r L' L) (hn : L.length ≤ 600) :
    Calls Tryz.prog 19 #[.pointer (some ⟨r, 0, none⟩)] w fun e w' => e = .returned (.int .u64 (exts L : Nat)) ∧ Kept [] w w' := by
  obtain ⟨P, e, hP⟩ := h.d
  rw [← e]
  exact rextents_any w hP (tl_few e hn)
set_option maxRecDepth 100000 in
theorem two_len (w : World) (h : Two w lo f b p r L L') :
    Calls Tryz.prog 20 #[.pointer (some ⟨f, 0, none⟩)] w fun e w' => e = .returned (.int .i64 (L.length : Int)) ∧ Kept [] w w' := by
  obtain ⟨F, hF⟩ := h.a
  refine (len_any w hF).mono ?_
  rintro e w' ⟨rfl, rfl⟩
  exact ⟨rfl, Kept.refl _ _⟩
theorem two_rlen {w : World} (h : Two w lo f b p r L' L) : ∃ a cap, ∀ W, Kept [] w W → W.cell? ⟨r, 0, none⟩ = some (.slice a L.length cap) := by
  obtain ⟨P, e, hP⟩ := h.d
  obtain ⟨a, cap, hr⟩ := hP.slice
  rw [← tl_length, e] at hr
  exact ⟨a, cap, fun W hk => ((hr.kept hk (by simp)).cell 0).trans rfl⟩
set_option maxRecDepth 100000 in
theorem two_list (w : World) (h : Two w lo f b p r L L') (hn : L.length ≤ 600) :
    Calls Tryz.prog 21 #[.pointer (some ⟨f, 0, none⟩)] w fun e w' => ∃ v : Value, e = .returned v ∧ Listed 39 w.heap.size w' v L ∧ Kept [] w w' := by
  obtain ⟨F, hF⟩ := h.a
  exact list_any w hF hn
set_option maxRecDepth 100000 in
theorem two_rlist (w : World) (h : Two w lo f b p r L' L) (hn : L.length ≤ 600) :
    Calls Tryz.prog 22 #[.pointer (some ⟨r, 0, none⟩)] w fun e w' => ∃ v : Value, e = .returned v ∧ Listed 42 w.heap.size w' v L ∧ Kept [] w w' := by
  obtain ⟨P, e, hP⟩ := h.d
  rw [← e]
  exact rlist_any w hP (tl_few e hn)
set_option maxRecDepth 100000 in
theorem two_own (w : World) (h : Two w lo f b p r L L') (hn : L.length ≤ 600) :
    Calls Tryz.prog 25 #[.pointer (some ⟨f, 0, none⟩)] w fun e w' => ∃ v : Value, e = .returned v ∧ OwnOws 80 w' w.heap.size v (owsL L) ∧ Kept [] w w' := by
  obtain ⟨F, hF⟩ := h.a
  exact own_any w hF hn
set_option maxRecDepth 100000 in
theorem two_rown (w : World) (h : Two w lo f b p r L' L) (hn : L.length ≤ 600) :
    Calls Tryz.prog 26 #[.pointer (some ⟨r, 0, none⟩)] w fun e w' => ∃ v : Value, e = .returned v ∧ OwnOws 79 w' w.heap.size v (owsL L) ∧ Kept [] w w' := by
  obtain ⟨P, e, hP⟩ := h.d
  rw [← e]
  exact rown_any w hP (tl_few e hn)
end
/-- The two as they begin. -/
theorem two_new' {w1 : World} {lo f b p : Nat} {F : List Nat} (h : FlAt w1 lo w1.heap.size f b p F []) (hlo : lo ≤ w1.heap.size) : Two (w1.alloc (.cells #[.slice none 0 0] 31)) lo f b p w1.heap.size [] [] :=
  ⟨⟨F, (h.kept0 (kept_alloc [] _ _)).up⟩, [], rfl, ⟨⟨_, blk_new w1 31 #[.slice none 0 0], rat_nil _ _⟩, (fun x hx => by cases hx), good_nil, fit_nil, hlo, Nat.le_refl _⟩⟩
theorem turnL_length (L : List (Int × Fw)) (t s : Int) : (turnL L t s).length = L.length := by
  unfold turnL
  split
  · exact setSt_length L t s
  · rfl
theorem addL_length (L : List (Int × Fw)) (t o l : Int) (bs : List Nat) : (addL L t o l bs).length ≤ L.length + 1 := by
  unfold addL
  split
  · rw [Table.ins_length]
    exact Nat.le_refl _
  · omega
theorem endL_length (L : List (Int × Fw)) (t : Int) : (endL L t).length ≤ L.length := by
  unfold endL del
  split
  · simp
    omega
  · exact Nat.le_refl _
theorem found_same {L : List (Int × Fw)} {t : Int} {x y : Fv} (hx : Found L t x) (hy : Found L t y) : tl [x] = tl [y] := by
  unfold tl
  simp only [List.map_cons, List.map_nil]
  rw [hx.1, hx.2, hy.1, hy.2]
end Go.Proofs.YtollfckgjhklcaaGreat.Flight
