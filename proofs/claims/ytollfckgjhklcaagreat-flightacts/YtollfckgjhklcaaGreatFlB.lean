/-
  The map of own writes in memory, by tickets that are structs.
-/
import Derived.Test.YtollfckgjhklcaaGreatFlK
import Derived.Test.YtollfckgjhklcaaGreatItAC
namespace Go.Proofs.YtollfckgjhklcaaGreat.Flight
open Go.RowKit Go.Maps Go.Sort
open Table (Rising ins del tks)

/-- An element of the map is read as it stands. -/
def rdr : Value → Option (DataW Value × List MemPlace) := fun v => some (.held v, [])
/-- What the map has of L. -/
def Has (W : World) (lo hi : Nat) (D : DataW Value) (L : List (Int × Fw)) : Prop :=
  ∀ k : Int, (Lit.int .i64 k).wf = true → Maps.has D (kl k) = (Table.look L k).isSome ∧ ∀ r, Table.look L k = some r → ∃ x : Fv, x.t = k ∧ x.fw = r ∧ x.At lo hi W ∧ ∀ z, D.atKey (kl k) z = .held x.val
/-- Block b is a map that holds the writes of L; their bytes lie from lo on and below hi. -/
def Holds (W : World) (lo hi b : Nat) (L : List (Int × Fw)) : Prop := ∃ n D, W.ownsMap Tryz.prog 71 rdr b n D ∧ Has W lo hi D L
/-- What numbers and bytes keep to. -/
structure Fit (L : List (Int × Fw)) : Prop where
  low : ∀ x ∈ L, 1 ≤ x.1 ∧ x.1 ≤ 9223372036854775807
  short : ∀ x ∈ L, x.2.bs.length ≤ 140737488351232
theorem fit_nil : Fit [] := ⟨by simp, by simp⟩
theorem Fit.add {L : List (Int × Fw)} (h : Fit L) {t o l : Int} {bs : List Nat} (h1 : t ≤ 9223372036854775807) (hb : bs.length ≤ 140737488351232) : Fit (addL L t o l bs) := by
  unfold addL
  split
  · rename_i ha
    have := (of_addOk ha).1
    refine ⟨fun x hx => ?_, fun x hx => ?_⟩ <;> rcases Table.mem_ins hx with e | e
    · subst e
      exact ⟨this, h1⟩
    · exact h.low x e
    · subst e
      exact hb
    · exact h.short x e
  · exact h
theorem Fit.turn {L : List (Int × Fw)} (h : Fit L) (t s : Int) : Fit (turnL L t s) := by
  unfold turnL
  split
  · refine ⟨fun x hx => ?_, fun x hx => ?_⟩ <;> obtain ⟨y, hy, rfl⟩ := List.mem_map.1 hx <;> split
    · exact h.low y hy
    · exact h.low y hy
    · exact h.short y hy
    · exact h.short y hy
  · exact h
theorem Fit.endd {L : List (Int × Fw)} (h : Fit L) (t : Int) : Fit (endL L t) := by
  unfold endL
  split
  · exact ⟨fun x hx => h.low x (Table.mem_del hx), fun x hx => h.short x (Table.mem_del hx)⟩
  · exact h
set_option maxRecDepth 100000 in
theorem zeroW (w : World) : (zeroValue 39).run Tryz.prog w = .ok fv0.val w := by kernel_rfl
set_option maxRecDepth 100000 in
/-- What a map of this kind reads as. -/
theorem key_entries {W : World} {b n : Nat} {D : DataW Value} (hown : W.ownsMap Tryz.prog 71 rdr b n D) : ∃ es, D = .map es ∧ es.Pairwise (fun p q => p.1 ≠ q.1) ∧ ∀ p ∈ es, ∃ x : Int, p.1 = kl x ∧ (Lit.int .i64 x).wf = true := by
  obtain ⟨es, hD, hpw, _⟩ := hown.entries keyedK
  obtain ⟨es', hD', hko⟩ := hown.keysOf
  obtain rfl : es = es' := by rw [hD] at hD'; simpa using hD'
  exact ⟨es, hD, hpw, fun p hp => by obtain ⟨v, hv⟩ := hko p hp; obtain ⟨x, _, hx, hw⟩ := keyOf_inv hv; exact ⟨x, hx, hw⟩⟩
theorem Holds.lt {W : World} {lo hi b : Nat} {L : List (Int × Fw)} (h : Holds W lo hi b L) : b < W.heap.size := by
  obtain ⟨n, D, h, _⟩ := h
  exact h.lt
theorem Holds.isMap {W : World} {lo hi b : Nat} {L : List (Int × Fw)} (h : Holds W lo hi b L) : ∃ es clock, W.heap[b]? = some (.map es clock) := by
  obtain ⟨n, D, ⟨es, clock, h, _⟩, _⟩ := h
  exact ⟨es, clock, h⟩
theorem Holds.off {W : World} {lo hi b : Nat} {L : List (Int × Fw)} (h : Holds W lo hi b L) (lo' hi' : Nat) : Off lo' hi' W b := .inr (.inr fun cur hc => by
  obtain ⟨es, clock, h⟩ := h.isMap
  unfold Blk at hc
  rw [hc] at h
  cases h)
theorem Has.kept {K : List Nat} {A B : World} {lo hi : Nat} {D : DataW Value} {L : List (Int × Fw)} (h : Has A lo hi D L) (hK : Kept K A B) (hL : ∀ k ∈ K, Off lo hi A k) : Has B lo hi D L := fun k hw => ⟨(h k hw).1, fun r hr => by
  obtain ⟨x, ht, hx, ha, hz⟩ := (h k hw).2 r hr
  exact ⟨x, ht, hx, ha.kept hK hL, hz⟩⟩
theorem Has.mono {W : World} {lo hi lo' hi' : Nat} {D : DataW Value} {L : List (Int × Fw)} (h : Has W lo hi D L) (h1 : lo' ≤ lo) (h2 : hi ≤ hi') : Has W lo' hi' D L := fun k hw => ⟨(h k hw).1, fun r hr => by
  obtain ⟨x, ht, hx, ha, hz⟩ := (h k hw).2 r hr
  exact ⟨x, ht, hx, ha.mono h1 h2, hz⟩⟩
theorem Holds.kept {K : List Nat} {A B : World} {lo hi b : Nat} {L : List (Int × Fw)} (h : Holds A lo hi b L) (hK : Kept K A B) (hb : b ∉ K) (hL : ∀ k ∈ K, Off lo hi A k) : Holds B lo hi b L := by
  have hlt := h.lt
  obtain ⟨n, D, ⟨es, clock, h1, h2⟩, h3⟩ := h
  exact ⟨n, D, ⟨es, clock, (hK.block b hlt hb).trans h1, h2⟩, h3.kept hK hL⟩
theorem Holds.mono {W : World} {lo hi lo' hi' b : Nat} {L : List (Int × Fw)} (h : Holds W lo hi b L) (h1 : lo' ≤ lo) (h2 : hi ≤ hi') : Holds W lo' hi' b L := by
  obtain ⟨n, D, h0, h3⟩ := h
  exact ⟨n, D, h0, h3.mono h1 h2⟩
set_option maxRecDepth 100000 in
theorem holds_made (lo hi : Nat) (w : World) : Holds (w.alloc (.map #[] 0)) lo hi w.heap.size [] :=
  ⟨0, .map [], World.ownsMap_made w Tryz.prog 71 rdr, fun k _ => ⟨rfl, fun _ h => by cases h⟩⟩
set_option maxRecDepth 100000 in
theorem keys_perm {W : World} {lo hi b n : Nat} {D : DataW Value} {L : List (Int × Fw)} (hown : W.ownsMap Tryz.prog 71 rdr b n D) (hr : Rising L) (hf : Fit L) (hD : Has W lo hi D L) : ∃ es, D = .map es ∧ ((tks L).map kl).Perm (es.map (·.1)) := by
  obtain ⟨es, rfl, hp, hkey⟩ := key_entries hown
  refine ⟨es, rfl, (List.perm_ext_iff_of_nodup ?_ ?_).2 fun x => ?_⟩
  · refine List.pairwise_map.2 ((Table.tks_nodup hr).imp_of_mem fun {a c} ha hc hne e => hne ?_)
    obtain ⟨u, hu, rfl⟩ := List.mem_map.1 ha
    obtain ⟨v, hv, rfl⟩ := List.mem_map.1 hc
    have h1 := hf.low u hu
    have h2 := hf.low v hv
    exact kl_inj (wf_i64 (by omega) (by omega)) (wf_i64 (by omega) (by omega)) e
  · exact List.pairwise_map.2 hp
  · constructor
    · intro hx
      obtain ⟨k, hk, rfl⟩ := List.mem_map.1 hx
      obtain ⟨u, hu, rfl⟩ := List.mem_map.1 hk
      have h1 := hf.low u hu
      have hh := (hD u.1 (wf_i64 (by omega) (by omega))).1
      rw [Table.mem_tks.1 hk, has_eq, List.any_eq_true] at hh
      obtain ⟨p, hp, hs⟩ := hh
      exact List.mem_map.2 ⟨p, hp, WideAt.sameKey_eq hs⟩
    · intro hx
      obtain ⟨p, hp', rfl⟩ := List.mem_map.1 hx
      obtain ⟨k, hk, hw⟩ := hkey p hp'
      have hh := (hD k hw).1
      have : Maps.has (.map es) (kl k) = true := by
        rw [has_eq, List.any_eq_true]
        exact ⟨p, hp', by rw [hk]; exact WideAt.sameKey_self (keyedK.key (keyOf_mk hw))⟩
      rw [this] at hh
      exact List.mem_map.2 ⟨k, Table.mem_tks.2 hh.symm, hk.symm⟩
set_option maxRecDepth 100000 in
theorem Holds.sized {W : World} {lo hi b : Nat} {L : List (Int × Fw)} (h : Holds W lo hi b L) (hr : Rising L) (hf : Fit L) :
    ∃ D, W.ownsMap Tryz.prog 71 rdr b L.length D ∧ Maps.size D = L.length ∧ Has W lo hi D L := by
  obtain ⟨n, D, hown, hD⟩ := h
  have hs : Maps.size D = L.length := by
    obtain ⟨es, rfl, hp⟩ := keys_perm hown hr hf hD
    have := hp.length_eq
    simp [tks] at this
    rw [this]
    rfl
  refine ⟨D, ?_, hs, hD⟩
  obtain ⟨es', clock, h1, h2, h3, h4⟩ := hown
  refine ⟨es', clock, h1, h2, ?_, h4⟩
  rw [← hs, h4]
  simp [Maps.size, length_sorted]
set_option maxRecDepth 100000 in
/-- len(m) -/
theorem Holds.len {W : World} {lo hi b : Nat} {L : List (Int × Fw)} (h : Holds W lo hi b L) (hr : Rising L) (hf : Fit L) (ty : TypeId) : (Builtin.len_ #[63] ty #[.map (some b)]).run Tryz.prog W = .ok (.int .i64 (L.length : Int)) W := by
  obtain ⟨D, hown, hs, _⟩ := h.sized hr hf
  rw [← hs]
  exact hown.len Tryz.underlying63 ty
set_option maxRecDepth 100000 in
/-- m[k] -/
theorem Holds.seek {W : World} {lo hi b : Nat} {L : List (Int × Fw)} (h : Holds W lo hi b L) {k : Int} (h0 : -9223372036854775808 ≤ k) (h1 : k ≤ 9223372036854775807) :
    ∃ x : Fv, x.t = (if (Table.look L k).isSome then k else 0) ∧ x.fw = ((Table.look L k).getD fw0) ∧ x.At lo hi W ∧ (Instr.lookup 63 (.map (some b)) (.agg #[.int .i64 k]) true).run Tryz.prog W = .ok (.tuple #[x.val, .bool (Table.look L k).isSome]) W := by
  obtain ⟨n, D, hown, hD⟩ := h
  have hw := wf_i64 h0 h1
  obtain ⟨v2, ps2, hr2, hv2⟩ := hown.look_ok keyedK Tryz.underlying63 (zeroW W) (zd := .held fv0.val) (zp := []) rfl (keyOf_mk hw)
  obtain ⟨hh, ha⟩ := hD k hw
  obtain ⟨x, ht, hx, hA, hat⟩ : ∃ x : Fv, x.t = (if (Table.look L k).isSome then k else 0) ∧ x.fw = ((Table.look L k).getD fw0) ∧ x.At lo hi W ∧ D.atKey (kl k) (.held fv0.val) = .held x.val := by
    cases hm : Table.look L k with
    | none => rw [hm] at hh; exact ⟨fv0, rfl, rfl, fv0_at _ _ _, Maps.atKey_of_not_has hh _⟩
    | some r =>
      obtain ⟨x, ht, hx, hA, hz⟩ := ha r hm
      exact ⟨x, ht, hx, hA, hz _⟩
  rw [hat] at hv2
  simp only [rdr, Option.some.injEq, Prod.mk.injEq, DataW.held.injEq] at hv2
  obtain ⟨rfl, _⟩ := hv2
  rw [hh] at hr2
  exact ⟨x, ht, hx, hA, hr2⟩
set_option maxRecDepth 100000 in
/-- m[k] = x, whatever was there. -/
theorem Holds.put_any {W : World} {lo hi b : Nat} {L L' : List (Int × Fw)} (h : Holds W lo hi b L) (hr : Rising L) (hf : Fit L) (hfew : L.length ≤ 1000) {k : Int} (h0 : -9223372036854775808 ≤ k) (h1 : k ≤ 9223372036854775807) (x : Fv) (hx : x.At lo hi W) (ht : x.t = k) (hL : ∀ j, Table.look L' j = if j = k then some x.fw else Table.look L j) :
    ∃ w', (Instr.mapUpdate 63 (.map (some b)) (.agg #[.int .i64 k]) x.val).run Tryz.prog W = .ok () w' ∧ Holds w' lo hi b L' ∧ Kept [b] W w' ∧ w'.heap.size = W.heap.size := by
  have hoff := h.off lo hi
  obtain ⟨D, hown, hs, hD⟩ := h.sized hr hf
  have hwf := wf_i64 h0 h1
  obtain ⟨w', hrun, ho, htu⟩ := hown.store keyedK Tryz.underlying63 (by unfold maxLen; omega) (keyOf_mk hwf) (val := x.val) (d := .held x.val) (ps := []) rfl
  have hK : Kept [b] W w' := Kept.of_grown htu.grown (by simp)
  have hKo : ∀ j ∈ [b], Off lo hi W j := fun j hj => by simp at hj; rw [hj]; exact hoff
  refine ⟨w', hrun, ⟨_, _, ho, fun j hj => ?_⟩, hK, ?_⟩
  · rw [hL]
    by_cases e : j = k
    · subst e
      rw [if_pos rfl]
      refine ⟨Maps.has_put_same hown.isMap (keyedK.key (keyOf_mk hwf)) _, fun r hr => ⟨x, ht, by simpa using hr, hx.kept hK hKo, fun z => ?_⟩⟩
      exact Maps.atKey_put_same hown.isMap (keyedK.key (keyOf_mk hwf)) _ _
    · have hne : kl j ≠ kl k := fun e' => e (kl_inj hj hwf e')
      rw [if_neg e, Maps.has_put_other hne]
      refine ⟨(hD j hj).1, fun r hr => ?_⟩
      obtain ⟨y, hyt, hy, ha, hz⟩ := (hD j hj).2 r hr
      refine ⟨y, hyt, hy, ha.kept hK hKo, fun z => ?_⟩
      rw [Maps.atKey_put_other hne]
      exact hz z
  · obtain ⟨_, _, _, _, _, rfl⟩ := htu
    simp [ChangeMaps.setBlock]
set_option maxRecDepth 100000 in
/-- delete(m, k) -/
theorem Holds.strike {W : World} {lo hi b : Nat} {L : List (Int × Fw)} (h : Holds W lo hi b L) (hr : Rising L) {k : Int} (hk : (Table.look L k).isSome = true) (h0 : -9223372036854775808 ≤ k) (h1 : k ≤ 9223372036854775807) (ty : TypeId) :
    ∃ w', (Builtin.delete_ #[63, 71] ty #[.map (some b), .agg #[.int .i64 k]]).run Tryz.prog W = .ok (.tuple #[]) w' ∧ Holds w' lo hi b (del L k) ∧ Kept [b] W w' ∧ w'.heap.size = W.heap.size := by
  have hoff := h.off lo hi
  obtain ⟨n, D, hown, hD⟩ := h
  have hwf := wf_i64 h0 h1
  obtain ⟨w', hrun, ho, ht⟩ := hown.drop keyedK Tryz.underlying63 (keyOf_mk hwf) ty
  have hK : Kept [b] W w' := Kept.of_grown ht.grown (by simp)
  have hKo : ∀ j ∈ [b], Off lo hi W j := fun j hj => by simp at hj; rw [hj]; exact hoff
  refine ⟨w', hrun, ⟨_, _, ho, fun j hj => ?_⟩, hK, ?_⟩
  · rw [Table.look_del hr hk]
    by_cases e : j = k
    · subst e
      rw [if_pos rfl]
      exact ⟨Maps.has_del_same, fun r hr => by cases hr⟩
    · have hne : kl j ≠ kl k := fun e' => e (kl_inj hj hwf e')
      rw [if_neg e, Maps.has_del_other hne]
      refine ⟨(hD j hj).1, fun r hr => ?_⟩
      obtain ⟨y, hyt, hy, ha, hz⟩ := (hD j hj).2 r hr
      refine ⟨y, hyt, hy, ha.kept hK hKo, fun z => ?_⟩
      rw [Maps.atKey_del_other hne]
      exact hz z
  · obtain ⟨_, _, _, _, _, rfl⟩ := ht
    simp [ChangeMaps.setBlock]
theorem tr_off {W : World} (lo hi : Nat) : ∀ {t : Itree.Tr}, Itree.TrAt W t → ∀ k ∈ t.blks, Off lo hi W k
  | .nil, _, _, hk => by cases hk
  | .node b x e h l r, ⟨h1, h2, h3⟩, k, hk => by
    simp only [Itree.Tr.blks, List.mem_cons, List.mem_append] at hk
    rcases hk with rfl | hk | hk
    · exact off_blk h1 (by decide)
    · exact tr_off lo hi h2 k hk
    · exact tr_off lo hi h3 k hk
theorem tt_off {W : World} {p : Nat} {F : List Nat} {M : List Itree.It} (h : Itree.TT W p F M) (lo hi : Nat) : ∀ k ∈ F, Off lo hi W k := by
  obtain ⟨t, h1, _, _, rfl⟩ := h
  intro k hk
  rcases List.mem_cons.1 hk with rfl | hk
  · exact off_blk h1.blk (by decide)
  · exact tr_off lo hi h1.nodes k hk
/-- The program's flights in memory: all that they are made of lies from lo on. -/
structure FlAt (W : World) (lo hi f b p : Nat) (F : List Nat) (L : List (Int × Fw)) : Prop where
  blk : Blk W f 67 #[.pointer (some ⟨p, 0, none⟩), .map (some b)]
  map : Holds W lo hi b L
  tree : ∃ M, Itree.TT W p F M ∧ Tree M L ∧ M.length = L.length
  good : Good L
  fit : Fit L
  fF : f ∉ F
  bF : b ∉ F
  young : lo ≤ f ∧ lo ≤ b ∧ ∀ k ∈ F, lo ≤ k
  hih : hi ≤ W.heap.size
theorem FlAt.ne {W : World} {lo hi f b p : Nat} {F : List Nat} {L : List (Int × Fw)} (h : FlAt W lo hi f b p F L) : b ≠ f := fun e => by
  obtain ⟨es, clock, h2⟩ := h.map.isMap
  rw [e, h.blk] at h2
  cases h2
theorem FlAt.kept {K : List Nat} {A B : World} {lo hi f b p : Nat} {F : List Nat} {L : List (Int × Fw)} (h : FlAt A lo hi f b p F L) (hK : Kept K A B) (h1 : f ∉ K) (h2 : b ∉ K) (h3 : ∀ k ∈ F, k ∉ K) (hL : ∀ k ∈ K, Off lo hi A k) : FlAt B lo hi f b p F L := by
  obtain ⟨M, t1, t2, t3⟩ := h.tree
  exact ⟨h.blk.kept hK h1, h.map.kept hK h2 hL, ⟨M, t1.kept hK h3, t2, t3⟩, h.good, h.fit, h.fF, h.bF, h.young, Nat.le_trans h.hih hK.size⟩
theorem FlAt.kept0 {A B : World} {lo hi f b p : Nat} {F : List Nat} {L : List (Int × Fw)} (h : FlAt A lo hi f b p F L) (hK : Kept [] A B) : FlAt B lo hi f b p F L := h.kept hK (by simp) (by simp) (by simp) (by simp)
theorem FlAt.two {W : World} {lo hi f b p : Nat} {F : List Nat} {L : List (Int × Fw)} (h : FlAt W lo hi f b p F L) : W.cell? ⟨f, 0, none⟩ = some (.pointer (some ⟨p, 0, none⟩)) ∧ W.cell? ⟨f, 1, none⟩ = some (.map (some b)) := ⟨h.blk.cell 0, h.blk.cell 1⟩
/-- What the flights are made of is turned by none of their calls but the map and the tree. -/
theorem FlAt.off {W : World} {lo hi f b p : Nat} {F : List Nat} {L : List (Int × Fw)} (h : FlAt W lo hi f b p F L) (lo' hi' : Nat) : ∀ k ∈ f :: b :: F, Off lo' hi' W k := fun k hk => by
  obtain ⟨M, t1, _, _⟩ := h.tree
  rcases List.mem_cons.1 hk with rfl | hk
  · exact off_blk h.blk (by decide)
  · rcases List.mem_cons.1 hk with rfl | hk
    · exact h.map.off _ _
    · exact tt_off t1 _ _ k hk
end Go.Proofs.YtollfckgjhklcaaGreat.Flight
