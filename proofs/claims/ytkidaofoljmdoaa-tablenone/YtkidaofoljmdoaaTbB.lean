/-
  A map of requests in memory, and the program's table: what they hold; the walks of New, made, has, Len, Full, Tickets, Get, Remove and Add.
-/
import Derived.Test.YtkidaofoljmdoaaTbA
import Derived.Test.YtkidaofoljmdoaaLaid
import Derived.Lib.SlKeysI
namespace Go.Proofs.Ytkidaofoljmdoaa.Table
open Go.RowKit Go.Maps Go.Sort Go.Shelf

/-- An element of the map is read as it stands. -/
def rdr : Value → Option (DataW Value × List MemPlace) := fun v => some (.held v, [])
/-- Block b is a map that holds the requests of L; their bytes lie from lo on and below hi. -/
def Holds (W : World) (lo hi b : Nat) (L : List (Int × Rq)) : Prop :=
  ∃ n D, W.ownsMap Try.prog 3 rdr b n D ∧ ∀ k : Int, Maps.has D (.int .i64 k) = (look L k).isSome ∧ ∀ r, look L k = some r → ∃ x : Qv, x.rq = r ∧ x.At lo hi W ∧ ∀ z, D.atKey (.int .i64 k) z = .held x.val
set_option maxRecDepth 100000 in
theorem keyed3 : Go.Maps.Keyed Try.prog 3 := Go.Maps.int_keyed Try.underlying3
set_option maxRecDepth 100000 in
theorem zeroQ (w : World) : (zeroValue 35).run Try.prog w = .ok q0.val w := by kernel_rfl
theorem wf_i64 {k : Int} (h0 : -9223372036854775808 ≤ k) (h1 : k ≤ 9223372036854775807) : (Lit.int .i64 k).wf = true := WalkArith.wf_i64 ⟨h0, h1⟩
set_option maxRecDepth 100000 in
/-- What a map of this kind reads as. -/
theorem int_entries {W : World} {b n : Nat} {D : DataW Value} (hown : W.ownsMap Try.prog 3 rdr b n D) : ∃ es, D = .map es ∧ es.Pairwise (fun p q => p.1 ≠ q.1) ∧ ∀ p ∈ es, ∃ x : Int, p.1 = .int .i64 x := by
  obtain ⟨es, hD, hpw, _⟩ := hown.entries keyed3
  obtain ⟨es', hD', hko⟩ := hown.keysOf
  obtain rfl : es = es' := by rw [hD] at hD'; simpa using hD'
  exact ⟨es, hD, hpw, fun p hp => by obtain ⟨v, hv⟩ := hko p hp; obtain ⟨x, _, hx, _⟩ := Maps.keyOf_i64 Try.underlying3 hv; exact ⟨x, hx⟩⟩
theorem Holds.lt {W : World} {lo hi b : Nat} {L : List (Int × Rq)} (h : Holds W lo hi b L) : b < W.heap.size := by
  obtain ⟨n, D, h, _⟩ := h
  exact h.lt
theorem Holds.isMap {W : World} {lo hi b : Nat} {L : List (Int × Rq)} (h : Holds W lo hi b L) : ∃ es clock, W.heap[b]? = some (.map es clock) := by
  obtain ⟨n, D, ⟨es, clock, h, _⟩, _⟩ := h
  exact ⟨es, clock, h⟩
theorem Holds.kept {K : List Nat} {A B : World} {lo hi b : Nat} {L : List (Int × Rq)} (h : Holds A lo hi b L) (hh : hi ≤ A.heap.size) (hK : Kept K A B) (hb : b ∉ K) (hL : ∀ k ∈ K, k < lo ∨ hi ≤ k) : Holds B lo hi b L := by
  have hlt := h.lt
  obtain ⟨n, D, ⟨es, clock, h1, h2⟩, h3⟩ := h
  refine ⟨n, D, ⟨es, clock, (hK.block b hlt hb).trans h1, h2⟩, fun k => ⟨(h3 k).1, fun r hr => ?_⟩⟩
  obtain ⟨x, hx, ha, hz⟩ := (h3 k).2 r hr
  exact ⟨x, hx, ha.kept hh hK hL, hz⟩
theorem Holds.mono {W : World} {lo hi lo' hi' b : Nat} {L : List (Int × Rq)} (h : Holds W lo hi b L) (h1 : lo' ≤ lo) (h2 : hi ≤ hi') : Holds W lo' hi' b L := by
  obtain ⟨n, D, h0, h3⟩ := h
  refine ⟨n, D, h0, fun k => ⟨(h3 k).1, fun r hr => ?_⟩⟩
  obtain ⟨x, hx, ha, hz⟩ := (h3 k).2 r hr
  exact ⟨x, hx, ha.mono h1 h2, hz⟩
set_option maxRecDepth 100000 in
theorem holds_made (lo hi : Nat) (w : World) : Holds (w.alloc (.map #[] 0)) lo hi w.heap.size [] :=
  ⟨0, .map [], World.ownsMap_made w Try.prog 3 rdr, fun k => ⟨rfl, fun l h => by cases h⟩⟩
set_option maxRecDepth 100000 in
theorem keys_perm {W : World} {b n : Nat} {D : DataW Value} {L : List (Int × Rq)} (hown : W.ownsMap Try.prog 3 rdr b n D) (hr : Rising L) (hD : ∀ k : Int, Maps.has D (.int .i64 k) = (look L k).isSome) : (tks L).Perm (intKeys D) := by
  obtain ⟨es, rfl, hp, hkey⟩ := int_entries hown
  exact perm_intKeys hp hkey (tks_nodup hr) (fun x => by rw [hD x, mem_tks])
set_option maxRecDepth 100000 in
theorem size_of {W : World} {b n : Nat} {D : DataW Value} {L : List (Int × Rq)} (hown : W.ownsMap Try.prog 3 rdr b n D) (hr : Rising L) (hD : ∀ k : Int, Maps.has D (.int .i64 k) = (look L k).isSome) : Maps.size D = L.length := by
  have h := (keys_perm hown hr hD).length_eq
  obtain ⟨es, rfl, hp, hkey⟩ := int_entries hown
  simp [tks, intKeys] at h
  rw [h]
  rfl
set_option maxRecDepth 100000 in
theorem Holds.sized {W : World} {lo hi b : Nat} {L : List (Int × Rq)} (h : Holds W lo hi b L) (hr : Rising L) :
    ∃ D, W.ownsMap Try.prog 3 rdr b L.length D ∧ Maps.size D = L.length ∧ ∀ k : Int, Maps.has D (.int .i64 k) = (look L k).isSome ∧ ∀ r, look L k = some r → ∃ x : Qv, x.rq = r ∧ x.At lo hi W ∧ ∀ z, D.atKey (.int .i64 k) z = .held x.val := by
  obtain ⟨n, D, hown, hD⟩ := h
  have hs := size_of hown hr (fun k => (hD k).1)
  refine ⟨D, ?_, hs, hD⟩
  obtain ⟨es', clock, h1, h2, h3, h4⟩ := hown
  refine ⟨es', clock, h1, h2, ?_, h4⟩
  rw [← hs, h4]
  simp [Maps.size, length_sorted]
set_option maxRecDepth 100000 in
/-- len(m) -/
theorem Holds.len {W : World} {lo hi b : Nat} {L : List (Int × Rq)} (h : Holds W lo hi b L) (hr : Rising L) (ty : TypeId) : (Builtin.len_ #[53] ty #[.map (some b)]).run Try.prog W = .ok (.int .i64 (L.length : Int)) W := by
  obtain ⟨D, hown, hs, _⟩ := h.sized hr
  rw [← hs]
  exact hown.len Try.underlying53 ty
set_option maxRecDepth 100000 in
/-- The keys, sorted. -/
theorem sorted_keys {W : World} {b n : Nat} {D : DataW Value} {L : List (Int × Rq)} (hown : W.ownsMap Try.prog 3 rdr b n D) (hr : Rising L) (hD : ∀ k : Int, Maps.has D (.int .i64 k) = (look L k).isSome) (ss : List Int) (hs : ss.Perm (intKeys D)) : ss.mergeSort (fun x y => decide (x ≤ y)) = tks L := by
  have e := mergeSort_of_perm_i (hs.trans (keys_perm hown hr hD).symm)
  unfold leI at e
  rw [e]
  refine List.Perm.eq_of_pairwise (le := fun a b : Int => a ≤ b) (fun a b _ _ h1 h2 => Int.le_antisymm h1 h2) ?_ (tks_sorted hr) (List.mergeSort_perm _ _)
  have := List.pairwise_mergeSort (le := fun x y : Int => decide (x ≤ y)) (fun a b c h1 h2 => by simp at *; omega) (fun a b => by simp; omega) (tks L)
  exact this.imp fun h => by simpa using h
set_option maxRecDepth 100000 in
/-- m[k] -/
theorem Holds.seek {W : World} {lo hi b : Nat} {L : List (Int × Rq)} (h : Holds W lo hi b L) {k : Int} (h0 : -9223372036854775808 ≤ k) (h1 : k ≤ 9223372036854775807) :
    ∃ x : Qv, x.rq = ((look L k).getD rq0) ∧ x.At lo hi W ∧ (Instr.lookup 53 (.map (some b)) (.int .i64 k) false).run Try.prog W = .ok x.val W ∧ (Instr.lookup 53 (.map (some b)) (.int .i64 k) true).run Try.prog W = .ok (.tuple #[x.val, .bool (look L k).isSome]) W := by
  obtain ⟨n, D, hown, hD⟩ := h
  obtain ⟨v, ps, hr, hv⟩ := hown.lookup keyed3 Try.underlying53 (zeroQ W) (zd := .held q0.val) (zp := []) rfl (Go.Maps.keyOf_int_mk Try.underlying3 (wf_i64 h0 h1))
  obtain ⟨v2, ps2, hr2, hv2⟩ := hown.look_ok keyed3 Try.underlying53 (zeroQ W) (zd := .held q0.val) (zp := []) rfl (Go.Maps.keyOf_int_mk Try.underlying3 (wf_i64 h0 h1))
  obtain ⟨hh, ha⟩ := hD k
  obtain ⟨x, hx, hA, hat⟩ : ∃ x : Qv, x.rq = ((Table.look L k).getD rq0) ∧ x.At lo hi W ∧ D.atKey (.int .i64 k) (.held q0.val) = .held x.val := by
    cases hm : Table.look L k with
    | none => rw [hm] at hh; exact ⟨q0, rfl, q0_at _ _ _, Maps.atKey_of_not_has hh _⟩
    | some r =>
      obtain ⟨x, hx, hA, hz⟩ := ha r hm
      exact ⟨x, hx, hA, hz _⟩
  rw [hat] at hv hv2
  simp only [rdr, Option.some.injEq, Prod.mk.injEq, DataW.held.injEq] at hv hv2
  obtain ⟨rfl, _⟩ := hv
  obtain ⟨rfl, _⟩ := hv2
  rw [hh] at hr2
  exact ⟨x, hx, hA, hr, hr2⟩
set_option maxRecDepth 100000 in
/-- m[k] = x -/
theorem Holds.put {W : World} {lo hi b : Nat} {L : List (Int × Rq)} (h : Holds W lo hi b L) (hr : Rising L) (hfew : L.length ≤ 1000) (hh : hi ≤ W.heap.size) (hbl : b < lo) {k : Int} (hk : look L k = none) (h0 : -9223372036854775808 ≤ k) (h1 : k ≤ 9223372036854775807) (x : Qv) (hx : x.At lo hi W) :
    ∃ w', (Instr.mapUpdate 53 (.map (some b)) (.int .i64 k) x.val).run Try.prog W = .ok () w' ∧ Holds w' lo hi b (ins L k x.rq) ∧ Kept [b] W w' ∧ w'.heap.size = W.heap.size := by
  obtain ⟨D, hown, hs, hD⟩ := h.sized hr
  have hwf : (Lit.int .i64 k).wf = true := wf_i64 (by omega) (by omega)
  obtain ⟨w', hrun, ho, ht⟩ := hown.store keyed3 Try.underlying53 (by unfold maxLen; omega) (Go.Maps.keyOf_int_mk Try.underlying3 hwf) (val := x.val) (d := .held x.val) (ps := []) rfl
  have hK : Kept [b] W w' := Kept.of_grown ht.grown (by simp)
  refine ⟨w', hrun, ⟨_, _, ho, fun j => ?_⟩, hK, ?_⟩
  · rw [look_ins hk]
    by_cases e : j = k
    · subst e
      rw [if_pos rfl]
      refine ⟨Maps.has_put_same hown.isMap (keyed3.key (Go.Maps.keyOf_int_mk Try.underlying3 hwf)) _, fun r hr => ⟨x, by simpa using hr, hx.kept hh hK (by simp; omega), fun z => ?_⟩⟩
      exact Maps.atKey_put_same hown.isMap (keyed3.key (Go.Maps.keyOf_int_mk Try.underlying3 hwf)) _ _
    · have hne : Lit.int .i64 j ≠ Lit.int .i64 k := fun e' => e (by injection e')
      rw [if_neg e, Maps.has_put_other hne]
      refine ⟨(hD j).1, fun r hr => ?_⟩
      obtain ⟨y, hy, ha, hz⟩ := (hD j).2 r hr
      refine ⟨y, hy, ha.kept hh hK (by simp; omega), fun z => ?_⟩
      rw [Maps.atKey_put_other hne]
      exact hz z
  · obtain ⟨_, _, _, _, _, rfl⟩ := ht
    simp [ChangeMaps.setBlock]
set_option maxRecDepth 100000 in
/-- delete(m, k) -/
theorem Holds.strike {W : World} {lo hi b : Nat} {L : List (Int × Rq)} (h : Holds W lo hi b L) (hr : Rising L) (hh : hi ≤ W.heap.size) (hbl : b < lo) {k : Int} (hk : (look L k).isSome = true) (h0 : -9223372036854775808 ≤ k) (h1 : k ≤ 9223372036854775807) (ty : TypeId) :
    ∃ w', (Builtin.delete_ #[53, 3] ty #[.map (some b), .int .i64 k]).run Try.prog W = .ok (.tuple #[]) w' ∧ Holds w' lo hi b (del L k) ∧ Kept [b] W w' ∧ w'.heap.size = W.heap.size := by
  obtain ⟨n, D, hown, hD⟩ := h
  have hwf : (Lit.int .i64 k).wf = true := wf_i64 (by omega) (by omega)
  obtain ⟨w', hrun, ho, ht⟩ := hown.drop keyed3 Try.underlying53 (Go.Maps.keyOf_int_mk Try.underlying3 hwf) ty
  have hK : Kept [b] W w' := Kept.of_grown ht.grown (by simp)
  refine ⟨w', hrun, ⟨_, _, ho, fun j => ?_⟩, hK, ?_⟩
  · rw [look_del hr hk]
    by_cases e : j = k
    · subst e
      rw [if_pos rfl]
      exact ⟨Maps.has_del_same, fun r hr => by cases hr⟩
    · have hne : Lit.int .i64 j ≠ Lit.int .i64 k := fun e' => e (by injection e')
      rw [if_neg e, Maps.has_del_other hne]
      refine ⟨(hD j).1, fun r hr => ?_⟩
      obtain ⟨y, hy, ha, hz⟩ := (hD j).2 r hr
      refine ⟨y, hy, ha.kept hh hK (by simp; omega), fun z => ?_⟩
      rw [Maps.atKey_del_other hne]
      exact hz z
  · obtain ⟨_, _, _, _, _, rfl⟩ := ht
    simp [ChangeMaps.setBlock]

/-- The program's table in memory. -/
structure TabAt (W : World) (lo hi t b most : Nat) (L : List (Int × Rq)) : Prop where
  blk : Blk W t 55 #[.int .i64 (most : Int), .map (some b)]
  map : Holds W lo hi b L
  fine : Fine most L
  pos : 1 ≤ most
  top : most ≤ 16
  tlo : t < lo
  blo : b < lo
  hih : hi ≤ W.heap.size
theorem TabAt.ne {W : World} {lo hi t b most : Nat} {L : List (Int × Rq)} (h : TabAt W lo hi t b most L) : b ≠ t := fun e => by
  obtain ⟨es, clock, h2⟩ := h.map.isMap
  rw [e, h.blk] at h2
  cases h2
theorem TabAt.kept {K : List Nat} {A B : World} {lo hi t b most : Nat} {L : List (Int × Rq)} (h : TabAt A lo hi t b most L) (hK : Kept K A B) (h1 : t ∉ K) (h2 : b ∉ K) (hL : ∀ k ∈ K, k < lo ∨ hi ≤ k) : TabAt B lo hi t b most L :=
  ⟨h.blk.kept hK h1, h.map.kept h.hih hK h2 hL, h.fine, h.pos, h.top, h.tlo, h.blo, Nat.le_trans h.hih hK.size⟩
theorem TabAt.kept0 {A B : World} {lo hi t b most : Nat} {L : List (Int × Rq)} (h : TabAt A lo hi t b most L) (hK : Kept [] A B) : TabAt B lo hi t b most L := h.kept hK (by simp) (by simp) (by simp)
theorem TabAt.two {W : World} {lo hi t b most : Nat} {L : List (Int × Rq)} (h : TabAt W lo hi t b most L) : W.cell? ⟨t, 0, none⟩ = some (.int .i64 (most : Int)) ∧ W.cell? ⟨t, 1, none⟩ = some (.map (some b)) := ⟨h.blk.cell 0, h.blk.cell 1⟩

set_option maxRecDepth 100000 in
/-- New -/
theorem new_any (most : Nat) (h1 : 1 ≤ most) (h2 : most ≤ 16) (w : World) :
    Calls Try.prog 7 #[.int .i64 (most : Int)] w fun e w' => e = .returned (.tuple #[.pointer (some ⟨w.heap.size + 1, 0, none⟩), .int .i64 0]) ∧ (∀ lo hi, w.heap.size + 2 ≤ lo → hi ≤ w'.heap.size → TabAt w' lo hi (w.heap.size + 1) w.heap.size most []) ∧ w'.heap.size = w.heap.size + 2 ∧ Kept [] w w' := by
  have hmm := @run_makeMap Try.prog
  have k1 : ¬ ((most : Int) < 1) := by omega
  have k2 : ¬ ((16 : Int) < (most : Int)) := by omega
  go_enter Try.func7, Try.ntmps7
  go_wp2
  all_goals first | omega | skip
  go_ret2
  have ka := kept_alloc [] (w.alloc (.map #[] 0)) (.cells #[.int .i64 (most : Int), .map (some w.heap.size)] 55)
  refine ⟨rfl, fun lo hi hlo hhi => ⟨?_, ((holds_made lo 0 w).kept (Nat.zero_le _) ka (by simp) (by simp)).mono (Nat.le_refl _) (Nat.zero_le _), fine_nil most, h1, h2, by omega, by omega, hhi⟩, by simp, (kept_alloc [] _ _).trans ka⟩
  · have := blk_new (w.alloc (.map #[] 0)) 55 #[.int .i64 (most : Int), .map (some w.heap.size)]
    rw [World.size_alloc] at this
    exact this
set_option maxRecDepth 100000 in
/-- New, of any other number -/
theorem new_none (k : Int) (h : k < 1 ∨ 16 < k) (w : World) :
    Calls Try.prog 7 #[.int .i64 k] w fun e w' => e = .returned (.tuple #[.pointer none, .int .i64 2]) ∧ w' = w := by
  go_enter Try.func7, Try.ntmps7
  go_wp2
  all_goals first | omega | (go_ret2; exact ⟨rfl, rfl⟩)
set_option maxRecDepth 100000 in
/-- made -/
theorem made_any {lo hi t b most : Nat} {L : List (Int × Rq)} (w : World) (h : TabAt w lo hi t b most L) :
    Calls Try.prog 21 #[.pointer (some ⟨t, 0, none⟩)] w fun e w' => e = .returned (.bool true) ∧ w' = w := by
  have c0 := h.two.1
  have hp := h.pos
  go_enter Try.func21, Try.ntmps21
  go_wp2
  go_ret
  exact ⟨by simp; omega, rfl⟩
set_option maxRecDepth 100000 in
/-- Len -/
theorem len_any {lo hi t b most : Nat} {L : List (Int × Rq)} (w : World) (h : TabAt w lo hi t b most L) :
    Calls Try.prog 16 #[.pointer (some ⟨t, 0, none⟩)] w fun e w' => e = .returned (.int .i64 (L.length : Int)) ∧ w' = w := by
  have c1 := h.two.2
  have q := made_any w h
  have ql := h.map.len h.fine.rise
  go_enter Try.func16, Try.ntmps16
  go_wp2_with (go_at_call 21; refine q.mono ?_; rintro e w ⟨rfl, rfl⟩)
  go_ret
  exact ⟨rfl, rfl⟩
set_option maxRecDepth 100000 in
/-- Full -/
theorem full_any {lo hi t b most : Nat} {L : List (Int × Rq)} (w : World) (h : TabAt w lo hi t b most L) :
    Calls Try.prog 17 #[.pointer (some ⟨t, 0, none⟩)] w fun e w' => e = .returned (.bool (decide (most ≤ L.length))) ∧ Kept [] w w' := by
  have hd : ∀ n, TabAt (w.drewN n) lo hi t b most L := fun n => h.kept0 (kept_drewN [] w n)
  have c1 := fun n => (hd n).two.2
  have c0 := fun n => (hd n).two.1
  have q := fun n => made_any _ (hd n)
  have ql := fun n => (hd n).map.len h.fine.rise
  go_enter Try.func17, Try.ntmps17
  go_wp2_with fail
  go_quiet (first | (go_at_call_of 21 (#[.pointer (some ⟨t, 0, none⟩)] : Array Value); exact Calls.quiet_of_same (q _)))
  go_wp2_with fail
  go_ret
  exact ⟨by simp, kept_drewN [] _ _⟩
set_option maxRecDepth 100000 in
set_option maxHeartbeats 1000000 in
/-- has -/
theorem has_any {lo hi t b most : Nat} {L : List (Int × Rq)} (k : Int) (h0 : -9223372036854775808 ≤ k) (h1 : k ≤ 9223372036854775807) (w : World) (h : TabAt w lo hi t b most L) :
    Calls Try.prog 22 #[.pointer (some ⟨t, 0, none⟩), .int .i64 k] w fun e w' => e = .returned (.bool (look L k).isSome) ∧ Kept [] w w' := by
  have c1 := h.two.2
  have q := made_any w h
  obtain ⟨x, _, _, _, hl⟩ := h.map.seek h0 h1
  unfold Qv.val at hl
  go_enter Try.func22, Try.ntmps22
  go_wp2_with (go_at_call 21; refine q.mono ?_; rintro e w ⟨rfl, rfl⟩)
  go_ret
  exact ⟨rfl, kept_alloc [] _ _⟩
set_option maxRecDepth 100000 in
/-- maps.Keys -/
theorem keys_any (mb : Option Nat) (W : World) : Calls Try.prog 27 #[.map mb] W fun e w' => e = .returned (.func (.func 31) #[] #[.pointer (some ⟨W.heap.size, 0, none⟩)]) ∧ w' = W.alloc (.cells #[.map mb] 53) :=
  (callsIn_wide (n := 5)).1 (AnyZI.keys_in Try.keysL Fence.wide 5 trivial rfl mb W)
set_option maxRecDepth 100000 in
/-- slices.Sort's two contracts at this program. -/
theorem Try.sortsL (m : Nat) : AnyZI.SortsIn Try.prog Try.sortedL_ren Fence.wide m :=
  ⟨fun blk off cap ss W hH hblk hsz => callsIn_wide.2 (AnyM.slices_Sort_int Try.sortL blk off cap ss W hH hblk hsz),
   fun p cap W => callsIn_wide.2 (AnyM.slices_Sort_int_none Try.sortL p cap W)⟩
set_option maxRecDepth 100000 in
set_option maxHeartbeats 1000000 in
/-- slices.Sorted of what maps.Keys told -/
theorem sorted_any {lo hi b : Nat} {L : List (Int × Rq)} (w : World) (hm : Holds w lo hi b L) (hr : Rising L) (hfew : L.length ≤ 1000) :
    Calls Try.prog 26 #[.func (.func 31) #[] #[.pointer (some ⟨w.heap.size, 0, none⟩)]] (w.alloc (.cells #[.map (some b)] 53)) fun e w' => ∃ v : Value, e = .returned v ∧
      w'.ownsRow w.heap.size 3 1 v (tks L).length ((tks L).map encZ) ∧ Below (w.heap.size + 1) (w.alloc (.cells #[.map (some b)] 53)) w' := by
  obtain ⟨D0, hown, hs, hD⟩ := hm.sized hr
  have hbl := hown.lt
  rw [← hs] at hown hfew
  have hseq : SeqGives Fence.wide 2 Try.prog 31 #[.pointer (some ⟨w.heap.size, 0, none⟩)] encZ (fun ss => ss.Perm (intKeys D0)) (Maps.size D0) (w.alloc (.cells #[.map (some b)] 53)) :=
    AnyZI.keys_gives (ρ := Try.keysL_ren) { Try.keysL with } Fence.wide _ trivial rfl (by omega) w.heap.size b _ D0 _ (by simp) (by simp) (by
      obtain ⟨es, clock, hb, Ft, hs, hD⟩ := hown
      exact ⟨es, clock, (Below.heap_alloc _ _ b hbl).trans hb, Ft, hs, hD⟩)
  have cS := AnyZI.sorted_in Try.sortedL Fence.wide 5 trivial trivial trivial trivial rfl (by omega) (Try.sortsL _) (enters_of Try.func30 (by kernel_rfl) rfl) 31 #[.pointer (some ⟨w.heap.size, 0, none⟩)] trivial (enters_of Try.func31 (by kernel_rfl) rfl) _ _ (by unfold maxLen; omega) (by omega) _ hseq
  change CallsIn _ _ Try.prog 26 _ _ _ at cS
  refine ((callsIn_wide (n := 5)).1 cS).mono ?_
  rintro e w' ⟨v, ss, rfl, hS, hrow, hnil, hB⟩
  have es := sorted_keys hown hr (fun k => (hD k).1) ss hS
  have el : ss.length = (tks L).length := by
    have := congrArg List.length es
    simpa using this
  rw [es, el] at hrow
  refine ⟨v, rfl, ?_, by simpa using hB⟩
  exact ownsRow_base_a hrow (by simp)
set_option maxRecDepth 100000 in
/-- Tickets -/
theorem tickets_any {lo hi t b most : Nat} {L : List (Int × Rq)} (w : World) (h : TabAt w lo hi t b most L) :
    Calls Try.prog 19 #[.pointer (some ⟨t, 0, none⟩)] w fun e w' => ∃ v, e = .returned v ∧ w'.ownsRow w.heap.size 3 1 v (tks L).length ((tks L).map encZ) ∧ Kept [] w w' := by
  have q := made_any w h
  have c1 := h.two.2
  have qk := keys_any (some b) w
  have hf := h.fine.few
  have ht := h.top
  have qs := sorted_any w h.map h.fine.rise (by omega)
  go_enter Try.func19, Try.ntmps19
  go_wp2_with (first
    | (go_at_call 21; refine q.mono ?_; rintro e w' ⟨rfl, rfl⟩)
    | (go_at_call 27; refine qk.mono ?_; rintro e w' ⟨rfl, rfl⟩)
    | (go_at_call 26; refine qs.mono ?_; rintro e w' ⟨v, rfl, hrow, hB⟩))
  go_ret
  exact ⟨v, rfl, hrow, (kept_alloc _ _ _).trans (Kept.of_below (by simpa using hB) [])⟩
set_option maxRecDepth 100000 in
/-- What a call hands back: the request that it laid, and a second result. -/
theorem results_req {fn : Func} {p u : Tmp} (h : fn.results = #[.cell p 35, .tmp u]) (tmps : Array Value) (w : World) (g : Nat) (cs : List Value) (hp : tmps.getD p undef = .pointer (some ⟨g, 0, none⟩)) (hg : Blk w g 35 cs.toArray) (hl : cs.length = 4) :
    (results fn tmps).run Try.prog w = .ok (.tuple #[.agg cs.toArray, tmps.getD u undef]) w := by
  have hl := run_loadVar_row (P := Try.prog) w g 35 35 cs.toArray (0, 0) _ hg Try.underlying35 (by rfl) (by rw [List.size_toArray, hl]; exact Try.sizeQ)
  rw [results_cell_tmp h, hp]
  simp [asAddr, hl, Result.andThen]
set_option maxRecDepth 100000 in
set_option maxHeartbeats 1000000 in
/-- Get -/
theorem get_soft {lo hi t b most : Nat} {L : List (Int × Rq)} (k : Int) (h0 : -9223372036854775808 ≤ k) (h1 : k ≤ 9223372036854775807) (w : World) (h : TabAt w lo hi t b most L) (hlen : ∀ r, look L k = some r → r.bs.length ≤ 1000) :
    Calls Try.prog 13 #[.pointer (some ⟨t, 0, none⟩), .int .i64 k] w fun e w' => ∃ y : Qv, e = .returned (.tuple #[y.val, .bool (look L k).isSome]) ∧ y.rq = (look L k).getD rq0 ∧ y.At w.heap.size w'.heap.size w' ∧ Kept [] w w' ∧ Soft (w.heap.size + 1) w' (.slice y.sa y.len y.cap) := by
  have ka := kept_alloc [] w (.cells #[.int .i64 0, .int .i64 0, .int .i64 0, .slice none 0 0] 35)
  have hb0 := blk_new w 35 #[.int .i64 0, .int .i64 0, .int .i64 0, .slice none 0 0]
  have q := has_any k h0 h1 _ (h.kept0 ka)
  cases hk : look L k with
  | none =>
    rw [hk] at q
    clear hlen
    go_enter Try.func13, Try.ntmps13
    go_wp2_with (first
      | (go_at_call 22; refine q.mono ?_; rintro e w1 ⟨rfl, hk1⟩; have hb1 := hb0.kept hk1 (by simp))
      | (refine wpList_store_blk rfl 35 _ _ rfl w.heap.size 35 _ [.int .i64 0, .int .i64 0, .int .i64 0, .slice none 0 0] rfl rfl hb1 rfl Try.sizeQ (by simp [Value.oneCell']) ?_; intro w2 hb2 hk2 hz2))
    refine bodyPost_ret (results_req rfl _ _ w.heap.size _ rfl hb2 rfl) rfl ⟨q0, rfl, rfl, q0_at _ _ _, ?_, soft_none _ _ _ _⟩
    exact (ka.trans hk1).young hk2 (Nat.le_refl _)
  | some r =>
    rw [hk] at q
    have hl := hlen r hk
    replace hk : Hid (look L k = some r) := hk
    clear hlen
    go_enter Try.func13, Try.ntmps13
    go_wp2_with (first
      | (go_at_call 22; refine q.mono ?_; rintro e w1 ⟨rfl, hk1⟩; have hb1 := hb0.kept hk1 (by simp); have ht1 := (h.kept0 ka).kept0 hk1; have c1 := ht1.two.2; obtain ⟨x, hx, hA, hr, -⟩ := ht1.map.seek h0 h1; rw [hk.out] at hx; have hxb : Hid (x.rq = r) := hx; have qa := apart_soft x lo hi w1 hA ht1.hih (by rw [hA.len]; have e := congrArg Rq.bs hx; have e2 : x.bs = r.bs := e; rw [e2]; exact hl); unfold Qv.val at hr qa; clear hA hx)
      | (go_at_call 23; refine qa.mono ?_; rintro e w2 ⟨y, rfl, hy, hyA, hk2, hsf⟩; replace hy : Hid (y.rq = x.rq) := hy; have hb2 := hb1.kept hk2 (by simp))
      | (refine wpList_store_blk rfl 35 _ _ rfl w.heap.size 35 _ [.int .i64 y.k, .int .i64 y.o, .int .i64 y.l, .slice y.sa y.len y.cap] rfl rfl hb2 rfl Try.sizeQ (by simp [Value.oneCell']) ?_; intro w3 hb3 hk3 hz3))
    have hs1 := hk1.size
    simp at hs1
    refine bodyPost_ret (results_req rfl _ _ w.heap.size _ rfl hb3 rfl) rfl ⟨y, rfl, hy.out.trans hxb.out, (hyA.kept (Nat.le_refl _) hk3 (by simp; omega)).mono (by omega) hk3.size, ?_, (hsf.kept hk3 (by simp; omega)).mono (by omega)⟩
    exact ((ka.trans hk1).trans hk2).young hk3 (Nat.le_refl _)
set_option maxRecDepth 100000 in
theorem get_any {lo hi t b most : Nat} {L : List (Int × Rq)} (k : Int) (h0 : -9223372036854775808 ≤ k) (h1 : k ≤ 9223372036854775807) (w : World) (h : TabAt w lo hi t b most L) (hlen : ∀ r, look L k = some r → r.bs.length ≤ 1000) :
    Calls Try.prog 13 #[.pointer (some ⟨t, 0, none⟩), .int .i64 k] w fun e w' => ∃ y : Qv, e = .returned (.tuple #[y.val, .bool (look L k).isSome]) ∧ y.rq = (look L k).getD rq0 ∧ y.At w.heap.size w'.heap.size w' ∧ Kept [] w w' :=
  (get_soft k h0 h1 w h hlen).mono fun _ _ ⟨y, h1, h2, h3, h4, _⟩ => ⟨y, h1, h2, h3, h4⟩
section
variable {ops : Array Oper} {rest : List Oper} {o : Oper} {a : Act} {w : World} {Q : Exit → Act → World → Prop}
set_option maxRecDepth 100000 in
/-- delete(m, k), at the operation -/
theorem wpList_delete_holds (hg : o.guard = none) (m x : Operand) (hop : o.op = Op.call { callee := Callee.builtin Builtin.delete, args := #[m, x], argTypes := #[53, 3] })
    (lo hi b : Nat) (L : List (Int × Rq)) (k : Int) (hm : a.eval m = .map (some b)) (hx : a.eval x = .int .i64 k) (h : Holds w lo hi b L) (hr : Rising L) (hh : hi ≤ w.heap.size) (hbl : b < lo) (hk : (look L k).isSome = true) (h0 : -9223372036854775808 ≤ k) (h1 : k ≤ 9223372036854775807)
    (hK : ∀ w', Holds w' lo hi b (del L k) → Kept [b] w w' → wpList Try.prog ops Q rest (a.put o.dst (.tuple #[])) w') :
    wpList Try.prog ops Q (o :: rest) a w := by
  refine wpList_plain hg fun K' hK' => ?_
  obtain ⟨w', hrun, r1, r2, r3⟩ := h.strike hr hh hbl hk h0 h1 o.type
  unfold Oper.wp
  simp [execOp, hop, resolve, invoke, builtin, hm, hx, hrun, Result.andThen]
  exact hK' _ _ (hK w' r1 r2)
end
set_option maxRecDepth 100000 in
set_option maxHeartbeats 1000000 in
/-- Remove -/
theorem remove_any {lo hi t b most : Nat} {L : List (Int × Rq)} (k : Int) (h0 : -9223372036854775808 ≤ k) (h1 : k ≤ 9223372036854775807) (w : World) (h : TabAt w lo hi t b most L) :
    Calls Try.prog 11 #[.pointer (some ⟨t, 0, none⟩), .int .i64 k] w fun e w' => e = .returned (.bool (look L k).isSome) ∧ TabAt w' lo hi t b most (remL L k) ∧ Kept [b] w w' := by
  have q := has_any k h0 h1 w h
  have hf := h.fine.rem k
  unfold remL at *
  cases hk : (look L k).isSome with
  | false =>
    rw [hk] at q
    rw [if_neg (by decide)]
    clear hf
    go_enter Try.func11, Try.ntmps11
    go_wp2_with (first
      | (go_at_call 22; refine q.mono ?_; rintro e w1 ⟨rfl, hk1⟩))
    go_ret
    exact ⟨rfl, h.kept0 hk1, hk1.mono (by simp)⟩
  | true =>
    rw [hk] at q
    rw [hk, if_pos rfl] at hf
    rw [if_pos rfl]
    have hkH : Hid ((look L k).isSome = true) := hk
    clear hk
    go_enter Try.func11, Try.ntmps11
    go_wp2_with (first
      | (go_at_call 22; refine q.mono ?_; rintro e w1 ⟨rfl, hk1⟩; have ht1 := h.kept0 hk1; have c1 := ht1.two.2)
      | (at_delete; refine wpList_delete_holds rfl _ _ rfl lo hi b L k rfl rfl ht1.map ht1.fine.rise ht1.hih ht1.blo hkH.out h0 h1 ?_; intro w2 hm2 hk2))
    go_ret
    have hne := ht1.ne
    exact ⟨rfl, ⟨ht1.blk.kept hk2 (by simp; omega), hm2, hf, ht1.pos, ht1.top, ht1.tlo, ht1.blo, Nat.le_trans ht1.hih hk2.size⟩, (hk1.mono (by simp)).trans hk2⟩
/-- A request's load, wherever. -/
theorem load_req {W : World} {g : Nat} {x : Qv} (h : Blk W g 35 #[.int .i64 x.k, .int .i64 x.o, .int .i64 x.l, .slice x.sa x.len x.cap]) : W.cell? ⟨g, 0, none⟩ = some (.int .i64 x.k) ∧ W.cell? ⟨g, 1, none⟩ = some (.int .i64 x.o) ∧ W.cell? ⟨g, 2, none⟩ = some (.int .i64 x.l) ∧ W.cell? ⟨g, 3, none⟩ = some (.slice x.sa x.len x.cap) := ⟨h.cell 0, h.cell 1, h.cell 2, h.cell 3⟩
theorem addE_arg {α : Type} {most : Nat} {L : List (Int × α)} {k : Int} (h : k < 1 ∨ (look L k).isSome = true) : addE most L k = 2 := by
  unfold addE
  rw [if_pos h]
theorem addE_full {α : Type} {most : Nat} {L : List (Int × α)} {k : Int} (h : ¬ (k < 1 ∨ (look L k).isSome = true)) (hf : most ≤ L.length) : addE most L k = 12 := by
  unfold addE
  rw [if_neg h, if_pos hf]
theorem addE_ok {α : Type} {most : Nat} {L : List (Int × α)} {k : Int} (h : ¬ (k < 1 ∨ (look L k).isSome = true)) (hf : ¬ most ≤ L.length) : addE most L k = 0 := by
  unfold addE
  rw [if_neg h, if_neg hf]
set_option maxRecDepth 100000 in
set_option maxHeartbeats 1000000 in
/-- Add -/
theorem add_any {lo hi t b most : Nat} {L : List (Int × Rq)} (k : Int) (h0 : -9223372036854775808 ≤ k) (h1 : k ≤ 9223372036854775807) (x : Qv) (lx hx : Nat) (w : World) (h : TabAt w lo hi t b most L) (hq : x.At lx hx w) (hhx : hx ≤ w.heap.size) (hlen : x.len ≤ 1000) (hlo : lo ≤ w.heap.size) :
    Calls Try.prog 9 #[.pointer (some ⟨t, 0, none⟩), .int .i64 k, x.val] w fun e w' => e = .returned (.int .i64 (addE most L k)) ∧ TabAt w' lo w'.heap.size t b most (addL most L k x.rq) ∧ Kept [b] w w' := by
  have ka := kept_alloc [] w (.cells #[.int .i64 x.k, .int .i64 x.o, .int .i64 x.l, .slice x.sa x.len x.cap] 35)
  have hb0 := blk_new w 35 #[.int .i64 x.k, .int .i64 x.o, .int .i64 x.l, .slice x.sa x.len x.cap]
  have ht0 := h.kept0 ka
  have qm := made_any _ ht0
  have qh := has_any k h0 h1 _ ht0
  have hf := h.fine.add h1 x.rq
  have up : ∀ W M, TabAt W lo hi t b most M → TabAt W lo W.heap.size t b most M := fun W M g => ⟨g.blk, g.map.mono (Nat.le_refl _) g.hih, g.fine, g.pos, g.top, g.tlo, g.blo, Nat.le_refl _⟩
  by_cases hbad : k < 1 ∨ (look L k).isSome = true
  · have hE := addE_arg (most := most) hbad
    have hL : addL most L k x.rq = L := by unfold addL; rw [hE, if_neg (by decide)]
    rw [hE, hL]
    clear hE hL hf
    unfold Qv.val
    by_cases hk1 : k < 1
    · clear hbad
      go_enter Try.func9, Try.ntmps9
      go_wp2_with (first
        | (go_at_call 21; refine qm.mono ?_; rintro e w1 ⟨rfl, rfl⟩))
      go_ret
      exact ⟨rfl, up _ _ ht0, ka.mono (by simp)⟩
    · have hs : (look L k).isSome = true := by rcases hbad with hb | hb; exact absurd hb hk1; exact hb
      rw [hs] at qh
      clear hbad hs
      go_enter Try.func9, Try.ntmps9
      go_wp2_with (first
        | (go_at_call 21; refine qm.mono ?_; rintro e w1 ⟨rfl, rfl⟩)
        | (go_at_call 22; refine qh.mono ?_; rintro e w2 ⟨rfl, hk2⟩))
      go_ret
      exact ⟨rfl, up _ _ (ht0.kept0 hk2), (ka.trans hk2).mono (by simp)⟩
  · have hn1 : ¬ k < 1 := fun e => hbad (.inl e)
    have hs : (look L k).isSome = false := by
      cases e : (look L k).isSome with
      | true => exact absurd (.inr e) hbad
      | false => rfl
    rw [hs] at qh
    by_cases hfull : most ≤ L.length
    · have hE := addE_full hbad hfull
      have hL : addL most L k x.rq = L := by unfold addL; rw [hE, if_neg (by decide)]
      rw [hE, hL]
      have hd : decide (most ≤ L.length) = true := by simpa using hfull
      clear hE hL hf hbad hs hfull
      unfold Qv.val
      go_enter Try.func9, Try.ntmps9
      go_wp2_with (first
        | (go_at_call 21; refine qm.mono ?_; rintro e w1 ⟨rfl, rfl⟩)
        | (go_at_call 22; refine qh.mono ?_; rintro e w2 ⟨rfl, hk2⟩; have ht2 := ht0.kept0 hk2; have qf := full_any _ ht2; rw [hd] at qf)
        | (go_at_call 17; refine qf.mono ?_; rintro e w3 ⟨rfl, hk3⟩))
      go_ret
      exact ⟨rfl, up _ _ (ht2.kept0 hk3), ((ka.trans hk2).trans hk3).mono (by simp)⟩
    · have hE := addE_ok hbad hfull
      have hL : addL most L k x.rq = ins L k x.rq := by unfold addL; rw [hE, if_pos rfl]
      rw [hL] at hf
      rw [hE, hL]
      have hd : decide (most ≤ L.length) = false := by simpa using hfull
      have hkn : Hid (look L k = none) := by
        show _ = _
        cases e : look L k with
        | none => rfl
        | some r => rw [e] at hs; cases hs
      have hfew : Hid (L.length ≤ 1000) := by show _ ≤ _; have := h.fine.few; have := h.top; omega
      replace hf : Hid (Fine most (ins L k x.rq)) := hf
      replace hL : Hid (lo ≤ w.heap.size) := hlo
      clear hE hbad hs hfull
      unfold Qv.val
      go_enter Try.func9, Try.ntmps9
      go_wp2_with (first
        | (go_at_call 21; refine qm.mono ?_; rintro e w1 ⟨rfl, rfl⟩)
        | (go_at_call 22; refine qh.mono ?_; rintro e w2 ⟨rfl, hk2⟩; have ht2 := ht0.kept0 hk2; have qf := full_any _ ht2; rw [hd] at qf)
        | (go_at_call 17; refine qf.mono ?_; rintro e w3 ⟨rfl, hk3⟩))
      have hk03 := (ka.trans hk2).trans hk3
      have hk3d := (hk2.trans hk3).trans (kept_drew [] w3)
      have hbd := hb0.kept hk3d (by simp)
      have htd := ht0.kept0 hk3d
      have hlod : Hid (lo ≤ w3.drew.heap.size) := Nat.le_trans hlo (ka.trans hk3d).size
      have qa := apart_any x lx hx w3.drew (hq.kept hhx (ka.trans hk3d) (by simp)) (Nat.le_trans hhx (ka.trans hk3d).size) hlen
      have hne : t ≠ b := fun e => htd.ne e.symm
      have hnb : w.heap.size ≠ b := fun e => by have := h.map.lt; omega
      have S0 : Hid (∀ A, Kept [b] w3.drew A → A.cell? ⟨t, 1, none⟩ = some (.map (some b)) ∧ A.cell? ⟨w.heap.size, 0, none⟩ = some (.int .i64 x.k) ∧ A.cell? ⟨w.heap.size, 1, none⟩ = some (.int .i64 x.o) ∧ A.cell? ⟨w.heap.size, 2, none⟩ = some (.int .i64 x.l) ∧ A.cell? ⟨w.heap.size, 3, none⟩ = some (.slice x.sa x.len x.cap)) := fun A hA => ⟨((htd.blk.kept hA (by simpa using hne)).cell 1).trans rfl, load_req (hbd.kept hA (by simpa using hnb))⟩
      have kd0 : Hid (Kept [b] w3.drew w3.drew) := Kept.refl _ _
      replace hk03 : Hid (Kept [] w w3.drew) := ka.trans hk3d
      replace htd : Hid (TabAt w3.drew lo hi t b most L) := htd
      unfold Qv.val at qa
      clear hb0 ht0 qm qh ht2 qf hbd hq h hne hnb hk2 hk3 hk3d ka
      go_region_held3 (fun A => A.cell? ⟨t, 1, none⟩ = some (.map (some b)) ∧ A.cell? ⟨w.heap.size, 0, none⟩ = some (.int .i64 x.k) ∧ A.cell? ⟨w.heap.size, 1, none⟩ = some (.int .i64 x.o) ∧ A.cell? ⟨w.heap.size, 2, none⟩ = some (.int .i64 x.l) ∧ A.cell? ⟨w.heap.size, 3, none⟩ = some (.slice x.sa x.len x.cap)) (first
        | exact S0.out _ kd0.out
        | exact S0.out _ k4.out
        | exact S0.out _ k5.out) (first
        | (go_at_call 23; refine qa.mono ?_; rintro e w4 ⟨y, rfl, hy, hyA, hk4⟩; replace hy : Hid (y.rq = x.rq) := hy; have k4 : Hid (Kept [b] w3.drew w4) := hk4.mono (by simp); have ht4 := htd.out.kept0 hk4; obtain ⟨w5, hr5, hm5, hk5, hs5⟩ := (ht4.map.mono (Nat.le_refl _) ht4.hih).put ht4.fine.rise hfew.out (Nat.le_refl _) ht4.blo hkn.out h0 h1 y (hyA.mono hlod.out (Nat.le_refl _)); have k5 : Hid (Kept [b] w3.drew w5) := k4.out.trans hk5; replace hs5 : Hid _ := hs5; unfold Qv.val at hr5))
      go_wp2_with fail
      go_ret
      have hne4 := ht4.ne
      rw [hy.out] at hm5
      have hm6 : Holds w5 lo w5.heap.size b (ins L k x.rq) := by rw [hs5.out]; exact hm5
      exact ⟨rfl, ⟨ht4.blk.kept hk5 (by simp; omega), hm6, hf.out, ht4.pos, ht4.top, ht4.tlo, ht4.blo, Nat.le_refl _⟩, (hk03.out.mono (by simp)).trans k5.out⟩
end Go.Proofs.Ytkidaofoljmdoaa.Table
