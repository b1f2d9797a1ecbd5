import Derived.Test.YtollfckgjhklcaaGreatItS
/-
  A tree in memory, whole; the places where its parts hang; what is done at one place.
-/
namespace Go.Proofs.YtollfckgjhklcaaGreat.Itree
open Go.RowKit

/-- All above a place, in memory, v standing there. -/
def CtxAt (W : World) : List Fr → Value → Prop
  | [], _ => True
  | f :: fs, v => Blk W f.b 92 (nodeC f.x (if f.s then f.t.ptr else v) (if f.s then v else f.t.ptr) f.e f.h) ∧ TrAt W f.t ∧ CtxAt W fs (.pointer (some ⟨f.b, 0, none⟩))
theorem fill_ptr (f : Fr) (u : Tr) : (f.fill u).ptr = .pointer (some ⟨f.b, 0, none⟩) := by
  unfold Fr.fill
  cases f.s <;> rfl
theorem fill_at (W : World) (f : Fr) (u : Tr) : TrAt W (f.fill u) ↔ Blk W f.b 92 (nodeC f.x (if f.s then f.t.ptr else u.ptr) (if f.s then u.ptr else f.t.ptr) f.e f.h) ∧ TrAt W f.t ∧ TrAt W u := by
  unfold Fr.fill
  cases f.s
  · exact ⟨fun ⟨a, b, c⟩ => ⟨a, c, b⟩, fun ⟨a, b, c⟩ => ⟨a, c, b⟩⟩
  · exact Iff.rfl
theorem plug_at (W : World) : ∀ (fs : List Fr) (u : Tr), TrAt W (plug fs u) ↔ CtxAt W fs u.ptr ∧ TrAt W u
  | [], u => ⟨fun h => ⟨trivial, h⟩, fun h => h.2⟩
  | f :: fs, u => by
    show TrAt W (plug fs (f.fill u)) ↔ _
    rw [plug_at W fs (f.fill u), fill_at, fill_ptr]
    exact ⟨fun ⟨a, b, c, d⟩ => ⟨⟨b, c, a⟩, d⟩, fun ⟨⟨b, c, a⟩, d⟩ => ⟨a, b, c, d⟩⟩
theorem plug_ptr (f : Fr) : ∀ (fs : List Fr) (u u' : Tr), (plug (f :: fs) u).ptr = (plug (f :: fs) u').ptr := by
  intro fs
  induction fs generalizing f with
  | nil => intro u u'; show (f.fill u).ptr = (f.fill u').ptr; rw [fill_ptr, fill_ptr]
  | cons g fs ih => intro u u'; exact ih g (f.fill u) (f.fill u')
theorem CtxAt.kept {K : List Nat} {A B : World} (hk : Kept K A B) : ∀ {fs : List Fr} {v : Value}, CtxAt A fs v → (∀ k ∈ ctx fs, k ∉ K) → CtxAt B fs v
  | [], _, _, _ => trivial
  | f :: fs, v, ⟨h1, h2, h3⟩, hK => ⟨h1.kept hk (hK f.b (by simp [ctx])), h2.kept hk (fun k hm => hK k (by simp [ctx, hm])), h3.kept hk (fun k hm => hK k (by simp [ctx, hm]))⟩
/-- A tree that a call made. -/
structure Whole (W : World) (p : Nat) (n : Nat) (t : Tr) : Prop where
  blk : Blk W p 83 #[.bool true, t.ptr, .int .i64 (n : Int)]
  nodes : TrAt W t
  nd : (p :: t.blks).Nodup
theorem Whole.kept {K : List Nat} {A B : World} {p n : Nat} {t : Tr} (h : Whole A p n t) (hk : Kept K A B) (hK : ∀ k ∈ p :: t.blks, k ∉ K) : Whole B p n t :=
  ⟨h.blk.kept hk (hK p (by simp)), h.nodes.kept hk (fun k hm => hK k (by simp [hm])), h.nd⟩
theorem Whole.lt {A : World} {p n : Nat} {t : Tr} (h : Whole A p n t) : ∀ k ∈ p :: t.blks, k < A.heap.size := fun k hk => by
  rcases List.mem_cons.1 hk with rfl | hk
  · exact h.blk.lt
  · exact h.nodes.lt k hk
/-- Where a place lies. -/
def Ln.blk (p : Nat) : Ln → Nat
  | .root => p
  | .kid b _ => b
def Ln.off : Ln → Nat
  | .root => 1
  | .kid _ s => if s then 4 else 3
def lnV (p : Nat) (l : Ln) : Value := .pointer (some ⟨l.blk p, l.off, none⟩)
theorem nodup_plug {p : Nat} {fs : List Fr} {u : Tr} : (p :: (plug fs u).blks).Nodup ↔ (p :: (ctx fs ++ u.blks)).Nodup := ((plug_blks fs u).cons p).nodup_iff
/-- What is at a place, and what comes of another thing there. -/
theorem Whole.place {W : World} {p n : Nat} {fs : List Fr} {u : Tr} (h : Whole W p n (plug fs u)) :
    ∃ tg cs, Blk W ((lnk fs).blk p) tg cs ∧ cs[(lnk fs).off]? = some u.ptr ∧ TrAt W u ∧ ((lnk fs).blk p :: u.blks).Nodup ∧ (lnk fs).blk p ∈ p :: ctx fs ∧
      ∀ W' u', Blk W' ((lnk fs).blk p) tg (cs.setIfInBounds (lnk fs).off u'.ptr) → TrAt W' u' → Kept ((lnk fs).blk p :: u.blks) W W' → (p :: (ctx fs ++ u'.blks)).Nodup → Whole W' p n (plug fs u') := by
  obtain ⟨hc, hu⟩ := (plug_at W fs u).1 h.nodes
  have hnd := nodup_plug.1 h.nd
  cases fs with
  | nil =>
    refine ⟨83, _, h.blk, rfl, hu, hnd, by simp [lnk, Ln.blk], fun W' u' h1 h2 _ h4 => ⟨h1, h2, h4⟩⟩
  | cons f fs =>
    obtain ⟨h1, h2, h3⟩ := hc
    have e : ∀ v, (nodeC f.x (if f.s then f.t.ptr else u.ptr) (if f.s then u.ptr else f.t.ptr) f.e f.h).setIfInBounds (lnk (f :: fs)).off v = nodeC f.x (if f.s then f.t.ptr else v) (if f.s then v else f.t.ptr) f.e f.h := by
      intro v
      show (nodeC f.x (if f.s then f.t.ptr else u.ptr) (if f.s then u.ptr else f.t.ptr) f.e f.h).setIfInBounds (if f.s then 4 else 3) v = _
      cases f.s <;> rfl
    refine ⟨92, _, h1, ?_, hu, ?_, by simp [lnk, Ln.blk, ctx], fun W' u' k1 k2 k3 k4 => ?_⟩
    · show (nodeC f.x (if f.s then f.t.ptr else u.ptr) (if f.s then u.ptr else f.t.ptr) f.e f.h)[(if f.s then 4 else 3)]? = some u.ptr
      cases f.s <;> rfl
    · have := (List.nodup_cons.1 hnd).2
      simp only [ctx, List.cons_append] at this
      have h5 := List.nodup_cons.1 this
      have h6 := List.nodup_append.1 h5.2
      exact List.nodup_cons.2 ⟨fun hm => h5.1 (List.mem_append.2 (.inr hm)), h6.2.1⟩
    · rw [e] at k1
      have hd : ∀ k ∈ p :: (f.t.blks ++ ctx fs), k ∉ f.b :: u.blks := by
        simp only [ctx, List.cons_append] at hnd
        have a1 := List.nodup_cons.1 hnd
        have a2 := List.nodup_cons.1 a1.2
        have a3 := List.nodup_append.1 a2.2
        intro k hk hm
        rcases List.mem_cons.1 hk with rfl | hk
        · rcases List.mem_cons.1 hm with e1 | hm
          · exact a1.1 (by simp [e1])
          · exact a1.1 (by simp [hm])
        · rcases List.mem_cons.1 hm with rfl | hm
          · exact a2.1 (List.mem_append.2 (.inl hk))
          · exact a3.2.2 k hk k hm rfl
      refine ⟨?_, (plug_at W' (f :: fs) u').2 ⟨⟨k1, h2.kept k3 (fun k hm => hd k (by simp [hm])), h3.kept k3 (fun k hm => hd k (by simp [hm]))⟩, k2⟩, nodup_plug.2 k4⟩
      rw [plug_ptr f fs u' u]
      exact h.blk.kept k3 (hd p (by simp))
/-- A place of a tree. -/
def Ln.of (t : Tr) : Ln → Prop
  | .root => True
  | .kid b _ => b ∈ t.blks
theorem Ln.of_way {t : Tr} {l : Ln} (h : l.of t) : ∃ fs u, t = plug fs u ∧ lnk fs = l := by
  cases l with
  | root => exact ⟨[], t, rfl, rfl⟩
  | kid b s => exact way_to t b s h
theorem lnks_of : ∀ (fs : List Fr) (u : Tr) (l : Ln), l ∈ lnks fs → l.of (plug fs u)
  | [], u, l, h => by
    simp only [lnks, List.mem_singleton] at h
    subst h
    trivial
  | f :: fs, u, l, h => by
    simp only [lnks, List.mem_append, List.mem_singleton] at h
    rcases h with h | rfl
    · exact lnks_of fs (f.fill u) l h
    · show f.b ∈ (plug (f :: fs) u).blks
      rw [(plug_blks (f :: fs) u).mem_iff]
      simp [ctx]
theorem Ln.of_perm {t t' : Tr} {l : Ln} (h : l.of t) (hp : t'.blks.Perm t.blks) : l.of t' := by
  cases l with
  | root => trivial
  | kid b s => exact hp.mem_iff.2 h
set_option maxRecDepth 100000 in
set_option maxHeartbeats 1000000 in
/-- level, at a place where something stands -/
theorem level_at (p n : Nat) (t : Tr) (l : Ln) (w : World) (h : Whole w p n t) (hl : l.of t) (hm : t.most ≤ 800000) :
    (w.cell? ⟨l.blk p, l.off, none⟩ = some (.pointer none) ∧ lvAt l t = t) ∨ ∃ b, w.cell? ⟨l.blk p, l.off, none⟩ = some (.pointer (some ⟨b, 0, none⟩)) ∧
      Calls Tryz.prog 67 #[lnV p l] w fun en w' => en = .returned (.tuple #[]) ∧ Whole w' p n (lvAt l t) ∧ Kept (p :: t.blks) w w' := by
  obtain ⟨fs, u, rfl, rfl⟩ := Ln.of_way hl
  obtain ⟨tg, cs, h1, h2, h3, h4, h5, h6⟩ := h.place
  have hnd := nodup_plug.1 h.nd
  have hcn : (ctx fs).Nodup := (List.nodup_append.1 (List.nodup_cons.1 hnd).2).1
  have hlv := lvAt_plug fs u hcn
  cases u with
  | nil => exact .inl ⟨blk_get h1 h2, by rw [hlv]; rfl⟩
  | node b x e hh l r =>
    refine .inr ⟨b, blk_get h1 h2, ?_⟩
    have hmu : (Tr.node b x e hh l r).most ≤ 800000 := by
      rw [plug_most] at hm
      omega
    refine (level_any _ _ tg cs b x e hh l r w h1 h2 h3 h4 hmu).mono ?_
    rintro en w' ⟨rfl, k1, k2, k3⟩
    have hpm := lv_blks (Tr.node b x e hh l r)
    refine ⟨rfl, ?_, k3.mono ?_⟩
    · rw [hlv]
      exact h6 w' _ k1 k2 k3 (((hpm.append_left (ctx fs)).cons p).nodup_iff.2 hnd)
    · intro k hk
      have hpb := (plug_blks fs (Tr.node b x e hh l r)).mem_iff (a := k)
      rcases List.mem_cons.1 hk with rfl | hk
      · rcases List.mem_cons.1 h5 with e1 | e1
        · rw [e1]; simp
        · exact List.mem_cons_of_mem _ ((plug_blks fs (Tr.node b x e hh l r)).mem_iff.2 (List.mem_append.2 (.inl e1)))
      · exact List.mem_cons_of_mem _ (hpb.2 (List.mem_append.2 (.inr hk)))
end Go.Proofs.YtollfckgjhklcaaGreat.Itree

