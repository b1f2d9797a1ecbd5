import Derived.Test.YtfiofdmefgkloaaGreatCpC
/-
  Put at a disk, and at a disk that no call made; the document's Give, Put and Told.
-/
namespace Go.Proofs.YtfiofdmefgkloaaGreat.Copying
open Go.RowKit
open Math
open Pack (Mv Ms mv0 good)

/-- The steps of a Put, of whatever extent. -/
def stepS (s : Dk) (o : Int) (bs : List Nat) : Dk :=
  if areaE s (Span.wOff o) (Span.wLen o) bs = 0 then
    if flushE (areaS s (Span.wOff o) (Span.wLen o) bs) = 0 then mapS (flushS (areaS s (Span.wOff o) (Span.wLen o) bs)) (clearM (flushS (areaS s (Span.wOff o) (Span.wLen o) bs)) o) else flushS (areaS s (Span.wOff o) (Span.wLen o) bs)
  else areaS s (Span.wOff o) (Span.wLen o) bs
def stepE (s : Dk) (o : Int) (bs : List Nat) : Nat :=
  if areaE s (Span.wOff o) (Span.wLen o) bs = 0 then
    if flushE (areaS s (Span.wOff o) (Span.wLen o) bs) = 0 then mapE (flushS (areaS s (Span.wOff o) (Span.wLen o) bs)) (clearM (flushS (areaS s (Span.wOff o) (Span.wLen o) bs)) o) else flushE (areaS s (Span.wOff o) (Span.wLen o) bs)
  else areaE s (Span.wOff o) (Span.wLen o) bs
/-- May the message be put? -/
def isExt (x : Ms) : Bool := decide (x.k = 6) && good x
def extS (s : Dk) (x : Ms) : Dk := if isExt x = true then stepS s x.o x.d else s
def extE (s : Dk) (x : Ms) : Nat := if isExt x = true then stepE s x.o x.d else 2
def extV (s : Dk) (x : Ms) : Mv := if isExt x = true ∧ stepE s x.o x.d = 0 then haveV x.o else mv0
theorem isExt_yes {x : Ms} (h : isExt x = true) : x.k = 6 ∧ good x = true := by simpa [isExt] using h
theorem isExt_no {x : Ms} (h : isExt x = false) : x.k = 6 → good x = false := fun hk => by simpa [isExt, hk] using h
theorem haveV_at (o : Int) (lo hi : Nat) (W : World) : (haveV o).At lo hi W := ⟨Pack.byteRow_nil lo hi W, (by show (0 : Nat) < _; decide), (by show _ ≤ (0 : Int); decide), (by show (0 : Int) ≤ _; decide)⟩
theorem extV_at (s : Dk) (x : Ms) (lo hi : Nat) (W : World) : (extV s x).At lo hi W := by
  unfold extV
  split
  · exact haveV_at _ _ _ _
  · exact Pack.mv0_at _ _ _
theorem flush_ops (s : Dk) : (flushS s).ops ≤ s.ops + 1 := by
  unfold flushS
  split
  · exact Nat.le_succ _
  · exact Nat.le_refl _
theorem flush_size (s : Dk) : (flushS s).size = s.size := by
  unfold flushS
  split <;> rfl
theorem step_ops (s : Dk) (hs : s.size ≤ 1024) (o : Int) (bs : List Nat) : (stepS s o bs).ops ≤ s.ops + 1027 := by
  have h1 := putS_ops s hs (Span.wOff o) (Span.wLen o) bs
  have h2 := flush_ops (areaS s (Span.wOff o) (Span.wLen o) bs)
  have h3 := fun m => map_ops (flushS (areaS s (Span.wOff o) (Span.wLen o) bs)) m
  unfold stepS
  split
  · split
    · have := h3 (clearM (flushS (areaS s (Span.wOff o) (Span.wLen o) bs)) o)
      omega
    · omega
  · omega
theorem ext_ops (s : Dk) (hs : s.size ≤ 1024) (x : Ms) : (extS s x).ops ≤ s.ops + 1027 := by
  unfold extS
  split
  · exact step_ops s hs _ _
  · omega
set_option maxRecDepth 100000 in
/-- Put -/
theorem put_any (d b1 b2 : Nat) (s : Dk) (x : Mv) (lo hi : Nat) (w : World) (h : DiskAt w d b1 b2 s) (hops : s.ops ≤ 900000) (hx : x.At lo hi w) (hhi : hi ≤ w.heap.size) (hlen : x.len ≤ 9223372036854775807) (hap : ∀ k ∈ [d, b1, b2], k < lo ∨ hi ≤ k) :
    Calls Tryz.prog 134 #[.pointer (some ⟨d, 0, none⟩), x.val] w fun r w' => r = .returned (.tuple #[(extV s x.ms).val, .int .i64 (extE s x.ms : Nat)]) ∧ DiskAt w' d b1 b2 (extS s x.ms) ∧ Kept [d, b1, b2] w w' := by
  by_cases he : isExt x.ms = true
  · obtain ⟨h6, hg⟩ := isExt_yes he
    have e1 : extE s x.ms = stepE s x.o x.d := if_pos he
    have e2 : extS s x.ms = stepS s x.o x.d := if_pos he
    have e3 : extV s x.ms = if stepE s x.o x.d = 0 then haveV x.o else mv0 := by
      unfold extV
      by_cases hz : stepE s x.o x.d = 0
      · rw [if_pos ⟨he, hz⟩, if_pos hz]
        rfl
      · rw [if_neg (fun q => hz q.2), if_neg hz]
    rw [e1, e2, e3]
    have hlt := h.lt
    have hs1 : (areaS s (Span.wOff x.o) (Span.wLen x.o) x.d).ops ≤ s.ops + 1024 := putS_ops s h.valid.top _ _ _
    have hs2 := flush_ops (areaS s (Span.wOff x.o) (Span.wLen x.o) x.d)
    refine put_of (some ⟨d, 0, none⟩) x _ (areaE s (Span.wOff x.o) (Span.wLen x.o) x.d) (flushE (areaS s (Span.wOff x.o) (Span.wLen x.o) x.d)) (mapE (flushS (areaS s (Span.wOff x.o) (Span.wLen x.o) x.d)) (clearM (flushS (areaS s (Span.wOff x.o) (Span.wLen x.o) x.d)) x.o)) _
      (clearX (flushS (areaS s (Span.wOff x.o) (Span.wLen x.o) x.d)) x.o)
      (fun W => DiskAt W d b1 b2 (areaS s (Span.wOff x.o) (Span.wLen x.o) x.d)) (fun W => DiskAt W d b1 b2 (flushS (areaS s (Span.wOff x.o) (Span.wLen x.o) x.d)))
      (fun W => DiskAt W d b1 b2 (mapS (flushS (areaS s (Span.wOff x.o) (Span.wLen x.o) x.d)) (clearM (flushS (areaS s (Span.wOff x.o) (Span.wLen x.o) x.d)) x.o)))
      (fun W => DiskAt W d b1 b2 (stepS s x.o x.d)) [d, b1, b2] w (by simp; omega) hx.len hlen h6 hg
      (fun W hk => dSetExtent_any d b1 b2 s x.o _ x.d lo hi W (h.kept hk (by simp) (by simp) (by simp)) hops (of_pack (hx.row.kept hhi hk (by simp))) (Nat.le_trans hhi hk.size) hap)
      (fun _ W hW => flush_any d b1 b2 _ (by omega) W hW)
      (fun _ _ W hW => clear_any d b1 b2 _ x.o (by omega) W hW)
      (fun A B k hk hA hK => hA.kept hK (by simp; omega) (by simp; omega) (by simp; omega))
      ?_ ?_ ?_ ?_
    · intro z
      unfold stepE stepS
      rw [if_neg z, if_neg z, if_neg z]
      exact ⟨rfl, rfl, fun W hW => hW⟩
    · intro z1 z
      unfold stepE stepS
      rw [if_pos z1, if_pos z1, if_neg z, if_neg z, if_neg z]
      exact ⟨rfl, rfl, fun W hW => hW⟩
    · intro z1 z2 z
      unfold stepE stepS
      rw [if_pos z1, if_pos z1, if_pos z2, if_pos z2, if_neg z]
      exact ⟨rfl, rfl, fun W hW => hW⟩
    · intro z1 z2 z
      unfold stepE stepS
      rw [if_pos z1, if_pos z1, if_pos z2, if_pos z2, if_pos z]
      exact ⟨z, rfl, fun W hW => hW⟩
  · have he' : isExt x.ms = false := by simpa using he
    have e1 : extE s x.ms = 2 := if_neg he
    have e2 : extS s x.ms = s := if_neg he
    have e3 : extV s x.ms = mv0 := if_neg (fun q => he q.1)
    rw [e1, e2, e3]
    exact (put_bad _ x hx.len hlen w (isExt_no he')).mono fun r w' ⟨hr, hk⟩ => ⟨hr, h.kept hk (by simp) (by simp) (by simp), hk.mono (by simp)⟩
set_option maxRecDepth 100000 in
/-- Put, at a disk that no call made. -/
theorem put_none (p : Option Addr) (x : Mv) (hl : x.len = x.d.length) (hlen : x.len ≤ 9223372036854775807) (w : World) (h : NoDisk w p) :
    Calls Tryz.prog 134 #[.pointer p, x.val] w fun r w' => ∃ er : Nat, r = .returned (.tuple #[mv0.val, .int .i64 (er : Int)]) ∧ er ≠ 0 ∧ Kept [] w w' := by
  by_cases he : isExt x.ms = true
  · obtain ⟨h6, hg⟩ := isExt_yes he
    exact (put_of p x mv0 1 0 0 1 0 (fun _ => True) (fun _ => True) (fun _ => True) (fun _ => True) [] w (by simp) hl hlen h6 hg
      (fun W hk => (dSetExtent_none p x.o _ _ _ W (h.kept hk)).mono fun r w' ⟨hr, hk'⟩ => ⟨hr, trivial, hk'⟩)
      (fun z => absurd z (by decide)) (fun z => absurd z (by decide)) (fun _ _ _ _ _ _ => trivial)
      (fun _ => ⟨rfl, rfl, fun _ _ => trivial⟩) (fun z => absurd z (by decide)) (fun z => absurd z (by decide)) (fun z => absurd z (by decide))).mono fun r w' ⟨hr, _, hk⟩ => ⟨1, hr, by decide, hk⟩
  · have he' : isExt x.ms = false := by simpa using he
    exact (put_bad p x hl hlen w (isExt_no he')).mono fun r w' ⟨hr, hk⟩ => ⟨2, hr, by decide, hk⟩
end Go.Proofs.YtfiofdmefgkloaaGreat.Copying

