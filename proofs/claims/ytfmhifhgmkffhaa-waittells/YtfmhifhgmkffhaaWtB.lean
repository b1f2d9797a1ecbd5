/-
  The walks of May's closures, of May and of First.
-/
import Derived.Test.YtfmhifhgmkffhaaWtA
namespace Go.Proofs.Ytfmhifhgmkffhaa.Wait
open Go.RowKit

/-- What a May has put by: the item, the items ahead of it, the closure that asks whether a span overlaps it, what flies, what waits here. -/
structure Env (W : World) (x : It) (A F : List It) (S : List (Int × Int)) (bI bA bC bF bL : Nat) (aa fa sa : Option Addr) (al ac fl fc sl sc : Nat) : Prop where
  item : Blk W bI 39 #[.int .i64 x.t, .int .i64 x.k, .int .i64 x.o, .int .i64 x.l]
  ah : Blk W bA 27 #[.slice aa al ac]
  clo : Blk W bC 43 #[.func (.func 13) #[] #[.pointer (some ⟨bI, 0, none⟩)]]
  fly : Blk W bF 27 #[.slice fa fl fc]
  lat : Blk W bL 23 #[.slice sa sl sc]
  hA : ItsAt W aa al ac A
  hF : ItsAt W fa fl fc F
  hS : SpsAt W sa sl sc S
  la : al ≤ 9223372036854775807
  lf : fl ≤ 9223372036854775807
  ls : sl ≤ 9223372036854775807
section
variable {W : World} {x : It} {A F : List It} {S : List (Int × Int)} {bI bA bC bF bL : Nat} {aa fa sa : Option Addr} {al ac fl fc sl sc : Nat}
theorem Env.kept {V : World} (h : Env W x A F S bI bA bC bF bL aa fa sa al ac fl fc sl sc) (hk : Kept [] W V) : Env V x A F S bI bA bC bF bL aa fa sa al ac fl fc sl sc :=
  ⟨h.item.kept hk (by simp), h.ah.kept hk (by simp), h.clo.kept hk (by simp), h.fly.kept hk (by simp), h.lat.kept hk (by simp), h.hA.kept hk, h.hF.kept hk, h.hS.kept hk, h.la, h.lf, h.ls⟩

set_option maxRecDepth 100000 in
set_option maxHeartbeats 1000000 in
/-- overlaps -/
theorem may1_any (s : Int × Int) (h : Env W x A F S bI bA bC bF bL aa fa sa al ac fl fc sl sc) :
    Calls Try.prog 13 #[.agg #[.int .i64 s.1, .int .i64 s.2], .pointer (some ⟨bI, 0, none⟩)] W fun e w' => e = .returned (.bool (sov x s)) ∧ Kept [] W w' := by
  have kA := kept_alloc [] W (.cells #[.int .i64 s.1, .int .i64 s.2] 37)
  have hI := h.item.kept kA (by simp)
  have c2 := (hI.cell 2).trans (show _ = some (Value.int .i64 x.o) from rfl)
  have c3 := (hI.cell 3).trans (show _ = some (Value.int .i64 x.l) from rfl)
  have q := fun V => Span.overlap_any s.1 s.2 x.o x.l V
  unfold sov
  clear hI h
  generalize Span.Math.over s.1 s.2 x.o x.l = r at *
  go_enter Try.func13, Try.ntmps13
  go_wp2_with (go_at_call 14; refine (q _).mono ?_; rintro e w1 ⟨rfl, hB⟩)
  go_ret
  exact ⟨rfl, kA.trans (Kept.of_below hB [])⟩
set_option maxRecDepth 100000 in
set_option maxHeartbeats 1000000 in
theorem may21_any (y : It) (h : Env W x A F S bI bA bC bF bL aa fa sa al ac fl fc sl sc) :
    Calls Try.prog 17 #[.agg #[.int .i64 y.t, .int .i64 y.k, .int .i64 y.o, .int .i64 y.l], .pointer (some ⟨bC, 0, none⟩)] W fun e w' => e = .returned (.bool (ov x y)) ∧ Kept [] W w' := by
  have kA := kept_alloc [] W (.cells #[.int .i64 y.t, .int .i64 y.k, .int .i64 y.o, .int .i64 y.l] 39)
  have hE := h.kept kA
  have c0 := (hE.clo.cell 0).trans (show _ = some (Value.func (.func 13) #[] #[.pointer (some ⟨bI, 0, none⟩)]) from rfl)
  have q := may1_any (y.o, y.l) hE
  have e : sov x (y.o, y.l) = ov x y := rfl
  rw [e] at q
  clear e hE h
  generalize ov x y = r at *
  go_enter Try.func17, Try.ntmps17
  go_wp2_with (go_at_call 13; refine q.mono ?_; rintro e w1 ⟨rfl, hk1⟩)
  go_ret
  exact ⟨rfl, kA.trans hk1⟩
set_option maxRecDepth 100000 in
set_option maxHeartbeats 1000000 in
theorem may31_any (y : It) (h : Env W x A F S bI bA bC bF bL aa fa sa al ac fl fc sl sc) :
    Calls Try.prog 19 #[.agg #[.int .i64 y.t, .int .i64 y.k, .int .i64 y.o, .int .i64 y.l], .pointer (some ⟨bC, 0, none⟩)] W fun e w' => e = .returned (.bool (wov x y)) ∧ Kept [] W w' := by
  have kA := kept_alloc [] W (.cells #[.int .i64 y.t, .int .i64 y.k, .int .i64 y.o, .int .i64 y.l] 39)
  have hE := h.kept kA
  have c0 := (hE.clo.cell 0).trans (show _ = some (Value.func (.func 13) #[] #[.pointer (some ⟨bI, 0, none⟩)]) from rfl)
  have q := may1_any (y.o, y.l) hE
  have e : sov x (y.o, y.l) = ov x y := rfl
  have e1 : wov x y = (y.k == 1 && ov x y) := rfl
  rw [e] at q
  rw [e1]
  clear e hE h e1
  generalize ov x y = r at *
  by_cases hk : y.k = 1
  · have hk' : (y.k == 1) = true := by simp [hk]
    rw [hk', Bool.true_and]
    rw [hk] at kA q c0
    have hkk : Hid (y.k = 1) := hk
    obtain ⟨yk, rfl⟩ : ∃ yk, yk = y.k := ⟨_, rfl⟩
    rw [hk]
    clear hk hk'
    go_enter Try.func19, Try.ntmps19
    go_wp2_with (go_at_call 13; refine q.mono ?_; rintro e w1 ⟨rfl, hk1⟩)
    go_ret
    exact ⟨rfl, kA.trans hk1⟩
  · have hk' : (y.k == 1) = false := by simp [hk]
    rw [hk', Bool.false_and]
    clear hk q c0
    go_enter Try.func19, Try.ntmps19
    go_wp2_with fail
    go_ret
    exact ⟨rfl, kA⟩
set_option maxRecDepth 100000 in
set_option maxHeartbeats 1000000 in
theorem may51_any (y : It) (W : World) :
    Calls Try.prog 23 #[.agg #[.int .i64 y.t, .int .i64 y.k, .int .i64 y.o, .int .i64 y.l]] W fun e w' => e = .returned (.bool (isW y)) ∧ Kept [] W w' := by
  have kA := kept_alloc [] W (.cells #[.int .i64 y.t, .int .i64 y.k, .int .i64 y.o, .int .i64 y.l] 39)
  unfold isW
  go_enter Try.func23, Try.ntmps23
  go_wp2_with fail
  all_goals (go_ret; exact ⟨by simp_all, kA⟩)
set_option maxRecDepth 100000 in
set_option maxHeartbeats 1000000 in
theorem may61_any (y : It) (h : Env W x A F S bI bA bC bF bL aa fa sa al ac fl fc sl sc) :
    Calls Try.prog 25 #[.agg #[.int .i64 y.t, .int .i64 y.k, .int .i64 y.o, .int .i64 y.l], .pointer (some ⟨bI, 0, none⟩)] W fun e w' => e = .returned (.bool (less x y)) ∧ Kept [] W w' := by
  have kA := kept_alloc [] W (.cells #[.int .i64 y.t, .int .i64 y.k, .int .i64 y.o, .int .i64 y.l] 39)
  have hI := h.item.kept kA (by simp)
  have c0 := (hI.cell 0).trans (show _ = some (Value.int .i64 x.t) from rfl)
  unfold less
  clear hI h
  go_enter Try.func25, Try.ntmps25
  go_wp2_with fail
  all_goals (go_ret; exact ⟨by simp_all, kA⟩)
set_option maxRecDepth 100000 in
set_option maxHeartbeats 1000000 in
theorem may2_any (h : Env W x A F S bI bA bC bF bL aa fa sa al ac fl fc sl sc) :
    Calls Try.prog 15 #[.pointer (some ⟨bF, 0, none⟩), .pointer (some ⟨bC, 0, none⟩)] W fun e w' => e = .returned (.bool (F.any (ov x))) ∧ Kept [] W w' := by
  have q := contains_may21 (ov x) bC fa fl fc F h.lf W h.hF (fun V y hk => may21_any y (h.kept hk))
  have c0 := (h.fly.cell 0).trans (show _ = some (Value.slice fa fl fc) from rfl)
  clear h
  generalize F.any (ov x) = r at *
  go_enter Try.func15, Try.ntmps15
  go_wp2_with (go_at_call 16; refine q.mono ?_; rintro e w1 ⟨rfl, hk1⟩)
  go_ret
  exact ⟨rfl, hk1⟩
set_option maxRecDepth 100000 in
set_option maxHeartbeats 1000000 in
theorem may3_any (h : Env W x A F S bI bA bC bF bL aa fa sa al ac fl fc sl sc) :
    Calls Try.prog 18 #[.pointer (some ⟨bA, 0, none⟩), .pointer (some ⟨bC, 0, none⟩)] W fun e w' => e = .returned (.bool (A.any (wov x))) ∧ Kept [] W w' := by
  have q := contains_may31 (wov x) bC aa al ac A h.la W h.hA (fun V y hk => may31_any y (h.kept hk))
  have c0 := (h.ah.cell 0).trans (show _ = some (Value.slice aa al ac) from rfl)
  clear h
  generalize A.any (wov x) = r at *
  go_enter Try.func18, Try.ntmps18
  go_wp2_with (go_at_call 16; refine q.mono ?_; rintro e w1 ⟨rfl, hk1⟩)
  go_ret
  exact ⟨rfl, hk1⟩
set_option maxRecDepth 100000 in
set_option maxHeartbeats 1000000 in
theorem may4_any (h : Env W x A F S bI bA bC bF bL aa fa sa al ac fl fc sl sc) :
    Calls Try.prog 20 #[.pointer (some ⟨bL, 0, none⟩), .pointer (some ⟨bC, 0, none⟩)] W fun e w' => e = .returned (.bool (S.any (sov x))) ∧ Kept [] W w' := by
  have q := contains_may1 (sov x) bI sa sl sc S h.ls W h.hS (fun V y hk => may1_any y (h.kept hk))
  have c0 := (h.lat.cell 0).trans (show _ = some (Value.slice sa sl sc) from rfl)
  have c1 := (h.clo.cell 0).trans (show _ = some (Value.func (.func 13) #[] #[.pointer (some ⟨bI, 0, none⟩)]) from rfl)
  clear h
  generalize S.any (sov x) = r at *
  go_enter Try.func20, Try.ntmps20
  go_wp2_with (go_at_call 21; refine q.mono ?_; rintro e w1 ⟨rfl, hk1⟩)
  go_ret
  exact ⟨rfl, hk1⟩
set_option maxRecDepth 100000 in
set_option maxHeartbeats 1000000 in
theorem may5_any (h : Env W x A F S bI bA bC bF bL aa fa sa al ac fl fc sl sc) :
    Calls Try.prog 22 #[.pointer (some ⟨bA, 0, none⟩)] W fun e w' => e = .returned (.bool (A.any isW)) ∧ Kept [] W w' := by
  have q := contains_may51 isW aa al ac A h.la W h.hA (fun V y _ => may51_any y V)
  have c0 := (h.ah.cell 0).trans (show _ = some (Value.slice aa al ac) from rfl)
  clear h
  generalize A.any isW = r at *
  go_enter Try.func22, Try.ntmps22
  go_wp2_with (go_at_call 16; refine q.mono ?_; rintro e w1 ⟨rfl, hk1⟩)
  go_ret
  exact ⟨rfl, hk1⟩
set_option maxRecDepth 100000 in
set_option maxHeartbeats 1000000 in
theorem may6_any (h : Env W x A F S bI bA bC bF bL aa fa sa al ac fl fc sl sc) :
    Calls Try.prog 24 #[.pointer (some ⟨bF, 0, none⟩), .pointer (some ⟨bI, 0, none⟩)] W fun e w' => e = .returned (.bool (F.any (less x))) ∧ Kept [] W w' := by
  have q := contains_may61 (less x) bI fa fl fc F h.lf W h.hF (fun V y hk => may61_any y (h.kept hk))
  have c0 := (h.fly.cell 0).trans (show _ = some (Value.slice fa fl fc) from rfl)
  clear h
  generalize F.any (less x) = r at *
  go_enter Try.func24, Try.ntmps24
  go_wp2_with (go_at_call 16; refine q.mono ?_; rintro e w1 ⟨rfl, hk1⟩)
  go_ret
  exact ⟨rfl, hk1⟩
end
end Go.Proofs.Ytfmhifhgmkffhaa.Wait
