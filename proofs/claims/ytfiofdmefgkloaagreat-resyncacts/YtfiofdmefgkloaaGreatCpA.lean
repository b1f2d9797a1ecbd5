import Derived.Test.YtfiofdmefgkloaaGreatDirtyA
import Derived.Test.YtfiofdmefgkloaaGreatDataN
import Derived.Test.YtfiofdmefgkloaaGreatPkA
import Derived.Test.YtfiofdmefgkloaaGreatCpM
/-
  The walks of Give and Told, and of Put with its steps (a variadic function of closures), whatever disk there is.
-/
namespace Go.Proofs.YtfiofdmefgkloaaGreat.Copying
open Go.RowKit
open Math
open Pack (Mv Ms mv0)

/-- The cells of the message of nothing. -/
theorem zero_new (w : World) : Blk (w.alloc (.cells #[.int .i64 0, .int .i64 0, .int .i64 0, .int .u64 0, .bool false, .slice none 0 0] 26)) w.heap.size 26 #[.int .i64 0, .int .i64 0, .int .i64 0, .int .u64 0, .bool false, .slice none 0 0] := blk_new w 26 _
set_option maxRecDepth 100000 in
/-- A message and a second result, handed back. -/
theorem results_msg {fn : Func} {p u : Tmp} (h : fn.results = #[.cell p 26, .tmp u]) (tmps : Array Value) (w : World) (g : Nat) (x0 x1 x2 x3 x4 x5 : Value)
    (hp : tmps.getD p undef = .pointer (some ⟨g, 0, none⟩)) (hg : Blk w g 26 #[x0, x1, x2, x3, x4, x5]) :
    (results fn tmps).run Tryz.prog w = .ok (.tuple #[.agg #[x0, x1, x2, x3, x4, x5], tmps.getD u undef]) w := by
  have hl := run_loadVar_row (P := Tryz.prog) w g 26 26 #[x0, x1, x2, x3, x4, x5] (0, 0) _ hg Tryz.underlying26 (by rfl) Pack.Tryz.sizeM
  rw [results_cell_tmp h, hp]
  simp [asAddr, hl, Result.andThen]
/-- What a Give tells: the message, but for where its bytes lie. -/
def giveM (s : Dk) (e : Int) : Ms := if gotE s (Span.wOff e) (Span.wLen e) = 0 then ⟨6, 0, e, 0, false, gotL s (Span.wOff e) (Span.wLen e)⟩ else mv0.ms
/-- Bytes are bytes, whichever layer says so. -/
theorem to_pack {lo hi : Nat} {W : World} {v : Value} {bs : List Nat} (h : ByteRow lo hi W v bs) : Pack.ByteRow lo hi W v bs := h
theorem of_pack {lo hi : Nat} {W : World} {v : Value} {bs : List Nat} (h : Pack.ByteRow lo hi W v bs) : ByteRow lo hi W v bs := h

set_option maxRecDepth 100000 in
set_option maxHeartbeats 1000000 in
/-- Give -/
theorem give_any (d b1 b2 : Nat) (s : Dk) (e : Int) (w : World) (h : DiskAt w d b1 b2 s) :
    Calls Tryz.prog 79 #[.pointer (some ⟨d, 0, none⟩), .int .i64 e] w fun r w' => ∃ v : Mv, r = .returned (.tuple #[v.val, .int .i64 (gotE s (Span.wOff e) (Span.wLen e) : Nat)]) ∧ v.ms = giveM s e ∧ v.At w.heap.size w'.heap.size w' ∧ Kept [] w w' := by
  have hk0 := kept_alloc [] w (.cells #[.int .i64 0, .int .i64 0, .int .i64 0, .int .u64 0, .bool false, .slice none 0 0] 26)
  have hB0 := zero_new w
  have q := dExtent_any d b1 b2 s e _ (h.kept hk0 (by simp) (by simp) (by simp))
  have hM : Hid (giveM s e = if gotE s (Span.wOff e) (Span.wLen e) = 0 then ⟨6, 0, e, 0, false, gotL s (Span.wOff e) (Span.wLen e)⟩ else mv0.ms) := rfl
  generalize giveM s e = M at *
  generalize gotE s (Span.wOff e) (Span.wLen e) = E at *
  generalize gotL s (Span.wOff e) (Span.wLen e) = bs at *
  by_cases he : E = 0
  · subst he
    have hM' : Hid (M = ⟨6, 0, e, 0, false, bs⟩) := hM.out.trans (if_pos rfl)
    clear hM
    go_enter Tryz.func79, Tryz.ntmps79
    go_wp2_with (first
      | (go_at_call 66; refine q.mono ?_; rintro r w1 ⟨v, rfl, hR, hk1⟩; obtain ⟨a1, cap1, e1⟩ := hR.slice; subst e1; have hB1 := hB0.kept hk1 (by simp))
      | (refine wpList_store_blk rfl 26 _ _ rfl w.heap.size 26 _ [.int .i64 6, .int .i64 0, .int .i64 e, .int .u64 0, .bool false, .slice a1 bs.length cap1] rfl rfl hB1 rfl Pack.Tryz.sizeM (by simp [Value.oneCell']) ?_; intro w4 hB4 hk4 hz4; replace hz4 : Hid _ := hz4))
    refine bodyPost_ret (results_msg rfl _ _ w.heap.size _ _ _ _ _ _ rfl hB4) rfl ⟨⟨6, 0, e, 0, false, a1, bs.length, cap1, bs⟩, rfl, hM'.out.symm, ⟨?_, (by show (0 : Nat) < _; decide), (by show _ ≤ (0 : Int); decide), (by show (0 : Int) ≤ _; decide)⟩, ?_⟩
    · have e4 := hz4.out
      have h1 := hR.kept (Nat.le_refl _) hk4 (by simp)
      exact Pack.ByteRow.mono (to_pack h1) (by simp) (by omega)
    · exact (hk0.trans hk1).young hk4 (Nat.le_refl _)
  · have he' : ((E : Int) != 0) = true := by simp; omega
    have hM' : Hid (M = mv0.ms) := hM.out.trans (if_neg he)
    clear hM
    go_enter Tryz.func79, Tryz.ntmps79
    go_wp2_with (first
      | (go_at_call 66; refine q.mono ?_; rintro r w1 ⟨v, rfl, hR, hk1⟩; obtain ⟨a1, cap1, e1⟩ := hR.slice; subst e1; have hB1 := hB0.kept hk1 (by simp))
      | (refine wpList_store_blk rfl 26 _ _ rfl w.heap.size 26 _ [.int .i64 0, .int .i64 0, .int .i64 0, .int .u64 0, .bool false, .slice none 0 0] rfl rfl hB1 rfl Pack.Tryz.sizeM (by simp [Value.oneCell']) ?_; intro w4 hB4 hk4 hz4; replace hz4 : Hid _ := hz4))
    refine bodyPost_ret (results_msg rfl _ _ w.heap.size _ _ _ _ _ _ rfl hB4) rfl ⟨mv0, rfl, hM'.out.symm, Pack.mv0_at _ _ _, (hk0.trans hk1).young hk4 (Nat.le_refl _)⟩
set_option maxRecDepth 100000 in
set_option maxHeartbeats 1000000 in
theorem give_none (p : Option Addr) (e : Int) (w : World) (h : NoDisk w p) :
    Calls Tryz.prog 79 #[.pointer p, .int .i64 e] w fun r w' => r = .returned (.tuple #[mv0.val, .int .i64 1]) ∧ Kept [] w w' := by
  have hk0 := kept_alloc [] w (.cells #[.int .i64 0, .int .i64 0, .int .i64 0, .int .u64 0, .bool false, .slice none 0 0] 26)
  have hB0 := zero_new w
  have q := dExtent_none p e _ (h.kept hk0)
  go_enter Tryz.func79, Tryz.ntmps79
  go_wp2_with (first
    | (go_at_call 66; refine q.mono ?_; rintro r w1 ⟨rfl, hk1⟩; have hB1 := hB0.kept hk1 (by simp))
    | (refine wpList_store_blk rfl 26 _ _ rfl w.heap.size 26 _ [.int .i64 0, .int .i64 0, .int .i64 0, .int .u64 0, .bool false, .slice none 0 0] rfl rfl hB1 rfl Pack.Tryz.sizeM (by simp [Value.oneCell']) ?_; intro w4 hB4 hk4 hz4; replace hz4 : Hid _ := hz4))
  refine bodyPost_ret (results_msg rfl _ _ w.heap.size _ _ _ _ _ _ rfl hB4) rfl ⟨rfl, (hk0.trans hk1).young hk4 (Nat.le_refl _)⟩
/-- What a Told tells, and leaves. -/
def toldE (s : Dk) (e : Int) : Nat := if 0 ≤ e ∧ e ≤ 63 then mapE s (clearM s e) else 2
def toldX (s : Dk) (e : Int) : Nat := if 0 ≤ e ∧ e ≤ 63 then clearX s e else 0
def toldS (s : Dk) (e : Int) : Dk := if 0 ≤ e ∧ e ≤ 63 then mapS s (clearM s e) else s
set_option maxRecDepth 100000 in
set_option maxHeartbeats 1000000 in
/-- Told, whatever its Clear does -/
theorem told_of (p : Option Addr) (e : Int) (x er : Nat) (P : World → Prop) (L : List Nat) (w : World) (h0 : 0 ≤ e) (h1 : e ≤ 63)
    (q : Calls Tryz.prog 157 #[.pointer p, .int .i64 e] w fun r w' => r = .returned (.tuple #[.int .u64 (x : Int), .int .i64 (er : Int)]) ∧ P w' ∧ Kept L w w') :
    Calls Tryz.prog 132 #[.pointer p, .int .i64 e] w fun r w' => r = .returned (.tuple #[.int .u64 (x : Int), .int .i64 (er : Int)]) ∧ P w' ∧ Kept L w w' := by
  go_enter Tryz.func132, Tryz.ntmps132
  go_wp2_with (first
    | (go_at_call 157; refine q.mono ?_; rintro r w1 ⟨rfl, hP, hk1⟩))
  go_ret2
  exact ⟨rfl, hP, hk1⟩
set_option maxRecDepth 100000 in
theorem told_bad (p : Option Addr) (e : Int) (w : World) (h : ¬ (0 ≤ e ∧ e ≤ 63)) :
    Calls Tryz.prog 132 #[.pointer p, .int .i64 e] w fun r w' => r = .returned (.tuple #[.int .u64 0, .int .i64 2]) ∧ w' = w := by
  by_cases h0 : e < 0
  · go_enter Tryz.func132, Tryz.ntmps132
    go_wp2_with fail
    go_ret2
    exact ⟨rfl, rfl⟩
  · have h1 : 64 ≤ e := by omega
    go_enter Tryz.func132, Tryz.ntmps132
    go_wp2_with fail
    go_ret2
    exact ⟨rfl, rfl⟩
set_option maxRecDepth 100000 in
/-- Told -/
theorem told_any (d b1 b2 : Nat) (s : Dk) (e : Int) (hops : s.ops ≤ 999998) (w : World) (h : DiskAt w d b1 b2 s) :
    Calls Tryz.prog 132 #[.pointer (some ⟨d, 0, none⟩), .int .i64 e] w fun r w' => r = .returned (.tuple #[.int .u64 (toldX s e : Nat), .int .i64 (toldE s e : Nat)]) ∧ DiskAt w' d b1 b2 (toldS s e) ∧ Kept [d, b1, b2] w w' := by
  unfold toldX toldE toldS
  by_cases he : 0 ≤ e ∧ e ≤ 63
  · rw [if_pos he, if_pos he, if_pos he]
    exact told_of _ e _ _ (fun W => DiskAt W d b1 b2 _) _ w he.1 he.2 (clear_any d b1 b2 s e hops w h)
  · rw [if_neg he, if_neg he, if_neg he]
    exact (told_bad _ e w he).mono fun r w' ⟨hr, hw⟩ => ⟨hr, by rw [hw]; exact h, by rw [hw]; exact Kept.refl _ _⟩
set_option maxRecDepth 100000 in
theorem told_none (p : Option Addr) (e : Int) (w : World) (h : NoDisk w p) :
    Calls Tryz.prog 132 #[.pointer p, .int .i64 e] w fun r w' => ∃ er : Nat, r = .returned (.tuple #[.int .u64 0, .int .i64 (er : Int)]) ∧ er ≠ 0 ∧ Kept [] w w' := by
  by_cases he : 0 ≤ e ∧ e ≤ 63
  · exact (told_of p e 0 1 (fun _ => True) [] w he.1 he.2 ((clear_none p e w h).mono fun r w' ⟨hr, hk⟩ => ⟨hr, trivial, hk⟩)).mono fun r w' ⟨hr, _, hk⟩ => ⟨1, hr, by decide, hk⟩
  · exact (told_bad p e w he).mono fun r w' ⟨hr, hw⟩ => ⟨2, hr, by decide, by rw [hw]; exact Kept.refl _ _⟩
end Go.Proofs.YtfiofdmefgkloaaGreat.Copying

