/-
  lives; flights that no call made.
-/
import Derived.Test.YtollfckgjhklcaaGreatFlO
import Derived.Lib.SlBytesConst
namespace Go.Proofs.YtollfckgjhklcaaGreat.Flight
open Go.RowKit Go.Maps Go.Sort
open Table (Rising ins del tks)

theorem FlAt.lts {W : World} {lo hi f b p : Nat} {F : List Nat} {L : List (Int × Fw)} (h : FlAt W lo hi f b p F L) : f < W.heap.size ∧ b < W.heap.size ∧ ∀ k ∈ F, k < W.heap.size := by
  obtain ⟨M, t1, _, _⟩ := h.tree
  exact ⟨h.blk.lt, h.map.lt, t1.lt⟩
/-- What was there ahead of the flights stays behind a call of theirs. -/
theorem FlAt.past {X A B : World} {lo hi f b p : Nat} {F : List Nat} {L : List (Int × Fw)} (h : FlAt A lo hi f b p F L) (h0 : Kept [] X A) (hx : X.heap.size ≤ lo) (hk : Kept (b :: F) A B) : Kept [] X B :=
  Itree.kept_youngs h0 hk (fun k hk => .inr (by
    rcases List.mem_cons.1 hk with rfl | hk
    · exact Nat.le_trans hx h.young.2.1
    · exact Nat.le_trans hx (h.young.2.2 k hk)))
/-- A byte in a slice of its own. -/
theorem byte_one (W : World) (c : Nat) (hc : c < 256) (K : List Nat) (hK : ∀ k ∈ K, k < W.heap.size) : ∀ V, Kept K (W.alloc (.cells #[.int .u8 (c : Int)] 5 (1, 2))) V → ByteRow V.heap.size V (.slice (some ⟨W.heap.size, 0, none⟩) 1 1) [c] := fun V hk => by
  have hs := hk.size
  rw [World.size_alloc] at hs
  refine ⟨by simpa using hc, some ⟨W.heap.size, 0, none⟩, 1, rfl, fun e => (by cases e), .inr ⟨W.heap.size, 0, rfl, Nat.le_refl _, by omega, fun j hj => ?_⟩⟩
  have hj0 : j = 0 := by simpa using hj
  subst hj0
  rw [World.cell?_of_block (w := W.alloc (.cells #[.int .u8 (c : Int)] 5 (1, 2))) (w' := V) (hk.block W.heap.size (by simp) (fun hm => by have := hK _ hm; omega))]
  exact (World.cell?_alloc_mark W #[.int .u8 (c : Int)] 5 (1, 2) 0).trans rfl
def l1 : List (Int × Fw) := [(1, ⟨0, 2, [97], 0⟩)]
set_option maxRecDepth 100000 in
set_option maxHeartbeats 2000000 in
/-- lives -/
theorem lives_any (w : World) : Calls Tryz.prog 4 #[] w fun e w' => e = .returned (.bool true) ∧ Kept [] w w' := by
  have hcv : ∀ (W : World) (x : Int), (convert 32 32 (.slice (some ⟨W.heap.size, 0, none⟩) 1 1)).run Tryz.prog (W.alloc (.cells #[.int .u8 x] 5)) = .ok (.slice (some ⟨W.heap.size, 0, none⟩) 1 1) (W.alloc (.cells #[.int .u8 x] 5 (1, 2))) := fun W x => Lib.run_convert_bytes_const (P := Tryz.prog) W 32 5 #[.int .u8 x] 1 1 Tryz.underlying32 Tryz.underlying5
  have qn := new_any w
  have q1 : ∀ W f b p F, FlAt W w.heap.size W.heap.size f b p F [] → w.heap.size ≤ W.heap.size → Calls Tryz.prog 6 #[.pointer (some ⟨f, 0, none⟩), .int .i64 1, .agg #[.int .i64 0, .int .i64 2], .slice (some ⟨W.heap.size, 0, none⟩) 1 1] (W.alloc (.cells #[.int .u8 97] 5 (1, 2))) fun e w' => ∃ F', e = .returned (.bool true) ∧ FlAt w' w.heap.size w'.heap.size f b p F' l1 ∧ Kept (b :: F) W w' := fun W f b p F h hw => by
    have ka := kept_alloc [] W (.cells #[.int .u8 97] 5 (1, 2))
    refine (add_any 1 0 2 (.slice (some ⟨W.heap.size, 0, none⟩) 1 1) [97] (by omega) (by omega) (by constructor <;> decide) _ (h.kept0 ka) (by simp) (Nat.le_trans hw ka.size) (byte_one W 97 (by omega) F h.lts.2.2) (by simp)).mono ?_
    rintro e w' ⟨F', rfl, h1, _, h3⟩
    exact ⟨F', rfl, h1, (ka.mono (by simp)).trans h3⟩
  have q2 : ∀ W f b p F, FlAt W w.heap.size W.heap.size f b p F l1 → w.heap.size ≤ W.heap.size → Calls Tryz.prog 6 #[.pointer (some ⟨f, 0, none⟩), .int .i64 2, .agg #[.int .i64 1, .int .i64 2], .slice none 0 0] W fun e w' => ∃ F', e = .returned (.bool false) ∧ FlAt w' w.heap.size w'.heap.size f b p F' l1 ∧ Kept (b :: F) W w' := fun W f b p F h hw => by
    refine (add_any 2 1 2 (.slice none 0 0) [] (by omega) (by omega) (by constructor <;> decide) _ h (by simp [l1]) hw (fun V _ => byteRow_nil _ V) (by simp)).mono ?_
    rintro e w' ⟨F', rfl, h1, _, h3⟩
    exact ⟨F', rfl, h1, h3⟩
  have q3 : ∀ W f b p F, FlAt W w.heap.size W.heap.size f b p F l1 → Calls Tryz.prog 12 #[.pointer (some ⟨f, 0, none⟩), .int .i64 1] W fun e w' => ∃ y : Fv, e = .returned (.tuple #[y.val, .bool true]) ∧ y.bs = [97] ∧ y.At W.heap.size w'.heap.size w' ∧ Kept [] W w' := fun W f b p F h => by
    refine (get_any 1 (by omega) (by omega) W h).mono ?_
    rintro e w' ⟨y, rfl, hf, hA, hk⟩
    exact ⟨y, rfl, congrArg Fw.bs hf.2, hA, hk⟩
  have q4 : ∀ W f b p F, FlAt W w.heap.size W.heap.size f b p F l1 → Calls Tryz.prog 20 #[.pointer (some ⟨f, 0, none⟩)] W fun e w' => e = .returned (.int .i64 1) ∧ w' = W := fun W f b p F h => len_any W h
  have q5 : ∀ W f b p F, FlAt W w.heap.size W.heap.size f b p F l1 → Calls Tryz.prog 16 #[.pointer (some ⟨f, 0, none⟩), .agg #[.int .i64 1, .int .i64 1]] W fun e w' => e = .returned (.bool true) ∧ Kept [] W w' := fun W f b p F h => busy_any 1 1 (by constructor <;> decide) W h (by simp [l1])
  have q6 : ∀ W f b p F, FlAt W w.heap.size W.heap.size f b p F l1 → Calls Tryz.prog 18 #[.pointer (some ⟨f, 0, none⟩)] W fun e w' => e = .returned (.int .u64 1) ∧ Kept [] W w' := fun W f b p F h => by
    have e : exts l1 = 1 := by decide +kernel
    have := extents_any W h
    rw [e] at this
    exact this
  have ht : txt [97] = ⟨#[97]⟩ := by decide
  go_enter Tryz.func4, Tryz.ntmps4
  go_wp2_with (first
    | (go_at_call 5; refine qn.mono ?_; rintro e w1 ⟨f, b, p, F, rfl, h1, hk1⟩; clear qn)
    | (go_at_call 6; refine (q1 _ _ _ _ _ h1 hk1.size).mono ?_; rintro e w2 ⟨F2, rfl, h2, hk2⟩; clear q1; have hk2' := h1.past hk1 (Nat.le_refl _) hk2)
    | (go_at_call 6; refine (q2 _ _ _ _ _ h2 hk2'.size).mono ?_; rintro e w3 ⟨F3, rfl, h3, hk3⟩; clear q2; have hk3' := h2.past hk2' (Nat.le_refl _) hk3)
    | (go_at_call 12; refine (q3 _ _ _ _ _ h3).mono ?_; rintro e w4 ⟨y, rfl, hyb, hyA, hk4⟩; clear q3; unfold Fv.val; have hb4 := blk_new w4 39 #[.int .i64 y.t, .int .i64 y.o, .int .i64 y.l, .slice y.sa y.len y.cap, .int .i64 y.st]; have ka4 := kept_alloc [] w4 (.cells #[.int .i64 y.t, .int .i64 y.o, .int .i64 y.l, .slice y.sa y.len y.cap, .int .i64 y.st] 39); have hcn := conv_txt (hyA.kept0 ka4).in; rw [hyb, ht] at hcn; have h4 := ((h3.kept0 hk4).kept0 ka4).up; have hk4' := (hk3'.trans hk4).trans ka4)
    | (go_at_call 20; refine (q4 _ _ _ _ _ h4).mono ?_; rintro e w5 ⟨rfl, rfl⟩)
    | (go_at_call 16; refine (q5 _ _ _ _ _ h4).mono ?_; rintro e w6 ⟨rfl, hk6⟩; have h6 := (h4.kept0 hk6).up)
    | (go_at_call 18; refine (q6 _ _ _ _ _ h6).mono ?_; rintro e w7 ⟨rfl, hk7⟩))
  go_ret
  exact ⟨rfl, (hk4'.trans hk6).trans hk7⟩
end Go.Proofs.YtollfckgjhklcaaGreat.Flight
