/-
  Texts and begins; SessionOrder's memory: two sides, their rows, what is on its way.
-/
import Derived.Test.YtnbkbakbjllmcaaSsG
namespace Go.Proofs.Ytnbkbakbjllmcaa.Session
open Go.RowKit
open Outbox (Ob nums OutAt Bv Byt NoByt RowAt NRow)
open Wire (Ps Pv bytesL parseM parseE)

set_option maxRecDepth 100000 in
/-- Texts, of rows that are alike -/
theorem texts_same (u1 : Option Addr) (n1 c1 : Nat) (u2 : Option Addr) (n2 c2 : Nat) (P Q : List Bv) (K1 K2 : List Nat) (w : World) (h1 : Lies w (.slice u1 n1 c1) P) (h2 : Lies w (.slice u2 n2 c2) Q) (f1 : ∀ x ∈ P, Far K1 w x) (f2 : ∀ x ∈ Q, Far K2 w x) (he : P.map Bv.bs = Q.map Bv.bs) (hl : P.length ≤ 1000000) :
    Calls Try.prog 32 #[.slice u1 n1 c1, .slice u2 n2 c2] w fun e w' => e = .returned (.bool true) ∧ ∃ n, w' = w.drewN n := by
  have e1 := h1.len
  have e2 := h2.len
  have hlen : P.length = Q.length := by
    have := congrArg List.length he
    simpa using this
  rw [← hlen] at e2
  subst e1 e2
  have hne : ((P.length : Int) != (P.length : Int)) = false := by simp
  go_enter Try.func32, Try.ntmps32
  go_wp2_with fail
  go_loopw [13] (fun i wr => ∃ j : Nat, j ≤ P.length ∧ i = .int .i64 j ∧ ∃ n, wr = w.drewN n) (fun i _ => P.length - (intOf i).toNat)
  case atStart => exact ⟨0, by omega, rfl, 0, rfl⟩
  case round =>
    obtain ⟨j, hj, rfl, m, hm0⟩ := hrel
    have kq := kept_drewN [] w m
    rw [← hm0] at kq
    replace hm0 : Hid _ := hm0
    by_cases hlt : j < P.length
    · obtain ⟨x, hx⟩ : ∃ x, P[j]? = some x := ⟨_, List.getElem?_eq_getElem hlt⟩
      obtain ⟨y, hy⟩ : ∃ y, Q[j]? = some y := ⟨_, List.getElem?_eq_getElem (by omega)⟩
      obtain ⟨ga, oa, ea, ca⟩ := h1.at j x hx
      obtain ⟨gb, ob, eb, cb⟩ := h2.at j y hy
      subst ea eb
      have hb : x.bs = y.bs := by
        have := congrArg (fun l => l[j]?) he
        simp [hx, hy] at this
        exact this
      have ca' : ∀ n, (wr.drewN n).cell? ⟨ga, oa + j, none⟩ = some (.slice x.sa x.len x.cap) := fun n => by rw [hm0.out]; exact ca
      have cb' : ∀ n, (wr.drewN n).cell? ⟨gb, ob + j, none⟩ = some (.slice y.sa y.len y.cap) := fun n => by rw [hm0.out]; exact cb
      have fx := (f1 x (List.mem_of_getElem? hx)).row
      have fy := (f2 y (List.mem_of_getElem? hy)).row
      have d1 : ∀ n, (convert 34 9 (.slice x.sa x.len x.cap)).run Try.prog (wr.drewN n) = .ok (.string (Outbox.txt x.bs)) (wr.drewN n) := fun n => Outbox.conv_txt ((fx.kept (Nat.le_refl _) kq (by simp)).kept kq.size (kept_drewN [] _ n) (by simp))
      have d2 : ∀ n, (convert 34 9 (.slice y.sa y.len y.cap)).run Try.prog (wr.drewN n) = .ok (.string (Outbox.txt x.bs)) (wr.drewN n) := fun n => by
        rw [hb]
        exact Outbox.conv_txt ((fy.kept (Nat.le_refl _) kq (by simp)).kept kq.size (kept_drewN [] _ n) (by simp))
      have hil : (j : Int) < (P.length : Int) := by omega
      have hm1 : Hid (P.length - (j + 1) < P.length - j) := by show _ < _; omega
      clear ca cb fx fy hx hy hb he h1 h2 f1 f2
      generalize P.length = LL at *
      go_wp2_with fail
      go_quiet (fail)
      go_wp2_with fail
      go_roundw
      case rel => exact ⟨j + 1, by omega, by go_num, m + nq, by rw [hm0.out]; exact World.drewN_drewN _ _ _⟩
      case measure => simpa [intOf] using hm1.out
    · obtain rfl : j = P.length := by omega
      go_wp2_with fail
      go_ret
      exact ⟨rfl, m, hm0.out⟩
set_option maxRecDepth 100000 in
/-- begins, where it is so -/
theorem begins_same (u1 : Option Addr) (n1 c1 : Nat) (u2 : Option Addr) (n2 c2 : Nat) (P Q : List Bv) (K1 K2 : List Nat) (w : World) (h1 : Lies w (.slice u1 n1 c1) P) (h2 : Lies w (.slice u2 n2 c2) Q) (f1 : ∀ x ∈ P, Far K1 w x) (f2 : ∀ x ∈ Q, Far K2 w x) (hn : P.length ≤ Q.length) (he : P.map Bv.bs = (Q.map Bv.bs).take P.length) (hl : P.length ≤ 1000000) :
    Calls Try.prog 11 #[.slice u1 n1 c1, .slice u2 n2 c2] w fun e w' => e = .returned (.bool true) ∧ ∃ n, w' = w.drewN n := by
  obtain ⟨sa, cap, hrun, h3, -⟩ := h2.take P.length hn
  have q := texts_same u1 n1 c1 sa P.length cap P (Q.take P.length) K1 K2 w h1 h3 f1 (fun x hx => f2 x (List.mem_of_mem_take hx)) (by rw [he, List.map_take]) hl
  have e1 := h1.len
  have e2 := h2.len
  subst e1 e2
  have hle : (P.length : Int) ≤ (Q.length : Int) := by omega
  clear h1 h2 h3 f1 f2 he
  generalize P.length = N at *
  generalize Q.length = M at *
  go_enter Try.func11, Try.ntmps11
  go_wp2_with (go_at_call 32; refine q.mono ?_; rintro e w1 ⟨rfl, m, rfl⟩)
  go_ret
  exact ⟨rfl, m, rfl⟩
/-- Feet of several things: apart, made since base. -/
structure Pool (W : World) (base : Nat) (f : Nat → List Nat) : Prop where
  lt : ∀ i k, k ∈ f i → base ≤ k ∧ k < W.heap.size
  one : ∀ i j k, k ∈ f i → k ∈ f j → i = j
theorem Pool.step {W W' : World} {base : Nat} {f f' : Nat → List Nat} (h : Pool W base f) (i : Nat) (hb : base ≤ W.heap.size) (hs : W.heap.size ≤ W'.heap.size) (hne : ∀ j, j ≠ i → f' j = f j) (hi : ∀ k ∈ f' i, (k ∈ f i ∨ W.heap.size ≤ k) ∧ k < W'.heap.size) : Pool W' base f' := by
  refine ⟨fun j k hk => ?_, fun j l k hj hl => ?_⟩
  · by_cases e : j = i
    · subst e
      obtain ⟨h1 | h1, h2⟩ := hi k hk
      · exact ⟨(h.lt j k h1).1, h2⟩
      · exact ⟨by omega, h2⟩
    · rw [hne j e] at hk
      have := h.lt j k hk
      exact ⟨this.1, by omega⟩
  · by_cases e1 : j = i
    · by_cases e2 : l = i
      · omega
      · subst e1
        rw [hne l e2] at hl
        obtain ⟨h1 | h1, _⟩ := hi k hj
        · exact h.one j l k h1 hl
        · have := (h.lt l k hl).2
          omega
    · by_cases e2 : l = i
      · subst e2
        rw [hne j e1] at hj
        obtain ⟨h1 | h1, _⟩ := hi k hl
        · exact h.one j l k hj h1
        · have := (h.lt j k hj).2
          omega
      · rw [hne j e1] at hj
        rw [hne l e2] at hl
        exact h.one j l k hj hl
theorem Pool.more {W W' : World} {base : Nat} {f : Nat → List Nat} (h : Pool W base f) (hs : W.heap.size ≤ W'.heap.size) : Pool W' base f := ⟨fun i k hk => ⟨(h.lt i k hk).1, Nat.lt_of_lt_of_le (h.lt i k hk).2 hs⟩, h.one⟩
/-- A side in memory: its session's blocks, its three rows. -/
structure Sv where
  F : Foot
  s1 : Option Addr
  s3 : Nat
  g1 : Option Addr
  g3 : Nat
  w1 : Option Addr
  w3 : Nat
  S : List Bv
  G : List Bv
  Y : List Bv
def Sv.sent (v : Sv) : Value := .slice v.s1 v.S.length v.s3
def Sv.got (v : Sv) : Value := .slice v.g1 v.G.length v.g3
def Sv.way (v : Sv) : Value := .slice v.w1 v.Y.length v.w3
/-- Its feet: 0 the session, 1 what it sent, 2 what it got, 3 what is on its way. -/
def Sv.foot (v : Sv) : Nat → List Nat
  | 0 => v.F.l
  | 1 => v.sent.ownBlock.toList
  | 2 => v.got.ownBlock.toList
  | 3 => v.way.ownBlock.toList
  | _ => []
/-- All feet: 0 to 3 the one side, 4 to 7 the other one, 8 the sides' block, 9 the ways'. -/
def feet (xb yb : Nat) (a b : Sv) : Nat → List Nat
  | 0 => a.foot 0
  | 1 => a.foot 1
  | 2 => a.foot 2
  | 3 => a.foot 3
  | 4 => b.foot 0
  | 5 => b.foot 1
  | 6 => b.foot 2
  | 7 => b.foot 3
  | 8 => [xb]
  | 9 => [yb]
  | _ => []
def flat (f : Nat → List Nat) : List Nat := (List.range 10).flatMap f
theorem flat_mem {f : Nat → List Nat} {k : Nat} (h : k ∈ flat f) : ∃ i, i < 10 ∧ k ∈ f i := by
  obtain ⟨i, h0, hi⟩ := List.mem_flatMap.1 h
  exact ⟨i, by simpa using h0, hi⟩
theorem mem_flat {f : Nat → List Nat} {k i : Nat} (hi : i < 10) (h : k ∈ f i) : k ∈ flat f := List.mem_flatMap.2 ⟨i, by simpa using hi, h⟩
/-- What a side's memory holds. -/
structure Half (W : World) (base : Nat) (K : List Nat) (v : Sv) (A : Sd) (wy : List (List Nat)) : Prop where
  ss : SsAt W base v.F A.s
  sent : BRow base W v.sent v.S
  got : BRow base W v.got v.G
  way : BRow base W v.way v.Y
  sentL : v.S.map Bv.bs = A.sent
  gotL : v.G.map Bv.bs = A.got
  wayL : v.Y.map Bv.bs = wy
  sentF : ∀ x ∈ v.S, Far K W x
  gotF : ∀ x ∈ v.G, Far K W x
  wayF : ∀ x ∈ v.Y, Far K W x
/-- A change elsewhere. -/
theorem Half.step {W W' : World} {base : Nat} {K K1 K' : List Nat} {v : Sv} {A : Sd} {wy : List (List Nat)} (h : Half W base K v A wy) (hk : Kept K1 W W') (h1 : ∀ k ∈ K1, k ∈ K) (h2 : ∀ k ∈ K', k ∈ K ∨ W.heap.size ≤ k) (hf : ∀ i, ∀ k ∈ v.foot i, k ∉ K1) (hb : NoByt K1 W) : Half W' base K' v A wy :=
  ⟨h.ss.kept hk (hf 0) hb, h.sent.kept hk (fun k e => hf 1 k (by simp [Sv.foot, e])), h.got.kept hk (fun k e => hf 2 k (by simp [Sv.foot, e])), h.way.kept hk (fun k e => hf 3 k (by simp [Sv.foot, e])), h.sentL, h.gotL, h.wayL,
    fun x hx => (h.sentF x hx).step hk h1 h2, fun x hx => (h.gotF x hx).step hk h1 h2, fun x hx => (h.wayF x hx).step hk h1 h2⟩
theorem Half.noByt {W : World} {base : Nat} {K : List Nat} {v : Sv} {A : Sd} {wy : List (List Nat)} (h : Half W base K v A wy) : ∀ i, NoByt (v.foot i) W
  | 0 => h.ss.foot
  | 1 => h.sent.noByt
  | 2 => h.got.noByt
  | 3 => h.way.noByt
  | _ + 4 => Outbox.noByt_nil W
end Go.Proofs.Ytnbkbakbjllmcaa.Session
