/-
  Plain facts of layer 22: a session, what it tells, and what follows over a net that loses, doubles and delays.
-/
import Derived.Test.YtnbkbakbjllmcaaWrM
import Derived.Test.YtnbkbakbjllmcaaOtM
import Derived.Test.YtnbkbakbjllmcaaIbA
import Derived.Test.YtnbkbakbjllmcaaKpA
namespace Go.Proofs.Ytnbkbakbjllmcaa.Session
open Outbox (Ob nums)
open Wire (Ps bytesL parseM parseE)

/-- A session: its boot, the other one's, what was sent, the last number that was taken, patience and age. -/
structure Ss where
  my : Nat
  peer : Nat
  ob : Ob
  last : Nat
  pat : Nat
  age : Nat
/-- A session without a peer. -/
def made (my w pat : Nat) : Ss := ⟨my, 0, Outbox.made w, 0, pat, 0⟩
def Ss.hello (s : Ss) : Ps := ⟨s.my, 0, 1, 0, 0, []⟩
def Ss.ping (s : Ss) : Ps := ⟨s.my, s.peer, 2, 0, (s.last : Int), []⟩
def Ss.msg (s : Ss) (n : Nat) : Ps := ⟨s.my, s.peer, 3, (n : Int), (s.last : Int), (s.ob.body (n : Int)).getD []⟩
def Ss.msgs (s : Ss) (l : List Nat) : List (List Nat) := l.map fun n => bytesL (s.msg n)
/-- May it be sent? -/
def Ss.may (s : Ss) (b : List Nat) : Bool := decide (s.peer ≠ 0) && (decide (1 ≤ b.length) && decide (b.length ≤ 200))
def Ss.sent (s : Ss) (b : List Nat) : Ss := if s.may b then { s with ob := s.ob.push b } else s
def Ss.sendL (s : Ss) (b : List Nat) : List (List Nat) := if s.may b && s.ob.pushB then (s.sent b).msgs [s.ob.pushN] else []
def Ss.ticked (s : Ss) : Ss := { s with age := Keep.tickN s.pat s.age }
def Ss.tickL (s : Ss) : List (List Nat) := if s.peer = 0 then [bytesL s.hello] else if s.ob.l = [] then [bytesL s.ping] else s.msgs s.ob.window
/-- Is it nothing to this session? -/
def Ss.deaf (s : Ss) (b : List Nat) : Bool := decide (parseE b ≠ 0) || decide ((parseM b).f < s.peer)
/-- Does it tell of another boot? -/
def Ss.isNew (s : Ss) (b : List Nat) : Bool := !s.deaf b && decide (s.peer < (parseM b).f)
/-- The session of the boot that a packet tells of. -/
def Ss.turned (s : Ss) (b : List Nat) : Ss := if s.isNew b then { s with peer := (parseM b).f, ob := Outbox.made s.ob.w, last := 0, age := 0 } else s
/-- Is it for this boot? -/
def Ss.mine (s : Ss) (b : List Nat) : Bool := !s.deaf b && decide ((parseM b).t = s.my)
/-- The session behind the packet's Ack. -/
def Ss.acked (s : Ss) (b : List Nat) : Ss := if s.mine b then { (s.turned b) with ob := (s.turned b).ob.ack (parseM b).a, age := 0 } else s.turned b
/-- Is something brought? -/
def Ss.has (s : Ss) (b : List Nat) : Bool := s.mine b && (decide ((parseM b).k = 3) && Inbox.takeB (s.turned b).last (parseM b).s)
def Ss.taken (s : Ss) (b : List Nat) : Ss := if s.has b then { (s.acked b) with last := (s.turned b).last + 1 } else s.acked b
def Ss.gotB (s : Ss) (b : List Nat) : List Nat := if s.has b then (parseM b).d else []
/-- The numbers that may go now. -/
def Ss.free (s : Ss) (b : List Nat) : List Nat := if s.mine b then (s.turned b).ob.ackL (parseM b).a else []
def Ss.takeL (s : Ss) (b : List Nat) : List (List Nat) :=
  if s.deaf b then [] else if s.mine b then (s.acked b).msgs (s.free b) ++ (if (parseM b).k = 3 then [bytesL (s.taken b).ping] else []) else [bytesL (s.taken b).ping]

/-- A side of a net: its session, what it sent to the other one's boot, what came of the other one's boot. -/
structure Sd where
  s : Ss
  sent : List (List Nat)
  got : List (List Nat)
/-- A packet that may be on its way from a side. -/
def Ok (A : Sd) (b : List Nat) : Prop :=
  ∃ p : Ps, Wire.Fine p ∧ b = bytesL p ∧ p.f ≤ A.s.my ∧ p.t < 4294967296 ∧ (p.f = A.s.my → p.t ≤ A.s.peer ∧ (p.t = A.s.peer → p.k = 3 → 1 ≤ p.s ∧ A.sent[p.s.toNat - 1]? = some p.d))
/-- A side by itself. -/
structure Side (A : Sd) : Prop where
  my1 : 1 ≤ A.s.my
  my2 : A.s.my < 4294967296
  peer : A.s.peer < 4294967296
  last : A.s.last ≤ 2147483647
  few : A.sent.length < 2147483647
  small : ∀ b ∈ A.sent, 1 ≤ b.length ∧ b.length ≤ 200
  first : 1 ≤ A.s.ob.n
  upto : A.s.ob.n ≤ A.sent.length + 1
  rest : A.s.ob.l = A.sent.drop (A.s.ob.n - 1)
/-- One way: A sends, B gets; wy is what is on its way. -/
structure Dir (A B : Sd) (wy : List (List Nat)) : Prop where
  peer : A.s.peer ≤ B.s.my
  ok : ∀ b ∈ wy, Ok A b
  same : B.s.peer = A.s.my → A.s.peer = B.s.my → B.got = A.sent.take B.s.last ∧ B.s.last ≤ A.sent.length
  none : B.s.peer = A.s.my → A.s.peer ≠ B.s.my → B.got = [] ∧ B.s.last = 0
/-- Both ways. -/
structure Both (A B : Sd) (wa wb : List (List Nat)) : Prop where
  a : Side A
  b : Side B
  ab : Dir A B wa
  ba : Dir B A wb
theorem Both.swap {A B : Sd} {wa wb : List (List Nat)} (h : Both A B wa wb) : Both B A wb wa := ⟨h.b, h.a, h.ba, h.ab⟩
/-- What the statement asks. -/
theorem Both.begins {A B : Sd} {wa wb : List (List Nat)} (h : Both A B wa wb) (h1 : B.s.peer = A.s.my) (h2 : A.s.peer = B.s.my) : B.got = A.sent.take B.got.length ∧ B.got.length ≤ A.sent.length := by
  obtain ⟨e, hl⟩ := h.ab.same h1 h2
  have hn : B.got.length = B.s.last := by rw [e, List.length_take]; omega
  exact ⟨by rw [hn]; exact e, by omega⟩
/-- A side that was started. -/
def start (my w pat : Nat) : Sd := ⟨made my w pat, [], []⟩
theorem side_start {my : Nat} (w pat : Nat) (h1 : 1 ≤ my) (h2 : my < 4294967296) : Side (start my w pat) :=
  ⟨h1, h2, by show 0 < _; omega, by show 0 ≤ _; omega, by simp [start], by simp [start], Nat.le_refl _, Nat.le_refl _, rfl⟩
theorem both_start (w pat : Nat) : Both (start 1 w pat) (start 1 w pat) [] [] :=
  ⟨side_start w pat (by omega) (by omega), side_start w pat (by omega) (by omega),
    ⟨by show 0 ≤ _; omega, by simp, fun h => absurd h (by simp [start, made]), fun h => absurd h (by simp [start, made])⟩,
    ⟨by show 0 ≤ _; omega, by simp, fun h => absurd h (by simp [start, made]), fun h => absurd h (by simp [start, made])⟩⟩
/-- Fewer packets on their way. -/
theorem Both.fewer {A B : Sd} {wa wb wa' : List (List Nat)} (h : Both A B wa wb) (hs : ∀ b ∈ wa', b ∈ wa) : Both A B wa' wb :=
  ⟨h.a, h.b, ⟨h.ab.peer, fun b hb => h.ab.ok b (hs b hb), h.ab.same, h.ab.none⟩, h.ba⟩
/-- More packets on their way. -/
theorem Both.more {A B : Sd} {wa wb l : List (List Nat)} (h : Both A B wa wb) (hl : ∀ b ∈ l, Ok A b) : Both A B (wa ++ l) wb :=
  ⟨h.a, h.b, ⟨h.ab.peer, fun b hb => (List.mem_append.1 hb).elim (h.ab.ok b) (hl b), h.ab.same, h.ab.none⟩, h.ba⟩
/-- A side is started anew. -/
theorem Both.again {A B : Sd} {wa wb : List (List Nat)} (h : Both A B wa wb) (w pat : Nat) (hm : A.s.my + 1 < 4294967296) : Both (start (A.s.my + 1) w pat) B wa wb := by
  refine ⟨side_start w pat (by omega) hm, h.b, ⟨by show 0 ≤ _; omega, fun b hb => ?_, fun h1 => ?_, fun h1 => ?_⟩, ⟨?_, h.ba.ok, fun h1 => ?_, fun h1 => ?_⟩⟩
  · obtain ⟨p, hp, e, hf, ht, _⟩ := h.ab.ok b hb
    exact ⟨p, hp, e, Nat.le_succ_of_le hf, ht, fun e => absurd e (by show p.f ≠ A.s.my + 1; omega)⟩
  · have := h.ba.peer
    have e : B.s.peer = A.s.my + 1 := h1
    omega
  · have := h.ba.peer
    have e : B.s.peer = A.s.my + 1 := h1
    omega
  · have := h.ba.peer
    show B.s.peer ≤ A.s.my + 1
    omega
  · have := h.b.my1
    have e : (0 : Nat) = B.s.my := h1
    omega
  · have := h.b.my1
    have e : (0 : Nat) = B.s.my := h1
    omega
/-- The packets that a side tells may be on their way. -/
theorem ok_hello {A : Sd} (h : Side A) : Ok A (bytesL A.s.hello) :=
  ⟨A.s.hello, ⟨h.my1, by simp [Ss.hello], by simp [Ss.hello], .inl ⟨rfl, rfl, rfl, rfl, rfl⟩⟩, rfl, Nat.le_refl _, by show 0 < _; omega, fun _ => ⟨Nat.zero_le _, fun _ h3 => absurd h3 (by simp [Ss.hello])⟩⟩
theorem ok_ping {A : Sd} (h : Side A) (hp : A.s.peer ≠ 0) : Ok A (bytesL A.s.ping) :=
  ⟨A.s.ping, ⟨h.my1, by have := h.last; simp [Ss.ping]; omega, by simp [Ss.ping], .inr (.inl ⟨rfl, Nat.pos_of_ne_zero hp, rfl, rfl⟩)⟩, rfl, Nat.le_refl _, h.peer, fun _ => ⟨Nat.le_refl _, fun _ h3 => absurd h3 (by simp [Ss.ping])⟩⟩
/-- The body of a number. -/
theorem Side.body {A : Sd} (h : Side A) {n : Nat} (h1 : A.s.ob.n ≤ n) (h2 : n < A.s.ob.n + A.s.ob.l.length) : ∃ d, A.s.ob.body (n : Int) = some d ∧ A.sent[n - 1]? = some d ∧ n ≤ A.sent.length := by
  have hf := h.first
  have hu := h.upto
  have hl : A.s.ob.l.length = A.sent.length - (A.s.ob.n - 1) := by rw [h.rest, List.length_drop]
  have hlt : n - 1 < A.sent.length := by omega
  refine ⟨A.sent[n - 1], ?_, List.getElem?_eq_getElem hlt, by omega⟩
  rw [Ob.body_in (n - A.s.ob.n) (by omega), h.rest, List.getElem?_drop, show A.s.ob.n - 1 + (n - A.s.ob.n) = n - 1 by omega]
  exact List.getElem?_eq_getElem hlt
theorem ok_msg {A : Sd} (h : Side A) (hp : A.s.peer ≠ 0) {n : Nat} (h1 : A.s.ob.n ≤ n) (h2 : n < A.s.ob.n + A.s.ob.l.length) : Ok A (bytesL (A.s.msg n)) := by
  obtain ⟨d, e1, e2, hn⟩ := h.body h1 h2
  have hf := h.first
  have hfew := h.few
  obtain ⟨s1, s2⟩ := h.small d (List.mem_of_getElem? e2)
  have ed : (A.s.msg n).d = d := by simp [Ss.msg, e1]
  refine ⟨A.s.msg n, ⟨h.my1, by have := h.last; simp [Ss.msg]; omega, by simp [Ss.msg]; omega, .inr (.inr ⟨rfl, Nat.pos_of_ne_zero hp, by simp [Ss.msg]; omega, by rw [ed]; exact s1, by rw [ed]; exact s2⟩)⟩, rfl, Nat.le_refl _, h.peer, fun _ => ⟨Nat.le_refl _, fun _ _ => ⟨by simp [Ss.msg]; omega, ?_⟩⟩⟩
  rw [ed]
  simpa [Ss.msg] using e2
theorem ok_msgs {A : Sd} (h : Side A) (hp : A.s.peer ≠ 0) {l : List Nat} (hl : ∀ n ∈ l, A.s.ob.n ≤ n ∧ n < A.s.ob.n + A.s.ob.l.length) : ∀ b ∈ A.s.msgs l, Ok A b := fun b hb => by
  obtain ⟨n, hn, rfl⟩ := List.mem_map.1 hb
  exact ok_msg h hp (hl n hn).1 (hl n hn).2
/-- The numbers on their way are there. -/
theorem window_in (s : Ob) : ∀ n ∈ s.window, s.n ≤ n ∧ n < s.n + s.l.length := fun n hn => by
  have := Outbox.nums_mem.1 hn
  have := s.way_le
  omega
theorem ackL_in (s : Ob) (z : Int) : ∀ n ∈ s.ackL z, (s.ack z).n ≤ n ∧ n < (s.ack z).n + (s.ack z).l.length := fun n hn => by
  by_cases on : s.On z
  · rw [Ob.ackL_in on] at hn
    rw [Ob.ack_in on]
    have h1 := Outbox.nums_mem.1 hn
    have h2 := (s.cut z.toNat).way_le
    have h3 : (s.cut z.toNat).n = z.toNat + 1 := rfl
    obtain ⟨o1, o2⟩ := on
    omega
  · rw [Ob.ackL_out on] at hn
    cases hn
/-- A side ticks. -/
theorem Side.ticked {A : Sd} (h : Side A) : Side { A with s := A.s.ticked } := ⟨h.my1, h.my2, h.peer, h.last, h.few, h.small, h.first, h.upto, h.rest⟩
theorem Both.ticked {A B : Sd} {wa wb : List (List Nat)} (h : Both A B wa wb) : Both { A with s := A.s.ticked } B (wa ++ A.s.tickL) wb := by
  have hA := h.a.ticked
  have h1 : Both { A with s := A.s.ticked } B wa wb := ⟨hA, h.b, ⟨h.ab.peer, h.ab.ok, h.ab.same, h.ab.none⟩, ⟨h.ba.peer, h.ba.ok, h.ba.same, h.ba.none⟩⟩
  refine h1.more ?_
  unfold Ss.tickL
  split
  · intro b hb
    rw [List.mem_singleton] at hb
    subst hb
    exact ok_hello hA
  · rename_i hp
    split
    · intro b hb
      rw [List.mem_singleton] at hb
      subst hb
      exact ok_ping hA hp
    · exact ok_msgs hA hp (window_in A.s.ob)
/-- A side sends. -/
def Sd.send (A : Sd) (b : List Nat) : Sd := { A with s := A.s.sent b, sent := if A.s.may b then A.sent ++ [b] else A.sent }
theorem Side.send {A : Sd} (h : Side A) (b : List Nat) (hf : A.sent.length + 1 < 2147483647) : Side (A.send b) := by
  unfold Sd.send Ss.sent
  by_cases hm : A.s.may b = true
  · rw [if_pos hm, if_pos hm]
    have hu := h.upto
    have h1 := h.first
    refine ⟨h.my1, h.my2, h.peer, h.last, by simpa using hf, fun c hc => ?_, h.first, ?_, ?_⟩
    · rcases List.mem_append.1 hc with hc | hc
      · exact h.small c hc
      · rw [List.mem_singleton] at hc
        subst hc
        simp [Ss.may] at hm
        exact hm.2
    · show A.s.ob.n ≤ (A.sent ++ [b]).length + 1
      simp
      omega
    · show A.s.ob.l ++ [b] = (A.sent ++ [b]).drop (A.s.ob.n - 1)
      rw [h.rest, List.drop_append_of_le_length (by omega)]
  · rw [if_neg hm, if_neg hm]
    exact h
theorem Ok.send {A : Sd} {c : List Nat} (h : Ok A c) (b : List Nat) : Ok (A.send b) c := by
  obtain ⟨p, hp, e, hf, ht, hr⟩ := h
  unfold Sd.send Ss.sent
  by_cases hm : A.s.may b = true
  · rw [if_pos hm, if_pos hm]
    refine ⟨p, hp, e, hf, ht, fun e1 => ⟨(hr e1).1, fun e2 e3 => ⟨((hr e1).2 e2 e3).1, ?_⟩⟩⟩
    have := ((hr e1).2 e2 e3).2
    have hlt : p.s.toNat - 1 < A.sent.length := (List.getElem?_eq_some_iff.1 this).1
    show (A.sent ++ [b])[p.s.toNat - 1]? = some p.d
    rw [List.getElem?_append_left hlt]
    exact this
  · rw [if_neg hm, if_neg hm]
    exact ⟨p, hp, e, hf, ht, hr⟩
theorem send_my (A : Sd) (b : List Nat) : (A.send b).s.my = A.s.my ∧ (A.send b).s.peer = A.s.peer ∧ (A.send b).s.last = A.s.last ∧ (A.send b).got = A.got := by
  unfold Sd.send Ss.sent
  by_cases hm : A.s.may b = true
  · simp only [if_pos hm, and_self]
  · simp only [if_neg hm, and_self]
theorem Both.send {A B : Sd} {wa wb : List (List Nat)} (h : Both A B wa wb) (b : List Nat) (hf : A.sent.length + 1 < 2147483647) : Both (A.send b) B (wa ++ A.s.sendL b) wb := by
  obtain ⟨m1, m2, m3, m4⟩ := send_my A b
  have hA := h.a.send b hf
  have h1 : Both (A.send b) B wa wb := by
    refine ⟨hA, h.b, ⟨by rw [m2]; exact h.ab.peer, fun c hc => (h.ab.ok c hc).send b, fun e1 e2 => ?_, fun e1 e2 => ?_⟩, ⟨by rw [m1]; exact h.ba.peer, h.ba.ok, ?_, ?_⟩⟩
    · rw [m1] at e1
      rw [m2] at e2
      obtain ⟨g1, g2⟩ := h.ab.same e1 e2
      unfold Sd.send
      by_cases hm : A.s.may b = true
      · simp only [if_pos hm]
        refine ⟨?_, by simp; omega⟩
        rw [List.take_append_of_le_length g2]
        exact g1
      · simp only [if_neg hm]
        exact ⟨g1, g2⟩
    · rw [m1] at e1
      rw [m2] at e2
      exact h.ab.none e1 e2
    · rw [m1, m2, m3, m4]
      exact h.ba.same
    · rw [m1, m2, m3, m4]
      exact h.ba.none
  refine h1.more ?_
  unfold Ss.sendL
  by_cases hm : (A.s.may b && A.s.ob.pushB) = true
  · rw [if_pos hm]
    have hm1 : A.s.may b = true := by
      rw [Bool.and_eq_true] at hm
      exact hm.1
    have hp : A.s.peer ≠ 0 := by
      simp [Ss.may] at hm1
      exact hm1.1
    have e : A.s.sent b = (A.send b).s := rfl
    rw [e]
    refine ok_msgs hA (by rw [m2]; exact hp) fun n hn => ?_
    rw [List.mem_singleton] at hn
    subst hn
    unfold Sd.send Ss.sent Ob.pushN
    simp only [if_pos hm1]
    have h2 := A.s.ob.push_len b
    have h3 : (A.s.ob.push b).n = A.s.ob.n := rfl
    omega
  · rw [if_neg hm]
    intro c hc
    cases hc
/-- The side of the boot that a packet tells of. -/
def Sd.turn (B : Sd) (b : List Nat) : Sd := if B.s.isNew b then ⟨B.s.turned b, [], []⟩ else B
theorem turn_s (B : Sd) (b : List Nat) : (B.turn b).s = B.s.turned b := by
  unfold Sd.turn Ss.turned
  by_cases h : B.s.isNew b = true
  · rw [if_pos h, if_pos h]
  · rw [if_neg h, if_neg h]
/-- Behind the packet's Ack. -/
def Sd.ack (B : Sd) (b : List Nat) : Sd := { (B.turn b) with s := B.s.acked b }
/-- Behind a packet. -/
def Sd.take (B : Sd) (b : List Nat) : Sd := ⟨B.s.taken b, (B.turn b).sent, if B.s.has b then (B.turn b).got ++ [(parseM b).d] else (B.turn b).got⟩
/-- What is on its way is a packet. -/
theorem Ok.parse {A : Sd} (hA : Side A) {b : List Nat} (h : Ok A b) : parseE b = 0 ∧ 1 ≤ (parseM b).f ∧ (parseM b).f ≤ A.s.my ∧ ((parseM b).f = A.s.my → (parseM b).t ≤ A.s.peer ∧ ((parseM b).t = A.s.peer → (parseM b).k = 3 → 1 ≤ (parseM b).s ∧ A.sent[(parseM b).s.toNat - 1]? = some (parseM b).d)) := by
  obtain ⟨p, hp, rfl, hf, ht, hr⟩ := h
  have := hA.my2
  obtain ⟨e1, e2⟩ := Wire.parse_back hp (by omega) ht
  rw [e1, e2]
  exact ⟨rfl, hp.1, hf, hr⟩
theorem Both.turn {A B : Sd} {wa wb : List (List Nat)} (h : Both A B wa wb) {b : List Nat} (hb : b ∈ wa) : Both A (B.turn b) wa wb := by
  obtain ⟨hE, hf1, hf, hr⟩ := (h.ab.ok b hb).parse h.a
  have hA2 := h.a.my2
  unfold Sd.turn
  by_cases hn : B.s.isNew b = true
  · have hlt : B.s.peer < (parseM b).f := by
      simp [Ss.isNew] at hn
      exact hn.2
    have et : B.s.turned b = { B.s with peer := (parseM b).f, ob := Outbox.made B.s.ob.w, last := 0, age := 0 } := by
      unfold Ss.turned
      rw [if_pos hn]
    rw [if_pos hn, et]
    refine ⟨h.a, ⟨h.b.my1, h.b.my2, by show (parseM b).f < _; omega, by show 0 ≤ _; omega, by simp, by simp, Nat.le_refl _, Nat.le_refl _, rfl⟩, ⟨h.ab.peer, h.ab.ok, fun _ _ => ⟨by simp, by show 0 ≤ _; omega⟩, fun _ _ => ⟨rfl, rfl⟩⟩, ⟨hf, fun c hc => ?_, fun e1 e2 => ?_, fun e1 e2 => ?_⟩⟩
    · obtain ⟨p, hp, e, g1, g2, g3⟩ := h.ba.ok c hc
      refine ⟨p, hp, e, g1, g2, fun e1 => ?_⟩
      have := (g3 e1).1
      refine ⟨?_, fun e2 => ?_⟩
      · show p.t ≤ (parseM b).f
        omega
      · have e3 : p.t = (parseM b).f := e2
        omega
    · have e3 : A.s.peer = B.s.my := e1
      have e4 : (parseM b).f = A.s.my := e2
      obtain ⟨g1, g2⟩ := h.ba.none e3 (by omega)
      rw [g1, g2]
      exact ⟨rfl, Nat.le_refl _⟩
    · have e3 : A.s.peer = B.s.my := e1
      exact h.ba.none e3 (by omega)
  · rw [if_neg hn]
    exact h
/-- Its outbox behind an Ack. -/
theorem Side.acked {B : Sd} (h : Side B) (z : Int) (g : Nat) : Side { B with s := { B.s with ob := B.s.ob.ack z, age := g } } := by
  have h1 := h.first
  have h2 := h.upto
  by_cases on : B.s.ob.On z
  · have hl : B.s.ob.l.length = B.sent.length - (B.s.ob.n - 1) := by rw [h.rest, List.length_drop]
    have hw := B.s.ob.way_le
    refine ⟨h.my1, h.my2, h.peer, h.last, h.few, h.small, ?_, ?_, ?_⟩
    · show 1 ≤ (B.s.ob.ack z).n
      rw [Ob.ack_in on]
      exact Nat.succ_pos _
    · show (B.s.ob.ack z).n ≤ _
      rw [Ob.ack_in on]
      show z.toNat + 1 ≤ _
      obtain ⟨o1, o2⟩ := on
      show z.toNat + 1 ≤ B.sent.length + 1
      omega
    · show (B.s.ob.ack z).l = B.sent.drop ((B.s.ob.ack z).n - 1)
      rw [Ob.ack_in on]
      show B.s.ob.l.drop (z.toNat + 1 - B.s.ob.n) = B.sent.drop (z.toNat + 1 - 1)
      obtain ⟨o1, o2⟩ := on
      rw [h.rest, List.drop_drop]
      congr 1
      omega
  · rw [Ob.ack_out on]
    exact ⟨h.my1, h.my2, h.peer, h.last, h.few, h.small, h.first, h.upto, h.rest⟩
/-- A change of the outbox alone. -/
theorem Both.outbox {A B : Sd} {wa wb : List (List Nat)} (h : Both A B wa wb) (z : Int) (g : Nat) : Both A { B with s := { B.s with ob := B.s.ob.ack z, age := g } } wa wb :=
  ⟨h.a, h.b.acked z g, ⟨h.ab.peer, h.ab.ok, h.ab.same, h.ab.none⟩, ⟨h.ba.peer, h.ba.ok, h.ba.same, h.ba.none⟩⟩
theorem Both.ack {A B : Sd} {wa wb : List (List Nat)} (h : Both A B wa wb) {b : List Nat} (hb : b ∈ wa) : Both A (B.ack b) wa wb := by
  have h1 := h.turn hb
  unfold Sd.ack Ss.acked
  by_cases hm : B.s.mine b = true
  · rw [if_pos hm]
    have h2 := h1.outbox (parseM b).a 0
    rw [turn_s] at h2
    exact h2
  · rw [if_neg hm, ← turn_s]
    exact h1
theorem turned_my (s : Ss) (b : List Nat) : (s.turned b).my = s.my := by
  unfold Ss.turned
  split <;> rfl
theorem acked_is (s : Ss) (b : List Nat) : (s.acked b).my = s.my ∧ (s.acked b).peer = (s.turned b).peer ∧ (s.acked b).last = (s.turned b).last := by
  have := turned_my s b
  unfold Ss.acked
  split
  · exact ⟨this, rfl, rfl⟩
  · exact ⟨this, rfl, rfl⟩
theorem taken_is (s : Ss) (b : List Nat) : (s.taken b).my = s.my ∧ (s.taken b).peer = (s.turned b).peer ∧ (s.taken b).ob = (s.acked b).ob := by
  obtain ⟨h1, h2, _⟩ := acked_is s b
  unfold Ss.taken
  split
  · exact ⟨h1, h2, rfl⟩
  · exact ⟨h1, h2, rfl⟩
/-- A packet that is heard is of the peer. -/
theorem turned_peer {s : Ss} {b : List Nat} (h : s.deaf b = false) : (s.turned b).peer = (parseM b).f := by
  unfold Ss.turned Ss.isNew
  rw [h]
  by_cases hlt : s.peer < (parseM b).f
  · simp [hlt]
  · simp [hlt]
    simp [Ss.deaf] at h
    omega
/-- What is brought is the next one. -/
theorem Both.taken {A B : Sd} {wa wb : List (List Nat)} (h : Both A B wa wb) {b : List Nat} (hb : b ∈ wa) : Both A (B.take b) wa wb := by
  have h1 := h.ack hb
  obtain ⟨hE, hf1, hf, hr⟩ := (h.ab.ok b hb).parse h.a
  by_cases hh : B.s.has b = true
  · have hh' := hh
    unfold Ss.has at hh'
    rw [Bool.and_eq_true, Bool.and_eq_true] at hh'
    obtain ⟨hm, hk, ht⟩ := hh'
    have hk3 : (parseM b).k = 3 := of_decide_eq_true hk
    obtain ⟨hlt, hs⟩ := Inbox.takeB_is ht
    obtain ⟨a1, a2, a3⟩ := acked_is B.s b
    unfold Ss.mine at hm
    rw [Bool.and_eq_true] at hm
    obtain ⟨hd, hmy⟩ := hm
    have hd' : B.s.deaf b = false := by simpa using hd
    have hto : (parseM b).t = B.s.my := of_decide_eq_true hmy
    have hpe := turned_peer hd'
    have e : B.take b = ⟨{ (B.s.acked b) with last := (B.s.turned b).last + 1 }, (B.turn b).sent, (B.turn b).got ++ [(parseM b).d]⟩ := by
      unfold Sd.take Ss.taken
      rw [if_pos hh, if_pos hh]
    rw [e]
    refine ⟨h1.a, ⟨h1.b.my1, h1.b.my2, h1.b.peer, by show _ + 1 ≤ _; omega, h1.b.few, h1.b.small, h1.b.first, h1.b.upto, h1.b.rest⟩, ⟨h1.ab.peer, h1.ab.ok, fun e1 e2 => ?_, fun e1 e2 => ?_⟩, ⟨h1.ba.peer, h1.ba.ok, h1.ba.same, h1.ba.none⟩⟩
    · have e3 : (B.s.acked b).peer = A.s.my := e1
      have e4 : A.s.peer = (B.s.acked b).my := e2
      obtain ⟨g1, g2⟩ := h1.ab.same e1 e2
      have g1' : (B.turn b).got = A.sent.take (B.s.acked b).last := g1
      have g2' : (B.s.acked b).last ≤ A.sent.length := g2
      obtain ⟨_, hget⟩ := (hr (by omega)).2 (by omega) hk3
      rw [a3] at g1' g2'
      have hi : (parseM b).s.toNat - 1 = (B.s.turned b).last := by omega
      rw [hi] at hget
      have hlt2 : (B.s.turned b).last < A.sent.length := (List.getElem?_eq_some_iff.1 hget).1
      refine ⟨?_, hlt2⟩
      show (B.turn b).got ++ [(parseM b).d] = A.sent.take ((B.s.turned b).last + 1)
      rw [g1', List.take_add_one, hget]
      rfl
    · exfalso
      have e3 : (B.s.acked b).peer = A.s.my := e1
      have e4 : A.s.peer ≠ (B.s.acked b).my := e2
      have := (hr (by omega)).1
      have := h.ab.peer
      omega
  · have e : B.take b = B.ack b := by
      unfold Sd.take Ss.taken Sd.ack
      rw [if_neg hh, if_neg hh]
    rw [e]
    exact h1
/-- A packet comes. -/
theorem Both.take {A B : Sd} {wa wb : List (List Nat)} (h : Both A B wa wb) {b : List Nat} (hb : b ∈ wa) : Both A (B.take b) wa (wb ++ B.s.takeL b) := by
  have h1 := h.taken hb
  obtain ⟨hE, hf1, hf, hr⟩ := (h.ab.ok b hb).parse h.a
  refine (h1.swap.more ?_).swap
  have es : B.s.taken b = (B.take b).s := rfl
  unfold Ss.takeL
  by_cases hd : B.s.deaf b = true
  · rw [if_pos hd]
    intro c hc
    cases hc
  · rw [if_neg hd]
    have hd' : B.s.deaf b = false := by simpa using hd
    have hp : (B.take b).s.peer ≠ 0 := by
      have := turned_peer hd'
      have := (taken_is B.s b).2.1
      rw [← es]
      omega
    by_cases hm : B.s.mine b = true
    · rw [if_pos hm]
      intro c hc
      rcases List.mem_append.1 hc with hc | hc
      · have h0 := h.ack hb
        obtain ⟨a1, a2, a3⟩ := acked_is B.s b
        obtain ⟨t1, t2, t3⟩ := taken_is B.s b
        have hp0 : (B.ack b).s.peer ≠ 0 := by
          have := turned_peer hd'
          show (B.s.acked b).peer ≠ 0
          omega
        have k : Ok (B.ack b) c := by
          refine ok_msgs h0.b hp0 (fun n hn => ?_) c hc
          have eo : (B.ack b).s.ob = (B.s.turned b).ob.ack (parseM b).a := by
            show (B.s.acked b).ob = _
            unfold Ss.acked
            rw [if_pos hm]
          unfold Ss.free at hn
          rw [if_pos hm] at hn
          rw [eo]
          exact ackL_in _ _ n hn
        obtain ⟨p, p1, p2, p3, p4, p5⟩ := k
        have e1 : (B.take b).s.my = (B.ack b).s.my := t1.trans a1.symm
        have e2 : (B.take b).s.peer = (B.ack b).s.peer := t2.trans a2.symm
        have e3 : (B.take b).sent = (B.ack b).sent := rfl
        exact ⟨p, p1, p2, by rw [e1]; exact p3, p4, by rw [e1, e2, e3]; exact p5⟩
      · split at hc
        · rw [List.mem_singleton] at hc
          subst hc
          exact ok_ping h1.b hp
        · cases hc
    · rw [if_neg hm]
      intro c hc
      rw [List.mem_singleton] at hc
      subst hc
      exact ok_ping h1.b hp
end Go.Proofs.Ytnbkbakbjllmcaa.Session
