/-
  Plain facts on a disk: what is durable, what is cached, what a crash spares. No program is named here.
-/
namespace Go.Proofs.YtfiofdmefgkloaaGreat
namespace Math

/-- A sector's bytes. -/
def Sec (l : List Nat) : Prop := l.length = 16 ∧ ∀ b ∈ l, b < 256
def nought : List Nat := [0, 0, 0, 0, 0, 0, 0, 0, 0, 0, 0, 0, 0, 0, 0, 0]
theorem sec_nought : Sec nought := ⟨rfl, by decide⟩
def first (b : Nat) : List Nat := [b, 0, 0, 0, 0, 0, 0, 0, 0, 0, 0, 0, 0, 0, 0, 0]
theorem sec_first (b : Nat) (h : b < 256) : Sec (first b) := ⟨rfl, fun c hc => by simp [first] at hc; omega⟩

/-- A disk. -/
structure Dk where
  size : Nat
  safe : Int → List Nat
  fresh : Int → Option (List Nat)
  fuse : Int
  broken : Bool
  ops : Nat

structure Valid (s : Dk) : Prop where
  pos : 1 ≤ s.size
  top : s.size ≤ 1024
  fresh : ∀ k x, s.fresh k = some x → 0 ≤ k ∧ k < s.size ∧ Sec x
  safe : ∀ k, Sec (s.safe k)
  out : ∀ k : Int, k < 0 ∨ (s.size : Int) ≤ k → s.safe k = nought
  low : -9223372036854775808 ≤ s.fuse
  high : s.fuse ≤ 9223372036854775807

/-- The sectors below n for which something is cached. -/
def below (f : Int → Option (List Nat)) (n : Nat) : List Nat := (List.range n).filter fun i => (f (i : Int)).isSome
def keys (s : Dk) : List Nat := below s.fresh s.size
def bit (mask i : Nat) : Bool := decide (mask / 2 ^ (i % 64) % 2 = 1)
/-- What is durable behind a crash that spares mask. -/
def settled (s : Dk) (mask : Nat) (k : Int) : List Nat :=
  match s.fresh k with
  | some x => if bit mask (below s.fresh k.toNat).length then x else s.safe k
  | none => s.safe k
def spent (s : Dk) (mask : Nat) : Dk := { s with safe := settled s mask, fresh := fun _ => none }
def upd {α : Type} (f : Int → α) (k : Int) (v : α) : Int → α := fun j => if j = k then v else f j
theorem upd_same {α : Type} (f : Int → α) (k : Int) (v : α) : upd f k v k = v := if_pos rfl
theorem upd_other {α : Type} (f : Int → α) {k j : Int} (v : α) (h : j ≠ k) : upd f k v j = f j := if_neg h

def worn (s : Dk) : Bool := s.broken || decide (s.fuse = 0)
def burnt (s : Dk) : Dk := { s with broken := true }
def done (s : Dk) : Dk := { s with fuse := if 0 < s.fuse then s.fuse - 1 else s.fuse, ops := s.ops + 1 }
def inside (s : Dk) (k : Int) : Bool := decide (0 ≤ k) && decide (k < s.size)
def laid (s : Dk) (k : Int) (x : List Nat) : Dk := { s with fresh := upd s.fresh k (some x) }
def wroteE (s : Dk) (k : Int) : Nat := if inside s k then if worn s then 3 else 0 else 13
def wroteS (s : Dk) (k : Int) (x : List Nat) : Dk := if inside s k then if worn s then burnt s else laid (done s) k x else s
def full : Nat := 18446744073709551615
def flushE (s : Dk) : Nat := if worn s then 3 else 0
def flushS (s : Dk) : Dk := if worn s then burnt s else spent (done s) full
def fused (s : Dk) (k : Int) : Dk := { s with fuse := k }
def crashed (s : Dk) (mask : Nat) : Dk := { spent s mask with broken := false, fuse := -1 }
def readE (s : Dk) (k : Int) : Nat := if inside s k then if s.broken then 3 else 0 else 13
def readL (s : Dk) (k : Int) : List Nat := if inside s k then if s.broken then nought else (s.fresh k).getD (s.safe k) else nought
def made (n : Nat) : Dk := { size := n, safe := fun _ => nought, fresh := fun _ => none, fuse := -1, broken := false, ops := 0 }

theorem valid_made (n : Nat) (h1 : 1 ≤ n) (h2 : n ≤ 1024) : Valid (made n) :=
  ⟨h1, h2, by simp [made], fun _ => sec_nought, fun _ _ => rfl, by simp [made], by simp [made]⟩

theorem below_succ (f : Int → Option (List Nat)) (n : Nat) : below f (n + 1) = if (f (n : Int)).isSome then below f n ++ [n] else below f n := by
  unfold below
  rw [List.range_succ, List.filter_append]
  by_cases h : (f (n : Int)).isSome = true
  · simp [h]
  · simp [h]
theorem mem_below (f : Int → Option (List Nat)) (n i : Nat) : i ∈ below f n ↔ i < n ∧ (f (i : Int)).isSome = true := by simp [below]
theorem below_length (f : Int → Option (List Nat)) : ∀ n, (below f n).length ≤ n
  | 0 => Nat.le_refl _
  | n + 1 => by
    have := below_length f n
    rw [below_succ]
    split
    · simp; omega
    · omega
/-- The j'th of the cached sectors has j below it. -/
theorem below_rank (f : Int → Option (List Nat)) : ∀ (n j k : Nat), (below f n)[j]? = some k → (below f k).length = j
  | 0, j, k, h => by simp [below] at h
  | n + 1, j, k, h => by
    rw [below_succ] at h
    split at h
    · by_cases hj : j < (below f n).length
      · rw [List.getElem?_append_left hj] at h
        exact below_rank f n j k h
      · rw [List.getElem?_append_right (by omega)] at h
        by_cases e : j - (below f n).length = 0
        · rw [e] at h
          simp at h
          subst h
          omega
        · obtain ⟨m, hm⟩ : ∃ m, j - (below f n).length = m + 1 := ⟨j - (below f n).length - 1, by omega⟩
          rw [hm] at h
          simp at h
    · exact below_rank f n j k h
theorem below_none (f : Int → Option (List Nat)) (n : Nat) (h : ∀ k, f k = none) : below f n = [] := by
  unfold below
  rw [List.filter_eq_nil_iff]
  intro a _
  simp [h]
theorem below_sorted (f : Int → Option (List Nat)) (n : Nat) : (below f n).Pairwise (· < ·) := List.Pairwise.filter _ List.pairwise_lt_range
theorem below_nodup (f : Int → Option (List Nat)) (n : Nat) : (below f n).Nodup := (below_sorted f n).imp fun h => Nat.ne_of_lt h

/-- Behind the first j of the cached sectors. -/
def part (s : Dk) (mask j : Nat) : Dk :=
  { s with safe := fun k => if 0 ≤ k ∧ k.toNat ∈ (keys s).take j then settled s mask k else s.safe k,
           fresh := fun k => if 0 ≤ k ∧ k.toNat ∈ (keys s).take j then none else s.fresh k }
theorem part_start (s : Dk) (mask : Nat) : part s mask 0 = s := by simp [part]
theorem mem_keys {s : Dk} (h : Valid s) (k : Int) : (0 ≤ k ∧ k.toNat ∈ keys s) ↔ (s.fresh k).isSome = true := by
  unfold keys
  rw [mem_below]
  constructor
  · rintro ⟨h0, _, h2⟩
    rwa [Int.toNat_of_nonneg h0] at h2
  · intro h2
    obtain ⟨x, hx⟩ := Option.isSome_iff_exists.1 h2
    obtain ⟨a, b, _⟩ := h.fresh k x hx
    refine ⟨a, by omega, ?_⟩
    rwa [Int.toNat_of_nonneg a]
theorem part_end {s : Dk} (h : Valid s) (mask : Nat) : part s mask (keys s).length = spent s mask := by
  unfold part spent
  rw [List.take_length]
  congr 1
  · funext k
    split
    · rfl
    · rename_i hk
      rw [mem_keys h] at hk
      unfold settled
      cases hf : s.fresh k with
      | none => rfl
      | some x => rw [hf] at hk; exact absurd rfl hk
  · funext k
    split
    · rfl
    · rename_i hk
      rw [mem_keys h] at hk
      simpa using hk
/-- One more of them. -/
theorem part_step {s : Dk} (h : Valid s) (mask j k : Nat) (hj : (keys s)[j]? = some k) :
    ∃ x, s.fresh (k : Int) = some x ∧ Sec x ∧ (part s mask j).fresh (k : Int) = some x ∧ k < s.size ∧
      part s mask (j + 1) = { part s mask j with safe := (if bit mask j then upd (part s mask j).safe k x else (part s mask j).safe), fresh := upd (part s mask j).fresh k none } := by
  have hm : k ∈ keys s := List.mem_of_getElem? hj
  have hs : (s.fresh (k : Int)).isSome = true := (mem_keys h k).1 ⟨by omega, by simpa using hm⟩
  obtain ⟨x, hx⟩ := Option.isSome_iff_exists.1 hs
  have hv := h.fresh k x hx
  have hr : (below s.fresh k).length = j := below_rank s.fresh s.size j k hj
  have ht : (keys s).take (j + 1) = (keys s).take j ++ [k] := by
    rw [List.take_add_one, hj]
    rfl
  have hnot : k ∉ (keys s).take j := by
    have hn : ((keys s).take (j + 1)).Nodup := (below_nodup s.fresh s.size).sublist (List.take_sublist _ _)
    rw [ht, List.nodup_append] at hn
    intro hk
    exact hn.2.2 k hk k (by simp) rfl
  refine ⟨x, hx, hv.2.2, ?_, by omega, ?_⟩
  · show (if 0 ≤ (k : Int) ∧ (k : Int).toNat ∈ (keys s).take j then none else s.fresh k) = some x
    rw [if_neg (by simpa using hnot)]
    exact hx
  · unfold part
    congr 1
    · funext i
      rw [ht]
      have hset : settled s mask (k : Int) = if bit mask j then x else s.safe k := by
        unfold settled
        rw [hx]
        simp only [Int.toNat_natCast, hr]
      by_cases hi : i = (k : Int)
      · subst hi
        rw [if_pos ⟨by omega, by simp⟩, hset]
        by_cases hb : bit mask j = true
        · rw [if_pos hb, if_pos hb, upd_same]
        · rw [if_neg hb, if_neg hb]
          show _ = if _ then _ else _
          rw [if_neg (by simpa using hnot)]
      · have hmem : (0 ≤ i ∧ i.toNat ∈ (keys s).take j ++ [k]) ↔ (0 ≤ i ∧ i.toNat ∈ (keys s).take j) := by
          constructor
          · rintro ⟨a, b⟩
            refine ⟨a, ?_⟩
            rcases List.mem_append.1 b with c | c
            · exact c
            · simp at c; omega
          · rintro ⟨a, b⟩
            exact ⟨a, List.mem_append.2 (.inl b)⟩
        simp only [hmem]
        by_cases hb : bit mask j = true
        · rw [if_pos hb, upd_other _ _ hi]
        · rw [if_neg hb]
    · funext i
      rw [ht]
      by_cases hi : i = (k : Int)
      · subst hi
        rw [if_pos ⟨by omega, by simp⟩, upd_same]
      · rw [upd_other _ _ hi]
        have hmem : (0 ≤ i ∧ i.toNat ∈ (keys s).take j ++ [k]) ↔ (0 ≤ i ∧ i.toNat ∈ (keys s).take j) := by
          constructor
          · rintro ⟨a, b⟩
            refine ⟨a, ?_⟩
            rcases List.mem_append.1 b with c | c
            · exact c
            · simp at c; omega
          · rintro ⟨a, b⟩
            exact ⟨a, List.mem_append.2 (.inl b)⟩
        simp only [hmem]

theorem settled_sec {s : Dk} (h : Valid s) (mask : Nat) (k : Int) : Sec (settled s mask k) := by
  unfold settled
  cases hf : s.fresh k with
  | none => exact h.safe k
  | some x =>
    show Sec (if _ then _ else _)
    split
    · exact (h.fresh k x hf).2.2
    · exact h.safe k
theorem settled_out {s : Dk} (h : Valid s) (mask : Nat) (k : Int) (hk : k < 0 ∨ (s.size : Int) ≤ k) : settled s mask k = nought := by
  unfold settled
  cases hf : s.fresh k with
  | none => exact h.out k hk
  | some x =>
    have := h.fresh k x hf
    omega
theorem valid_part {s : Dk} (h : Valid s) (mask j : Nat) : Valid (part s mask j) := by
  refine ⟨h.pos, h.top, fun k x hx => ?_, fun k => ?_, fun k hk => ?_, h.low, h.high⟩
  · simp only [part] at hx
    split at hx
    · cases hx
    · exact h.fresh k x hx
  · show Sec (if _ then _ else _)
    split
    · exact settled_sec h mask k
    · exact h.safe k
  · show (if _ then _ else _) = _
    split
    · exact settled_out h mask k hk
    · exact h.out k hk
theorem valid_spent {s : Dk} (h : Valid s) (mask : Nat) : Valid (spent s mask) := by
  rw [← part_end h mask]
  exact valid_part h mask _
theorem valid_burnt {s : Dk} (h : Valid s) : Valid (burnt s) := ⟨h.pos, h.top, h.fresh, h.safe, h.out, h.low, h.high⟩
theorem valid_done {s : Dk} (h : Valid s) : Valid (done s) := by
  have h1 := h.low
  have h2 := h.high
  refine ⟨h.pos, h.top, h.fresh, h.safe, h.out, ?_, ?_⟩
  · simp only [done]; split <;> omega
  · simp only [done]; split <;> omega
theorem valid_laid {s : Dk} (h : Valid s) {k : Int} {x : List Nat} (h0 : 0 ≤ k) (h1 : k < s.size) (hx : Sec x) : Valid (laid s k x) := by
  refine ⟨h.pos, h.top, fun j y hy => ?_, h.safe, h.out, h.low, h.high⟩
  by_cases hj : j = k
  · subst hj
    rw [laid] at hy
    simp only [upd_same] at hy
    cases hy
    exact ⟨h0, h1, hx⟩
  · simp only [laid, upd_other _ _ hj] at hy
    exact h.fresh j y hy
theorem valid_wrote {s : Dk} (h : Valid s) (k : Int) {x : List Nat} (hx : Sec x) : Valid (wroteS s k x) := by
  unfold wroteS
  split
  · rename_i hk
    simp [inside] at hk
    split
    · exact valid_burnt h
    · exact valid_laid (valid_done h) hk.1 hk.2 hx
  · exact h
theorem valid_flush {s : Dk} (h : Valid s) : Valid (flushS s) := by
  unfold flushS
  split
  · exact valid_burnt h
  · exact valid_spent (valid_done h) _
theorem valid_fused {s : Dk} (h : Valid s) {k : Int} (h0 : -9223372036854775808 ≤ k) (h1 : k ≤ 9223372036854775807) : Valid (fused s k) := ⟨h.pos, h.top, h.fresh, h.safe, h.out, h0, h1⟩
theorem valid_crashed {s : Dk} (h : Valid s) (mask : Nat) : Valid (crashed s mask) := by
  have := valid_spent h mask
  exact ⟨this.pos, this.top, this.fresh, this.safe, this.out, by simp [crashed], by simp [crashed]⟩
theorem sec_read {s : Dk} (h : Valid s) (k : Int) : Sec (readL s k) := by
  unfold readL
  split
  · split
    · exact sec_nought
    · cases hf : s.fresh k with
      | none => exact h.safe k
      | some x => exact (h.fresh k x hf).2.2
  · exact sec_nought

/-- Numbers that are all different and all below n are at most n. -/
theorem pigeon : ∀ (n : Nat) (l : List Nat), l.Nodup → (∀ x ∈ l, x < n) → l.length ≤ n
  | 0, l, _, h => by
    cases l with
    | nil => simp
    | cons a l => exact absurd (h a (by simp)) (by omega)
  | n + 1, l, hd, h => by
    have h1 := pigeon n (l.filter (· ≠ n)) (hd.filter _) (fun x hx => by
      have := h x (List.mem_filter.1 hx).1
      have h2 : x ≠ n := by simpa using (List.mem_filter.1 hx).2
      omega)
    have h2 : l.length ≤ (l.filter (· ≠ n)).length + 1 := by
      clear h1 h
      induction l with
      | nil => simp
      | cons a l ih =>
        obtain ⟨ha, hl⟩ := List.nodup_cons.1 hd
        by_cases e : a = n
        · subst e
          have : l.filter (· ≠ a) = l := List.filter_eq_self.2 (fun x hx => by
            have : x ≠ a := fun e => ha (e ▸ hx)
            simpa using this)
          rw [List.filter_cons_of_neg (by simp), this]
          exact Nat.le_refl _
        · have := ih hl
          simp [e] at this ⊢
          omega
    omega

theorem full_bit (i : Nat) : bit full i = true := by
  have h : ∀ j, j < 64 → full / 2 ^ j % 2 = 1 := by decide
  unfold bit
  exact decide_eq_true (h (i % 64) (Nat.mod_lt _ (by omega)))

end Math
end Go.Proofs.YtfiofdmefgkloaaGreat

