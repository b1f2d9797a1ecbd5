/-
  The walks of the document's Put of layer 2 (taken over from the rounds before).
-/
import Derived.Test.YtekjlmnnaaodjaaSealC
import Derived.Laws.BytesArg
import Derived.ProofKit
import Derived.OpenShut
namespace Go.Proofs.Ytekjlmnnaaodjaa.Seal
open Go.RowKit
open Math
open Crc

set_option maxRecDepth 100000 in
/-- A call's own bytes, as a text. -/
theorem conv_owns {W : World} {base : Nat} {v : Value} {l : List Nat} (h : W.ownsRow base 5 1 v l.length (l.map enc)) :
    (convert 68 9 v).run Try.prog W = .ok (.string (strOfNums (l.map Int.ofNat))) W := by
  obtain ⟨_, ⟨rfl, h0⟩ | ⟨g, cap, cur, rfl, hb, hg, h1, h2, h3, h4⟩⟩ := h
  · have : l = [] := by simpa using h0
    subst this
    exact run_convert_bytes_nil W 68 5 Try.underlying68 Try.underlying5 0 0 9 Try.underlying9
  · refine run_convert_bytes_arg W 68 5 Try.underlying68 Try.underlying5 g 0 _ cap _ (by simp) (fun j hj => ?_) 9 Try.underlying9
    have e : cur.toList[j]? = some (enc l[j]) := by
      have := congrArg (fun t => t[j]?) h4
      simp [hj] at this
      simpa using this
    simp [World.cell?, hg]
    rw [Array.getElem?_toList] at e
    rw [e]
    simp [enc, hj]

/-- A slice of numbers that came in: nil, or a row of cap cells that hold zs, of which the first len are its elements. -/
def IsRow (k : IntKind) (w : World) (a : Option Addr) (len cap : Nat) (zs : List Int) : Prop :=
  (a = none ∧ len = 0 ∧ cap = 0 ∧ zs = []) ∨
  ∃ x, a = some x ∧ len ≤ cap ∧ cap ≤ maxLen ∧ zs.length = cap ∧ (∀ i, i < zs.length → w.cell? (x.add i) = some (.int k (zs.getD i 0))) ∧ ∀ n ∈ zs, (Lit.int k n).wf = true

theorem byte_of {n : Int} (h : (Lit.int .u8 n).wf = true) : 0 ≤ n ∧ n < 256 := by
  have := bounds_u8 h
  omega

/-- A slice of bytes that came in, up to its length. -/
theorem bytesAt_row {w : World} {a : Option Addr} {len cap : Nat} {zs : List Int} (h : IsRow .u8 w a len cap zs) : len ≤ 9223372036854775807 ∧ ∃ bs, bs.length = len ∧ BytesAt w.heap.size w (.slice a len cap) bs := by
  rcases h with ⟨rfl, rfl, rfl, rfl⟩ | ⟨x, rfl, hl, hm, hz, hc, hw⟩
  · exact ⟨by omega, [], rfl, by simp, none, 0, rfl, fun _ => rfl, .inl rfl⟩
  · unfold maxLen at hm
    refine ⟨by omega, (zs.take len).map Int.toNat, by simp; omega, ?_, some x, cap, by simp; omega, fun h => by simp at h, ?_⟩
    · intro b hb
      obtain ⟨n, hn, rfl⟩ := List.mem_map.1 hb
      have := byte_of (hw n (List.mem_of_mem_take hn))
      omega
    · by_cases hlen : len = 0
      · left; subst hlen; simp
      · right
        obtain ⟨b, off, rfl, hc'⟩ := ints_at hc (by omega)
        refine ⟨b, off, rfl, by simp; omega, World.block_lt_of_cell? w _ (hc' 0 (by omega)), fun j hj => ?_⟩
        have hj' : j < len := by simp at hj; omega
        have hjz : j < zs.length := by omega
        have hb := byte_of (hw (zs[j]) (List.getElem_mem hjz))
        rw [hc' j (by omega)]
        simp [hj', hjz]
        omega

set_option maxRecDepth 100000 in
/-- Bytes, as a text. -/
theorem conv_bytes {n₀ : Nat} {W : World} {v : Value} {l : List Nat} (h : BytesAt n₀ W v l) :
    (convert 68 9 v).run Try.prog W = .ok (.string (strOfNums (l.map Int.ofNat))) W := by
  obtain ⟨hb, a, cap, rfl, hn, h⟩ := h
  cases a with
  | none =>
    rcases h with rfl | ⟨b, off, e, _⟩
    · exact run_convert_bytes_nil W 68 5 Try.underlying68 Try.underlying5 _ cap 9 Try.underlying9
    · simp at e
  | some a =>
    rcases h with rfl | ⟨b, off, e, _, _, hc⟩
    · refine (run_convert_bytes_string W 68 9 5 _ _ cap Try.underlying68 Try.underlying5 Try.underlying9).trans ?_
      exact run_bytesToString (P := Try.prog) W a 0 cap [] (run_loadCells_list (P := Try.prog) W a [] (fun j v hj => by simp at hj))
    · obtain rfl : a = ⟨b, off, none⟩ := by simpa using e
      refine run_convert_bytes_arg W 68 5 Try.underlying68 Try.underlying5 b off _ cap _ (by simp) (fun j hj => ?_) 9 Try.underlying9
      rw [hc j hj]
      simp [hj]

/-- The value v tells the text S, also where memory has been made since. -/
def Conv (W : World) (v : Value) (S : ByteArray) : Prop := ∀ W', Below W.heap.size W W' → (convert 68 9 v).run Try.prog W' = .ok (.string S) W'

theorem conv_at {W : World} {v : Value} {l : List Nat} (h : BytesAt W.heap.size W v l) : Conv W v (strOfNums (l.map Int.ofNat)) :=
  fun _ hB => conv_bytes (h.below hB)

/-- Bytes that came in, as a row of values. -/
theorem BytesAt.values {n₀ : Nat} {W : World} {a : Addr} {n cap : Nat} {bs : List Nat} (h : BytesAt n₀ W (.slice (some a) n cap) bs) : ∀ j u, (bs.map enc)[j]? = some u → W.cell? (a.add j) = some u := by
  obtain ⟨_, a', cap', e, _, h⟩ := h
  injection e with e1 e2 e3
  subst e1
  rcases h with rfl | ⟨b, off, e, _, _, hc⟩
  · intro j u hj; simp at hj
  · obtain rfl : a = ⟨b, off, none⟩ := by simpa using e
    exact cells_of hc


end Go.Proofs.Ytekjlmnnaaodjaa.Seal
