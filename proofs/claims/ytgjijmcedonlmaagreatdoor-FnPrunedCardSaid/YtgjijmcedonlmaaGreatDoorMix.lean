/-
  Rows of bytes that '[]byte(s)' made, written into.
-/
import Derived.Test.YtgjijmcedonlmaaGreatDoorWordI
import Derived.BigQuiet
namespace Go.Proofs.YtgjijmcedonlmaaGreatDoor
open Go.RowKit

/-- A row of bytes that '[]byte(s)' made: its first n bytes are f's. -/
def MixAt (W : World) (g n : Nat) (f : Nat → UInt8) : Prop :=
  ∃ A : Array Value, W.heap[g]? = some (.cells A 5 (A.size, A.size + 1)) ∧ n ≤ A.size ∧ ∀ i, i < n → A[i]? = some (.int .u8 ((f i).toNat : Int))
theorem MixAt.lt {W : World} {g n : Nat} {f : Nat → UInt8} (h : MixAt W g n f) : g < W.heap.size := by
  obtain ⟨A, h1, -⟩ := h
  exact (Array.getElem?_eq_some_iff.1 h1).1
theorem MixAt.cell {W : World} {g n : Nat} {f : Nat → UInt8} (h : MixAt W g n f) (i : Nat) (hi : i < n) : W.cell? ⟨g, i, none⟩ = some (.int .u8 ((f i).toNat : Int)) := by
  obtain ⟨A, h1, -, h3⟩ := h
  exact (Joins.cell_of_block h1 i).trans (h3 i hi)
theorem MixAt.unfrozen {W : World} {g n : Nat} {f : Nat → UInt8} (h : MixAt W g n f) (i : Nat) (hi : i < n) : W.frozen? ⟨g, i, none⟩ = false := by
  obtain ⟨A, h1, h2, -⟩ := h
  simp [World.frozen?, h1]
  omega
theorem MixAt.later {W W' : World} {g n : Nat} {f : Nat → UInt8} (h : MixAt W g n f) (b : Below W.heap.size W W') : MixAt W' g n f := by
  have hl := h.lt
  obtain ⟨A, h1, h2, h3⟩ := h
  exact ⟨A, (b.block g hl).trans h1, h2, h3⟩
theorem MixAt.set {W : World} {g n : Nat} {f f' : Nat → UInt8} (h : MixAt W g n f) (i : Nat) (hi : i < n) (b : UInt8) (hf : ∀ k, k < n → f' k = if k = i then b else f k) : MixAt (W.setCell ⟨g, i, none⟩ (.int .u8 (b.toNat : Int))) g n f' := by
  obtain ⟨A, h1, h2, h3⟩ := h
  refine ⟨A.setIfInBounds i (.int .u8 (b.toNat : Int)), ?_, by simpa using h2, fun k hk => ?_⟩
  · have h4 := Joins.block_setCell (i := i) h1 (.int .u8 (b.toNat : Int))
    simpa using h4
  · rw [Array.getElem?_setIfInBounds, hf k hk]
    by_cases e : i = k
    · subst e
      rw [if_pos rfl, if_pos (by omega), if_pos rfl]
    · rw [if_neg e, if_neg (fun e2 => e e2.symm)]
      exact h3 k hk
theorem conv_mix (s : ByteArray) (w : World) (h : s.size ≤ 1048576) : ∃ (c : Nat) (W1 : World), (convert 9 22 (.string s)).run Tryz.prog w = .ok (.slice (some ⟨w.heap.size, 0, none⟩) s.size c) W1 ∧ s.size ≤ c ∧ c ≤ 9223372036854775807 ∧ Below w.heap.size w W1 ∧ w.heap.size + 1 = W1.heap.size ∧ MixAt W1 w.heap.size s.size (fun i => s.data.toList.getD i 0) := by
  have h1 := grownCap_ge w s.size 0 5
  have h2 := grownCap_le_maxLen w s.size 0 5 (by unfold maxLen; omega)
  unfold maxLen at h2
  refine ⟨_, _, Lib.run_convert_string_bytes w _ _ _ s Tryz.underlying9 Tryz.underlying22 Tryz.underlying5, h1, by omega, conv_below _ _ _, (Lib.bytesWorld_size ..).symm, Lib.bytesCells w 5 s, Lib.bytesWorld_at_new w _ s, ?_, fun i hi => ?_⟩
  · unfold Lib.bytesCells
    rw [Array.size_append, Array.size_map]
    exact Nat.le_add_right ..
  · have h4 := Lib.bytesWorld_cell w 5 s i hi
    rw [Joins.cell_of_block (Lib.bytesWorld_at_new w 5 s)] at h4
    exact h4
/-- What such a row reads as a list. -/
def mixL (n : Nat) (f : Nat → UInt8) : List UInt8 := (List.range n).map f
theorem mix_reads {W : World} {g n c : Nat} {f : Nat → UInt8} (h : MixAt W g n f) (hc : n ≤ c) (hc2 : c ≤ 9223372036854775807) : Reads W.heap.size W (.slice (some ⟨g, 0, none⟩) n c) .u8 (numsL (mixL n f)) := by
  have hl : (numsL (mixL n f)).length = n := by rw [numsL_length, mixL, List.length_map, List.length_range]
  refine ⟨by omega, _, _, by rw [hl], ⟨(fun e => by cases e), by omega, by omega⟩, fun j hj => ⟨g, 0, rfl, h.lt, ?_⟩⟩
  rw [hl] at hj
  rw [Nat.zero_add, h.cell j hj]
  unfold numsL mixL
  rw [List.getD_eq_getElem?_getD, List.getElem?_map, List.getElem?_map, List.getElem?_range hj]
  rfl

theorem MixAt.other {W : World} {g n : Nat} {f : Nat → UInt8} (h : MixAt W g n f) {b : Nat} (hb : b ≠ g) (i : Nat) (v : Value) : MixAt (W.setCell ⟨b, i, none⟩ v) g n f := by
  obtain ⟨A, h1, h2, h3⟩ := h
  exact ⟨A, (Below.heap_setCell W ⟨b, i, none⟩ v g (fun e => hb e.symm)).trans h1, h2, h3⟩
theorem MixAt.drew {W : World} {g n : Nat} {f : Nat → UInt8} (h : MixAt W g n f) : MixAt W.drew g n f := h
end Go.Proofs.YtgjijmcedonlmaaGreatDoor
