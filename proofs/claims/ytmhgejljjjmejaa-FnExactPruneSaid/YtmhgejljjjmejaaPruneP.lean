/-
  Pruning, of the model: the world in the middle of it, and its measure.
-/
import Derived.Test.YtmhgejljjjmejaaPruneS
namespace Go.Proofs.Ytmhgejljjjmejaa
open Go.RowKit

def lenOf : Option Value → Nat
  | some (.slice _ n _) => n
  | _ => 0
def boolM : Value → Nat
  | .bool true => 1
  | _ => 0
/-- How many elements the rows of a row of rows have together. -/
def sumAt (W : World) (v : Value) (n : Nat) : Nat := ((List.range n).map fun j => lenOf (W.cell? ⟨v.ownBlock.getD 0, j, none⟩)).sum
theorem sumL_range : ∀ C : List (List ByteArray), ((List.range C.length).map fun j => (C.getD j []).length).sum = sumL C
  | [] => rfl
  | m :: C => by
    rw [List.length_cons, List.range_succ_eq_map, List.map_cons, List.sum_cons, List.map_map]
    have h := sumL_range C
    simp only [sumL, List.map_cons, List.sum_cons] at h ⊢
    rw [← h]
    congr 1
theorem sumAt_is {W : World} {base top : Nat} {v : Value} {us : List Value} {C : List (List ByteArray)} {eo ei : TypeId} (h : OwnN fS 1 eo ei W base top v us C) (n : Nat) (hn : C.length = n) : sumAt W v n = sumL C := by
  subst hn
  rw [← sumL_range]
  unfold sumAt
  congr 1
  apply List.map_congr_left
  intro j hj
  rw [List.mem_range] at hj
  obtain ⟨a0, c0, rfl⟩ := ownV_slice h.row
  obtain ⟨g, rfl, -, hc, -⟩ := h.cell hj
  obtain ⟨a, c, e⟩ := ownV_slice (h.inner j hj)
  show lenOf (W.cell? ⟨g, j, none⟩) = _
  rw [hc, e]
  rfl
theorem PartS.small {l : List SlotV} {X : List CrossV} {D C : List (List ByteArray)} {a b : Nat} (h : PartS l X D C) (hm : ∀ m ∈ D, m.length ≤ a ∧ ∀ z ∈ m, z.size ≤ b) : ∀ m ∈ C, m.length ≤ a ∧ ∀ z ∈ m, z.size ≤ b := by
  intro m hm'
  obtain ⟨j, hj, rfl⟩ := List.mem_iff_getElem.1 hm'
  have h1 := h.mem j
  have h2 : j < D.length := by rw [← h.length]; exact hj
  simp only [List.getD_eq_getElem?_getD, List.getElem?_eq_getElem hj, List.getElem?_eq_getElem h2, Option.getD_some] at h1
  have h3 := hm _ (List.getElem_mem h2)
  exact ⟨Nat.le_trans h1.length_le h3.1, fun z hz => h3.2 z (h1.subset hz)⟩
/-- The world in the middle of pruning: the rows, the slots, the crossings. -/
structure PruW (base T0 top : Nat) (W0 W : World) (vo vl vx : Value) (l : List SlotV) (X : List CrossV) (C : List (List ByteArray)) : Prop where
  nest : ∃ us, OwnN fS 1 33 9 W base top vo us C
  outer : ∀ k, vo.ownBlock = some k → k < T0
  slots : W.ownsRow T0 45 4 vl l.length (row_Slot l)
  cross : W.ownsRow T0 59 5 vx X.length (row_Crossing X)
  below : Below base W0 W
  size : T0 ≤ W.heap.size
  low : base ≤ T0
section
variable {base T0 top : Nat} {W0 W W' : World} {vo vl vx : Value} {l : List SlotV} {X : List CrossV} {C : List (List ByteArray)}
theorem PruW.later (h : PruW base T0 top W0 W vo vl vx l X C) (ht : top ≤ W.heap.size) (hb : Below W.heap.size W W') : PruW base T0 top W0 W' vo vl vx l X C := by
  obtain ⟨us, hn⟩ := h.nest
  exact ⟨⟨us, hn.later ht hb⟩, h.outer, ownV_later h.slots hb, ownV_later h.cross hb, h.below.trans (hb.mono (Nat.le_trans h.low h.size)), Nat.le_trans h.size hb.size, h.low⟩
theorem PruW.full (h : PruW base T0 top W0 W vo vl vx l X C) : PruW base T0 W.heap.size W0 W vo vl vx l X C := by
  obtain ⟨us, hn⟩ := h.nest
  exact ⟨⟨us, hn.full⟩, h.outer, h.slots, h.cross, h.below, h.size, h.low⟩
theorem PruW.now (h : PruW base T0 W.heap.size W0 W vo vl vx l X C) (hb : Below W.heap.size W W') : PruW base T0 W'.heap.size W0 W' vo vl vx l X C := (h.later (Nat.le_refl _) hb).full
theorem PruW.reads (h : PruW base T0 top W0 W vo vl vx l X C) (hl : C.length ≤ 140737488355328) (hm : ∀ m ∈ C, m.length ≤ 140737488355328) : ReadsN W.heap.size W vo C := by
  obtain ⟨us, hn⟩ := h.nest
  exact OwnT.reads ⟨us, hn⟩ hl hm
theorem PruW.readsX (h : PruW base T0 top W0 W vo vl vx l X C) (hl : X.length ≤ 140737488355328) : ReadsCrossing W.heap.size W vx X := reads_Crossing_own h.cross rfl hl
theorem PruW.sum (h : PruW base T0 top W0 W vo vl vx l X C) (n : Nat) (hn : C.length = n) : sumAt W vo n = sumL C := by
  obtain ⟨us, h1⟩ := h.nest
  exact sumAt_is h1 n hn
/-- The row at j, and the words in it. -/
theorem PruW.cell {a0 : Option Addr} {n cap : Nat} (h : PruW base T0 top W0 W (.slice a0 n cap) vl vx l X C) {j : Nat} (hj : j < C.length) :
    ∃ g aj cj, a0 = some ⟨g, 0, none⟩ ∧ W.cell? ⟨g, j, none⟩ = some (.slice aj (C.getD j []).length cj) ∧ W.frozen? ⟨g, j, none⟩ = false ∧
      ∀ k, k < (C.getD j []).length → ∃ b, aj = some ⟨b, 0, none⟩ ∧ W.cell? ⟨b, k, none⟩ = some (.string ((C.getD j []).getD k ⟨#[]⟩)) := by
  obtain ⟨us, hn⟩ := h.nest
  obtain ⟨g, rfl, -, hc, hf, -⟩ := hn.cell hj
  have hi := own_sF (hn.inner j hj)
  obtain ⟨a, c, e⟩ := ownV_slice hi
  refine ⟨g, a, c, rfl, by rw [hc, e], hf, fun k hk => ?_⟩
  rw [e] at hi
  obtain ⟨b, c', e'⟩ := Joins.ownsRow_form hi (by omega)
  injection e' with e1 e2 e3
  subst e1
  refine ⟨b, rfl, ?_⟩
  rw [hi.cellAt k (by omega)]
  clear hi e hc
  obtain ⟨M, hM⟩ : ∃ M, M = C.getD j [] := ⟨_, rfl⟩
  rw [← hM] at hk ⊢
  simp [List.getD, hk]
/-- A row stored at j. -/
theorem PruW.store {g n cap j : Nat} {u : Value} {m : List ByteArray} (h : PruW base T0 top W0 W (.slice (some ⟨g, 0, none⟩) n cap) vl vx l X C) (hj : j < C.length) (hu : W.ownsRow base 9 1 u m.length (m.map Value.string)) (hut : ∀ k, u.ownBlock = some k → top ≤ k) :
    PruW base T0 (W.setCell ⟨g, j, none⟩ u).heap.size W0 (W.setCell ⟨g, j, none⟩ u) (.slice (some ⟨g, 0, none⟩) n cap) vl vx l X (C.set j m) := by
  obtain ⟨us, hn⟩ := h.nest
  have hg : g < T0 := h.outer g rfl
  have hs := hn.store hj (own_fS hu) (.inr hut)
  have hlow := (hn.low g rfl).1
  refine ⟨⟨_, hs.1⟩, h.outer, ownV_block h.slots fun k e => ?_, ownV_block h.cross fun k e => ?_, h.below.setCell (p := ⟨g, j, none⟩) hlow u, Nat.le_trans h.size hs.2.size, h.low⟩
  · have := (h.slots.lt k e).1
    exact heap_setCell_other W ⟨g, j, none⟩ k u (by show k ≠ g; omega)
  · have := (h.cross.lt k e).1
    exact heap_setCell_other W ⟨g, j, none⟩ k u (by show k ≠ g; omega)
end
/-- One word more of a row is looked at. -/
theorem filter_next (p : ByteArray → Bool) (M : List ByteArray) (q : Nat) (h : q < M.length) : (M.take (q + 1)).filter p = (M.take q).filter p ++ if p (M.getD q ⟨#[]⟩) = true then [M.getD q ⟨#[]⟩] else [] := by
  rw [take_nextN M q ⟨#[]⟩ h, List.filter_append]
  by_cases e : p (M.getD q ⟨#[]⟩) = true
  · rw [if_pos e, List.filter_cons_of_pos e, List.filter_nil]
  · rw [if_neg e, List.filter_cons_of_neg e, List.filter_nil]
end Go.Proofs.Ytmhgejljjjmejaa
