/-
  A map of pairs of spots: how a pair reads, the map behind a list of spots, its look-ups and its stores, at the operation.
  The program's contracts of chapter 9, first part: isCrossing, the pairs of a board.
  The program's contracts of chapter 9, second part: the pairs of a board.
  The program's contracts of chapter 9, third part: the crossings of a board, CrossingsOf, IsChecked.
-/
import Derived.Test.YtpacopebdoflpaaGreatDoorCrossPure
import Derived.Test.YtpacopebdoflpaaGreatDoorSlotImplI
import Derived.Test.YtpacopebdoflpaaGreatDoorCrossingS
import Derived.Test.YtpacopebdoflpaaGreatDoorKit
import Derived.Maps.OwnSet
namespace Go.Proofs.YtpacopebdoflpaaGreatDoor
open Go.RowKit
open Go.Maps (Keyed)

def encP (p : PairV) : Value := .agg #[.int .i64 (p.1.1 : Int), .int .i64 (p.1.2 : Int), .int .i64 (p.2.1 : Int), .int .i64 (p.2.2 : Int)]
def datP (p : PairV) : DataW Unit := .agg [.lit (.int .i64 (p.1.1 : Int)), .lit (.int .i64 (p.1.2 : Int)), .lit (.int .i64 (p.2.1 : Int)), .lit (.int .i64 (p.2.2 : Int))]
def rdP (v : Value) : Option (DataW Unit × List MemPlace) := match v with
  | .agg cs => match cs.toList with
    | [.int .i64 a, .int .i64 b, .int .i64 c, .int .i64 d] => if 0 ≤ a ∧ 0 ≤ b ∧ 0 ≤ c ∧ 0 ≤ d then some (.agg [.lit (.int .i64 a), .lit (.int .i64 b), .lit (.int .i64 c), .lit (.int .i64 d)], []) else none
    | _ => none
  | _ => none
theorem rdP_mk (p : PairV) : rdP (encP p) = some (datP p, []) := by
  unfold rdP encP datP
  simp
theorem rdP_inv {v : Value} {p : PairV} {ps : List MemPlace} (h : rdP v = some (datP p, ps)) : v = encP p := by
  unfold rdP at h
  split at h
  · rename_i cs
    split at h
    · rename_i a b c d e
      split at h
      · simp only [datP, Option.some.injEq, Prod.mk.injEq, DataW.agg.injEq, List.cons.injEq, DataW.lit.injEq, Lit.int.injEq] at h
        obtain ⟨⟨⟨-, rfl⟩, ⟨-, rfl⟩, ⟨-, rfl⟩, ⟨-, rfl⟩, -⟩, -⟩ := h
        unfold encP
        rw [← e]
      · cases h
    · cases h
  · cases h
def zeroP : PairV := ((0, 0), (0, 0))
theorem law_int : Keyed Tryz.prog 3 := Maps.int_keyed Tryz.underlying3
/-- How many cells the spots have. -/
def sizeQ (L : List (Int × Nat × Nat)) : Nat := ((List.range 64).filter fun (q : Nat) => (pairQ L (q : Int)).isSome).length
theorem stepP_some (o : Option PairV) (x : Nat × Nat) : (stepP o x).isSome = true := by unfold stepP; split <;> rfl
theorem filter_one (p q : Nat → Bool) (k : Nat) (hq : ∀ i, i ≠ k → q i = p i) (hk : q k = true) : ∀ n, ((List.range n).filter q).length = ((List.range n).filter p).length + if k < n ∧ p k = false then 1 else 0
  | 0 => by simp
  | n + 1 => by
    rw [List.range_succ, List.filter_append, List.filter_append, List.length_append, List.length_append, filter_one p q k hq hk n]
    by_cases e : n = k
    · subst e
      rw [List.filter_cons_of_pos hk]
      cases hp : p n
      · rw [List.filter_cons_of_neg (by rw [hp]; decide)]; simp
      · rw [List.filter_cons_of_pos hp]; simp
    · have h1 : ([n].filter q).length = ([n].filter p).length := by rw [List.filter_cons, List.filter_cons, hq n e]; rfl
      rw [h1]
      by_cases h2 : k < n ∧ p k = false
      · rw [if_pos h2, if_pos ⟨by omega, h2.2⟩]; omega
      · rw [if_neg h2, if_neg (fun h => h2 ⟨by omega, h.2⟩)]; omega
theorem sizeQ_next (L : List (Int × Nat × Nat)) (q i k : Nat) (hq : q < 64) : sizeQ (L ++ [((q : Int), i, k)]) = if (pairQ L (q : Int)).isSome = true then sizeQ L else sizeQ L + 1 := by
  unfold sizeQ
  rw [filter_one (fun (q : Nat) => (pairQ L (q : Int)).isSome) (fun (q' : Nat) => (pairQ (L ++ [((q : Int), i, k)]) (q' : Int)).isSome) q (fun j hj => by
    show (pairQ (L ++ [((q : Int), i, k)]) (j : Int)).isSome = _
    rw [pairQ_other L ((q : Int), i, k) (q := (j : Int)) (by simpa using fun e => hj (by omega))]) (by
    show (pairQ (L ++ [((q : Int), i, k)]) (q : Int)).isSome = true
    rw [pairQ_same L ((q : Int), i, k)]; exact stepP_some _ _)]
  cases h : (pairQ L (q : Int)).isSome <;> simp [hq]
/-- BLOCK b OF w IS THE MAP THAT A LIST OF SPOTS MAKES. -/
def PairMap (w : World) (b : Nat) (L : List (Int × Nat × Nat)) : Prop := ∃ D : DataW Unit, w.ownsMap Tryz.prog 3 rdP b L.length D ∧ (∀ q : Int, (Lit.int .i64 q).wf = true → Maps.has D (.int .i64 q) = (pairQ L q).isSome ∧ D.atKey (.int .i64 q) (datP zeroP) = datP ((pairQ L q).getD zeroP)) ∧ Maps.size D = sizeQ L
theorem pm_made (w : World) : PairMap (w.alloc (.map #[] 0)) w.heap.size [] := ⟨.map [], World.ownsMap_made _ _ _ _, fun _ _ => ⟨rfl, rfl⟩, rfl⟩
theorem pm_lt {w : World} {b : Nat} {L : List (Int × Nat × Nat)} (h : PairMap w b L) : b < w.heap.size := by
  obtain ⟨D, h1, -⟩ := h
  exact h1.lt
theorem pm_below {w w' : World} {b : Nat} {L : List (Int × Nat × Nat)} (h : PairMap w b L) (hb : Below w.heap.size w w') : PairMap w' b L := by
  have hlt := pm_lt h
  obtain ⟨D, ⟨es, clock, h1, h2⟩, h3⟩ := h
  exact ⟨D, ⟨es, clock, (hb.block b hlt).trans h1, h2⟩, h3⟩
theorem pm_alloc {w : World} {b : Nat} {L : List (Int × Nat × Nat)} (h : PairMap w b L) (o : Obj) : PairMap (w.alloc o) b L := pm_below h ((Below.refl _ _).alloc (Nat.le_refl _) o)
/-- A row is no map. -/
theorem pm_row {w : World} {b base n s : Nat} {e : TypeId} {v : Value} {xs : List Value} {L : List (Int × Nat × Nat)} (h : PairMap w b L) (ho : w.ownsRow base e s v n xs) : v.ownBlock = none ∨ v.ownBlock ≠ some b := by
  obtain ⟨D, ⟨es, clock, h1, -⟩, -⟩ := h
  rcases ho.2 with ⟨rfl, -⟩ | ⟨g, cap, cur, rfl, -, hg, -⟩
  · exact .inl rfl
  · right
    intro e9
    have e8 : g = b := by simpa [Value.ownBlock] using e9
    subst e8
    rw [h1] at hg
    cases hg
theorem pm_cells {w : World} {b c : Nat} {A : Array Value} {t : TypeId} {mk : Nat × Nat} {L : List (Int × Nat × Nat)} (h : PairMap w b L) (hc : w.heap[c]? = some (.cells A t mk)) : c ≠ b := by
  obtain ⟨D, ⟨es, clock, h1, -⟩, -⟩ := h
  intro e
  subst e
  rw [h1] at hc
  cases hc
theorem has_lit {q q' : Int} (h : q ≠ q') : (Lit.int .i64 q') ≠ .int .i64 q := by
  intro e
  simp at e
  exact h e.symm
end Go.Proofs.YtpacopebdoflpaaGreatDoor
namespace Go.Proofs.YtpacopebdoflpaaGreatDoor
open Go.RowKit

theorem wf_cell {q : Int} (h1 : 0 ≤ q) (h2 : q ≤ 4294967296) : (Lit.int .i64 q).wf = true := WalkArith.wf_i64 (by omega)
theorem cells_range {g : Int × Int × ByteArray} {x : SlotV} (h : x ∈ slG g) {q : Int} (hq : q ∈ cellsS g.2.1 x) : 0 ≤ q ∧ q < 36 := by
  obtain ⟨R, C, hg, e1, e2, h1, h2, h3, h4, h5, h6⟩ := slG_at h
  unfold cellsS at hq
  obtain ⟨k, hk, rfl⟩ := List.mem_map.1 hq
  rw [List.mem_range] at hk
  obtain ⟨m, hm, e3, ha, hd⟩ := slot_cell h3 h6 k hk
  have hRC : R * C ≤ 36 := Nat.mul_le_mul h2 h4
  rcases hx : x.2.1 with _ | _
  · obtain ⟨-, -, -, h8⟩ := ha hx
    rw [e3, show (m : Int) + (k : Int) * (if false = true then g.2.1 else 1) = ((m + k : Nat) : Int) by simp]
    omega
  · obtain ⟨-, -, -, h8⟩ := hd hx
    rw [e3, e2, show (m : Int) + (k : Int) * (if true = true then (C : Int) else 1) = ((m + k * C : Nat) : Int) by simp]
    omega
theorem spotsTo_len (c : Int) (l : List SlotV) (h : ∀ x ∈ l, (cellsS c x).length ≤ 6) : ∀ n, n ≤ l.length → (spotsTo c l n).length ≤ 6 * n
  | 0, _ => by simp [spotsTo]
  | n + 1, hn => by
    rw [spotsTo_next, List.length_append]
    have h1 := spotsTo_len c l h n (by omega)
    have h2 : (spotsIn c n (l.getD n none_Slot) (cellsS c (l.getD n none_Slot)).length).length ≤ 6 := by
      unfold spotsIn
      rw [List.length_map, List.length_range]
      exact h _ (getD_in (by omega))
    omega
theorem spotsIn_len (c : Int) (i : Nat) (x : SlotV) (m : Nat) : (spotsIn c i x m).length = m := by unfold spotsIn; simp
/-- The map is another block than a row, and than a box. -/
theorem pm_keep {w w' : World} {b base n s : Nat} {e : TypeId} {v : Value} {xs : List Value} {L : List (Int × Nat × Nat)} (h : PairMap w b L) (ho : w.ownsRow base e s v n xs) (hg : w.grownBy w' (some b)) : w'.ownsRow base e s v n xs := ho.kept hg (pm_row h ho)
theorem pm_box {w w' : World} {b c : Nat} {A : Array Value} {t : TypeId} {mk : Nat × Nat} {L : List (Int × Nat × Nat)} (h : PairMap w b L) (hc : w.heap[c]? = some (.cells A t mk)) (hg : w.grownBy w' (some b)) : w'.heap[c]? = some (.cells A t mk) :=
  (hg.block c (Array.getElem?_eq_some_iff.1 hc).1 (fun e => pm_cells h hc (by simpa using e))).trans hc
end Go.Proofs.YtpacopebdoflpaaGreatDoor
namespace Go.Proofs.YtpacopebdoflpaaGreatDoor
open Go.RowKit

theorem int_cell {W : World} {base m cap : Nat} {e : TypeId} {a0 : Option Addr} {l : List Int} (h : W.ownsRow base e 1 (.slice a0 m cap) m (l.map (Value.int .i64))) (hn : m = l.length) (j : Nat) (hj : j < l.length) :
    ∃ b, a0 = some ⟨b, 0, none⟩ ∧ W.cell? ⟨b, j, none⟩ = some (.int .i64 (l.getD j 0)) := by
  subst hn
  rcases h.2 with ⟨e9, hl⟩ | ⟨g, cap', cur, e9, -⟩
  · exfalso
    injection e9 with _ e8 _
    omega
  · cases e9
    refine ⟨g, rfl, ?_⟩
    rw [h.cellAt j (by omega)]
    simp [List.getD, hj]
end Go.Proofs.YtpacopebdoflpaaGreatDoor
namespace Go.Proofs.YtpacopebdoflpaaGreatDoor
open Go.RowKit

theorem cells_Crossing_one (x : CrossV) : ∀ u ∈ cells_Crossing x, u.oneCell' = true := by
  intro u hu
  simp only [cells_Crossing, List.mem_cons, List.not_mem_nil, or_false] at hu
  rcases hu with rfl | rfl | rfl | rfl | rfl <;> rfl
theorem row_Crossing_snoc (L : List CrossV) (x : CrossV) : row_Crossing L ++ cells_Crossing x = row_Crossing (L ++ [x]) := by
  rw [row_Crossing_append]
  simp [row_Crossing]
theorem oneCr (w : World) (x : CrossV) (t : TypeId) : ∀ j, j < 1 * 5 → ∃ b off, some (⟨w.heap.size, 0, none⟩ : Addr) = some ⟨b, off, none⟩ ∧ (w.alloc (.cells #[.int .i64 x.1, .int .i64 x.2.1, .int .i64 x.2.2.1, .int .i64 x.2.2.2.1, .int .i64 x.2.2.2.2] t)).cell? ⟨b, off + j, none⟩ = (cells_Crossing x)[j]? := fun j hj => by
  refine ⟨_, _, rfl, ?_⟩
  rw [Nat.zero_add, cell_of_row _ w.heap.size j _ t (0, 0) (heap_alloc_new w _)]
  simp [cells_Crossing]
theorem pm_app {w w' : World} {b base n s : Nat} {e : TypeId} {v : Value} {xs : List Value} {L : List (Int × Nat × Nat)} (h : PairMap w b L) (ho : w.ownsRow base e s v n xs) (hg : w.grownBy w' v.ownBlock) : PairMap w' b L := by
  have h8 := pm_row h ho
  obtain ⟨D, ⟨es, clock, h1, h2⟩, h3⟩ := h
  refine ⟨D, ⟨es, clock, (hg.block b (Array.getElem?_eq_some_iff.1 h1).1 (fun e9 => ?_)).trans h1, h2⟩, h3⟩
  rcases h8 with h9 | h9
  · rw [h9] at e9; cases e9
  · exact h9 e9.symm
theorem brd_size (g : Int × Int × ByteArray) : ∃ N : Nat, (brd g).1 * (brd g).2.1 = (N : Int) ∧ N ≤ 36 ∧ crossTo (slG g) g.2.1 N = crossS g := by
  by_cases hg : isG g = true
  · refine ⟨g.2.2.size, ?_, isG_size hg, rfl⟩
    obtain ⟨r, c, s⟩ := g
    obtain ⟨R, C, rfl, rfl, h1, h2, h3, h4, h5, h6⟩ := isG_nat hg
    unfold brd
    rw [if_pos hg]
    simp only at h5 h6 ⊢
    rw [h5]
    simp
  · have hg2 : isG g = false := by simpa using hg
    refine ⟨0, ?_, by omega, ?_⟩
    · unfold brd
      rw [if_neg hg]
      rfl
    · rw [crossS_no hg2]
      rfl
theorem crossTo_len (l : List SlotV) (c : Int) (n : Nat) : (crossTo l c n).length ≤ n := by
  rw [chkTo_cross]
  exact chkTo_le l c n
end Go.Proofs.YtpacopebdoflpaaGreatDoor
