/-
  The model's contracts of chapter 8, fourth part: CellsOf.
-/
import Derived.Test.YtdhjgaadfofkkaaDoorSlotSpecC
import Derived.Test.YtdhjgaadfofkkaaDoorAppB
namespace Go.Proofs.YtdhjgaadfofkkaaDoor
open Go.RowKit

theorem box_two (w : World) (r c : Int) (s : ByteArray) (x0 : Int) (x1 : Bool) (x2 x3 : Int) (t u : TypeId) : ∀ w', Below ((w.alloc (.cells #[.int .i64 r, .int .i64 c, .string s] t)).alloc (.cells #[.int .i64 x0, .bool x1, .int .i64 x2, .int .i64 x3] u)).heap.size ((w.alloc (.cells #[.int .i64 r, .int .i64 c, .string s] t)).alloc (.cells #[.int .i64 x0, .bool x1, .int .i64 x2, .int .i64 x3] u)) w' →
    w'.cell? ⟨w.heap.size, 0, none⟩ = some (.int .i64 r) ∧ w'.cell? ⟨w.heap.size, 1, none⟩ = some (.int .i64 c) ∧ w'.cell? ⟨w.heap.size, 2, none⟩ = some (.string s) ∧
    w'.cell? ⟨w.heap.size + 1, 0, none⟩ = some (.int .i64 x0) ∧ w'.cell? ⟨w.heap.size + 1, 1, none⟩ = some (.bool x1) ∧ w'.cell? ⟨w.heap.size + 1, 2, none⟩ = some (.int .i64 x2) ∧ w'.cell? ⟨w.heap.size + 1, 3, none⟩ = some (.int .i64 x3) ∧ Below w.heap.size w w' := fun w' h => by
  obtain ⟨h1, h2, h3⟩ := box33 h
  exact ⟨Joins.cell_of_block h1 0, Joins.cell_of_block h1 1, Joins.cell_of_block h1 2, Joins.cell_of_block h2 0, Joins.cell_of_block h2 1, Joins.cell_of_block h2 2, Joins.cell_of_block h2 3, h3⟩
theorem eql_slot (a b : SlotV) (w : World) : Sem.run Tryd.prog (binOp .eql 33 (.agg #[.int .i64 a.1, .bool a.2.1, .int .i64 a.2.2.1, .int .i64 a.2.2.2]) (.agg #[.int .i64 b.1, .bool b.2.1, .int .i64 b.2.2.1, .int .i64 b.2.2.2])) w = .ok (.bool (decide (a = b))) w := by
  have u3 := Tryd.underlying3
  have u4 := Tryd.underlying4
  have a3 := Tryd.isAgg3
  have a4 := Tryd.isAgg4
  have z3 := Tryd.sizeOf3
  have z4 := Tryd.sizeOf4
  have hS : Tryd.prog.underlying 33 = some (.struct (Tryd.prog.fieldsOf 33)) := by kernel_rfl
  have hp : Tryd.prog.stoodInHeld 33 = false := by kernel_rfl
  obtain ⟨a0, a1, a2, a3⟩ := a
  obtain ⟨b0, b1, b2, b3⟩ := b
  rw [run_eql_struct, show (10000 : Nat) = 9999 + 1 from rfl, run_equalIn_agg w 9999 33 _ _ hS hp]
  simp only [Program.fieldsOf, Tryd.underlying33]
  go_simp
  by_cases h1 : a0 = b0 <;> by_cases h2 : a1 = b1 <;> by_cases h3 : a2 = b2 <;> by_cases h4 : a3 = b3 <;> simp [h1, h2, h3, h4]
theorem slot_differ {a b : SlotV} (h : a ≠ b) : (a.1 == b.1) = false ∨ (b.1 = a.1 ∧ (a.2.1 == b.2.1) = false) ∨ (b.1 = a.1 ∧ b.2.1 = a.2.1 ∧ (a.2.2.1 == b.2.2.1) = false) ∨ (b.1 = a.1 ∧ b.2.1 = a.2.1 ∧ b.2.2.1 = a.2.2.1 ∧ (a.2.2.2 == b.2.2.2) = false) := by
  by_cases h1 : a.1 = b.1
  · right
    by_cases h2 : a.2.1 = b.2.1
    · right
      by_cases h3 : a.2.2.1 = b.2.2.1
      · right
        refine ⟨h1.symm, h2.symm, h3.symm, ?_⟩
        by_cases h4 : a.2.2.2 = b.2.2.2
        · exact absurd (Prod.ext h1 (Prod.ext h2 (Prod.ext h3 h4))) h
        · simpa using h4
      · exact .inl ⟨h1.symm, h2.symm, by simpa using h3⟩
    · exact .inl ⟨h1.symm, by simpa using h2⟩
  · exact .inl (by simpa using h1)
theorem cells_next (x : SlotV) (c : Int) (k : Nat) : ((List.range (k + 1)).map fun (k : Nat) => x.2.2.1 + (k : Int) * (if x.2.1 = true then c else 1)) = ((List.range k).map fun (k : Nat) => x.2.2.1 + (k : Int) * (if x.2.1 = true then c else 1)) ++ [x.2.2.1 + (k : Int) * (if x.2.1 = true then c else 1)] := by
  rw [List.range_succ, List.map_append]
  rfl
theorem info_int : (Tryd.prog.info? 3).map (fun i => (i.zero, i.size, i.bytes)) = some (some (.int .i64 0), 1, 8) := by kernel_rfl
theorem own_types {W : World} {base base' n m s s' : Nat} {e e' : TypeId} {v u : Value} {xs ys : List Value} (h : W.ownsRow base e s v n xs) (h' : W.ownsRow base' e' s' u m ys) (he : e ≠ e') : u.ownBlock = none ∨ u.ownBlock ≠ v.ownBlock := by
  rcases h'.2 with ⟨rfl, -⟩ | ⟨g', cap', cur', rfl, -, hg', -⟩
  · exact .inl rfl
  · right
    rcases h.2 with ⟨rfl, -⟩ | ⟨g, cap, cur, rfl, -, hg, -⟩
    · intro e; cases e
    · intro e9
      have e8 : g' = g := by simpa [Value.ownBlock] using e9
      subst e8
      rw [hg] at hg'
      cases hg'
      exact he rfl
theorem slot_cells {W : World} {base m cap : Nat} {e : TypeId} {a0 : Option Addr} {l : List SlotV} (h : W.ownsRow base e 4 (.slice a0 m cap) m (row_Slot l)) (hn : m = l.length) :
    ∀ j, j < l.length → ∃ b, a0 = some ⟨b, 0, none⟩ ∧ W.cell? ⟨b, j * 4, none⟩ = some (.int .i64 (l.getD j none_Slot).1) ∧ W.cell? ⟨b, j * 4 + 1, none⟩ = some (.bool (l.getD j none_Slot).2.1) ∧ W.cell? ⟨b, j * 4 + 2, none⟩ = some (.int .i64 (l.getD j none_Slot).2.2.1) ∧ W.cell? ⟨b, j * 4 + 3, none⟩ = some (.int .i64 (l.getD j none_Slot).2.2.2) := by
  subst hn
  intro j hj
  have h2 := h.2
  rcases h2 with ⟨e1, e2⟩ | ⟨g, cap', cur, e1, -⟩
  · omega
  · cases e1
    have hat : ∀ r, r < 4 → W.cell? ⟨g, j * 4 + r, none⟩ = (cells_Slot (l.getD j none_Slot))[r]? := fun r hr => by
      rw [h.cellAt (j * 4 + r) (by omega), row_Slot_at l j hj r hr]
      simp [List.getD, hj]
    exact ⟨g, rfl, hat 0 (by decide), hat 1 (by decide), hat 2 (by decide), hat 3 (by decide)⟩
theorem oneI (W : World) (v : Value) (t : TypeId) : ∀ j, j < 1 * 1 → ∃ b off, (some ⟨W.heap.size, 0, none⟩ : Option Addr) = some ⟨b, off, none⟩ ∧ (W.alloc (.cells #[v] t)).cell? ⟨b, off + j, none⟩ = [v][j]? := fun j hj => by
  obtain rfl : j = 0 := by omega
  exact ⟨W.heap.size, 0, rfl, by rw [World.cell?_alloc_mark]; rfl⟩
theorem take_getD {l : List SlotV} {k : Nat} (h : k < l.length) : l.take (k + 1) = l.take k ++ [l.getD k none_Slot] := by
  rw [List.take_succ_eq_append_getElem h, List.getD_eq_getElem?_getD, List.getElem?_eq_getElem h]
  rfl
theorem getD_in {l : List SlotV} {k : Nat} (h : k < l.length) : l.getD k none_Slot ∈ l := by
  rw [List.getD_eq_getElem?_getD, List.getElem?_eq_getElem h]
  exact List.getElem_mem h
theorem nodup_take {l : List SlotV} (hl : l.Nodup) {k : Nat} (h : k < l.length) : l.getD k none_Slot ∉ l.take k := by
  rw [← List.take_append_drop (k + 1) l, take_getD h] at hl
  have h2 := (List.nodup_append.1 hl).1
  intro h3
  exact (List.nodup_append.1 h2).2.2 _ h3 _ (List.mem_singleton_self _) rfl
end Go.Proofs.YtdhjgaadfofkkaaDoor
