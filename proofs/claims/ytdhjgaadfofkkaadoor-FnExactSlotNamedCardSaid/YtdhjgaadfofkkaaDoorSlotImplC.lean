/-
  The program's contracts of chapter 8, third part: the finder of slots.
-/
import Derived.Test.YtdhjgaadfofkkaaDoorSlotImplB
import Derived.Test.YtdhjgaadfofkkaaDoorValsStep
import Derived.Deep.RegionLaw
namespace Go.Proofs.YtdhjgaadfofkkaaDoor
open Go.RowKit

/-- The finder in block B. -/
def FindB (W : World) (B : Nat) (st : Int) (dn : Bool) (cl ln : Int) (v : Value) : Prop := W.heap[B]? = some (.cells #[.int .i64 st, .int .i64 0, .bool dn, .int .i64 cl, .int .i64 ln, v] 75)
theorem findB_cells {W : World} {B : Nat} {st : Int} {dn : Bool} {cl ln : Int} {v : Value} (h : FindB W B st dn cl ln v) :
    W.cell? ⟨B, 0, none⟩ = some (.int .i64 st) ∧ W.cell? ⟨B, 1, none⟩ = some (.int .i64 0) ∧ W.cell? ⟨B, 2, none⟩ = some (.bool dn) ∧ W.cell? ⟨B, 3, none⟩ = some (.int .i64 cl) ∧ W.cell? ⟨B, 4, none⟩ = some (.int .i64 ln) ∧ W.cell? ⟨B, 5, none⟩ = some v ∧
    W.frozen? ⟨B, 0, none⟩ = false ∧ W.frozen? ⟨B, 3, none⟩ = false ∧ W.frozen? ⟨B, 4, none⟩ = false ∧ W.frozen? ⟨B, 5, none⟩ = false ∧ W.frozen? ⟨B, 2, none⟩ = false :=
  ⟨Joins.cell_of_block h 0, Joins.cell_of_block h 1, Joins.cell_of_block h 2, Joins.cell_of_block h 3, Joins.cell_of_block h 4, Joins.cell_of_block h 5, Joins.unfrozen_of_block h 0, Joins.unfrozen_of_block h 3, Joins.unfrozen_of_block h 4, Joins.unfrozen_of_block h 5, Joins.unfrozen_of_block h 2⟩
theorem findB_set0 {W : World} {B : Nat} {st st' : Int} {dn : Bool} {cl ln : Int} {v : Value} (h : FindB W B st dn cl ln v) : FindB (W.setCell ⟨B, 0, none⟩ (.int .i64 st')) B st' dn cl ln v := Joins.block_setCell (i := 0) h (.int .i64 st')
theorem findB_set2 {W : World} {B : Nat} {st : Int} {dn dn' : Bool} {cl ln : Int} {v : Value} (h : FindB W B st dn cl ln v) : FindB (W.setCell ⟨B, 2, none⟩ (.bool dn')) B st dn' cl ln v := Joins.block_setCell (i := 2) h (.bool dn')
theorem findB_set3 {W : World} {B : Nat} {st : Int} {dn : Bool} {cl cl' ln : Int} {v : Value} (h : FindB W B st dn cl ln v) : FindB (W.setCell ⟨B, 3, none⟩ (.int .i64 cl')) B st dn cl' ln v := Joins.block_setCell (i := 3) h (.int .i64 cl')
theorem findB_set4 {W : World} {B : Nat} {st : Int} {dn : Bool} {cl ln ln' : Int} {v : Value} (h : FindB W B st dn cl ln v) : FindB (W.setCell ⟨B, 4, none⟩ (.int .i64 ln')) B st dn cl ln' v := Joins.block_setCell (i := 4) h (.int .i64 ln')
theorem findB_set5 {W : World} {B : Nat} {st : Int} {dn : Bool} {cl ln : Int} {v v' : Value} (h : FindB W B st dn cl ln v) : FindB (W.setCell ⟨B, 5, none⟩ v') B st dn cl ln v' := Joins.block_setCell (i := 5) h v'
set_option maxHeartbeats 800000 in
theorem iext0_any (B : Nat) (dn : Bool) (cl ln cell : Int) (v : Value) (w : World) (h : FindB w B 0 dn cl ln v) :
    Calls Tryd.prog 62 #[.pointer (some ⟨B, 0, none⟩), .int .i64 cell] w fun e w' => (∃ r, e = .returned r) ∧ FindB w' B 1 dn cell 1 v ∧ w.grownBy w' (some B) := by
  obtain ⟨c0, c1, c2, c3, c4, c5, f0, f3, f4, f5, f2⟩ := findB_cells h
  have HF := Lib.hid (findB_set4 (ln' := 1) (findB_set3 (cl' := cell) (findB_set0 (st' := 1) h)))
  clear h
  go_enter Tryd.func62, Tryd.ntmps62
  go_wp2
  go_end0
  exact ⟨⟨_, rfl⟩, HF.out, grown_cell0 (grown_cell0 (grown_cell0 (grown_refl w _) _ _) _ _) _ _⟩
set_option maxHeartbeats 800000 in
theorem iext1_any (B : Nat) (st : Int) (dn : Bool) (cl ln cell : Int) (v : Value) (hst : (st == 0) = false) (h0 : 0 ≤ ln) (h1 : ln ≤ 100) (w : World) (h : FindB w B st dn cl ln v) :
    Calls Tryd.prog 62 #[.pointer (some ⟨B, 0, none⟩), .int .i64 cell] w fun e w' => (∃ r, e = .returned r) ∧ FindB w' B 2 dn cl (ln + 1) v ∧ w.grownBy w' (some B) := by
  obtain ⟨c0, c1, c2, c3, c4, c5, f0, f3, f4, f5, f2⟩ := findB_cells h
  have HF := Lib.hid (findB_set4 (ln' := ln + 1) (findB_set0 (st' := 2) h))
  clear h
  go_enter Tryd.func62, Tryd.ntmps62
  go_wp2
  go_end0
  exact ⟨⟨_, rfl⟩, HF.out, grown_cell0 (grown_cell0 (grown_refl w _) _ _) _ _⟩
set_option maxHeartbeats 800000 in
theorem iend0_any (B : Nat) (st : Int) (dn : Bool) (cl ln : Int) (v : Value) (hst : (st == 2) = false) (w : World) (h : FindB w B st dn cl ln v) :
    Calls Tryd.prog 63 #[.pointer (some ⟨B, 0, none⟩)] w fun e w' => (∃ r, e = .returned r) ∧ FindB w' B 0 dn cl ln v ∧ w.grownBy w' (some B) := by
  obtain ⟨c0, c1, c2, c3, c4, c5, f0, f3, f4, f5, f2⟩ := findB_cells h
  have HF := Lib.hid (findB_set0 (st' := 0) h)
  clear h
  go_enter Tryd.func63, Tryd.ntmps63
  go_wp2
  go_end0
  exact ⟨⟨_, rfl⟩, HF.out, grown_cell0 (grown_refl w _) _ _⟩
theorem own_not_find {W : World} {base B n : Nat} {v u : Value} {xs : List Value} {st : Int} {dn : Bool} {cl ln : Int} (h : W.ownsRow base 33 4 v n xs) (hf : FindB W B st dn cl ln u) : v.ownBlock = none ∨ v.ownBlock ≠ some B := by
  rcases h.2 with ⟨rfl, -⟩ | ⟨g, cap, cur, rfl, -, hg, -⟩
  · exact .inl rfl
  · right
    intro e
    have e8 : g = B := by simpa [Value.ownBlock] using e
    subst e8
    unfold FindB at hf
    rw [hg] at hf
    cases hf
theorem own_not_find' {W : World} {base B n : Nat} {v u : Value} {xs : List Value} {st : Int} {dn : Bool} {cl ln : Int} (h : W.ownsRow base 33 4 v n xs) (hf : FindB W B st dn cl ln u) : v.ownBlock ≠ some B := by
  rcases own_not_find h hf with e | e
  · rw [e]; intro e; cases e
  · exact e
/-- Blocks that hold no slots, but for block B, stand as they stood. -/
def KeepT (B : Nat) (w w' : World) : Prop := ∀ (C : Nat) (x : Array Value) (T : TypeId) (mk : Nat × Nat), C ≠ B → T ≠ 33 → w.heap[C]? = some (.cells x T mk) → w'.heap[C]? = some (.cells x T mk)
theorem keepT_refl (B : Nat) (w : World) : KeepT B w w := fun _ _ _ _ _ _ h => h
theorem KeepT.trans {B : Nat} {a b c : World} (h : KeepT B a b) (h2 : KeepT B b c) : KeepT B a c := fun C x T mk h3 h4 h5 => h2 C x T mk h3 h4 (h C x T mk h3 h4 h5)
theorem keepT_grown {B : Nat} {w w' : World} (h : w.grownBy w' (some B)) : KeepT B w w' := fun C _ _ _ h3 _ h5 => (h.block C (Array.getElem?_eq_some_iff.1 h5).1 (fun e => h3 (by simpa using e))).trans h5
theorem keepT_below {B : Nat} {w w' : World} (h : Below w.heap.size w w') : KeepT B w w' := fun C _ _ _ _ _ h5 => (h.block C (Array.getElem?_eq_some_iff.1 h5).1).trans h5
theorem below_grownB {base B : Nat} {w w' : World} (h : w.grownBy w' (some B)) (hb : base ≤ B) (hw : base ≤ w.heap.size) : Below base w w' := (Below.refl _ _).grown h hw (fun k hk => by cases hk; exact hb)
theorem own_not_type {W : World} {base C n : Nat} {v : Value} {xs : List Value} {x : Array Value} {T : TypeId} {mk : Nat × Nat} (h : W.ownsRow base 33 4 v n xs) (hc : W.heap[C]? = some (.cells x T mk)) (hT : T ≠ 33) : v.ownBlock ≠ some C := by
  rcases h.2 with ⟨rfl, -⟩ | ⟨g, cap, cur, rfl, -, hg, -⟩
  · intro e; cases e
  · intro e
    have e8 : g = C := by simpa [Value.ownBlock] using e
    subst e8
    rw [hg] at hc
    cases hc
    exact hT rfl
set_option maxRecDepth 100000 in
set_option maxHeartbeats 1600000 in
theorem iend2_any (B base : Nat) (dn : Bool) (cl ln : Int) (v : Value) (L : List SlotV) (hL : L.length ≤ 1000) (w : World) (h : FindB w B 2 dn cl ln v) (ho : w.ownsRow base 33 4 v L.length (row_Slot L)) (hbase : base ≤ w.heap.size) (hbB : base ≤ B) :
    Calls Tryd.prog 63 #[.pointer (some ⟨B, 0, none⟩)] w fun e w' => (∃ r, e = .returned r) ∧ ∃ v', FindB w' B 0 dn cl ln v' ∧ w'.ownsRow base 33 4 v' (L ++ [(0, dn, cl, ln)]).length (row_Slot (L ++ [(0, dn, cl, ln)])) ∧ Below base w w' ∧ KeepT B w w' := by
  obtain ⟨i0, hi, hz0, hz1, hz2⟩ := info_parts info_Slot
  obtain ⟨c0, c1, c2, c3, c4, c5, f0, f3, f4, f5, f2⟩ := findB_cells h
  have hBw : B < w.heap.size := World.block_lt_of_cell? _ _ c0
  have HF := Lib.hid h
  have HO := Lib.hid ho
  have HBN := Lib.hid (own_not_find' ho h)
  obtain ⟨a0, cap, rfl⟩ := ownV_slice ho
  clear h ho
  have HAL : Hid (∀ o, FindB (w.alloc o) B 2 dn cl ln (.slice a0 L.length cap)) := Lib.hid (fun o => (Below.heap_alloc w o B hBw).trans HF.out)
  have e1 := fun o => Joins.cell_of_block (HAL.out o) 1
  have e2 := fun o => Joins.cell_of_block (HAL.out o) 2
  have e3 := fun o => Joins.cell_of_block (HAL.out o) 3
  have e4 := fun o => Joins.cell_of_block (HAL.out o) 4
  have e5 := fun o => Joins.cell_of_block (HAL.out o) 5
  simp only [List.getElem?_toArray, List.getElem?_cons_zero, List.getElem?_cons_succ] at e1 e2 e3 e4 e5
  go_enter Tryd.func63, Tryd.ntmps63
  go_wp2
  go_region_law (refine step_appendV rfl (.tmp 11) (.tmp 16) 27 rfl base 33 i0 (.agg #[.int .i64 0, .bool false, .int .i64 0, .int .i64 0]) 4 32 Tryd.underlying27 hi hz0 hz1 hz2 rfl (by decide) _ _ _ rfl (HO.out.alloc _).drew (some ⟨w.heap.size, 0, none⟩) 1 1 (cells_Slot (0, dn, cl, ln)) rfl rfl (cells_Slot_one _) (fun e => by cases e) (oneSl w (0, dn, cl, ln) _) (by omega) (by omega) (by simp; omega) ?_; intro v2 w3 hown hgrow; obtain ⟨a2, cap2, rfl⟩ := ownV_slice hown; have HO3 := Lib.hid hown; have HF3 : Hid (FindB w3 B 2 dn cl ln (.slice a0 L.length cap)) := Lib.hid ((hgrow.block B (by simp; omega) (fun e => HBN.out e.symm)).trans (HAL.out _)); have HG3 := Lib.hid hgrow; have k5 := Joins.cell_of_block HF3.out 5; have l5 := Joins.unfrozen_of_block HF3.out 5; simp only [List.getElem?_toArray, List.getElem?_cons_zero, List.getElem?_cons_succ] at k5; clear hown hgrow)
  all_goals have HF4 := Lib.hid (findB_set5 (v' := .slice a2 (L.length + 1) cap2) HF3.out)
  all_goals have HF5 := Lib.hid (findB_set0 (st' := 0) HF4.out)
  all_goals have HO5 := Lib.hid (((HO3.out.kept (grown_cell0 (grown_refl w3 _) 5 (.slice a2 (L.length + 1) cap2)) (own_not_find HO3.out HF3.out)).kept (grown_cell0 (grown_refl _ _) 0 (.int .i64 0)) (own_not_find HO3.out HF3.out)))
  all_goals obtain ⟨m0, m1, m2, m3, m4, m5, p0, p3, p4, p5, p2⟩ := findB_cells HF4.out
  all_goals clear k5 l5
  all_goals go_wp2
  all_goals go_end0
  all_goals refine ⟨⟨_, rfl⟩, _, HF5.out, by rw [← row_Slot_snoc, List.length_append]; exact HO5.out, ?_, fun C x T mk hCB hT hC => ?_⟩
  all_goals first | exact ((below_app (((Below.refl base w).alloc hbase _).drew) HG3.out (HO.out.alloc _).drew (Nat.le_refl _) (by simp; omega)).setCell (p := ⟨B, 5, none⟩) hbB _).setCell (p := ⟨B, 0, none⟩) hbB _ | skip
  all_goals have hlt := (Array.getElem?_eq_some_iff.1 hC).1
  all_goals have h9 := HG3.out.block C (by simp; omega) (fun e => own_not_type HO.out hC hT e.symm)
  all_goals exact (Below.heap_setCell _ ⟨B, 0, none⟩ _ C hCB).trans ((Below.heap_setCell _ ⟨B, 5, none⟩ _ C hCB).trans (h9.trans ((Below.heap_alloc w _ C hlt).trans hC)))
end Go.Proofs.YtdhjgaadfofkkaaDoor
