/-
  The program's contracts of chapter 8, eighth part: CellsOf.
  The program's contracts of chapter 8, ninth part: CellsOf, SlotsAt.
-/
import Derived.Test.YthgnhcjbjdhjfaaDoorSlotImplG
import Derived.Deep.RegionWith
import Derived.Deep.RegionHeld3
namespace Go.Proofs.YthgnhcjbjdhjfaaDoor
open Go.RowKit

theorem box4s (w : World) (x0 : Int) (x1 : Bool) (x2 x3 : Int) (t : TypeId) : ∀ w', Below (w.alloc (.cells #[.int .i64 x0, .bool x1, .int .i64 x2, .int .i64 x3] t)).heap.size (w.alloc (.cells #[.int .i64 x0, .bool x1, .int .i64 x2, .int .i64 x3] t)) w' →
    w'.cell? ⟨w.heap.size, 0, none⟩ = some (.int .i64 x0) ∧ w'.cell? ⟨w.heap.size, 1, none⟩ = some (.bool x1) ∧ w'.cell? ⟨w.heap.size, 2, none⟩ = some (.int .i64 x2) ∧ w'.cell? ⟨w.heap.size, 3, none⟩ = some (.int .i64 x3) ∧ Below w.heap.size w w' := fun w' h => by
  have hz : (w.alloc (.cells #[.int .i64 x0, .bool x1, .int .i64 x2, .int .i64 x3] t)).heap.size = w.heap.size + 1 := by simp
  have h1 : w'.heap[w.heap.size]? = some (.cells #[.int .i64 x0, .bool x1, .int .i64 x2, .int .i64 x3] t) := (h.block w.heap.size (by omega)).trans (new_block w _)
  exact ⟨Joins.cell_of_block h1 0, Joins.cell_of_block h1 1, Joins.cell_of_block h1 2, Joins.cell_of_block h1 3, ((Below.refl _ _).alloc (Nat.le_refl _) _).trans (h.mono (by omega))⟩
theorem mth_RP (w : World) (a : Array Value) : (method 288 152 (.agg a) "loop.example/g03003/impl.part").run Tryd.prog w = .ok (156, .agg a) w := by kernel_rfl
theorem mth_CP (w : World) (a : Array Value) : (method 288 151 (.agg a) "loop.example/g03003/impl.part").run Tryd.prog w = .ok (154, .agg a) w := by kernel_rfl
set_option maxRecDepth 100000 in
set_option maxHeartbeats 3200000 in
theorem icellsof_any (r c : Int) (S : Int) (x0 : Int) (x1 : Bool) (x2 x3 : Int) (hc : 2 ≤ c ∧ c ≤ 6) (h2 : 0 ≤ x2 ∧ x2 < 36) (h3 : 2 ≤ x3 ∧ x3 ≤ 6) (w : World) :
    Calls Tryd.prog 93 #[.agg #[.int .i64 r, .int .i64 c, .int .u64 S], .agg #[.int .i64 x0, .bool x1, .int .i64 x2, .int .i64 x3]] w fun e w' => ∃ v, e = .returned v ∧ w'.ownsRow w.heap.size 3 1 v (cellsS c (x0, x1, x2, x3)).length ((cellsS c (x0, x1, x2, x3)).map (Value.int .i64)) ∧ Below w.heap.size w w' := by
  obtain ⟨n, rfl⟩ : ∃ n : Nat, x3 = (n : Int) := ⟨x3.toNat, by omega⟩
  have hmR := mth_RP
  have hmC := mth_CP
  have hLEN : (cellsS c (x0, x1, x2, (n : Int))).length = n := by rw [cellsS_length]; simp
  rw [hLEN]
  have HX := Lib.hid (box33 (Below.refl _ ((w.alloc (.cells #[.int .i64 r, .int .i64 c, .int .u64 S] 81)).alloc (.cells #[.int .i64 x0, .bool x1, .int .i64 x2, .int .i64 (n : Int)] 88))))
  obtain ⟨W0, hW0⟩ : ∃ W0, W0 = (w.alloc (.cells #[.int .i64 r, .int .i64 c, .int .u64 S] 81)).alloc (.cells #[.int .i64 x0, .bool x1, .int .i64 x2, .int .i64 (n : Int)] 88) := ⟨_, rfl⟩
  have HKP : Hid (∀ W : World, Below W0.heap.size W0 W → W.cell? ⟨w.heap.size, 0, none⟩ = some (.int .i64 r) ∧ W.cell? ⟨w.heap.size, 1, none⟩ = some (.int .i64 c) ∧ W.cell? ⟨w.heap.size, 2, none⟩ = some (.int .u64 S) ∧ W.cell? ⟨w.heap.size + 1, 0, none⟩ = some (.int .i64 x0) ∧ W.cell? ⟨w.heap.size + 1, 1, none⟩ = some (.bool x1) ∧ W.cell? ⟨w.heap.size + 1, 2, none⟩ = some (.int .i64 x2) ∧ W.cell? ⟨w.heap.size + 1, 3, none⟩ = some (.int .i64 (n : Int))) := Lib.hid (fun W h => by
    rw [hW0] at h
    obtain ⟨h1, h2, -⟩ := box33 h
    exact ⟨Joins.cell_of_block h1 0, Joins.cell_of_block h1 1, Joins.cell_of_block h1 2, Joins.cell_of_block h2 0, Joins.cell_of_block h2 1, Joins.cell_of_block h2 2, Joins.cell_of_block h2 3⟩)
  have HW : Hid (Below w.heap.size w W0) := Lib.hid (by rw [hW0]; exact HX.out.2.2)
  obtain ⟨d0, d1, d2, e0, e1, e2, e3⟩ := HKP.out _ (Below.refl _ _)
  go_enter Tryd.func93, Tryd.ntmps93
  go_wp2_with fail
  rw [← hW0]
  clear hW0 HX
  cases x1 with
  | true =>
    have HCE : Hid (∀ w : World, Calls Tryd.prog 106 #[.agg #[.int .i64 x2, .int .i64 c, .int .i64 (n : Int)]] w fun e w' => ∃ v, e = .returned v ∧ w'.ownsRow w.heap.size 3 1 v n ((cellsS c (x0, true, x2, (n : Int))).map (Value.int .i64)) ∧ Below w.heap.size w w') := Lib.hid (fun w => icells_any x2 c n (by omega) (by omega) (by omega) (by omega) (by omega) (by omega) w)
    go_region_held3 (fun w' => w'.cell? ⟨w.heap.size, 0, none⟩ = some (.int .i64 r) ∧ w'.cell? ⟨w.heap.size, 1, none⟩ = some (.int .i64 c) ∧ w'.cell? ⟨w.heap.size, 2, none⟩ = some (.int .u64 S) ∧ w'.cell? ⟨w.heap.size + 1, 0, none⟩ = some (.int .i64 x0) ∧ w'.cell? ⟨w.heap.size + 1, 1, none⟩ = some (.bool true) ∧ w'.cell? ⟨w.heap.size + 1, 2, none⟩ = some (.int .i64 x2) ∧ w'.cell? ⟨w.heap.size + 1, 3, none⟩ = some (.int .i64 (n : Int))) (first | exact ⟨d0, d1, d2, e0, e1, e2, e3⟩ | exact HKP.out _ B4.out | exact HKP.out _ B3.out | exact HKP.out _ B2.out) (first | (go_at_call 87; refine Calls.mono (lines_any r c S true _) ?_; rintro e w2 ⟨rfl, b2⟩; simp only [setV, if_true]; have B2 : Hid (Below W0.heap.size W0 w2) := Lib.hid (by first | exact b2 | exact ((Below.refl _ _).drew).trans b2); clear b2) | (go_at_call 154; refine Calls.mono (cpart_any r c S x2 (n : Int) _) ?_; rintro e w3 ⟨rfl, b3⟩; have B3 : Hid (Below W0.heap.size W0 w3) := Lib.hid (by first | exact btrans B2.out b3 | exact btrans B2.out.drew b3); clear b3) | (go_at_call 106; refine Calls.mono (HCE.out _) ?_; rintro e w4 ⟨v4, rfl, o4, b4⟩; have B4 : Hid (Below W0.heap.size W0 w4) := Lib.hid (by first | exact btrans B3.out b4 | exact btrans B3.out.drew b4); have O4 := Lib.hid (own_widen o4 (show w.heap.size ≤ _ from Nat.le_trans HW.out.size (by first | exact B3.out.size | exact B3.out.drew.size))); clear o4 b4))
    all_goals (go_wp2_with fail; go_ret; exact ⟨_, rfl, O4.out, HW.out.trans (B4.out.mono HW.out.size)⟩)
  | false =>
    have HCE : Hid (∀ w : World, Calls Tryd.prog 106 #[.agg #[.int .i64 x2, .int .i64 1, .int .i64 (n : Int)]] w fun e w' => ∃ v, e = .returned v ∧ w'.ownsRow w.heap.size 3 1 v n ((cellsS c (x0, false, x2, (n : Int))).map (Value.int .i64)) ∧ Below w.heap.size w w') := Lib.hid (fun w => icells_any x2 1 n (by omega) (by omega) (by omega) (by omega) (by omega) (by omega) w)
    go_region_held3 (fun w' => w'.cell? ⟨w.heap.size, 0, none⟩ = some (.int .i64 r) ∧ w'.cell? ⟨w.heap.size, 1, none⟩ = some (.int .i64 c) ∧ w'.cell? ⟨w.heap.size, 2, none⟩ = some (.int .u64 S) ∧ w'.cell? ⟨w.heap.size + 1, 0, none⟩ = some (.int .i64 x0) ∧ w'.cell? ⟨w.heap.size + 1, 1, none⟩ = some (.bool false) ∧ w'.cell? ⟨w.heap.size + 1, 2, none⟩ = some (.int .i64 x2) ∧ w'.cell? ⟨w.heap.size + 1, 3, none⟩ = some (.int .i64 (n : Int))) (first | exact ⟨d0, d1, d2, e0, e1, e2, e3⟩ | exact HKP.out _ B4.out | exact HKP.out _ B3.out | exact HKP.out _ B2.out) (first | (go_at_call 87; refine Calls.mono (lines_any r c S false _) ?_; rintro e w2 ⟨rfl, b2⟩; simp only [setV, Bool.false_eq_true, if_false]; have B2 : Hid (Below W0.heap.size W0 w2) := Lib.hid (by first | exact b2 | exact ((Below.refl _ _).drew).trans b2); clear b2) | (go_at_call 156; refine Calls.mono (rpart_any r c S x2 (n : Int) _) ?_; rintro e w3 ⟨rfl, b3⟩; have B3 : Hid (Below W0.heap.size W0 w3) := Lib.hid (by first | exact btrans B2.out b3 | exact btrans B2.out.drew b3); clear b3) | (go_at_call 106; refine Calls.mono (HCE.out _) ?_; rintro e w4 ⟨v4, rfl, o4, b4⟩; have B4 : Hid (Below W0.heap.size W0 w4) := Lib.hid (by first | exact btrans B3.out b4 | exact btrans B3.out.drew b4); have O4 := Lib.hid (own_widen o4 (show w.heap.size ≤ _ from Nat.le_trans HW.out.size (by first | exact B3.out.size | exact B3.out.drew.size))); clear o4 b4))
    all_goals (go_wp2_with fail; go_ret; exact ⟨_, rfl, O4.out, HW.out.trans (B4.out.mono HW.out.size)⟩)
end Go.Proofs.YthgnhcjbjdhjfaaDoor
namespace Go.Proofs.YthgnhcjbjdhjfaaDoor
open Go.RowKit

theorem brd_col {g : Int × Int × ByteArray} {x : SlotV} (h : x ∈ slG g) : (brd g).2.1 = g.2.1 := by
  obtain ⟨hg, -⟩ := slG_small h
  unfold brd
  rw [if_pos hg]
end Go.Proofs.YthgnhcjbjdhjfaaDoor
