/-
  The walk of the law FnExactParseGrid: true at every argument, by the contracts of spec.ParseGrid and impl.ParseGrid.
-/
import Derived.Test.YtbickkphiofmlaaGridImpl
namespace Go.Proofs.Ytbickkphiofmlaa.fnExactParseGrid
open Go.RowKit

theorem below_mark {B base n s : Nat} {a w w' : World} {e : TypeId} {v : Value} {xs : List Value} (h : Below B a w) (hg : w.grownBy w' v.ownBlock) (ho : w.ownsRow base e s v n xs) (hB : B ≤ base) (hw : B ≤ w.heap.size) : Below B a w' :=
  h.grown hg hw (fun k hk => Nat.le_trans hB (ho.lt k hk).1)

set_option maxRecDepth 100000 in
set_option maxHeartbeats 3200000 in
theorem walk (a0 : ByteArray) (w : World) (hs0 : a0.size ≤ maxLen) :
    Calls Try.prog 9 #[.string a0] w fun e w' => e = .returned (.bool true) ∧ Below w.heap.size w w' := by
  unfold maxLen at hs0
  by_cases hbig0 : 1048576 < a0.size
  · go_enter Try.func9, Try.ntmps9
    go_wp2
    go_ret
    exact ⟨rfl, Below.refl _ _⟩
  · skip
    go_enter Try.func9, Try.ntmps9
    have C0 := Lib.hid (Below.refl w.heap.size w)
    have FL := Lib.hid trivial
    go_wp2_with (go_at_call 28; have FG := FL; refine (s_ParseGrid a0 _ (by omega)).mono ?_; rintro e w1 ⟨⟨rw0_0, rw0_1, rw0_2⟩, rw1, HAw, rfl, b⟩; have HHw := Lib.hid HAw; clear HAw; clear FL FG)
    have C1 := Lib.hid (btrans C0.out b)
    clear b C0
    obtain ⟨V1, hV1⟩ : ∃ V, V = w1.alloc (.cells #[.int .i64 rw0_0, .int .i64 rw0_1, .string rw0_2] 25) := ⟨_, rfl⟩
    have BX1 : Hid (∀ w', Below V1.heap.size V1 w' → w'.cell? ⟨w1.heap.size, 0, none⟩ = some (.int .i64 rw0_0) ∧ w'.cell? ⟨w1.heap.size, 1, none⟩ = some (.int .i64 rw0_1) ∧ w'.cell? ⟨w1.heap.size, 2, none⟩ = some (.string rw0_2)) := Lib.hid (fun w' h => ⟨(h.cell (p := ⟨w1.heap.size, 0, none⟩) (by show w1.heap.size < _; rw [hV1]; simp)).trans (by rw [hV1]; simp), (h.cell (p := ⟨w1.heap.size, 1, none⟩) (by show w1.heap.size < _; rw [hV1]; simp)).trans (by rw [hV1]; simp), (h.cell (p := ⟨w1.heap.size, 2, none⟩) (by show w1.heap.size < _; rw [hV1]; simp)).trans (by rw [hV1]; simp)⟩)
    have C1b := Lib.hid (show Below _ _ V1 by rw [hV1]; exact C1.out.alloc C1.out.size _)
    rw [← hV1]
    clear C1 hV1
    have D0_1c := Lib.hid (Below.refl V1.heap.size V1)
    have FL := Lib.hid trivial
    go_wp2_with (go_at_call 12; have FG := FL; refine (i_ParseGrid a0 _ (by omega)).mono ?_; rintro e w2 ⟨⟨rg0_0, rg0_1, rg0_2⟩, rg1, HAg, rfl, b⟩; obtain ⟨E0, rfl⟩ := u_ParseGrid HHw.out HAg; cases E0; clear HAg; have CX := (btrans C1b.out b).alloc (btrans C1b.out b).size (.cells #[.int .i64 rw0_0, .int .i64 rw0_1, .string rw0_2] 25); have CZ := (btrans D0_1c.out b).alloc (btrans D0_1c.out b).size (.cells #[.int .i64 rw0_0, .int .i64 rw0_1, .string rw0_2] 25); have rx0_0 := (BX1.out _ CZ).1; have rx0_1 := (BX1.out _ CZ).2.1; have rx0_2 := (BX1.out _ CZ).2.2; clear CZ; clear CX; clear FL FG)
    have C2 := Lib.hid (btrans C1b.out b)
    have D0_2 := Lib.hid (btrans D0_1c.out b)
    clear b C1b D0_1c
    obtain ⟨V2, hV2⟩ : ∃ V, V = w2.alloc (.cells #[.int .i64 rw0_0, .int .i64 rw0_1, .string rw0_2] 25) := ⟨_, rfl⟩
    have BX2 : Hid (∀ w', Below V2.heap.size V2 w' → w'.cell? ⟨w2.heap.size, 0, none⟩ = some (.int .i64 rw0_0) ∧ w'.cell? ⟨w2.heap.size, 1, none⟩ = some (.int .i64 rw0_1) ∧ w'.cell? ⟨w2.heap.size, 2, none⟩ = some (.string rw0_2)) := Lib.hid (fun w' h => ⟨(h.cell (p := ⟨w2.heap.size, 0, none⟩) (by show w2.heap.size < _; rw [hV2]; simp)).trans (by rw [hV2]; simp), (h.cell (p := ⟨w2.heap.size, 1, none⟩) (by show w2.heap.size < _; rw [hV2]; simp)).trans (by rw [hV2]; simp), (h.cell (p := ⟨w2.heap.size, 2, none⟩) (by show w2.heap.size < _; rw [hV2]; simp)).trans (by rw [hV2]; simp)⟩)
    have C2b := Lib.hid (show Below _ _ V2 by rw [hV2]; exact C2.out.alloc C2.out.size _)
    have D0_2b := Lib.hid (show Below _ _ V2 by rw [hV2]; exact D0_2.out.alloc D0_2.out.size _)
    rw [← hV2]
    clear C2 D0_2 hV2
    have D1_2c := Lib.hid (Below.refl V2.heap.size V2)
    have FL := Lib.hid trivial
    go_wp2_with (go_at_call 25; have FG := FL; refine (one_eq_Grid rw0_0 rw0_1 rw0_2 _).mono ?_; rintro e w3 ⟨rfl, b⟩; clear FL FG)
    have C3 := Lib.hid (btrans C2b.out b)
    have D0_3 := Lib.hid (btrans D0_2b.out b)
    have D1_3 := Lib.hid (btrans D1_2c.out b)
    clear b C2b D0_2b D1_2c
    go_ret
    exact ⟨rfl, C3.out⟩
end Go.Proofs.Ytbickkphiofmlaa.fnExactParseGrid
