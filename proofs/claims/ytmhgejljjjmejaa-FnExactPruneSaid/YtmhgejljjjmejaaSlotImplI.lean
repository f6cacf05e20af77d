/-
  The program's contracts of chapter 8, eighth part: CellsOf.
  The program's contracts of chapter 8, ninth part: CellsOf, SlotsAt.
-/
import Derived.Test.YtmhgejljjjmejaaSlotImplG
import Derived.Deep.RegionWith
import Derived.Deep.RegionHeld3
namespace Go.Proofs.Ytmhgejljjjmejaa
open Go.RowKit

theorem box4s (w : World) (x0 : Int) (x1 : Bool) (x2 x3 : Int) (t : TypeId) : ∀ w', Below (w.alloc (.cells #[.int .i64 x0, .bool x1, .int .i64 x2, .int .i64 x3] t)).heap.size (w.alloc (.cells #[.int .i64 x0, .bool x1, .int .i64 x2, .int .i64 x3] t)) w' →
    w'.cell? ⟨w.heap.size, 0, none⟩ = some (.int .i64 x0) ∧ w'.cell? ⟨w.heap.size, 1, none⟩ = some (.bool x1) ∧ w'.cell? ⟨w.heap.size, 2, none⟩ = some (.int .i64 x2) ∧ w'.cell? ⟨w.heap.size, 3, none⟩ = some (.int .i64 x3) ∧ Below w.heap.size w w' := fun w' h => by
  have hz : (w.alloc (.cells #[.int .i64 x0, .bool x1, .int .i64 x2, .int .i64 x3] t)).heap.size = w.heap.size + 1 := by simp
  have h1 : w'.heap[w.heap.size]? = some (.cells #[.int .i64 x0, .bool x1, .int .i64 x2, .int .i64 x3] t) := (h.block w.heap.size (by omega)).trans (new_block w _)
  exact ⟨Joins.cell_of_block h1 0, Joins.cell_of_block h1 1, Joins.cell_of_block h1 2, Joins.cell_of_block h1 3, ((Below.refl _ _).alloc (Nat.le_refl _) _).trans (h.mono (by omega))⟩
theorem mth_RP (w : World) (a : Array Value) : (method 256 126 (.agg a) "loop.example/g03003/impl.part").run Try.prog w = .ok (111, .agg a) w := by kernel_rfl
theorem mth_CP (w : World) (a : Array Value) : (method 256 125 (.agg a) "loop.example/g03003/impl.part").run Try.prog w = .ok (109, .agg a) w := by kernel_rfl
set_option maxRecDepth 100000 in
set_option maxHeartbeats 3200000 in
theorem icellsof_any (r c : Int) (S : Int) (x0 : Int) (x1 : Bool) (x2 x3 : Int) (hc : 2 ≤ c ∧ c ≤ 6) (h2 : 0 ≤ x2 ∧ x2 < 36) (h3 : 2 ≤ x3 ∧ x3 ≤ 6) (w : World) :
    Calls Try.prog 76 #[.agg #[.int .i64 r, .int .i64 c, .int .u64 S], .agg #[.int .i64 x0, .bool x1, .int .i64 x2, .int .i64 x3]] w fun e w' => ∃ v, e = .returned v ∧ w'.ownsRow w.heap.size 3 1 v (cellsS c (x0, x1, x2, x3)).length ((cellsS c (x0, x1, x2, x3)).map (Value.int .i64)) ∧ Below w.heap.size w w' := by
  obtain ⟨n, rfl⟩ : ∃ n : Nat, x3 = (n : Int) := ⟨x3.toNat, by omega⟩
  have hmR := mth_RP
  have hmC := mth_CP
  have hLEN : (cellsS c (x0, x1, x2, (n : Int))).length = n := by rw [cellsS_length]; simp
  rw [hLEN]
  have HX := Lib.hid (box33 (Below.refl _ ((w.alloc (.cells #[.int .i64 r, .int .i64 c, .int .u64 S] 74)).alloc (.cells #[.int .i64 x0, .bool x1, .int .i64 x2, .int .i64 (n : Int)] 45))))
  obtain ⟨W0, hW0⟩ : ∃ W0, W0 = (w.alloc (.cells #[.int .i64 r, .int .i64 c, .int .u64 S] 74)).alloc (.cells #[.int .i64 x0, .bool x1, .int .i64 x2, .int .i64 (n : Int)] 45) := ⟨_, rfl⟩
  have HKP : Hid (∀ W : World, Below W0.heap.size W0 W → W.cell? ⟨w.heap.size, 0, none⟩ = some (.int .i64 r) ∧ W.cell? ⟨w.heap.size, 1, none⟩ = some (.int .i64 c) ∧ W.cell? ⟨w.heap.size, 2, none⟩ = some (.int .u64 S) ∧ W.cell? ⟨w.heap.size + 1, 0, none⟩ = some (.int .i64 x0) ∧ W.cell? ⟨w.heap.size + 1, 1, none⟩ = some (.bool x1) ∧ W.cell? ⟨w.heap.size + 1, 2, none⟩ = some (.int .i64 x2) ∧ W.cell? ⟨w.heap.size + 1, 3, none⟩ = some (.int .i64 (n : Int))) := Lib.hid (fun W h => by
    rw [hW0] at h
    obtain ⟨h1, h2, -⟩ := box33 h
    exact ⟨Joins.cell_of_block h1 0, Joins.cell_of_block h1 1, Joins.cell_of_block h1 2, Joins.cell_of_block h2 0, Joins.cell_of_block h2 1, Joins.cell_of_block h2 2, Joins.cell_of_block h2 3⟩)
  have HW : Hid (Below w.heap.size w W0) := Lib.hid (by rw [hW0]; exact HX.out.2.2)
  obtain ⟨d0, d1, d2, e0, e1, e2, e3⟩ := HKP.out _ (Below.refl _ _)
  go_enter Try.func76, Try.ntmps76
  go_wp2_with fail
  rw [← hW0]
  clear hW0 HX
  cases x1 with
  | true =>
    have HCE : Hid (∀ w : World, Calls Try.prog 70 #[.agg #[.int .i64 x2, .int .i64 c, .int .i64 (n : Int)]] w fun e w' => ∃ v, e = .returned v ∧ w'.ownsRow w.heap.size 3 1 v n ((cellsS c (x0, true, x2, (n : Int))).map (Value.int .i64)) ∧ Below w.heap.size w w') := Lib.hid (fun w => icells_any x2 c n (by omega) (by omega) (by omega) (by omega) (by omega) (by omega) w)
    go_region_held3 (fun w' => w'.cell? ⟨w.heap.size, 0, none⟩ = some (.int .i64 r) ∧ w'.cell? ⟨w.heap.size, 1, none⟩ = some (.int .i64 c) ∧ w'.cell? ⟨w.heap.size, 2, none⟩ = some (.int .u64 S) ∧ w'.cell? ⟨w.heap.size + 1, 0, none⟩ = some (.int .i64 x0) ∧ w'.cell? ⟨w.heap.size + 1, 1, none⟩ = some (.bool true) ∧ w'.cell? ⟨w.heap.size + 1, 2, none⟩ = some (.int .i64 x2) ∧ w'.cell? ⟨w.heap.size + 1, 3, none⟩ = some (.int .i64 (n : Int))) (first | exact ⟨d0, d1, d2, e0, e1, e2, e3⟩ | exact HKP.out _ B4.out | exact HKP.out _ B3.out | exact HKP.out _ B2.out) (first | (go_at_call 55; refine Calls.mono (lines_any r c S true _) ?_; rintro e w2 ⟨rfl, b2⟩; simp only [setV, if_true]; have B2 : Hid (Below W0.heap.size W0 w2) := Lib.hid (by first | exact b2 | exact ((Below.refl _ _).drew).trans b2); clear b2) | (go_at_call 109; refine Calls.mono (cpart_any r c S x2 (n : Int) _) ?_; rintro e w3 ⟨rfl, b3⟩; have B3 : Hid (Below W0.heap.size W0 w3) := Lib.hid (by first | exact btrans B2.out b3 | exact btrans B2.out.drew b3); clear b3) | (go_at_call 70; refine Calls.mono (HCE.out _) ?_; rintro e w4 ⟨v4, rfl, o4, b4⟩; have B4 : Hid (Below W0.heap.size W0 w4) := Lib.hid (by first | exact btrans B3.out b4 | exact btrans B3.out.drew b4); have O4 := Lib.hid (own_widen o4 (show w.heap.size ≤ _ from Nat.le_trans HW.out.size (by first | exact B3.out.size | exact B3.out.drew.size))); clear o4 b4))
    all_goals (go_wp2_with fail; go_ret; exact ⟨_, rfl, O4.out, HW.out.trans (B4.out.mono HW.out.size)⟩)
  | false =>
    have HCE : Hid (∀ w : World, Calls Try.prog 70 #[.agg #[.int .i64 x2, .int .i64 1, .int .i64 (n : Int)]] w fun e w' => ∃ v, e = .returned v ∧ w'.ownsRow w.heap.size 3 1 v n ((cellsS c (x0, false, x2, (n : Int))).map (Value.int .i64)) ∧ Below w.heap.size w w') := Lib.hid (fun w => icells_any x2 1 n (by omega) (by omega) (by omega) (by omega) (by omega) (by omega) w)
    go_region_held3 (fun w' => w'.cell? ⟨w.heap.size, 0, none⟩ = some (.int .i64 r) ∧ w'.cell? ⟨w.heap.size, 1, none⟩ = some (.int .i64 c) ∧ w'.cell? ⟨w.heap.size, 2, none⟩ = some (.int .u64 S) ∧ w'.cell? ⟨w.heap.size + 1, 0, none⟩ = some (.int .i64 x0) ∧ w'.cell? ⟨w.heap.size + 1, 1, none⟩ = some (.bool false) ∧ w'.cell? ⟨w.heap.size + 1, 2, none⟩ = some (.int .i64 x2) ∧ w'.cell? ⟨w.heap.size + 1, 3, none⟩ = some (.int .i64 (n : Int))) (first | exact ⟨d0, d1, d2, e0, e1, e2, e3⟩ | exact HKP.out _ B4.out | exact HKP.out _ B3.out | exact HKP.out _ B2.out) (first | (go_at_call 55; refine Calls.mono (lines_any r c S false _) ?_; rintro e w2 ⟨rfl, b2⟩; simp only [setV, Bool.false_eq_true, if_false]; have B2 : Hid (Below W0.heap.size W0 w2) := Lib.hid (by first | exact b2 | exact ((Below.refl _ _).drew).trans b2); clear b2) | (go_at_call 111; refine Calls.mono (rpart_any r c S x2 (n : Int) _) ?_; rintro e w3 ⟨rfl, b3⟩; have B3 : Hid (Below W0.heap.size W0 w3) := Lib.hid (by first | exact btrans B2.out b3 | exact btrans B2.out.drew b3); clear b3) | (go_at_call 70; refine Calls.mono (HCE.out _) ?_; rintro e w4 ⟨v4, rfl, o4, b4⟩; have B4 : Hid (Below W0.heap.size W0 w4) := Lib.hid (by first | exact btrans B3.out b4 | exact btrans B3.out.drew b4); have O4 := Lib.hid (own_widen o4 (show w.heap.size ≤ _ from Nat.le_trans HW.out.size (by first | exact B3.out.size | exact B3.out.drew.size))); clear o4 b4))
    all_goals (go_wp2_with fail; go_ret; exact ⟨_, rfl, O4.out, HW.out.trans (B4.out.mono HW.out.size)⟩)
end Go.Proofs.Ytmhgejljjjmejaa
namespace Go.Proofs.Ytmhgejljjjmejaa
open Go.RowKit

theorem brd_col {g : Int × Int × ByteArray} {x : SlotV} (h : x ∈ slG g) : (brd g).2.1 = g.2.1 := by
  obtain ⟨hg, -⟩ := slG_small h
  unfold brd
  rw [if_pos hg]
set_option maxHeartbeats 800000 in
theorem idxI_any (l : List Int) (x : Int) (hl : l.length ≤ 16777216) (v : Value) (w : World) (hv : Reads w.heap.size w v .i64 l) :
    Calls Try.prog 51 #[v, .int .i64 x] w fun e w' => (∃ i : Int, e = .returned (.int .i64 i) ∧ decide (0 ≤ i) = hasI l x) ∧ w = w' := by
  obtain ⟨-, a0, cap, rfl, -, hc⟩ := hv
  have HC := Lib.hid hc
  clear hc
  go_enter Try.func51, Try.ntmps51
  go_wp2
  go_loopw [8] (fun i wr => ∃ k : Nat, k ≤ l.length ∧ i = .int .i64 k ∧ Hid (∀ y ∈ l.take k, y ≠ x) ∧ w = wr) (fun i _ => l.length - (intOf i).toNat)
  case atStart => exact ⟨0, Nat.zero_le _, rfl, Lib.hid (by simp), rfl⟩
  case round =>
    obtain ⟨k, hk, rfl, HN, rfl⟩ := hrel
    by_cases hlt : k < l.length
    · have hd : decide ((k : Int) < (l.length : Int)) = true := decide_eq_true (by omega)
      obtain ⟨b, off, rfl, hb, q0⟩ := HC.out k hlt
      have HT : Hid (l.take (k + 1) = l.take k ++ [l.getD k 0]) := Lib.hid (by rw [List.take_succ_eq_append_getElem hlt, List.getD_eq_getElem?_getD, List.getElem?_eq_getElem hlt]; rfl)
      have HM : Hid (l.getD k 0 ∈ l) := Lib.hid (by rw [List.getD_eq_getElem?_getD, List.getElem?_eq_getElem hlt]; exact List.getElem_mem hlt)
      obtain ⟨z, hz⟩ : ∃ z, z = l.getD k 0 := ⟨_, rfl⟩
      rw [← hz] at q0 HT HM
      clear hz
      by_cases he : x = z
      · subst he
        have HF : Hid (hasI l x = true) := Lib.hid (hasI_iff.2 HM.out)
        go_wp2
        go_ret
        exact ⟨⟨(k : Int), rfl, by rw [HF.out]; exact decide_eq_true (by omega)⟩, rfl⟩
      · have hne : (x == z) = false := by simpa using he
        have HN2 : Hid (∀ y ∈ l.take (k + 1), y ≠ x) := Lib.hid (fun y hy => by
          rw [HT.out] at hy
          rcases List.mem_append.1 hy with h | h
          · exact HN.out y h
          · simp only [List.mem_singleton] at h; subst h; exact fun e => he e.symm)
        clear he
        go_wp2
        go_roundw
        case rel => exact ⟨k + 1, by omega, by go_num, HN2, by trivial⟩
        case measure => simp [intOf]; omega
    · have hd : decide ((k : Int) < (l.length : Int)) = false := decide_eq_false (by omega)
      have HF : Hid (hasI l x = false) := Lib.hid (by
        rcases hb : hasI l x with _ | _
        · rfl
        · have h9 := hasI_iff.1 hb
          have h8 := HN.out
          rw [List.take_of_length_le (by omega)] at h8
          exact absurd rfl (h8 x h9))
      go_wp2
      go_ret
      exact ⟨⟨-1, rfl, by rw [HF.out]; rfl⟩, rfl⟩
theorem conI_any (l : List Int) (x : Int) (hl : l.length ≤ 16777216) (v : Value) (w : World) (hv : Reads w.heap.size w v .i64 l) :
    Calls Try.prog 41 #[v, .int .i64 x] w fun e w' => e = .returned (.bool (hasI l x)) ∧ w = w' := by
  have HI := Lib.hid (idxI_any l x hl v w hv)
  clear hv
  go_enter Try.func41, Try.ntmps41
  go_wp2_with (go_at_call 51; refine HI.out.mono ?_; rintro e w2 ⟨⟨i, rfl, hi⟩, rfl⟩; have HIE := Lib.hid hi; clear hi)
  go_ret
  exact ⟨by rw [← HIE.out]; rfl, rfl⟩
end Go.Proofs.Ytmhgejljjjmejaa
