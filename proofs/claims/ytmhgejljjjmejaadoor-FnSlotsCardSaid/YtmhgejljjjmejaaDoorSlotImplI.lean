/-
  The program's contracts of chapter 8, eighth part: CellsOf.
  The program's contracts of chapter 8, ninth part: CellsOf, SlotsAt.
-/
import Derived.Test.YtmhgejljjjmejaaDoorSlotImplG
import Derived.Deep.RegionWith
import Derived.Deep.RegionHeld3
namespace Go.Proofs.YtmhgejljjjmejaaDoor
open Go.RowKit

theorem box4s (w : World) (x0 : Int) (x1 : Bool) (x2 x3 : Int) (t : TypeId) : ∀ w', Below (w.alloc (.cells #[.int .i64 x0, .bool x1, .int .i64 x2, .int .i64 x3] t)).heap.size (w.alloc (.cells #[.int .i64 x0, .bool x1, .int .i64 x2, .int .i64 x3] t)) w' →
    w'.cell? ⟨w.heap.size, 0, none⟩ = some (.int .i64 x0) ∧ w'.cell? ⟨w.heap.size, 1, none⟩ = some (.bool x1) ∧ w'.cell? ⟨w.heap.size, 2, none⟩ = some (.int .i64 x2) ∧ w'.cell? ⟨w.heap.size, 3, none⟩ = some (.int .i64 x3) ∧ Below w.heap.size w w' := fun w' h => by
  have hz : (w.alloc (.cells #[.int .i64 x0, .bool x1, .int .i64 x2, .int .i64 x3] t)).heap.size = w.heap.size + 1 := by simp
  have h1 : w'.heap[w.heap.size]? = some (.cells #[.int .i64 x0, .bool x1, .int .i64 x2, .int .i64 x3] t) := (h.block w.heap.size (by omega)).trans (new_block w _)
  exact ⟨Joins.cell_of_block h1 0, Joins.cell_of_block h1 1, Joins.cell_of_block h1 2, Joins.cell_of_block h1 3, ((Below.refl _ _).alloc (Nat.le_refl _) _).trans (h.mono (by omega))⟩
set_option maxRecDepth 100000 in
set_option maxHeartbeats 1600000 in
theorem index_any (l : List SlotV) (x0 : Int) (x1 : Bool) (x2 x3 : Int) (hl : l.length ≤ 16777216) (v : Value) (w : World) (hv : ReadsSlot w.heap.size w v l) :
    Calls Tryd.prog 40 #[v, .agg #[.int .i64 x0, .bool x1, .int .i64 x2, .int .i64 x3]] w fun e w' => (∃ i : Int, e = .returned (.int .i64 i) ∧ decide (0 ≤ i) = decide ((x0, x1, x2, x3) ∈ l)) ∧ Below w.heap.size w w' := by
  obtain ⟨-, a0, cap, rfl, -, hc⟩ := hv.cells
  have HC := Lib.hid hc
  clear hc hv
  have HKP := Lib.hid (box4s w x0 x1 x2 x3 33)
  obtain ⟨d0, d1, d2, d3, hbw⟩ := HKP.out _ (Below.refl _ _)
  have HW := Lib.hid hbw
  clear hbw
  go_enter Tryd.func40, Tryd.ntmps40
  go_wp2
  obtain ⟨W0, hW0⟩ : ∃ W0, W0 = w.alloc (.cells #[.int .i64 x0, .bool x1, .int .i64 x2, .int .i64 x3] 33) := ⟨_, rfl⟩
  rw [← hW0] at HKP HW d0 d1 d2 d3 ⊢
  have hws : W0.heap.size = w.heap.size + 1 := by rw [hW0]; simp
  clear hW0
  go_loopw [8] (fun i wr => ∃ k : Nat, k ≤ l.length ∧ i = .int .i64 k ∧ Hid (∀ y ∈ l.take k, y ≠ (x0, x1, x2, x3)) ∧ Hid (Below W0.heap.size W0 wr)) (fun i _ => l.length - (intOf i).toNat)
  case atStart => exact ⟨0, Nat.zero_le _, rfl, Lib.hid (by simp), Lib.hid (Below.refl _ _)⟩
  case round =>
    obtain ⟨k, hk, rfl, HN, HB⟩ := hrel
    obtain ⟨e0, e1, e2, e3, hbw⟩ := HKP.out _ HB.out
    clear hbw
    by_cases hlt : k < l.length
    · have hd : decide ((k : Int) < (l.length : Int)) = true := decide_eq_true (by omega)
      obtain ⟨b, off, rfl, hb, q0, q1, q2, q3⟩ := HC.out k hlt
      have HBW := Lib.hid (HW.out.trans (HB.out.mono HW.out.size))
      have q0 := (HBW.out.cell (p := ⟨b, off + k * 4, none⟩) hb).trans q0
      have q1 := (HBW.out.cell (p := ⟨b, off + k * 4 + 1, none⟩) hb).trans q1
      have q2 := (HBW.out.cell (p := ⟨b, off + k * 4 + 2, none⟩) hb).trans q2
      have q3 := (HBW.out.cell (p := ⟨b, off + k * 4 + 3, none⟩) hb).trans q3
      have HT := Lib.hid (take_getD hlt)
      have HI := Lib.hid (getD_in hlt)
      obtain ⟨y, hy⟩ : ∃ y, y = l.getD k none_Slot := ⟨_, rfl⟩
      rw [← hy] at q0 q1 q2 q3 HT HI
      clear hy
      by_cases he : (x0, x1, x2, x3) = y
      · subst he
        simp only at q0 q1 q2 q3
        go_wp2
        go_quiet (fail)
        all_goals go_wp2
        go_ret
        exact ⟨⟨(k : Int), rfl, by rw [decide_eq_true HI.out]; exact decide_eq_true (by omega)⟩, HW.out.trans ((below_drewN HB.out _).mono HW.out.size)⟩
      · have hne := slot_differ he
        have HN2 : Hid (∀ z ∈ l.take (k + 1), z ≠ (x0, x1, x2, x3)) := Lib.hid (fun z hz => by
          rw [HT.out] at hz
          rcases List.mem_append.1 hz with h | h
          · exact HN.out z h
          · rw [List.mem_singleton.1 h]; exact fun e => he e.symm)
        obtain ⟨t0, t1, t2, t3⟩ := y
        simp only at hne q0 q1 q2 q3
        clear he HT HI HN
        rcases hne with hne | ⟨hn0, hne⟩ | ⟨hn0, hn1, hne⟩ | ⟨hn0, hn1, hn2, hne⟩
        · go_wp2
          go_quiet (fail)
          all_goals go_wp2
          go_roundw
          case rel => exact ⟨k + 1, by omega, by go_num, HN2, Lib.hid (below_drewN HB.out _)⟩
          case measure => simp [intOf]; omega
        · subst hn0
          go_wp2
          go_quiet (fail)
          all_goals go_wp2
          go_roundw
          case rel => exact ⟨k + 1, by omega, by go_num, HN2, Lib.hid (below_drewN HB.out _)⟩
          case measure => simp [intOf]; omega
        · subst hn0 hn1
          go_wp2
          go_quiet (fail)
          all_goals go_wp2
          go_roundw
          case rel => exact ⟨k + 1, by omega, by go_num, HN2, Lib.hid (below_drewN HB.out _)⟩
          case measure => simp [intOf]; omega
        · subst hn0 hn1 hn2
          go_wp2
          go_quiet (fail)
          all_goals go_wp2
          go_roundw
          case rel => exact ⟨k + 1, by omega, by go_num, HN2, Lib.hid (below_drewN HB.out _)⟩
          case measure => simp [intOf]; omega
    · have hd : decide ((k : Int) < (l.length : Int)) = false := decide_eq_false (by omega)
      have HF : Hid (decide ((x0, x1, x2, x3) ∈ l) = false) := Lib.hid (decide_eq_false (fun h => by
        have h9 := HN.out
        rw [List.take_of_length_le (by omega)] at h9
        exact h9 _ h rfl))
      go_wp2
      go_ret
      exact ⟨⟨-1, rfl, by rw [HF.out]; rfl⟩, HW.out.trans (HB.out.mono HW.out.size)⟩
set_option maxHeartbeats 800000 in
theorem contains_any (l : List SlotV) (x0 : Int) (x1 : Bool) (x2 x3 : Int) (hl : l.length ≤ 16777216) (v : Value) (w : World) (hv : ReadsSlot w.heap.size w v l) :
    Calls Tryd.prog 20 #[v, .agg #[.int .i64 x0, .bool x1, .int .i64 x2, .int .i64 x3]] w fun e w' => e = .returned (.bool (decide ((x0, x1, x2, x3) ∈ l))) ∧ Below w.heap.size w w' := by
  have HKP := Lib.hid (box4s w x0 x1 x2 x3 33)
  obtain ⟨d0, d1, d2, d3, hbw⟩ := HKP.out _ (Below.refl _ _)
  have HW := Lib.hid hbw
  have HI := Lib.hid (index_any l x0 x1 x2 x3 hl v _ (hv.now hbw))
  clear hbw hv
  go_enter Tryd.func20, Tryd.ntmps20
  go_wp2_with (go_at_call 40; refine HI.out.mono ?_; rintro e w2 ⟨⟨i, rfl, hi⟩, b2⟩; have HIE := Lib.hid hi; have HB2 := Lib.hid (HW.out.trans (b2.mono HW.out.size)); clear hi b2)
  go_ret
  exact ⟨by rw [← HIE.out]; rfl, HB2.out⟩
theorem mth_RP (w : World) (a : Array Value) : (method 244 99 (.agg a) "loop.example/g03003/impl.part").run Tryd.prog w = .ok (104, .agg a) w := by kernel_rfl
theorem mth_CP (w : World) (a : Array Value) : (method 244 98 (.agg a) "loop.example/g03003/impl.part").run Tryd.prog w = .ok (102, .agg a) w := by kernel_rfl
set_option maxRecDepth 100000 in
set_option maxHeartbeats 3200000 in
theorem icellsof_any (r c : Int) (S : Int) (x0 : Int) (x1 : Bool) (x2 x3 : Int) (hc : 2 ≤ c ∧ c ≤ 6) (h2 : 0 ≤ x2 ∧ x2 < 36) (h3 : 2 ≤ x3 ∧ x3 ≤ 6) (w : World) :
    Calls Tryd.prog 21 #[.agg #[.int .i64 r, .int .i64 c, .int .u64 S], .agg #[.int .i64 x0, .bool x1, .int .i64 x2, .int .i64 x3]] w fun e w' => ∃ v, e = .returned v ∧ w'.ownsRow w.heap.size 3 1 v (cellsS c (x0, x1, x2, x3)).length ((cellsS c (x0, x1, x2, x3)).map (Value.int .i64)) ∧ Below w.heap.size w w' := by
  obtain ⟨n, rfl⟩ : ∃ n : Nat, x3 = (n : Int) := ⟨x3.toNat, by omega⟩
  have hmR := mth_RP
  have hmC := mth_CP
  have hLEN : (cellsS c (x0, x1, x2, (n : Int))).length = n := by rw [cellsS_length]; simp
  rw [hLEN]
  have HX := Lib.hid (box33 (Below.refl _ ((w.alloc (.cells #[.int .i64 r, .int .i64 c, .int .u64 S] 43)).alloc (.cells #[.int .i64 x0, .bool x1, .int .i64 x2, .int .i64 (n : Int)] 33))))
  obtain ⟨W0, hW0⟩ : ∃ W0, W0 = (w.alloc (.cells #[.int .i64 r, .int .i64 c, .int .u64 S] 43)).alloc (.cells #[.int .i64 x0, .bool x1, .int .i64 x2, .int .i64 (n : Int)] 33) := ⟨_, rfl⟩
  have HKP : Hid (∀ W : World, Below W0.heap.size W0 W → W.cell? ⟨w.heap.size, 0, none⟩ = some (.int .i64 r) ∧ W.cell? ⟨w.heap.size, 1, none⟩ = some (.int .i64 c) ∧ W.cell? ⟨w.heap.size, 2, none⟩ = some (.int .u64 S) ∧ W.cell? ⟨w.heap.size + 1, 0, none⟩ = some (.int .i64 x0) ∧ W.cell? ⟨w.heap.size + 1, 1, none⟩ = some (.bool x1) ∧ W.cell? ⟨w.heap.size + 1, 2, none⟩ = some (.int .i64 x2) ∧ W.cell? ⟨w.heap.size + 1, 3, none⟩ = some (.int .i64 (n : Int))) := Lib.hid (fun W h => by
    rw [hW0] at h
    obtain ⟨h1, h2, -⟩ := box33 h
    exact ⟨Joins.cell_of_block h1 0, Joins.cell_of_block h1 1, Joins.cell_of_block h1 2, Joins.cell_of_block h2 0, Joins.cell_of_block h2 1, Joins.cell_of_block h2 2, Joins.cell_of_block h2 3⟩)
  have HW : Hid (Below w.heap.size w W0) := Lib.hid (by rw [hW0]; exact HX.out.2.2)
  obtain ⟨d0, d1, d2, e0, e1, e2, e3⟩ := HKP.out _ (Below.refl _ _)
  go_enter Tryd.func21, Tryd.ntmps21
  go_wp2_with fail
  rw [← hW0]
  clear hW0 HX
  cases x1 with
  | true =>
    have HCE : Hid (∀ w : World, Calls Tryd.prog 41 #[.agg #[.int .i64 x2, .int .i64 c, .int .i64 (n : Int)]] w fun e w' => ∃ v, e = .returned v ∧ w'.ownsRow w.heap.size 3 1 v n ((cellsS c (x0, true, x2, (n : Int))).map (Value.int .i64)) ∧ Below w.heap.size w w') := Lib.hid (fun w => icells_any x2 c n (by omega) (by omega) (by omega) (by omega) (by omega) (by omega) w)
    go_region_held3 (fun w' => w'.cell? ⟨w.heap.size, 0, none⟩ = some (.int .i64 r) ∧ w'.cell? ⟨w.heap.size, 1, none⟩ = some (.int .i64 c) ∧ w'.cell? ⟨w.heap.size, 2, none⟩ = some (.int .u64 S) ∧ w'.cell? ⟨w.heap.size + 1, 0, none⟩ = some (.int .i64 x0) ∧ w'.cell? ⟨w.heap.size + 1, 1, none⟩ = some (.bool true) ∧ w'.cell? ⟨w.heap.size + 1, 2, none⟩ = some (.int .i64 x2) ∧ w'.cell? ⟨w.heap.size + 1, 3, none⟩ = some (.int .i64 (n : Int))) (first | exact ⟨d0, d1, d2, e0, e1, e2, e3⟩ | exact HKP.out _ B4.out | exact HKP.out _ B3.out | exact HKP.out _ B2.out) (first | (go_at_call 34; refine Calls.mono (lines_any r c S true _) ?_; rintro e w2 ⟨rfl, b2⟩; simp only [setV, if_true]; have B2 : Hid (Below W0.heap.size W0 w2) := Lib.hid (by first | exact b2 | exact ((Below.refl _ _).drew).trans b2); clear b2) | (go_at_call 102; refine Calls.mono (cpart_any r c S x2 (n : Int) _) ?_; rintro e w3 ⟨rfl, b3⟩; have B3 : Hid (Below W0.heap.size W0 w3) := Lib.hid (by first | exact btrans B2.out b3 | exact btrans B2.out.drew b3); clear b3) | (go_at_call 41; refine Calls.mono (HCE.out _) ?_; rintro e w4 ⟨v4, rfl, o4, b4⟩; have B4 : Hid (Below W0.heap.size W0 w4) := Lib.hid (by first | exact btrans B3.out b4 | exact btrans B3.out.drew b4); have O4 := Lib.hid (own_widen o4 (show w.heap.size ≤ _ from Nat.le_trans HW.out.size (by first | exact B3.out.size | exact B3.out.drew.size))); clear o4 b4))
    all_goals (go_wp2_with fail; go_ret; exact ⟨_, rfl, O4.out, HW.out.trans (B4.out.mono HW.out.size)⟩)
  | false =>
    have HCE : Hid (∀ w : World, Calls Tryd.prog 41 #[.agg #[.int .i64 x2, .int .i64 1, .int .i64 (n : Int)]] w fun e w' => ∃ v, e = .returned v ∧ w'.ownsRow w.heap.size 3 1 v n ((cellsS c (x0, false, x2, (n : Int))).map (Value.int .i64)) ∧ Below w.heap.size w w') := Lib.hid (fun w => icells_any x2 1 n (by omega) (by omega) (by omega) (by omega) (by omega) (by omega) w)
    go_region_held3 (fun w' => w'.cell? ⟨w.heap.size, 0, none⟩ = some (.int .i64 r) ∧ w'.cell? ⟨w.heap.size, 1, none⟩ = some (.int .i64 c) ∧ w'.cell? ⟨w.heap.size, 2, none⟩ = some (.int .u64 S) ∧ w'.cell? ⟨w.heap.size + 1, 0, none⟩ = some (.int .i64 x0) ∧ w'.cell? ⟨w.heap.size + 1, 1, none⟩ = some (.bool false) ∧ w'.cell? ⟨w.heap.size + 1, 2, none⟩ = some (.int .i64 x2) ∧ w'.cell? ⟨w.heap.size + 1, 3, none⟩ = some (.int .i64 (n : Int))) (first | exact ⟨d0, d1, d2, e0, e1, e2, e3⟩ | exact HKP.out _ B4.out | exact HKP.out _ B3.out | exact HKP.out _ B2.out) (first | (go_at_call 34; refine Calls.mono (lines_any r c S false _) ?_; rintro e w2 ⟨rfl, b2⟩; simp only [setV, Bool.false_eq_true, if_false]; have B2 : Hid (Below W0.heap.size W0 w2) := Lib.hid (by first | exact b2 | exact ((Below.refl _ _).drew).trans b2); clear b2) | (go_at_call 104; refine Calls.mono (rpart_any r c S x2 (n : Int) _) ?_; rintro e w3 ⟨rfl, b3⟩; have B3 : Hid (Below W0.heap.size W0 w3) := Lib.hid (by first | exact btrans B2.out b3 | exact btrans B2.out.drew b3); clear b3) | (go_at_call 41; refine Calls.mono (HCE.out _) ?_; rintro e w4 ⟨v4, rfl, o4, b4⟩; have B4 : Hid (Below W0.heap.size W0 w4) := Lib.hid (by first | exact btrans B3.out b4 | exact btrans B3.out.drew b4); have O4 := Lib.hid (own_widen o4 (show w.heap.size ≤ _ from Nat.le_trans HW.out.size (by first | exact B3.out.size | exact B3.out.drew.size))); clear o4 b4))
    all_goals (go_wp2_with fail; go_ret; exact ⟨_, rfl, O4.out, HW.out.trans (B4.out.mono HW.out.size)⟩)
end Go.Proofs.YtmhgejljjjmejaaDoor
namespace Go.Proofs.YtmhgejljjjmejaaDoor
open Go.RowKit

theorem brd_col {g : Int × Int × ByteArray} {x : SlotV} (h : x ∈ slG g) : (brd g).2.1 = g.2.1 := by
  obtain ⟨hg, -⟩ := slG_small h
  unfold brd
  rw [if_pos hg]
set_option maxRecDepth 100000 in
set_option maxHeartbeats 3200000 in
theorem icel_any (r c : Int) (s : ByteArray) (x0 : Int) (x1 : Bool) (x2 x3 : Int) (hs : s.size ≤ 4194304) (w : World) :
    Calls Tryd.prog 9 #[.agg #[.int .i64 r, .int .i64 c, .string s], .agg #[.int .i64 x0, .bool x1, .int .i64 x2, .int .i64 x3]] w fun e w' => ∃ v, e = .returned v ∧ w'.ownsRow w.heap.size 3 1 v (clG (r, c, s) (x0, x1, x2, x3)).length ((clG (r, c, s) (x0, x1, x2, x3)).map (Value.int .i64)) ∧ Below w.heap.size w w' := by
  have HBO := Lib.hid (fun w => ibo_any r c s hs w)
  have HSB := Lib.hid (fun w => slots_brd (r, c, s) w)
  have HLEN := Lib.hid (slG_length (r, c, s))
  have HCO : Hid ((x0, x1, x2, x3) ∈ slG (r, c, s) → ∀ w : World, Calls Tryd.prog 21 #[brdV (brd (r, c, s)), .agg #[.int .i64 x0, .bool x1, .int .i64 x2, .int .i64 x3]] w fun e w' => ∃ v, e = .returned v ∧ w'.ownsRow w.heap.size 3 1 v (clG (r, c, s) (x0, x1, x2, x3)).length ((clG (r, c, s) (x0, x1, x2, x3)).map (Value.int .i64)) ∧ Below w.heap.size w w') := Lib.hid (fun h w => by
    have hcol := brd_col h
    obtain ⟨-, h1, h2, h3, -⟩ := slG_small h
    rw [clG_in h]
    have h9 := icellsof_any (brd (r, c, s)).1 (brd (r, c, s)).2.1 ((brd (r, c, s)).2.2 : Int) x0 x1 x2 x3 (by rw [hcol]; exact h1) h2 h3 w
    rw [hcol] at h9
    unfold brdV
    rw [hcol]
    exact h9)
  have HNO : Hid ((x0, x1, x2, x3) ∉ slG (r, c, s) → clG (r, c, s) (x0, x1, x2, x3) = []) := Lib.hid (fun h => if_neg h)
  obtain ⟨l, hl⟩ : ∃ l, l = slG (r, c, s) := ⟨_, rfl⟩
  rw [← hl] at HSB HCO HNO HLEN
  clear hl
  obtain ⟨⟨b0, b1, b2⟩, hb⟩ : ∃ b, b = brd (r, c, s) := ⟨_, rfl⟩
  rw [← hb] at HBO HSB HCO
  clear hb
  simp only [brdV] at HBO HSB HCO
  obtain ⟨C, hC⟩ : ∃ C, C = clG (r, c, s) (x0, x1, x2, x3) := ⟨_, rfl⟩
  rw [← hC] at HCO HNO ⊢
  clear hC
  have HX := Lib.hid (box33 (Below.refl _ ((w.alloc (.cells #[.int .i64 r, .int .i64 c, .string s] 25)).alloc (.cells #[.int .i64 x0, .bool x1, .int .i64 x2, .int .i64 x3] 33))))
  obtain ⟨W0, hW0⟩ : ∃ W0, W0 = (w.alloc (.cells #[.int .i64 r, .int .i64 c, .string s] 25)).alloc (.cells #[.int .i64 x0, .bool x1, .int .i64 x2, .int .i64 x3] 33) := ⟨_, rfl⟩
  rw [← hW0] at HX
  have hws : W0.heap.size = w.heap.size + 2 := by rw [hW0]; simp
  obtain ⟨d0, d1, d2, -, -, -⟩ := cells3 HX.out.1
  go_enter Tryd.func9, Tryd.ntmps9
  rw [hW0] at d0 d1 d2
  go_wp2_with fail
  rw [← hW0] at d0 d1 d2 ⊢
  clear hW0
  go_wp2_with (go_at_call 17; refine (HBO.out _).mono ?_; rintro e w1 ⟨rfl, bb1⟩; have HB1 := Lib.hid bb1; clear bb1)
  obtain ⟨Q, hQ⟩ : ∃ Q, Q = w1.heap.size := ⟨_, rfl⟩
  have HBB := Lib.hid ((Below.refl w1.heap.size w1).alloc (Nat.le_refl _) (.cells #[.int .i64 b0, .int .i64 b1, .int .u64 (b2 : Int)] 43))
  have hnb := new_block w1 (.cells #[.int .i64 b0, .int .i64 b1, .int .u64 (b2 : Int)] 43)
  obtain ⟨W2, hW2⟩ : ∃ W2, W2 = w1.alloc (.cells #[.int .i64 b0, .int .i64 b1, .int .u64 (b2 : Int)] 43) := ⟨_, rfl⟩
  rw [← hW2] at HBB hnb ⊢
  rw [← hQ] at hnb ⊢
  have hs2 : W2.heap.size = Q + 1 := by rw [hW2, hQ]; simp
  have hQw : w.heap.size + 2 ≤ Q := by rw [hQ, ← hws]; exact HB1.out.size
  have HBW2 : Hid (Below W0.heap.size W0 W2) := Lib.hid (btrans HB1.out HBB.out)
  have HNB := Lib.hid hnb
  have HKP : Hid (∀ W : World, Below W2.heap.size W2 W → W.cell? ⟨Q, 0, none⟩ = some (.int .i64 b0) ∧ W.cell? ⟨Q, 1, none⟩ = some (.int .i64 b1) ∧ W.cell? ⟨Q, 2, none⟩ = some (.int .u64 (b2 : Int)) ∧ W.cell? ⟨w.heap.size + 1, 0, none⟩ = some (.int .i64 x0) ∧ W.cell? ⟨w.heap.size + 1, 1, none⟩ = some (.bool x1) ∧ W.cell? ⟨w.heap.size + 1, 2, none⟩ = some (.int .i64 x2) ∧ W.cell? ⟨w.heap.size + 1, 3, none⟩ = some (.int .i64 x3)) := Lib.hid (fun W h => by
    have h1 := (h.block Q (by omega)).trans HNB.out
    have h2 := (h.block (w.heap.size + 1) (by omega)).trans ((HBW2.out.block (w.heap.size + 1) (by omega)).trans HX.out.2.1)
    exact ⟨Joins.cell_of_block h1 0, Joins.cell_of_block h1 1, Joins.cell_of_block h1 2, Joins.cell_of_block h2 0, Joins.cell_of_block h2 1, Joins.cell_of_block h2 2, Joins.cell_of_block h2 3⟩)
  have HW2 : Hid (Below w.heap.size w W2) := Lib.hid (HX.out.2.2.trans (HBW2.out.mono HX.out.2.2.size))
  obtain ⟨k0, k1, k2, e0, e1, e2, e3⟩ := HKP.out _ (Below.refl _ _)
  obtain ⟨p, hp⟩ : ∃ p, p = decide ((x0, x1, x2, x3) ∈ l) := ⟨_, rfl⟩
  have HCN := Lib.hid (fun v w h => contains_any l x0 x1 x2 x3 (by have := HLEN.out; omega) v w h)
  rw [← hp] at HCN
  have HP := Lib.hid hp
  clear hp hW2 hQ d0 d1 d2 hnb
  cases p with
  | true =>
    have HCE := Lib.hid (HCO.out (of_decide_eq_true HP.out.symm))
    go_region_held3 (fun w' => w'.cell? ⟨Q, 0, none⟩ = some (.int .i64 b0) ∧ w'.cell? ⟨Q, 1, none⟩ = some (.int .i64 b1) ∧ w'.cell? ⟨Q, 2, none⟩ = some (.int .u64 (b2 : Int)) ∧ w'.cell? ⟨w.heap.size + 1, 0, none⟩ = some (.int .i64 x0) ∧ w'.cell? ⟨w.heap.size + 1, 1, none⟩ = some (.bool x1) ∧ w'.cell? ⟨w.heap.size + 1, 2, none⟩ = some (.int .i64 x2) ∧ w'.cell? ⟨w.heap.size + 1, 3, none⟩ = some (.int .i64 x3)) (first | exact ⟨k0, k1, k2, e0, e1, e2, e3⟩ | exact HKP.out _ B4.out | exact HKP.out _ B3.out) (first | (go_at_call 18; refine Calls.mono (HSB.out _) ?_; rintro e w3 ⟨v3, rfl, o3, b3⟩; have B3 : Hid (Below W2.heap.size W2 w3) := Lib.hid (by first | exact b3 | exact ((Below.refl _ _).drew).trans b3); have R3 := Lib.hid (reads_Slot_own o3 rfl (by have := HLEN.out; omega)); clear o3 b3) | (go_at_call 20; refine Calls.mono (HCN.out _ _ (by first | exact R3.out | exact R3.out.now ((Below.refl _ _).drew))) ?_; rintro e w4 ⟨rfl, b4⟩; have B4 : Hid (Below W2.heap.size W2 w4) := Lib.hid (by first | exact btrans B3.out b4 | exact btrans B3.out.drew b4); clear b4))
    all_goals obtain ⟨m0, m1, m2, n0, n1, n2, n3⟩ := HKP.out _ B4.out
    all_goals go_wp2_with (go_at_call 21; refine (HCE.out _).mono ?_; rintro e w5 ⟨v5, rfl, o5, b5⟩; have B5 := Lib.hid (btrans B4.out b5); have O5 := Lib.hid (own_widen o5 (Nat.le_trans HW2.out.size B4.out.size)); clear o5 b5)
    all_goals (go_ret; exact ⟨_, rfl, O5.out, HW2.out.trans (B5.out.mono HW2.out.size)⟩)
  | false =>
    have HC0 := Lib.hid (HNO.out (of_decide_eq_false HP.out.symm))
    go_region_held3 (fun w' => w'.cell? ⟨Q, 0, none⟩ = some (.int .i64 b0) ∧ w'.cell? ⟨Q, 1, none⟩ = some (.int .i64 b1) ∧ w'.cell? ⟨Q, 2, none⟩ = some (.int .u64 (b2 : Int)) ∧ w'.cell? ⟨w.heap.size + 1, 0, none⟩ = some (.int .i64 x0) ∧ w'.cell? ⟨w.heap.size + 1, 1, none⟩ = some (.bool x1) ∧ w'.cell? ⟨w.heap.size + 1, 2, none⟩ = some (.int .i64 x2) ∧ w'.cell? ⟨w.heap.size + 1, 3, none⟩ = some (.int .i64 x3)) (first | exact ⟨k0, k1, k2, e0, e1, e2, e3⟩ | exact HKP.out _ B4.out | exact HKP.out _ B3.out) (first | (go_at_call 18; refine Calls.mono (HSB.out _) ?_; rintro e w3 ⟨v3, rfl, o3, b3⟩; have B3 : Hid (Below W2.heap.size W2 w3) := Lib.hid (by first | exact b3 | exact ((Below.refl _ _).drew).trans b3); have R3 := Lib.hid (reads_Slot_own o3 rfl (by have := HLEN.out; omega)); clear o3 b3) | (go_at_call 20; refine Calls.mono (HCN.out _ _ (by first | exact R3.out | exact R3.out.now ((Below.refl _ _).drew))) ?_; rintro e w4 ⟨rfl, b4⟩; have B4 : Hid (Below W2.heap.size W2 w4) := Lib.hid (by first | exact btrans B3.out b4 | exact btrans B3.out.drew b4); clear b4))
    all_goals go_wp2_with fail
    all_goals (go_ret; exact ⟨_, rfl, by rw [HC0.out]; exact own_widen (own_zero _ 3 1) (by have h1 := HW2.out.size; have h2 := B4.out.size; first | omega | (simp; omega)), HW2.out.trans ((by first | exact B4.out.alloc B4.out.size _ | exact B4.out.drew.alloc B4.out.drew.size _ : Below W2.heap.size W2 _).mono HW2.out.size)⟩)
set_option maxHeartbeats 800000 in
theorem idxI_any (l : List Int) (x : Int) (hl : l.length ≤ 16777216) (v : Value) (w : World) (hv : Reads w.heap.size w v .i64 l) :
    Calls Tryd.prog 45 #[v, .int .i64 x] w fun e w' => (∃ i : Int, e = .returned (.int .i64 i) ∧ decide (0 ≤ i) = hasI l x) ∧ w = w' := by
  obtain ⟨-, a0, cap, rfl, -, hc⟩ := hv
  have HC := Lib.hid hc
  clear hc
  go_enter Tryd.func45, Tryd.ntmps45
  go_wp2
  go_loopw [8] (fun i wr => ∃ k : Nat, k ≤ l.length ∧ i = .int .i64 k ∧ Hid (∀ y ∈ l.take k, y ≠ x) ∧ w = wr) (fun i _ => l.length - (intOf i).toNat)
  case atStart => exact ⟨0, Nat.zero_le _, rfl, Lib.hid (by simp), rfl⟩
  case round =>
    obtain ⟨k, hk, rfl, HN, rfl⟩ := hrel
    by_cases hlt : k < l.length
    · have hd : decide ((k : Int) < (l.length : Int)) = true := decide_eq_true (by omega)
      obtain ⟨b, off, rfl, hb, q0⟩ := HC.out k hlt
      have HT : Hid (l.take (k + 1) = l.take k ++ [l.getD k 0]) := Lib.hid (by rw [List.take_succ_eq_append_getElem hlt, List.getD_eq_getElem?_getD, List.getElem?_eq_getElem hlt]; rfl)
      have HM : Hid (l.getD k 0 ∈ l) := Lib.hid (by rw [List.getD_eq_getElem?_getD, List.getElem?_eq_getElem hlt]; exact List.getElem_mem hlt)
      obtain ⟨z, hz⟩ : ∃ z, z = l.getD k 0 := ⟨_, rfl⟩
      rw [← hz] at q0 HT HM
      clear hz
      by_cases he : x = z
      · subst he
        have HF : Hid (hasI l x = true) := Lib.hid (hasI_iff.2 HM.out)
        go_wp2
        go_ret
        exact ⟨⟨(k : Int), rfl, by rw [HF.out]; exact decide_eq_true (by omega)⟩, rfl⟩
      · have hne : (x == z) = false := by simpa using he
        have HN2 : Hid (∀ y ∈ l.take (k + 1), y ≠ x) := Lib.hid (fun y hy => by
          rw [HT.out] at hy
          rcases List.mem_append.1 hy with h | h
          · exact HN.out y h
          · simp only [List.mem_singleton] at h; subst h; exact fun e => he e.symm)
        clear he
        go_wp2
        go_roundw
        case rel => exact ⟨k + 1, by omega, by go_num, HN2, by trivial⟩
        case measure => simp [intOf]; omega
    · have hd : decide ((k : Int) < (l.length : Int)) = false := decide_eq_false (by omega)
      have HF : Hid (hasI l x = false) := Lib.hid (by
        rcases hb : hasI l x with _ | _
        · rfl
        · have h9 := hasI_iff.1 hb
          have h8 := HN.out
          rw [List.take_of_length_le (by omega)] at h8
          exact absurd rfl (h8 x h9))
      go_wp2
      go_ret
      exact ⟨⟨-1, rfl, by rw [HF.out]; rfl⟩, rfl⟩
theorem conI_any (l : List Int) (x : Int) (hl : l.length ≤ 16777216) (v : Value) (w : World) (hv : Reads w.heap.size w v .i64 l) :
    Calls Tryd.prog 26 #[v, .int .i64 x] w fun e w' => e = .returned (.bool (hasI l x)) ∧ w = w' := by
  have HI := Lib.hid (idxI_any l x hl v w hv)
  clear hv
  go_enter Tryd.func26, Tryd.ntmps26
  go_wp2_with (go_at_call 45; refine HI.out.mono ?_; rintro e w2 ⟨⟨i, rfl, hi⟩, rfl⟩; have HIE := Lib.hid hi; clear hi)
  go_ret
  exact ⟨by rw [← HIE.out]; rfl, rfl⟩
end Go.Proofs.YtmhgejljjjmejaaDoor
