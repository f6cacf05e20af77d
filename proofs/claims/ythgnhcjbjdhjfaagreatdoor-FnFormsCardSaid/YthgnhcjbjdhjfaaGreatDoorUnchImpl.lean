/-
  The program's contracts of unchecked and UncheckedIn.
-/
import Derived.Test.YthgnhcjbjdhjfaaGreatDoorCrossImplC
import Derived.Test.YthgnhcjbjdhjfaaGreatDoorFillA
import Derived.Test.YthgnhcjbjdhjfaaGreatDoorKit
import Derived.Deep.RegionWith
import Derived.Deep.DeepCutAuto
import Derived.Deep.RegionHeld3
namespace Go.Proofs.YthgnhcjbjdhjfaaGreatDoor
open Go.RowKit

theorem box2_of {w w' : World} {A B : Array Value} {t u : TypeId} (h : Below ((w.alloc (.cells A t)).alloc (.cells B u)).heap.size ((w.alloc (.cells A t)).alloc (.cells B u)) w') : Below w.heap.size w w' := box1_of (box1_of h)
theorem take_getDJ {l : List Int} {k : Nat} (h : k < l.length) : l.take (k + 1) = l.take k ++ [l.getD k 0] := by
  rw [List.take_succ_eq_append_getElem h, List.getD_eq_getElem?_getD, List.getElem?_eq_getElem h]
  rfl
theorem unch_col {g : Int × Int × ByteArray} {x : SlotV} (h : x ∈ slG g) (w : World) : Calls Tryz.prog 76 #[brdV (brd g), .agg #[.int .i64 x.1, .bool x.2.1, .int .i64 x.2.2.1, .int .i64 x.2.2.2]] w fun e w' => ∃ v, e = .returned v ∧ w'.ownsRow w.heap.size 3 1 v (cellsS g.2.1 x).length ((cellsS g.2.1 x).map (Value.int .i64)) ∧ Below w.heap.size w w' := by
  have hcol := brd_col h
  obtain ⟨-, h1, h2, h3, -⟩ := slG_small h
  have h9 := icellsof_any (brd g).1 (brd g).2.1 ((brd g).2.2 : Int) x.1 x.2.1 x.2.2.1 x.2.2.2 (by rw [hcol]; exact h1) h2 h3 w
  rw [hcol] at h9
  unfold brdV
  rw [hcol]
  exact h9
set_option maxRecDepth 100000 in
set_option maxHeartbeats 1600000 in
theorem unch_brd (g : Int × Int × ByteArray) (x : SlotV) (hx : x ∈ slG g) (M : Nat) (w : World) (hm : PairMap w M (spotsTo g.2.1 (slG g) (slG g).length)) :
    Calls Tryz.prog 38 #[brdV (brd g), .agg #[.int .i64 x.1, .bool x.2.1, .int .i64 x.2.2.1, .int .i64 x.2.2.2], .map (some M)] w fun e w' => e = .returned (.int .i64 ((unchN (slG g) g.2.1 (cellsS g.2.1 x) : Nat) : Int)) ∧ Below w.heap.size w w' := by
  have HC1 := Lib.hid (fun w => unch_col hx w)
  have HM := Lib.hid hm
  have HZR : Hid (∀ q ∈ cellsS g.2.1 x, 0 ≤ q ∧ q < 36) := Lib.hid (fun q hq => cells_range hx hq)
  have HZ6 : Hid ((cellsS g.2.1 x).length ≤ 6) := Lib.hid (by rw [cellsS_length]; have := (slG_small hx).2.2.2.1; omega)
  have HPD : Hid (∀ q : Int, secP ((pairQ (spotsTo g.2.1 (slG g) (slG g).length) q).getD zeroP) = chkL (slG g) g.2.1 q) := Lib.hid (fun q => (pair_cross (slG g) g.2.1 q slG_cells_nodup (inS_two g q)).1)
  clear hm hx
  obtain ⟨Sp, hSp⟩ : ∃ Sp, Sp = spotsTo g.2.1 (slG g) (slG g).length := ⟨_, rfl⟩
  rw [← hSp] at HM HPD
  clear hSp
  obtain ⟨Z, hZ⟩ : ∃ Z, Z = cellsS g.2.1 x := ⟨_, rfl⟩
  rw [← hZ] at HC1 HZ6 HZR ⊢
  clear hZ
  obtain ⟨l, hl⟩ : ∃ l, l = slG g := ⟨_, rfl⟩
  rw [← hl] at HPD ⊢
  clear hl
  obtain ⟨⟨b0, b1, b2⟩, hb⟩ : ∃ b, b = brd g := ⟨_, rfl⟩
  rw [← hb] at HC1 ⊢
  clear hb
  obtain ⟨c, hc⟩ : ∃ c, c = g.2.1 := ⟨_, rfl⟩
  rw [← hc] at HPD ⊢
  clear hc g
  obtain ⟨t0, t1, t2, t3⟩ := x
  simp only [brdV] at HC1 ⊢
  have hz6 := HZ6.out
  go_enter Tryz.func38, Tryz.ntmps38
  go_wp2_with (go_at_call 76; refine (HC1.out _).mono ?_; rintro e w7 ⟨v7, rfl, o7, b7⟩; obtain ⟨a7, cap7, rfl⟩ := ownV_slice o7; have HO7 := Lib.hid o7; have BT7 := Lib.hid b7; clear o7 b7)
  have HM7 := Lib.hid (pm_below HM.out (box2_of BT7.out))
  have HB7 := Lib.hid (box2_of BT7.out)
  have HZ7 := Lib.hid (own_widen HO7.out (show w.heap.size ≤ _ by simp; omega))
  clear HM HO7 BT7
  go_loopw [7, 14] (fun n i wr => ∃ m : Nat, m ≤ Z.length ∧ i = .int .i64 (m : Int) ∧ n = .int .i64 ((unchN l c (Z.take m) : Nat) : Int) ∧ Hid (PairMap wr M Sp) ∧ Hid (wr.ownsRow w.heap.size 3 1 (.slice a7 Z.length cap7) Z.length (Z.map (Value.int .i64))) ∧ Hid (Below w.heap.size w wr)) (fun _ i _ => Z.length - (intOf i).toNat)
  case atStart => exact ⟨0, Nat.zero_le _, rfl, rfl, HM7, HZ7, HB7⟩
  case round =>
    clear HM7 HZ7 HB7
    obtain ⟨m, hm, rfl, rfl, HM, HZ, HB⟩ := hrel
    by_cases hlt2 : m < Z.length
    · have hd : decide ((m : Int) < (Z.length : Int)) = true := decide_eq_true (by omega)
      have hd9 : decide (m < Z.length) = true := decide_eq_true hlt2
      obtain ⟨b5, rfl, q0⟩ := int_cell HZ.out rfl m hlt2
      have HQ : Hid (0 ≤ Z.getD m 0 ∧ Z.getD m 0 < 36) := Lib.hid (HZR.out _ (by simp [List.getD, hlt2]))
      have HUX := Lib.hid (unchN_next l c (Z.take m) (Z.getD m 0))
      rw [← take_getDJ hlt2] at HUX
      have HUL : Hid (unchN l c (Z.take m) ≤ 6) := Lib.hid (by unfold unchN; exact Nat.le_trans (List.length_filter_le _ _) (Nat.le_trans (List.length_take_le _ _) (by omega)))
      obtain ⟨q, hq⟩ : ∃ q, q = Z.getD m 0 := ⟨_, rfl⟩
      rw [← hq] at q0 HQ HUX
      clear hq
      have HQW : Hid ((Lit.int .i64 q).wf = true) := Lib.hid (wf_cell HQ.out.1 (by have := HQ.out.2; omega))
      have HSE := Lib.hid (HPD.out q)
      obtain ⟨p, hp⟩ : ∃ p, p = (pairQ Sp q).getD zeroP := ⟨_, rfl⟩
      have HV : Hid (encP p = encP ((pairQ Sp q).getD zeroP)) := Lib.hid (by rw [hp])
      rw [← hp] at HSE
      clear hp
      have HSC := Lib.hid (fun w => iscr_any p w)
      rw [HSE.out] at HSC
      clear HSE
      obtain ⟨sb, hsb⟩ : ∃ sb, sb = chkL l c q := ⟨_, rfl⟩
      rw [← hsb] at HSC HUX
      clear hsb
      obtain ⟨⟨p1, p2⟩, p3, p4⟩ := p
      simp only at HSC
      have HV2 : Hid (Value.agg #[.int .i64 (p1 : Int), .int .i64 (p2 : Int), .int .i64 (p3 : Int), .int .i64 (p4 : Int)] = encP ((pairQ Sp q).getD zeroP)) := HV
      clear HV
      obtain ⟨U, hU⟩ : ∃ U, U = unchN l c (Z.take m) := ⟨_, rfl⟩
      rw [← hU] at HUX HUL ⊢
      clear hU
      have hu6 := HUL.out
      have hwu : IntKind.i64.wrap ((U : Int) + 1) = (U : Int) + 1 := by rw [IntKind.wrap_i64]; omega
      cases sb with
      | true =>
        have HUE : Hid ((U : Int) = ((unchN l c (Z.take (m + 1)) : Nat) : Int)) := Lib.hid (by rw [HUX.out]; simp)
        clear HUX
        go_wp2_with (first | (at_lookup; refine wp_look rfl _ _ rfl M Sp rfl HM.out q rfl HQW.out _ HV2.out ?_) | (go_at_call 77; refine (HSC.out _).mono ?_; rintro e w9 ⟨rfl, b9⟩; have HM9 := Lib.hid (pm_below HM.out b9); have HZ9 := Lib.hid (own_later HZ.out b9); have HB9 := Lib.hid (HB.out.trans (b9.mono HB.out.size)); clear b9))
        go_roundw
        case rel => exact ⟨m + 1, by omega, by go_num, by rw [HUE.out], HM9, HZ9, HB9⟩
        case measure => simp [intOf]; omega
      | false =>
        have HUE : Hid ((U : Int) + 1 = ((unchN l c (Z.take (m + 1)) : Nat) : Int)) := Lib.hid (by rw [HUX.out]; simp)
        clear HUX
        go_wp2_with (first | (at_lookup; refine wp_look rfl _ _ rfl M Sp rfl HM.out q rfl HQW.out _ HV2.out ?_) | (go_at_call 77; refine (HSC.out _).mono ?_; rintro e w9 ⟨rfl, b9⟩; have HM9 := Lib.hid (pm_below HM.out b9); have HZ9 := Lib.hid (own_later HZ.out b9); have HB9 := Lib.hid (HB.out.trans (b9.mono HB.out.size)); clear b9))
        go_roundw
        case rel => exact ⟨m + 1, by omega, by go_num, by rw [HUE.out], HM9, HZ9, HB9⟩
        case measure => simp [intOf]; omega
    · have hd : decide ((m : Int) < (Z.length : Int)) = false := decide_eq_false (by omega)
      have hd9 : decide (m < Z.length) = false := decide_eq_false hlt2
      have HF : Hid (unchN l c (Z.take m) = unchN l c Z) := Lib.hid (by rw [show m = Z.length by omega, List.take_length])
      go_wp2
      go_ret
      exact ⟨by rw [← HF.out]; rfl, HB.out⟩
set_option maxRecDepth 100000 in
set_option maxHeartbeats 1600000 in
theorem iun_any (r c : Int) (s : ByteArray) (k : Int) (hs : s.size ≤ 4194304) (_lo : -9223372036854775808 ≤ k) (_hi : k ≤ 9223372036854775807) (w : World) :
    Calls Tryz.prog 14 #[.agg #[.int .i64 r, .int .i64 c, .string s], .int .i64 k] w fun e w' => e = .returned (.int .i64 (unchS (r, c, s) k)) ∧ Below w.heap.size w w' := by
  have HBO := Lib.hid (fun w => ibo_any r c s hs w)
  have HSO := Lib.hid (fun w => isof_any (r, c, s) k w)
  have HPB := Lib.hid (fun w => pairs_brd r c s w)
  have HUN : Hid (unchS (r, c, s) k = if 0 ≤ k ∧ k < ((slG (r, c, s)).length : Int) then ((unchN (slG (r, c, s)) c (cellsS c ((slG (r, c, s)).getD k.toNat none_Slot)) : Nat) : Int) else -1) := Lib.hid rfl
  have HUB : Hid (∀ x ∈ slG (r, c, s), ∀ (M : Nat) (w : World), PairMap w M (spotsTo c (slG (r, c, s)) (slG (r, c, s)).length) → Calls Tryz.prog 38 #[brdV (brd (r, c, s)), slotV x, .map (some M)] w fun e w' => e = .returned (.int .i64 ((unchN (slG (r, c, s)) c (cellsS c x) : Nat) : Int)) ∧ Below w.heap.size w w') := Lib.hid (fun x hx M w hm => unch_brd (r, c, s) x hx M w hm)
  have HSN : Hid (slotN (r, c, s) k = if 0 ≤ k ∧ k < ((slG (r, c, s)).length : Int) then (slG (r, c, s)).getD k.toNat none_Slot else none_Slot) := Lib.hid rfl
  rw [HUN.out]
  clear HUN
  obtain ⟨l, hl⟩ : ∃ l, l = slG (r, c, s) := ⟨_, rfl⟩
  rw [← hl] at HSO HPB HUB HSN ⊢
  clear hl
  obtain ⟨SN, hSN⟩ : ∃ SN, SN = slotN (r, c, s) k := ⟨_, rfl⟩
  rw [← hSN] at HSO HSN
  clear hSN
  obtain ⟨Sp, hSp⟩ : ∃ Sp, Sp = spotsTo c l l.length := ⟨_, rfl⟩
  rw [← hSp] at HPB HUB
  clear hSp
  obtain ⟨⟨b0, b1, b2⟩, hb⟩ : ∃ b, b = brd (r, c, s) := ⟨_, rfl⟩
  rw [← hb] at HBO HSO HPB HUB
  clear hb
  simp only [brdV] at HBO HSO HPB HUB
  have HBK : Hid (∀ (W : World) (Q : Nat), W.heap[Q]? = some (.cells #[.int .i64 b0, .int .i64 b1, .int .u64 (b2 : Int)] 63) → W.cell? ⟨Q, 0, none⟩ = some (.int .i64 b0) ∧ W.cell? ⟨Q, 1, none⟩ = some (.int .i64 b1) ∧ W.cell? ⟨Q, 2, none⟩ = some (.int .u64 (b2 : Int))) := Lib.hid (fun W Q h => ⟨Joins.cell_of_block h 0, Joins.cell_of_block h 1, Joins.cell_of_block h 2⟩)
  by_cases hin : 0 ≤ k ∧ k < (l.length : Int)
  · have HIN := Lib.hid hin
    rw [if_pos hin]
    rw [decide_eq_true hin] at HSO
    obtain ⟨j, rfl⟩ : ∃ j : Nat, k = j := ⟨k.toNat, by omega⟩
    have hj : j < l.length := by omega
    have hSE : SN = l.getD j none_Slot := by rw [HSN.out, if_pos hin, Int.toNat_natCast]
    rw [Int.toNat_natCast]
    have HI := Lib.hid (getD_in hj)
    rw [← hSE] at HI ⊢
    clear hin hSE HSN HIN
    have HU1 := Lib.hid (HUB.out SN HI.out)
    clear HUB
    obtain ⟨U, hU⟩ : ∃ U, U = unchN l c (cellsS c SN) := ⟨_, rfl⟩
    rw [← hU] at HU1 ⊢
    clear hU HI
    obtain ⟨t0, t1, t2, t3⟩ := SN
    simp only [slotV] at HU1 HSO
    go_enter Tryz.func14, Tryz.ntmps14
    go_wp2_with (first | (go_at_call 32; refine (HBO.out _).mono ?_; rintro e w1 ⟨rfl, bb1⟩; have HB1 := Lib.hid (box1_of bb1); have HA1 := Lib.hid ((Below.refl w1.heap.size w1).alloc (Nat.le_refl _) (.cells #[.int .i64 b0, .int .i64 b1, .int .u64 (b2 : Int)] 63)); have HB2 := Lib.hid (HB1.out.trans (HA1.out.mono HB1.out.size)); have HX2 := Lib.hid (new_block w1 (.cells #[.int .i64 b0, .int .i64 b1, .int .u64 (b2 : Int)] 63)); clear bb1) | (go_at_call 37; refine (HSO.out _).mono ?_; rintro e w4 ⟨rfl, b4⟩; have HX4 := Lib.hid ((b4.block w1.heap.size (size_of_heap HX2.out)).trans HX2.out); have HB4 := Lib.hid (HB2.out.trans (b4.mono HB2.out.size)); have HA4 := Lib.hid ((Below.refl w4.heap.size w4).alloc (Nat.le_refl _) (.cells #[.int .i64 t0, .bool t1, .int .i64 t2, .int .i64 t3] 34)); have HX5 := Lib.hid ((HA4.out.block _ (size_of_heap HX4.out)).trans HX4.out); have HY5 := Lib.hid (new_block w4 (.cells #[.int .i64 t0, .bool t1, .int .i64 t2, .int .i64 t3] 34)); have HB5 := Lib.hid (HB4.out.trans (HA4.out.mono HB4.out.size)); clear b4))
    obtain ⟨W5, hW5⟩ : ∃ W5, W5 = w4.alloc (.cells #[.int .i64 t0, .bool t1, .int .i64 t2, .int .i64 t3] 34) := ⟨_, rfl⟩
    rw [← hW5] at HX5 HY5 HB5 ⊢
    clear hW5
    have SOT : Hid (∀ W : World, Below W5.heap.size W5 W → (W.cell? ⟨w1.heap.size, 0, none⟩ = some (.int .i64 b0) ∧ W.cell? ⟨w1.heap.size, 1, none⟩ = some (.int .i64 b1) ∧ W.cell? ⟨w1.heap.size, 2, none⟩ = some (.int .u64 (b2 : Int))) ∧ (W.cell? ⟨w4.heap.size, 0, none⟩ = some (.int .i64 t0) ∧ W.cell? ⟨w4.heap.size, 1, none⟩ = some (.bool t1) ∧ W.cell? ⟨w4.heap.size, 2, none⟩ = some (.int .i64 t2) ∧ W.cell? ⟨w4.heap.size, 3, none⟩ = some (.int .i64 t3))) := Lib.hid (fun W h => by
      have h9 := (h.block _ (size_of_heap HY5.out)).trans HY5.out
      exact ⟨HBK.out _ _ ((h.block _ (size_of_heap HX5.out)).trans HX5.out), Joins.cell_of_block h9 0, Joins.cell_of_block h9 1, Joins.cell_of_block h9 2, Joins.cell_of_block h9 3⟩)
    clear HX2 HX4 HB1 HB2 HB4 HA1 HA4 HX5 HY5 HBO HSO HBK
    have hbn : Below W5.heap.size W5 W5 := Below.refl _ _
    have F1 := Lib.hid trivial
    go_region_held3 (fun W => (W.cell? ⟨w1.heap.size, 0, none⟩ = some (.int .i64 b0) ∧ W.cell? ⟨w1.heap.size, 1, none⟩ = some (.int .i64 b1) ∧ W.cell? ⟨w1.heap.size, 2, none⟩ = some (.int .u64 (b2 : Int))) ∧ (W.cell? ⟨w4.heap.size, 0, none⟩ = some (.int .i64 t0) ∧ W.cell? ⟨w4.heap.size, 1, none⟩ = some (.bool t1) ∧ W.cell? ⟨w4.heap.size, 2, none⟩ = some (.int .i64 t2) ∧ W.cell? ⟨w4.heap.size, 3, none⟩ = some (.int .i64 t3))) (first | exact SOT.out _ hbn | exact SOT.out _ hbn.drew) (first | (have FG := F1; go_at_call 39; refine Calls.mono (HPB.out _) ?_; rintro e w6 ⟨M, rfl, hM, m6, b6⟩; have HM6 := Lib.hid m6; have hbm : Below W5.heap.size W5 _ := (by first | exact hbn.trans (b6.mono hbn.size) | exact hbn.drew.trans b6); clear hbn; have hbn := hbm; clear hbm b6 m6 hM F1 FG; have F2 := Lib.hid trivial) | (have FG := F2; go_at_call 38; refine Calls.mono (HU1.out M _ HM6.out) ?_; rintro e w7 ⟨rfl, b7⟩; have hbm : Below W5.heap.size W5 _ := (by first | exact hbn.trans (b7.mono hbn.size) | exact hbn.drew.trans b7); clear hbn; have hbn := hbm; clear hbm b7; have HB7 := Lib.hid (HB5.out.trans (hbn.mono HB5.out.size)); clear F2 FG))
    all_goals go_wp2_with fail
    all_goals go_ret
    all_goals exact ⟨rfl, HB7.out⟩
  · rw [if_neg hin]
    rw [decide_eq_false hin] at HSO
    obtain ⟨t0, t1, t2, t3⟩ := SN
    simp only [slotV] at HSO
    clear hin HSN HUB HPB
    go_enter Tryz.func14, Tryz.ntmps14
    go_wp2_with (first | (go_at_call 32; refine (HBO.out _).mono ?_; rintro e w1 ⟨rfl, bb1⟩; have HB1 := Lib.hid (box1_of bb1); have HB2 := Lib.hid (HB1.out.alloc HB1.out.size (.cells #[.int .i64 b0, .int .i64 b1, .int .u64 (b2 : Int)] 63)); clear bb1) | (go_at_call 37; refine (HSO.out _).mono ?_; rintro e w4 ⟨rfl, b4⟩; have HB4 := Lib.hid (HB2.out.trans (b4.mono HB2.out.size)); have HB5 := Lib.hid (HB4.out.alloc HB4.out.size (.cells #[.int .i64 t0, .bool t1, .int .i64 t2, .int .i64 t3] 34)); clear b4))
    go_ret
    exact ⟨rfl, HB5.out⟩
end Go.Proofs.YthgnhcjbjdhjfaaGreatDoor
