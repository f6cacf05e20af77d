/-
  The program's contracts of unchecked and UncheckedIn.
-/
import Derived.Test.YtgpplfhbgkcjhaaDoorCrossImplC
import Derived.Test.YtgpplfhbgkcjhaaDoorModC
import Derived.Deep.RegionWith
import Derived.Deep.DeepCutAuto
import Derived.Deep.RegionHeld3
namespace Go.Proofs.YtgpplfhbgkcjhaaDoor
open Go.RowKit

theorem box2_of {w w' : World} {A B : Array Value} {t u : TypeId} (h : Below ((w.alloc (.cells A t)).alloc (.cells B u)).heap.size ((w.alloc (.cells A t)).alloc (.cells B u)) w') : Below w.heap.size w w' := box1_of (box1_of h)
theorem take_getDJ {l : List Int} {k : Nat} (h : k < l.length) : l.take (k + 1) = l.take k ++ [l.getD k 0] := by
  rw [List.take_succ_eq_append_getElem h, List.getD_eq_getElem?_getD, List.getElem?_eq_getElem h]
  rfl
theorem unch_col {g : Int × Int × ByteArray} {x : SlotV} (h : x ∈ slG g) (w : World) : Calls Tryd.prog 35 #[brdV (brd g), .agg #[.int .i64 x.1, .bool x.2.1, .int .i64 x.2.2.1, .int .i64 x.2.2.2]] w fun e w' => ∃ v, e = .returned v ∧ w'.ownsRow w.heap.size 3 1 v (cellsS g.2.1 x).length ((cellsS g.2.1 x).map (Value.int .i64)) ∧ Below w.heap.size w w' := by
  have hcol := brd_col h
  obtain ⟨-, h1, h2, h3, -⟩ := slG_small h
  have h9 := icellsof_any (brd g).1 (brd g).2.1 ((brd g).2.2 : Int) x.1 x.2.1 x.2.2.1 x.2.2.2 (by rw [hcol]; exact h1) h2 h3 w
  rw [hcol] at h9
  unfold brdV
  rw [hcol]
  exact h9
set_option maxRecDepth 100000 in
set_option maxHeartbeats 1600000 in
theorem unch_brd (g : Int × Int × ByteArray) (x : SlotV) (hx : x ∈ slG g) (M : Nat) (w : World) (hm : PairMap w M (spotsTo g.2.1 (slG g) (slG g).length)) :
    Calls Tryd.prog 139 #[brdV (brd g), .agg #[.int .i64 x.1, .bool x.2.1, .int .i64 x.2.2.1, .int .i64 x.2.2.2], .map (some M)] w fun e w' => e = .returned (.int .i64 ((unchN (slG g) g.2.1 (cellsS g.2.1 x) : Nat) : Int)) ∧ Below w.heap.size w w' := by
  have HC1 := Lib.hid (fun w => unch_col hx w)
  have HM := Lib.hid hm
  have HZR : Hid (∀ q ∈ cellsS g.2.1 x, 0 ≤ q ∧ q < 36) := Lib.hid (fun q hq => cells_range hx hq)
  have HZ6 : Hid ((cellsS g.2.1 x).length ≤ 6) := Lib.hid (by rw [cellsS_length]; have := (slG_small hx).2.2.2.1; omega)
  have HPD : Hid (∀ q : Int, secP ((pairQ (spotsTo g.2.1 (slG g) (slG g).length) q).getD zeroP) = chkL (slG g) g.2.1 q) := Lib.hid (fun q => (pair_cross (slG g) g.2.1 q slG_cells_nodup (inS_two g q)).1)
  clear hm hx
  obtain ⟨Sp, hSp⟩ : ∃ Sp, Sp = spotsTo g.2.1 (slG g) (slG g).length := ⟨_, rfl⟩
  rw [← hSp] at HM HPD
  clear hSp
  obtain ⟨Z, hZ⟩ : ∃ Z, Z = cellsS g.2.1 x := ⟨_, rfl⟩
  rw [← hZ] at HC1 HZ6 HZR ⊢
  clear hZ
  obtain ⟨l, hl⟩ : ∃ l, l = slG g := ⟨_, rfl⟩
  rw [← hl] at HPD ⊢
  clear hl
  obtain ⟨⟨b0, b1, b2⟩, hb⟩ : ∃ b, b = brd g := ⟨_, rfl⟩
  rw [← hb] at HC1 ⊢
  clear hb
  obtain ⟨c, hc⟩ : ∃ c, c = g.2.1 := ⟨_, rfl⟩
  rw [← hc] at HPD ⊢
  clear hc g
  obtain ⟨t0, t1, t2, t3⟩ := x
  simp only [brdV] at HC1 ⊢
  have hz6 := HZ6.out
  go_enter Tryd.func139, Tryd.ntmps139
  go_wp2_with (go_at_call 35; refine (HC1.out _).mono ?_; rintro e w7 ⟨v7, rfl, o7, b7⟩; obtain ⟨a7, cap7, rfl⟩ := ownV_slice o7; have HO7 := Lib.hid o7; have BT7 := Lib.hid b7; clear o7 b7)
  have HM7 := Lib.hid (pm_below HM.out (box2_of BT7.out))
  have HB7 := Lib.hid (box2_of BT7.out)
  have HZ7 := Lib.hid (own_widen HO7.out (show w.heap.size ≤ _ by simp; omega))
  clear HM HO7 BT7
  go_loopw [7, 14] (fun n i wr => ∃ m : Nat, m ≤ Z.length ∧ i = .int .i64 (m : Int) ∧ n = .int .i64 ((unchN l c (Z.take m) : Nat) : Int) ∧ Hid (PairMap wr M Sp) ∧ Hid (wr.ownsRow w.heap.size 3 1 (.slice a7 Z.length cap7) Z.length (Z.map (Value.int .i64))) ∧ Hid (Below w.heap.size w wr)) (fun _ i _ => Z.length - (intOf i).toNat)
  case atStart => exact ⟨0, Nat.zero_le _, rfl, rfl, HM7, HZ7, HB7⟩
  case round =>
    clear HM7 HZ7 HB7
    obtain ⟨m, hm, rfl, rfl, HM, HZ, HB⟩ := hrel
    by_cases hlt2 : m < Z.length
    · have hd : decide ((m : Int) < (Z.length : Int)) = true := decide_eq_true (by omega)
      have hd9 : decide (m < Z.length) = true := decide_eq_true hlt2
      obtain ⟨b5, rfl, q0⟩ := int_cell HZ.out rfl m hlt2
      have HQ : Hid (0 ≤ Z.getD m 0 ∧ Z.getD m 0 < 36) := Lib.hid (HZR.out _ (by simp [List.getD, hlt2]))
      have HUX := Lib.hid (unchN_next l c (Z.take m) (Z.getD m 0))
      rw [← take_getDJ hlt2] at HUX
      have HUL : Hid (unchN l c (Z.take m) ≤ 6) := Lib.hid (by unfold unchN; exact Nat.le_trans (List.length_filter_le _ _) (Nat.le_trans (List.length_take_le _ _) (by omega)))
      obtain ⟨q, hq⟩ : ∃ q, q = Z.getD m 0 := ⟨_, rfl⟩
      rw [← hq] at q0 HQ HUX
      clear hq
      have HQW : Hid ((Lit.int .i64 q).wf = true) := Lib.hid (wf_cell HQ.out.1 (by have := HQ.out.2; omega))
      have HSE := Lib.hid (HPD.out q)
      obtain ⟨p, hp⟩ : ∃ p, p = (pairQ Sp q).getD zeroP := ⟨_, rfl⟩
      have HV : Hid (encP p = encP ((pairQ Sp q).getD zeroP)) := Lib.hid (by rw [hp])
      rw [← hp] at HSE
      clear hp
      have HSC := Lib.hid (fun w => iscr_any p w)
      rw [HSE.out] at HSC
      clear HSE
      obtain ⟨sb, hsb⟩ : ∃ sb, sb = chkL l c q := ⟨_, rfl⟩
      rw [← hsb] at HSC HUX
      clear hsb
      obtain ⟨⟨p1, p2⟩, p3, p4⟩ := p
      simp only at HSC
      have HV2 : Hid (Value.agg #[.int .i64 (p1 : Int), .int .i64 (p2 : Int), .int .i64 (p3 : Int), .int .i64 (p4 : Int)] = encP ((pairQ Sp q).getD zeroP)) := HV
      clear HV
      obtain ⟨U, hU⟩ : ∃ U, U = unchN l c (Z.take m) := ⟨_, rfl⟩
      rw [← hU] at HUX HUL ⊢
      clear hU
      have hu6 := HUL.out
      have hwu : IntKind.i64.wrap ((U : Int) + 1) = (U : Int) + 1 := by rw [IntKind.wrap_i64]; omega
      cases sb with
      | true =>
        have HUE : Hid ((U : Int) = ((unchN l c (Z.take (m + 1)) : Nat) : Int)) := Lib.hid (by rw [HUX.out]; simp)
        clear HUX
        go_wp2_with (first | (at_lookup; refine wp_look rfl _ _ rfl M Sp rfl HM.out q rfl HQW.out _ HV2.out ?_) | (go_at_call 140; refine (HSC.out _).mono ?_; rintro e w9 ⟨rfl, b9⟩; have HM9 := Lib.hid (pm_below HM.out b9); have HZ9 := Lib.hid (own_later HZ.out b9); have HB9 := Lib.hid (HB.out.trans (b9.mono HB.out.size)); clear b9))
        go_roundw
        case rel => exact ⟨m + 1, by omega, by go_num, by rw [HUE.out], HM9, HZ9, HB9⟩
        case measure => simp [intOf]; omega
      | false =>
        have HUE : Hid ((U : Int) + 1 = ((unchN l c (Z.take (m + 1)) : Nat) : Int)) := Lib.hid (by rw [HUX.out]; simp)
        clear HUX
        go_wp2_with (first | (at_lookup; refine wp_look rfl _ _ rfl M Sp rfl HM.out q rfl HQW.out _ HV2.out ?_) | (go_at_call 140; refine (HSC.out _).mono ?_; rintro e w9 ⟨rfl, b9⟩; have HM9 := Lib.hid (pm_below HM.out b9); have HZ9 := Lib.hid (own_later HZ.out b9); have HB9 := Lib.hid (HB.out.trans (b9.mono HB.out.size)); clear b9))
        go_roundw
        case rel => exact ⟨m + 1, by omega, by go_num, by rw [HUE.out], HM9, HZ9, HB9⟩
        case measure => simp [intOf]; omega
    · have hd : decide ((m : Int) < (Z.length : Int)) = false := decide_eq_false (by omega)
      have hd9 : decide (m < Z.length) = false := decide_eq_false hlt2
      have HF : Hid (unchN l c (Z.take m) = unchN l c Z) := Lib.hid (by rw [show m = Z.length by omega, List.take_length])
      go_wp2
      go_ret
      exact ⟨by rw [← HF.out]; rfl, HB.out⟩
end Go.Proofs.YtgpplfhbgkcjhaaDoor
