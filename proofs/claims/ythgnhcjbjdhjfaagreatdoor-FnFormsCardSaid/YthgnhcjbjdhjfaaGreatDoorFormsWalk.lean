/-
  The walk of the law FnForms: true at every argument, by the contracts of the program's functions and of the drawing.
-/
import Derived.Test.YthgnhcjbjdhjfaaGreatDoorFormH
import Derived.Test.YthgnhcjbjdhjfaaGreatDoorFormN
import Derived.Test.YthgnhcjbjdhjfaaGreatDoorFormA
import Derived.Test.YthgnhcjbjdhjfaaGreatDoorFormLawB
import Derived.Test.YthgnhcjbjdhjfaaGreatDoorFormStdP
import Derived.Test.YthgnhcjbjdhjfaaGreatDoorCrossImplF
import Derived.Test.YthgnhcjbjdhjfaaGreatDoorDrawGrid3
import Derived.Test.YthgnhcjbjdhjfaaGreatDoorSame
import Derived.Test.YthgnhcjbjdhjfaaGreatDoorVarsD
import Derived.Deep.RegionWith
import Derived.Deep.RegionHeld3
import Derived.Deep.DeepCutAuto
namespace Go.Proofs.YthgnhcjbjdhjfaaGreatDoor
open Go.RowKit

theorem dfo_any (n cap : Nat) (a0 : Option Addr) (w : World) (hc : Code w.heap.size w a0 n) (hn : n ≤ 1048576) :
    Calls Tryz.prog 6 #[.slice a0 n cap] w fun e w' => ∃ (r c : Int) (s : ByteArray), (LO ≤ r ∧ r ≤ HI) ∧ (LO ≤ c ∧ c ≤ HI) ∧ s.size ≤ 40 ∧ e = .returned (.agg #[.int .i64 r, .int .i64 c, .string s]) ∧ Below w.heap.size w w' := by
  go_enter Tryz.func6, Tryz.ntmps6
  go_wp2_with fail
  obtain ⟨W0, hW0⟩ : ∃ W0, W0 = w.alloc (.cells #[.int .i64 0, .int .i64 0, .string ⟨#[]⟩] 25) := ⟨_, rfl⟩
  have HR0 : Hid (W0.heap[w.heap.size]? = some (.cells #[.int .i64 0, .int .i64 0, .string ⟨#[]⟩] 25)) := Lib.hid (by rw [hW0]; exact new_block w _)
  have HB0 : Hid (Below w.heap.size w W0) := Lib.hid (by rw [hW0]; exact (Below.refl _ _).alloc (Nat.le_refl _) _)
  have hc0 := code_later hc HB0.out
  rw [← hW0]
  clear hW0 hc
  go_wp2_with (first | (go_at_call 30; refine (dig_any n cap a0 _ hc0 hn).mono ?_; rintro e w2 ⟨gr, gc, gs, qr, qc, q40, rfl, b2⟩; have HR2 := Lib.hid ((b2.block w.heap.size (size_of_heap HR0.out)).trans HR0.out); have HB2 := Lib.hid (HB0.out.trans (b2.mono HB0.out.size)); clear b2; obtain ⟨z0, z1, z2, y0, y1, y2⟩ := cells3 HR2.out))
  exact bodyPost_ret (v := .agg #[.int .i64 gr, .int .i64 gc, .string gs]) (by simp [results, Tryz.results6, go_sem, z0, z1, z2]) rfl ⟨gr, gc, gs, qr, qc, q40, rfl, (((HB2.out.setCell (p := ⟨w.heap.size, 0, none⟩) (by simp) _).setCell (p := ⟨w.heap.size, 1, none⟩) (by simp) _).setCell (p := ⟨w.heap.size, 2, none⟩) (by simp) _)⟩
theorem codeOf_range (p0 p1 p2 p3 p4 p5 : Bool) : 0 ≤ codeOf p0 p1 p2 p3 p4 p5 ∧ codeOf p0 p1 p2 p3 p4 p5 ≤ 5 := by revert p0 p1 p2 p3 p4 p5; decide
theorem name_some {f : Int} (h : 0 ≤ f ∧ f ≤ 5) : (nameF f).toList.isEmpty = false := by
  obtain rfl | rfl | rfl | rfl | rfl | rfl : f = 0 ∨ f = 1 ∨ f = 2 ∨ f = 3 ∨ f = 4 ∨ f = 5 := by omega
  all_goals decide +kernel
theorem form_no {g : Int × Int × ByteArray} (h : isG g = false) : formG g = 1 := by unfold formG; rw [if_pos h]
namespace fnForms
set_option maxRecDepth 100000 in
set_option maxHeartbeats 6400000 in
theorem walk (v0 : Value) (l0 : List Int) (w : World) (hR : Reads w.heap.size w v0 .u8 l0) (hB : ∀ z ∈ l0, 0 ≤ z ∧ z ≤ 255) (hV : DB w) :
    Calls Tryz.prog 3 #[v0] w fun e w' => e = .returned (.bool true) ∧ Below w.heap.size w w' := by
  have HV := Lib.hid hV
  clear hV
  obtain ⟨a0, cap, rfl⟩ : ∃ a0 cap, v0 = .slice a0 l0.length cap := ⟨hR.2.choose, hR.2.choose_spec.choose, hR.2.choose_spec.choose_spec.1⟩
  have hc := code_of_reads hR rfl hB
  clear hR hB
  by_cases hbig : 1048576 < l0.length
  · go_enter Tryz.func3, Tryz.ntmps3
    go_wp2_with (go_at_call 5; refine (big_yes l0.length cap a0 hbig _).mono ?_; rintro e w1 ⟨rfl, rfl⟩)
    go_ret
    exact ⟨rfl, Below.refl _ _⟩
  · have hn : l0.length ≤ 1048576 := by omega
    have HCO := Lib.hid hc
    clear hc
    go_enter Tryz.func3, Tryz.ntmps3
    go_upto_region 4 with (first | (go_at_call 5; refine (big_no l0.length cap a0 (by omega) _).mono ?_; rintro e w0 ⟨rfl, rfl⟩) | (go_at_call 6; refine (dfo_any l0.length cap a0 _ HCO.out (by omega)).mono ?_; rintro e w1 ⟨r, c, s, qr, qc, hs, rfl, b1⟩; have HB1 := Lib.hid b1; clear b1))
    obtain ⟨Wg, hWg⟩ : ∃ Wg, Wg = w1.alloc (.cells #[.int .i64 r, .int .i64 c, .string s] 25) := ⟨_, rfl⟩
    have HBg : Hid (Below w.heap.size w Wg) := Lib.hid (by rw [hWg]; exact HB1.out.alloc HB1.out.size _)
    have HXg : Hid (Wg.heap[w1.heap.size]? = some (.cells #[.int .i64 r, .int .i64 c, .string s] 25)) := Lib.hid (by rw [hWg]; exact new_block w1 _)
    rw [← hWg]
    obtain ⟨gb, hgb⟩ : ∃ gb, gb = w1.heap.size := ⟨_, rfl⟩
    rw [← hgb] at HXg ⊢
    clear hWg hgb HB1 HCO
    have SGO : Hid (∀ W : World, Below Wg.heap.size Wg W → W.cell? ⟨gb, 0, none⟩ = some (.int .i64 r) ∧ W.cell? ⟨gb, 1, none⟩ = some (.int .i64 c) ∧ W.cell? ⟨gb, 2, none⟩ = some (.string s)) := Lib.hid (fun W h => gbox (block_later HXg.out h (Array.getElem?_eq_some_iff.1 HXg.out).1))
    have HDg : Hid (∀ W : World, Below Wg.heap.size Wg W → DB W) := Lib.hid (fun W h => HV.out.later (HBg.out.trans (h.mono HBg.out.size)))
    have HEND : Hid (∀ W : World, Below Wg.heap.size Wg W → Below w.heap.size w W) := Lib.hid (fun W h => HBg.out.trans (h.mono HBg.out.size))
    have HFO := Lib.hid (fun w hd => ifo_any r c s (by omega) w hd)
    have HIC := Lib.hid (fun w hd => icn_any r c s (by omega) w hd)
    have HPA := Lib.hid (fun w hd => ipt_any r c s (by omega) w hd)
    have HIG := Lib.hid (fun w => iisg_any r c s (by omega) w)
    have HNM : Hid ((nameF (formG (r, c, s))).toList.isEmpty = false) := Lib.hid (name_some (by rw [form_code]; exact codeOf_range _ _ _ _ _ _))
    have HFN := Lib.hid (fun w => ifn_any (formG (r, c, s)) w)
    have HTG := Lib.hid (fun w => iturn_any r c s (by omega) w)
    have HPQ : Hid ((partsG (r, c, s) == 1) = decide (partsG (r, c, s) = 1)) := Lib.hid (by rw [Bool.eq_iff_iff]; simp)
    cases hg : isG (r, c, s) with
    | false =>
      have HF1 := Lib.hid (form_no hg)
      rw [HF1.out] at HFO HFN HNM
      rw [hg] at HIG
      obtain ⟨P, hP⟩ : ∃ P, P = partsG (r, c, s) := ⟨_, rfl⟩
      rw [← hP] at HIC HPA HPQ
      obtain ⟨nm, hnm⟩ : ∃ nm, nm = nameF 1 := ⟨_, rfl⟩
      rw [← hnm] at HFN HNM
      clear hP hnm hg HF1
      have hnm0 := HNM.out
      have hpq := HPQ.out
      have hbn : Below Wg.heap.size Wg Wg := Below.refl _ _
      obtain ⟨x0, x1, x2⟩ := SGO.out _ hbn
      go_upto_region 5 with (go_at_call 7; refine (HFO.out _ (HDg.out _ hbn)).mono ?_; rintro e w2 ⟨rfl, b2⟩; have hbm : Below Wg.heap.size Wg w2 := b2; clear hbn; have hbn := hbm; clear hbm b2)
      clear x0 x1 x2
      go_region_held3 (fun W => W.cell? ⟨gb, 0, none⟩ = some (.int .i64 r) ∧ W.cell? ⟨gb, 1, none⟩ = some (.int .i64 c) ∧ W.cell? ⟨gb, 2, none⟩ = some (.string s)) (first | exact SGO.out _ hbn | exact SGO.out _ hbn.drew) (first | (go_at_call 8; refine Calls.mono (HFN.out _) ?_; rintro e w3 ⟨rfl, b3⟩; have hbm : Below Wg.heap.size Wg _ := (by first | exact hbn.trans (b3.mono hbn.size) | exact hbn.drew.trans b3 | exact hbn.drew.trans (b3.mono hbn.drew.size)); clear hbn; have hbn := hbm; clear hbm b3) | (go_at_call 9; refine Calls.mono (HIC.out _ (HDg.out _ (by first | exact hbn | exact hbn.drew))) ?_; rintro e w4 ⟨rfl, b4⟩; have hbm : Below Wg.heap.size Wg _ := (by first | exact hbn.trans (b4.mono hbn.size) | exact hbn.drew.trans b4 | exact hbn.drew.trans (b4.mono hbn.drew.size)); clear hbn; have hbn := hbm; clear hbm b4) | (go_at_call 10; refine Calls.mono (HPA.out _ (HDg.out _ (by first | exact hbn | exact hbn.drew))) ?_; rintro e w5 ⟨rfl, b5⟩; have hbm : Below Wg.heap.size Wg _ := (by first | exact hbn.trans (b5.mono hbn.size) | exact hbn.drew.trans b5 | exact hbn.drew.trans (b5.mono hbn.drew.size)); clear hbn; have hbn := hbm; clear hbm b5))
      all_goals go_upto_region 7 with (fail)
      all_goals obtain ⟨z0, z1, z2⟩ := SGO.out _ hbn
      all_goals go_region_with (first | (go_at_call 11; refine Calls.mono (HIG.out _) ?_; rintro e w6 ⟨rfl, b6⟩; have hbm : Below Wg.heap.size Wg _ := (by first | exact hbn.trans (b6.mono hbn.size) | exact hbn.drew.trans b6 | exact hbn.drew.trans (b6.mono hbn.drew.size)); clear hbn; have hbn := hbm; clear hbm b6))
      all_goals go_wp2_with fail
      all_goals go_ret
      all_goals exact ⟨rfl, HEND.out _ hbn⟩
    | true =>
      have HPTQ := Lib.hid (parts_turn hg)
      have HLI : Hid (formG (r, c, s) = 0 → (turnG (r, c, s) = (r, c, s) ∧ symG (r, c, s) = true ∧ 2 ≤ (slG (r, c, s)).length ∧ ∀ i, i < (slG (r, c, s)).length → (3 ≤ ((slG (r, c, s)).getD i none_Slot).2.2.2 ∧ 2 * unchS (r, c, s) (i : Int) ≤ ((slG (r, c, s)).getD i none_Slot).2.2.2) ∧ 0 < (crossedS (r, c, s) (i : Int)).length ∧ ((slG (r, c, s)).getD i none_Slot).2.2.2 ≤ longG (r, c, s))) := Lib.hid (fun h => ⟨turn_same (fine_facts h).2.1, (fine_facts h).2.1, fine_two h, fun i hi => ⟨fine_slot h hi, (fine_cross h hi).1, long_all hi⟩⟩)
      have HTS : Hid ((turnG (r, c, s)).2.2.size ≤ 40) := Lib.hid (by
        have h36 := isG_size (isG_turn2 hg)
        omega)
      rw [hg] at HIG
      obtain ⟨⟨tr, tc, ts⟩, ht⟩ : ∃ t, t = turnG (r, c, s) := ⟨_, rfl⟩
      rw [← ht] at HTG HPTQ HTS
      simp only at HTS
      have hts := HTS.out
      have HPT := Lib.hid (fun w hd => ipt_any tr tc ts (by omega) w hd)
      have HFT := Lib.hid (fun w hd => ifo_any tr tc ts (by omega) w hd)
      rw [HPTQ.out] at HPT
      simp only [aggG] at HTG
      have HTE := Lib.hid ht
      clear ht hg HPTQ
      obtain ⟨P, hP⟩ : ∃ P, P = partsG (r, c, s) := ⟨_, rfl⟩
      rw [← hP] at HIC HPA HPQ HPT
      clear hP
      by_cases hf : formG (r, c, s) = 0
      · obtain ⟨ht, hsy, hl2, hall⟩ := HLI.out hf
        have HALL := Lib.hid hall
        have HL2 := Lib.hid hl2
        rw [HTE.out.trans ht] at HFT
        have HSYM := Lib.hid (fun w => isym_any r c s (by omega) w)
        rw [hsy] at HSYM
        have HFT0 := Lib.hid (fun w hd => HFT.out w hd)
        rw [hf] at HFO HFN HNM HFT0
        have HSLO := Lib.hid (fun w => islo_any r c s (by omega) w)
        have HUNO := Lib.hid (fun k h1 h2 w => iun_any r c s k (by omega) h1 h2 w)
        have HCBO := Lib.hid (fun k w => icb_any r c s k (by omega) w)
        have HLGO := Lib.hid (fun w => ilg_any r c s (by omega) w)
        have HLE := Lib.hid (slG_length (r, c, s))
        have HRU := Lib.hid (fun k => unchS_range (r, c, s) k)
        obtain ⟨nm, hnm⟩ : ∃ nm, nm = nameF 0 := ⟨_, rfl⟩
        rw [← hnm] at HFN HNM
        obtain ⟨l, hl⟩ : ∃ l, l = slG (r, c, s) := ⟨_, rfl⟩
        rw [← hl] at HSLO HLE HALL HL2
        obtain ⟨LG, hLG⟩ : ∃ LG, LG = longG (r, c, s) := ⟨_, rfl⟩
        rw [← hLG] at HLGO HALL
        clear hnm hl hLG hsy hl2 hall ht hf HLI HFT
        have hl72 := HLE.out
        have hl2 := HL2.out
        have hnm0 := HNM.out
        have hpq := HPQ.out
        have hbn : Below Wg.heap.size Wg Wg := Below.refl _ _
        obtain ⟨x0, x1, x2⟩ := SGO.out _ hbn
        go_upto_region 5 with (go_at_call 7; refine (HFO.out _ (HDg.out _ hbn)).mono ?_; rintro e w2 ⟨rfl, b2⟩; have hbm : Below Wg.heap.size Wg w2 := b2; clear hbn; have hbn := hbm; clear hbm b2)
        clear x0 x1 x2
        go_region_held3 (fun W => W.cell? ⟨gb, 0, none⟩ = some (.int .i64 r) ∧ W.cell? ⟨gb, 1, none⟩ = some (.int .i64 c) ∧ W.cell? ⟨gb, 2, none⟩ = some (.string s)) (first | exact SGO.out _ hbn | exact SGO.out _ hbn.drew) (first | (go_at_call 8; refine Calls.mono (HFN.out _) ?_; rintro e w3 ⟨rfl, b3⟩; have hbm : Below Wg.heap.size Wg _ := (by first | exact hbn.trans (b3.mono hbn.size) | exact hbn.drew.trans b3 | exact hbn.drew.trans (b3.mono hbn.drew.size)); clear hbn; have hbn := hbm; clear hbm b3) | (go_at_call 9; refine Calls.mono (HIC.out _ (HDg.out _ (by first | exact hbn | exact hbn.drew))) ?_; rintro e w4 ⟨rfl, b4⟩; have hbm : Below Wg.heap.size Wg _ := (by first | exact hbn.trans (b4.mono hbn.size) | exact hbn.drew.trans b4 | exact hbn.drew.trans (b4.mono hbn.drew.size)); clear hbn; have hbn := hbm; clear hbm b4) | (go_at_call 10; refine Calls.mono (HPA.out _ (HDg.out _ (by first | exact hbn | exact hbn.drew))) ?_; rintro e w5 ⟨rfl, b5⟩; have hbm : Below Wg.heap.size Wg _ := (by first | exact hbn.trans (b5.mono hbn.size) | exact hbn.drew.trans b5 | exact hbn.drew.trans (b5.mono hbn.drew.size)); clear hbn; have hbn := hbm; clear hbm b5))
        all_goals go_upto_region 7 with (fail)
        have F1 := Lib.hid trivial
        all_goals go_region_held3 (fun W => W.cell? ⟨gb, 0, none⟩ = some (.int .i64 r) ∧ W.cell? ⟨gb, 1, none⟩ = some (.int .i64 c) ∧ W.cell? ⟨gb, 2, none⟩ = some (.string s)) (first | exact SGO.out _ hbn | exact SGO.out _ hbn.drew) (first | (go_at_call 11; refine Calls.mono (HIG.out _) ?_; rintro e w6 ⟨rfl, b6⟩; have hbm : Below Wg.heap.size Wg _ := (by first | exact hbn.trans (b6.mono hbn.size) | exact hbn.drew.trans b6 | exact hbn.drew.trans (b6.mono hbn.drew.size)); clear hbn; have hbn := hbm; clear hbm b6) | (go_at_call 12; refine Calls.mono (HTG.out _) ?_; rintro e w7 ⟨rfl, b7⟩; have hbm : Below Wg.heap.size Wg _ := (by first | exact hbn.trans (b7.mono hbn.size) | exact hbn.drew.trans b7 | exact hbn.drew.trans (b7.mono hbn.drew.size)); clear hbn; have hbn := hbm; clear hbm b7) | (have FG := F1; go_at_call 10; refine Calls.mono (HPT.out _ (HDg.out _ (by first | exact hbn | exact hbn.drew))) ?_; rintro e w8 ⟨rfl, b8⟩; have hbm : Below Wg.heap.size Wg _ := (by first | exact hbn.trans (b8.mono hbn.size) | exact hbn.drew.trans b8 | exact hbn.drew.trans (b8.mono hbn.drew.size)); clear hbn; have hbn := hbm; clear hbm b8; clear F1 FG; have F2 := Lib.hid trivial) | (have FG := F2; go_at_call 10; refine Calls.mono (HPA.out _ (HDg.out _ (by first | exact hbn | exact hbn.drew))) ?_; rintro e w9 ⟨rfl, b9⟩; have hbm : Below Wg.heap.size Wg _ := (by first | exact hbn.trans (b9.mono hbn.size) | exact hbn.drew.trans b9 | exact hbn.drew.trans (b9.mono hbn.drew.size)); clear hbn; have hbn := hbm; clear hbm b9; clear F2 FG))
        go_wp2_with (go_at_call 13; refine (HSLO.out _).mono ?_; rintro e w9 ⟨v9, rfl, o9, b9⟩; obtain ⟨a9, cap9, rfl⟩ := ownV_slice o9; have HL9 := Lib.hid (own_widen o9 (show Wg.heap.size ≤ _ by first | exact hbn.size | exact hbn.drew.size)); have HB9 : Hid (Below Wg.heap.size Wg w9) := Lib.hid (by first | exact hbn.trans (b9.mono hbn.size) | exact hbn.drew.trans b9 | exact hbn.drew.trans (b9.mono hbn.drew.size)); clear o9 b9)
        clear HSLO hbn HFO HFN HNM HIC HPA HIG HPQ HPT hnm0 hpq
        go_loopw [6] (fun i wr => ∃ k : Nat, k ≤ l.length ∧ i = .int .i64 (k : Int) ∧ Hid (wr.ownsRow Wg.heap.size 34 4 (.slice a9 l.length cap9) l.length (row_Slot l)) ∧ Hid (Below Wg.heap.size Wg wr)) (fun i _ => l.length - (intOf i).toNat)
        case atStart => exact ⟨0, Nat.zero_le _, rfl, HL9, HB9⟩
        case round =>
          clear HL9 HB9
          obtain ⟨k, hk, rfl, HL, HB⟩ := hrel
          by_cases hlt : k < l.length
          · have hd : decide ((k : Int) < (l.length : Int)) = true := decide_eq_true (by omega)
            have hd9 : decide (k < l.length) = true := decide_eq_true hlt
            obtain ⟨⟨k1, k2⟩, k3, k4⟩ := HALL.out k hlt
            obtain ⟨b, rfl, -, -, -, -⟩ := slot_cells HL.out rfl k hlt
            have HLW : Hid (∀ W : World, Below wr.heap.size wr W → W.cell? ⟨b, k * 4 + 3, none⟩ = some (.int .i64 (l.getD k none_Slot).2.2.2)) := Lib.hid (fun W h => by
              obtain ⟨b9, e9, -, -, -, s3⟩ := slot_cells (ownV_later HL.out h) rfl k hlt
              injection e9 with e9; injection e9 with e9; subst e9
              exact s3)
            have HUN := Lib.hid (fun w => HUNO.out (k : Int) (by omega) (by omega) w)
            have HCB := Lib.hid (fun w => HCBO.out (k : Int) w)
            obtain ⟨u1, u2⟩ := HRU.out (k : Int)
            obtain ⟨u, hu⟩ : ∃ u, u = unchS (r, c, s) (k : Int) := ⟨_, rfl⟩
            rw [← hu] at HUN k2 u1 u2
            obtain ⟨y, hy⟩ : ∃ y, y = (l.getD k none_Slot).2.2.2 := ⟨_, rfl⟩
            rw [← hy] at HLW k1 k2 k4
            obtain ⟨Z, hZ⟩ : ∃ Z, Z = crossedS (r, c, s) (k : Int) := ⟨_, rfl⟩
            rw [← hZ] at HCB k3
            clear hu hy hZ
            have SOT : Hid (∀ W : World, Below wr.heap.size wr W → (W.cell? ⟨gb, 0, none⟩ = some (.int .i64 r) ∧ W.cell? ⟨gb, 1, none⟩ = some (.int .i64 c) ∧ W.cell? ⟨gb, 2, none⟩ = some (.string s)) ∧ W.cell? ⟨b, k * 4 + 3, none⟩ = some (.int .i64 y)) := Lib.hid (fun W h => ⟨SGO.out W (HB.out.trans (h.mono HB.out.size)), HLW.out W h⟩)
            have hwu : IntKind.i64.wrap (2 * u) = 2 * u := by rw [IntKind.wrap_i64]; omega
            have d1 : decide (y < 3) = false := decide_eq_false (by omega)
            have d2 : decide (y < 2 * u) = false := decide_eq_false (by omega)
            have d2' : decide (2 * u > y) = false := decide_eq_false (by omega)
            have d3 : ((Z.length : Int) == 0) = false := beq_eq_false_iff_ne.2 (by omega)
            have d3' : (Z.length == 0) = false := beq_eq_false_iff_ne.2 (by omega)
            have d4 : decide (LG < y) = false := decide_eq_false (by omega)
            have d4' : decide (y > LG) = false := decide_eq_false (by omega)
            have hk0 : (0 : Int) ≤ (k : Int) := by omega
            have hkl : (k : Int) < (l.length : Int) := by omega
            have hbn : Below wr.heap.size wr wr := Below.refl _ _
            clear HLW k1 k2 k3 k4 u1 u2
            go_wp2_with fail
            go_region_held3 (fun W => (W.cell? ⟨gb, 0, none⟩ = some (.int .i64 r) ∧ W.cell? ⟨gb, 1, none⟩ = some (.int .i64 c) ∧ W.cell? ⟨gb, 2, none⟩ = some (.string s)) ∧ W.cell? ⟨b, k * 4 + 3, none⟩ = some (.int .i64 y)) (first | exact SOT.out _ hbn | exact SOT.out _ hbn.drew) (first | (go_at_call 14; refine Calls.mono (HUN.out _) ?_; rintro e w3 ⟨rfl, b3⟩; have hbm : Below wr.heap.size wr _ := (by first | exact hbn.trans (b3.mono hbn.size) | exact hbn.drew.trans b3 | exact hbn.drew.trans (b3.mono hbn.drew.size)); clear hbn; have hbn := hbm; clear hbm b3) | (go_at_call 15; refine Calls.mono (HCB.out _) ?_; rintro e w4 ⟨v4, rfl, o4, b4⟩; obtain ⟨a4, cap4, rfl⟩ := ownV_slice o4; have hbm : Below wr.heap.size wr _ := (by first | exact hbn.trans (b4.mono hbn.size) | exact hbn.drew.trans b4 | exact hbn.drew.trans (b4.mono hbn.drew.size)); clear hbn; have hbn := hbm; clear hbm b4; clear o4) | (go_at_call 16; refine Calls.mono (HLGO.out _) ?_; rintro e w5 ⟨rfl, b5⟩; have hbm : Below wr.heap.size wr _ := (by first | exact hbn.trans (b5.mono hbn.size) | exact hbn.drew.trans b5 | exact hbn.drew.trans (b5.mono hbn.drew.size)); clear hbn; have hbn := hbm; clear hbm b5; have HL5 := Lib.hid (ownV_later HL.out hbn); have HB5 := Lib.hid (HB.out.trans (hbn.mono HB.out.size))))
            all_goals go_wp2_with fail
            all_goals go_roundw
            all_goals first | exact ⟨k + 1, by omega, by go_num, HL5, HB5⟩ | (simp [intOf]; omega)
          · have hd : decide ((k : Int) < (l.length : Int)) = false := decide_eq_false (by omega)
            have hd9 : decide (k < l.length) = false := decide_eq_false hlt
            have hge : decide ((2 : Int) ≤ (l.length : Int)) = true := decide_eq_true (by omega)
            have hge' : decide (2 ≤ l.length) = true := decide_eq_true hl2
            obtain ⟨x0, x1, x2⟩ := SGO.out _ HB.out
            go_wp2_with (first | (go_at_call 17; refine (HSYM.out _).mono ?_; rintro e w3 ⟨rfl, b3⟩; have HB3 := Lib.hid (HB.out.trans (b3.mono HB.out.size)); obtain ⟨y0, y1, y2⟩ := SGO.out _ HB3.out; clear b3) | (go_at_call 12; refine (HTG.out _).mono ?_; rintro e w4 ⟨rfl, b4⟩; have HB4 := Lib.hid (HB3.out.trans (b4.mono HB3.out.size)); clear b4) | (go_at_call 7; refine (HFT0.out _ (HDg.out _ HB4.out)).mono ?_; rintro e w5 ⟨rfl, b5⟩; have HB5 := Lib.hid (HB4.out.trans (b5.mono HB4.out.size)); clear b5))
            go_ret
            exact ⟨rfl, HEND.out _ HB5.out⟩
      · have hf0 : (formG (r, c, s) != 0) = true := by simpa using hf
        obtain ⟨f, hff⟩ : ∃ f, f = formG (r, c, s) := ⟨_, rfl⟩
        rw [← hff] at HFO HFN HNM hf0
        obtain ⟨nm, hnm⟩ : ∃ nm, nm = nameF f := ⟨_, rfl⟩
        rw [← hnm] at HFN HNM
        clear hnm hff hf HLI
        have hnm0 := HNM.out
        have hpq := HPQ.out
        have hbn : Below Wg.heap.size Wg Wg := Below.refl _ _
        obtain ⟨x0, x1, x2⟩ := SGO.out _ hbn
        go_upto_region 5 with (go_at_call 7; refine (HFO.out _ (HDg.out _ hbn)).mono ?_; rintro e w2 ⟨rfl, b2⟩; have hbm : Below Wg.heap.size Wg w2 := b2; clear hbn; have hbn := hbm; clear hbm b2)
        clear x0 x1 x2
        go_region_held3 (fun W => W.cell? ⟨gb, 0, none⟩ = some (.int .i64 r) ∧ W.cell? ⟨gb, 1, none⟩ = some (.int .i64 c) ∧ W.cell? ⟨gb, 2, none⟩ = some (.string s)) (first | exact SGO.out _ hbn | exact SGO.out _ hbn.drew) (first | (go_at_call 8; refine Calls.mono (HFN.out _) ?_; rintro e w3 ⟨rfl, b3⟩; have hbm : Below Wg.heap.size Wg _ := (by first | exact hbn.trans (b3.mono hbn.size) | exact hbn.drew.trans b3 | exact hbn.drew.trans (b3.mono hbn.drew.size)); clear hbn; have hbn := hbm; clear hbm b3) | (go_at_call 9; refine Calls.mono (HIC.out _ (HDg.out _ (by first | exact hbn | exact hbn.drew))) ?_; rintro e w4 ⟨rfl, b4⟩; have hbm : Below Wg.heap.size Wg _ := (by first | exact hbn.trans (b4.mono hbn.size) | exact hbn.drew.trans b4 | exact hbn.drew.trans (b4.mono hbn.drew.size)); clear hbn; have hbn := hbm; clear hbm b4) | (go_at_call 10; refine Calls.mono (HPA.out _ (HDg.out _ (by first | exact hbn | exact hbn.drew))) ?_; rintro e w5 ⟨rfl, b5⟩; have hbm : Below Wg.heap.size Wg _ := (by first | exact hbn.trans (b5.mono hbn.size) | exact hbn.drew.trans b5 | exact hbn.drew.trans (b5.mono hbn.drew.size)); clear hbn; have hbn := hbm; clear hbm b5))
        all_goals go_upto_region 7 with (fail)
        have F1 := Lib.hid trivial
        all_goals go_region_held3 (fun W => W.cell? ⟨gb, 0, none⟩ = some (.int .i64 r) ∧ W.cell? ⟨gb, 1, none⟩ = some (.int .i64 c) ∧ W.cell? ⟨gb, 2, none⟩ = some (.string s)) (first | exact SGO.out _ hbn | exact SGO.out _ hbn.drew) (first | (go_at_call 11; refine Calls.mono (HIG.out _) ?_; rintro e w6 ⟨rfl, b6⟩; have hbm : Below Wg.heap.size Wg _ := (by first | exact hbn.trans (b6.mono hbn.size) | exact hbn.drew.trans b6 | exact hbn.drew.trans (b6.mono hbn.drew.size)); clear hbn; have hbn := hbm; clear hbm b6) | (go_at_call 12; refine Calls.mono (HTG.out _) ?_; rintro e w7 ⟨rfl, b7⟩; have hbm : Below Wg.heap.size Wg _ := (by first | exact hbn.trans (b7.mono hbn.size) | exact hbn.drew.trans b7 | exact hbn.drew.trans (b7.mono hbn.drew.size)); clear hbn; have hbn := hbm; clear hbm b7) | (have FG := F1; go_at_call 10; refine Calls.mono (HPT.out _ (HDg.out _ (by first | exact hbn | exact hbn.drew))) ?_; rintro e w8 ⟨rfl, b8⟩; have hbm : Below Wg.heap.size Wg _ := (by first | exact hbn.trans (b8.mono hbn.size) | exact hbn.drew.trans b8 | exact hbn.drew.trans (b8.mono hbn.drew.size)); clear hbn; have hbn := hbm; clear hbm b8; clear F1 FG; have F2 := Lib.hid trivial) | (have FG := F2; go_at_call 10; refine Calls.mono (HPA.out _ (HDg.out _ (by first | exact hbn | exact hbn.drew))) ?_; rintro e w9 ⟨rfl, b9⟩; have hbm : Below Wg.heap.size Wg _ := (by first | exact hbn.trans (b9.mono hbn.size) | exact hbn.drew.trans b9 | exact hbn.drew.trans (b9.mono hbn.drew.size)); clear hbn; have hbn := hbm; clear hbm b9; clear F2 FG))
        all_goals go_wp2_with fail
        all_goals go_ret
        all_goals exact ⟨rfl, HEND.out _ hbn⟩
end fnForms
end Go.Proofs.YthgnhcjbjdhjfaaGreatDoor
