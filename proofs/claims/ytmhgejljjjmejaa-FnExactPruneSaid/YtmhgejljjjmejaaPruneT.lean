/-
  Pruning, of the model.
-/
import Derived.Test.YtmhgejljjjmejaaPruneP
namespace Go.Proofs.Ytmhgejljjjmejaa
open Go.RowKit

set_option maxRecDepth 100000 in
set_option maxHeartbeats 12800000 in
theorem sprune_any (r c : Int) (s : ByteArray) (D : List (List ByteArray)) (hs : s.size ≤ 4194304) (hl : D.length ≤ 1048576) (hm : ∀ m ∈ D, m.length ≤ 1048576 ∧ ∀ z ∈ m, z.size ≤ 1048576) (v : Value) (w : World) (hv : ReadsN w.heap.size w v D) :
    Calls Try.prog 7 #[.agg #[.int .i64 r, .int .i64 c, .string s], v] w fun e w' => ∃ v' E, e = .returned v' ∧ OwnT w' w.heap.size w'.heap.size v' E ∧ PruF (r, c, s) D E ∧ Below w.heap.size w w' := by
  obtain ⟨i1, gi, gz0, gz1, gz2⟩ := info_parts infoStr
  have HSL := Lib.hid (fun w => ssl_any r c s hs w)
  have HCR := Lib.hid (fun w => scr_any r c s hs w)
  have HLEN := Lib.hid (slG_length (r, c, s))
  have HCL : Hid ((crossS (r, c, s)).length ≤ 16777216) := Lib.hid (by have := crossS_no_more (r, c, s); omega)
  have HXF := Lib.hid (fun (x : ByteArray) (k : Nat) h1 h2 => xfor_cross (r, c, s) (slot := k) (x := x) h1 h2)
  have HKP := Lib.hid (gbox_keep w r c s 28)
  have HBX : Hid (Below w.heap.size w (w.alloc (.cells #[.int .i64 r, .int .i64 c, .string s] 28))) := Lib.hid ((Below.refl _ _).alloc (Nat.le_refl _) _)
  have HCO := Lib.hid (fun w h => scopy12_any D hl (fun m h => (hm m h).1) v w h)
  have HV := Lib.hid hv
  have HM := Lib.hid hm
  have HPF : Hid (∀ E, PruF (r, c, s) D E ↔ ((D.length = (slG (r, c, s)).length → PruS (slG (r, c, s)) (crossS (r, c, s)) D E) ∧ (D.length ≠ (slG (r, c, s)).length → E = D))) := Lib.hid (fun E => Iff.rfl)
  obtain ⟨a1, cap1, rfl⟩ : ∃ a0 cap, v = .slice a0 D.length cap := by obtain ⟨-, a0, cap, e, -⟩ := hv.cells; exact ⟨a0, cap, e⟩
  obtain ⟨l, hll⟩ : ∃ l, l = slG (r, c, s) := ⟨_, rfl⟩
  rw [← hll] at HSL HLEN HXF HPF
  obtain ⟨X, hX⟩ : ∃ X, X = crossS (r, c, s) := ⟨_, rfl⟩
  rw [← hX] at HCR HCL HXF HPF
  clear hll hX hv hm
  have hl72 := HLEN.out
  go_enter Try.func7, Try.ntmps7
  go_wp2_with fail
  obtain ⟨W0, hW0⟩ : ∃ W0, W0 = w.alloc (.cells #[.int .i64 r, .int .i64 c, .string s] 28) := ⟨_, rfl⟩
  have hws : W0.heap.size = w.heap.size + 1 := by rw [hW0]; simp
  have HV0 : Hid (ReadsN W0.heap.size W0 (.slice a1 D.length cap1) D) := Lib.hid (by rw [hW0]; exact HV.out.now ((Below.refl _ _).alloc (Nat.le_refl _) _))
  rw [← hW0] at HKP HBX ⊢
  clear hW0
  by_cases h1 : D.length = l.length
  · have hne : ((D.length : Int) == (l.length : Int)) = true := by rw [h1]; exact beq_self_eq_true _
    have hnn : ((D.length : Int) != (l.length : Int)) = false := by rw [h1]; exact bne_self_eq_false _
    have H1 := Lib.hid h1
    clear h1
    go_wp2_with (first | (go_at_call 19; refine (HCO.out _ HV0.out).mono ?_; rintro e w2 ⟨v2, rfl, ⟨us2, o2⟩, b2⟩; obtain ⟨a2, cap2, rfl⟩ := ownV_slice o2.row; have HO2 := Lib.hid o2; have HB2 := Lib.hid b2; obtain ⟨d0, d1, d2⟩ := HKP.out _ HB2.out; clear o2 b2) | (go_at_call 20; refine (HSL.out _).mono ?_; rintro e w3 ⟨v3, rfl, o3, b3⟩; obtain ⟨a3, cap3, rfl⟩ := ownV_slice o3; have HO3 := Lib.hid o3; have HB3 := Lib.hid b3; obtain ⟨g0, g1, g2⟩ := HKP.out _ (HB2.out.trans (HB3.out.mono HB2.out.size)); clear o3 b3) | (go_at_call 21; refine (HCR.out _).mono ?_; rintro e w4 ⟨v4, rfl, o4, b4⟩; obtain ⟨a4, cap4, rfl⟩ := ownV_slice o4; have HO4 := Lib.hid o4; have HB4 := Lib.hid b4; clear o4 b4))
    have HP0 : Hid (PruW W0.heap.size w2.heap.size w4.heap.size W0 w4 (.slice a2 D.length cap2) (.slice a3 l.length cap3) (.slice a4 X.length cap4) l X D) := Lib.hid ⟨⟨us2, (HO2.out.now HB3.out).now HB4.out⟩, fun k e => (HO2.out.low k e).2, ownV_later HO3.out HB4.out, own_base HO4.out HB3.out.size, HB2.out.trans ((HB3.out.trans (HB4.out.mono HB3.out.size)).mono HB2.out.size), Nat.le_trans HB3.out.size HB4.out.size, HB2.out.size⟩
    have HS0 : Hid (PartS l X D D) := Lib.hid (PartS.all l X D)
    have HOK : Hid (∀ (E : List (List ByteArray)) (k : Nat) (x : ByteArray), okX l X E k x = (isW x && decide ((x.size : Int) = (l.getD k none_Slot).2.2.2) && supM (meetS X k) E x)) := Lib.hid (fun _ _ _ => rfl)
    have HSP : Hid (∀ (E : List (List ByteArray)) (k : Nat) (x : ByteArray) (u v : Value) (W : World), E.length = D.length → (∀ m ∈ E, m.length ≤ 1048576 ∧ ∀ z ∈ m, z.size ≤ 1048576) → (x.size : Int) = (l.getD k none_Slot).2.2.2 → k < l.length → ReadsCrossing W.heap.size W u X → ReadsN W.heap.size W v E → Calls Try.prog 23 #[u, v, .int .i64 (k : Int), .string x] W fun e w' => e = .returned (.bool (supM (meetS X k) E x)) ∧ Below W.heap.size W w') := Lib.hid (fun E k x u v W hE hm9 h3 hk9 hu hv9 => sl12s_any X E k x HCL.out hm9 (by rw [hE, H1.out]; exact HXF.out x k h3 hk9) u v W hu hv9)
    clear d0 d1 d2 g0 g1 g2 HO2 HO3 HO4 HB2 HB3 HB4 HKP HCO HSL HCR HV HV0 HXF
    go_loopw [8] (fun b wr => ∃ (t : Bool) (C : List (List ByteArray)), b = .bool t ∧ Hid (PruW W0.heap.size w2.heap.size wr.heap.size W0 wr (.slice a2 D.length cap2) (.slice a3 l.length cap3) (.slice a4 X.length cap4) l X C) ∧ Hid (PartS l X D C) ∧ Hid (t = false → closedF l X C)) (fun b wr => 2 * sumAt wr (.slice a2 D.length cap2) D.length + boolM b)
    case atStart => exact ⟨true, D, rfl, HP0, HS0, Lib.hid (fun h => by cases h)⟩
    case round =>
      clear HP0 HS0
      obtain ⟨t, C, rfl, HP, HS, HCD⟩ := hrel
      obtain ⟨wr1, rfl⟩ : ∃ wr1, wr1 = wr := ⟨wr, rfl⟩
      have HL := Lib.hid HS.out.length
      cases t with
      | false =>
        have HT9 : Hid (OwnT wr1 w.heap.size wr1.heap.size (.slice a2 D.length cap2) C) := Lib.hid (by obtain ⟨us, hn⟩ := HP.out.nest; exact ⟨us, hn.under (by omega)⟩)
        have HF : Hid (PruF (r, c, s) D C) := Lib.hid ((HPF.out C).2 ⟨fun _ => HS.out.ends (HCD.out rfl), fun h => absurd H1.out h⟩)
        have HB9 := Lib.hid (HBX.out.trans (HP.out.below.mono HBX.out.size))
        go_wp2
        go_ret
        first | exact ⟨_, C, rfl, HT9.out, HF.out, HB9.out⟩ | exact ⟨_, rfl, C, HT9.out, HF.out, HB9.out⟩
      | true =>
        clear HCD
        go_wp2_with fail
        go_loopw [8, 9] (fun b i wr2 => ∃ (t : Bool) (k : Nat) (E : List (List ByteArray)), k ≤ D.length ∧ b = .bool t ∧ i = .int .i64 (k : Int) ∧ Hid (PruW W0.heap.size w2.heap.size wr2.heap.size W0 wr2 (.slice a2 D.length cap2) (.slice a3 l.length cap3) (.slice a4 X.length cap4) l X E) ∧ Hid (PartS l X D E) ∧ Hid (t = true → sumL E < sumL C) ∧ Hid (t = false → E = C ∧ ∀ j, j < k → ∀ z ∈ C.getD j [], okX l X C j z = true)) (fun _ i _ => D.length - (intOf i).toNat)
        case atStart => exact ⟨false, 0, C, Nat.zero_le _, rfl, rfl, HP, HS, Lib.hid (fun h => by cases h), Lib.hid (fun _ => ⟨rfl, fun j hj => absurd hj (Nat.not_lt_zero j)⟩)⟩
        case round =>
          obtain ⟨t, k, E, hk, rfl, rfl, HPE, HSE, HT1, HT2⟩ := hrel
          obtain ⟨wr2, rfl⟩ : ∃ wr2, wr2 = wr := ⟨wr, rfl⟩
          have HLE := Lib.hid HSE.out.length
          by_cases hlt : k < D.length
          · have hd : decide ((k : Int) < (D.length : Int)) = true := decide_eq_true (by omega)
            have hd9 : decide (k < D.length) = true := decide_eq_true hlt
            have HKD := Lib.hid hlt
            have hkE : k < E.length := by have := HLE.out; omega
            have HME := Lib.hid (HSE.out.small HM.out)
            have HML : Hid ((E.getD k []).length ≤ 1048576) := Lib.hid ((HME.out _ (by simp [List.getD, hkE])).1)
            have HST : Hid (PartS l X D (E.set k ((E.getD k []).filter (okX l X E k)))) := Lib.hid (HSE.out.strike k hlt)
            have HSS : Hid (∀ m : List ByteArray, sumL (E.set k m) + (E.getD k []).length = sumL E + m.length) := Lib.hid (fun m => sumL_set E k m hkE)
            obtain ⟨g, aj, cj, rfl, c0, hf, hw⟩ := HPE.out.cell hkE
            have HW := Lib.hid hw
            have HF0 := Lib.hid hf
            have hgl := World.block_lt_of_cell? wr2 _ c0
            have HGL := Lib.hid hgl
            have HKE := Lib.hid hkE
            clear hw hf hkE hgl
            obtain ⟨M, hM⟩ : ∃ M, M = E.getD k [] := ⟨_, rfl⟩
            rw [← hM] at c0 HW HML HST HSS
            have HMM := Lib.hid hM
            clear hM
            have hml := HML.out
            have HC0 := Lib.hid c0
            obtain ⟨p, hp⟩ : ∃ p : ByteArray → Bool, p = okX l X E k := ⟨_, rfl⟩
            have HPP := Lib.hid hp
            rw [← hp] at HST
            clear hp
            go_wp2_with fail
            have HK0 := Lib.hid (own_empty2 wr2 9 1)
            have HB30 := Lib.hid ((Below.refl wr2.heap.size wr2).alloc (Nat.le_refl _) (.cells #[] 9))
            clear c0
            go_loopw [10, 11] (fun kp m w3 => ∃ q : Nat, q ≤ M.length ∧ m = .int .i64 (q : Int) ∧ Hid (w3.ownsRow wr2.heap.size 9 1 kp ((M.take q).filter p).length (((M.take q).filter p).map Value.string)) ∧ Hid (Below wr2.heap.size wr2 w3)) (fun _ m _ => M.length - (intOf m).toNat)
            case atStart => exact ⟨0, Nat.zero_le _, rfl, HK0, HB30⟩
            case round =>
              clear HK0 HB30
              obtain ⟨q, hq, rfl, HK, HB3⟩ := hrel
              obtain ⟨wr3, rfl⟩ : ∃ wr3, wr3 = wr := ⟨wr, rfl⟩
              have HP3 := Lib.hid (HPE.out.later (Nat.le_refl _) HB3.out)
              have hg3 := HGL.out
              have c3 := (HB3.out.cell (p := ⟨g, k, none⟩) hg3).trans HC0.out
              by_cases hq2 : q < M.length
              · have he : decide ((q : Int) < (M.length : Int)) = true := decide_eq_true (by omega)
                have he9 : decide (q < M.length) = true := decide_eq_true hq2
                obtain ⟨bw, rfl, q0⟩ := HW.out q hq2
                have hbw := World.block_lt_of_cell? wr2 _ q0
                have c4 := (HB3.out.cell (p := ⟨bw, q, none⟩) hbw).trans q0
                have HNX := Lib.hid (filter_next p M q hq2)
                obtain ⟨x, hx⟩ : ∃ x, x = M.getD q ⟨#[]⟩ := ⟨_, rfl⟩
                rw [← hx] at c4 HNX
                have hln : ((M.take q).filter p).length ≤ q := Nat.le_trans (List.length_filter_le _ _) (by rw [List.length_take]; omega)
                have HPX : Hid (p x = (isW x && decide ((x.size : Int) = (l.getD k none_Slot).2.2.2) && supM (meetS X k) E x)) := Lib.hid (by rw [HPP.out]; exact HOK.out E k x)
                have HIW := Lib.hid (fun w => siw_same x w)
                obtain ⟨L, hL⟩ : ∃ L, L = (M.take q).filter p := ⟨_, rfl⟩
                rw [← hL] at HK HNX hln
                have hkl : k < l.length := by have := HKD.out; have := H1.out; omega
                have hk3 : (k : Int) < (l.length : Int) := by omega
                obtain ⟨bs, rfl, -, -, -, p3⟩ := slot_cells HP3.out.slots rfl k hkl
                have HSP1 := Lib.hid (fun (u v : Value) (W : World) h3 hu hv9 => HSP.out E k x u v W HLE.out HME.out h3 hkl hu hv9)
                obtain ⟨y, hy⟩ : ∃ y, y = l.getD k none_Slot := ⟨_, rfl⟩
                rw [← hy] at p3 HPX HSP1
                clear q0 hx hL hy hbw
                obtain ⟨b, hb⟩ : ∃ b, b = isW x := ⟨_, rfl⟩
                rw [← hb] at HIW HPX
                clear hb
                cases b with
                | false =>
                  have HX0 : Hid (p x = false) := Lib.hid (by rw [HPX.out]; rfl)
                  go_wp2_with (go_at_call 22; refine (HIW.out _).mono ?_; rintro e w5 ⟨rfl, rfl⟩)
                  have HK9 : Hid (wr3.ownsRow wr2.heap.size 9 1 u10 ((M.take (q + 1)).filter p).length (((M.take (q + 1)).filter p).map Value.string)) := Lib.hid (by
                    rw [HNX.out, if_neg (by rw [HX0.out]; decide), List.append_nil]
                    exact HK.out)
                  go_roundw
                  case rel => exact ⟨q + 1, by omega, by go_num, HK9, HB3⟩
                  case measure => simp [intOf]; omega
                | true =>
                  by_cases h3 : (x.size : Int) = y.2.2.2
                  · have h3' : ((x.size : Int) == y.2.2.2) = true := by rw [h3]; exact beq_self_eq_true _
                    have HX0 : Hid (p x = supM (meetS X k) E x) := Lib.hid (by rw [HPX.out, decide_eq_true h3]; rfl)
                    have HS1 := Lib.hid (fun u v W hu hv => HSP1.out u v W h3 hu hv)
                    have HRX := Lib.hid (HP3.out.readsX (by have := HCL.out; omega))
                    have HRN := Lib.hid (HP3.out.reads (by have := HLE.out; omega) (fun m hm => by have := (HME.out m hm).1; omega))
                    clear h3 HSP1
                    obtain ⟨sp, hsp⟩ : ∃ sp, sp = supM (meetS X k) E x := ⟨_, rfl⟩
                    rw [← hsp] at HS1 HX0
                    clear hsp
                    cases sp with
                    | false =>
                      go_wp2_with (first | (go_at_call 22; refine (HIW.out _).mono ?_; rintro e w5 ⟨rfl, rfl⟩) | (go_at_call 23; refine (HS1.out _ _ _ HRX.out HRN.out).mono ?_; rintro e w6 ⟨rfl, b6⟩; have HK6 := Lib.hid (ownV_later HK.out b6); have HB6 := Lib.hid (HB3.out.trans (b6.mono HB3.out.size)); clear b6))
                      have HK9 : Hid (w6.ownsRow wr2.heap.size 9 1 u10 ((M.take (q + 1)).filter p).length (((M.take (q + 1)).filter p).map Value.string)) := Lib.hid (by
                        rw [HNX.out, if_neg (by rw [HX0.out]; decide), List.append_nil]
                        exact HK6.out)
                      go_roundw
                      case rel => exact ⟨q + 1, by omega, by go_num, HK9, HB6⟩
                      case measure => simp [intOf]; omega
                    | true =>
                      go_wp2_with (first | (go_at_call 22; refine (HIW.out _).mono ?_; rintro e w5 ⟨rfl, rfl⟩) | (go_at_call 23; refine (HS1.out _ _ _ HRX.out HRN.out).mono ?_; rintro e w6 ⟨rfl, b6⟩; have HK6 := Lib.hid (ownV_later HK.out b6); have HB6 := Lib.hid (HB3.out.trans (b6.mono HB3.out.size)); clear b6) | (at_builtin; refine appendV_reads _ rfl _ _ 33 rfl wr2.heap.size 9 i1 (.string ⟨#[]⟩) 1 16 Try.underlying33 gi gz0 gz1 gz2 rfl (by decide) _ _ _ rfl (HK6.out.alloc _) (some ⟨w6.heap.size, 0, none⟩) 1 1 [.string x] rfl rfl (by simp [Value.oneCell']) (fun e => by cases e) (one_srcN w6 _ _) (by omega) (by omega) (le_alloc HB6.out.size _) ?_; intro v7 w7 hown hgrow))
                      have HB7 := Lib.hid ((HB6.out.alloc HB6.out.size (.cells #[.string x] 9)).grown hgrow (le_alloc HB6.out.size _) (fun q h => (HK6.out.lt q h).1))
                      have HK9 : Hid (w7.ownsRow wr2.heap.size 9 1 v7 ((M.take (q + 1)).filter p).length (((M.take (q + 1)).filter p).map Value.string)) := Lib.hid (by
                        rw [HNX.out, if_pos HX0.out, List.length_append, List.map_append]
                        exact hown)
                      clear hown hgrow
                      go_roundw
                      case rel => exact ⟨q + 1, by omega, by go_num, HK9, HB7⟩
                      case measure => simp [intOf]; omega
                  · have h3' : ((x.size : Int) == y.2.2.2) = false := beq_eq_false_iff_ne.2 h3
                    have HX0 : Hid (p x = false) := Lib.hid (by rw [HPX.out, decide_eq_false h3]; rfl)
                    clear h3 HSP1
                    go_wp2_with (go_at_call 22; refine (HIW.out _).mono ?_; rintro e w5 ⟨rfl, rfl⟩)
                    have HK9 : Hid (wr3.ownsRow wr2.heap.size 9 1 u10 ((M.take (q + 1)).filter p).length (((M.take (q + 1)).filter p).map Value.string)) := Lib.hid (by
                      rw [HNX.out, if_neg (by rw [HX0.out]; decide), List.append_nil]
                      exact HK.out)
                    go_roundw
                    case rel => exact ⟨q + 1, by omega, by go_num, HK9, HB3⟩
                    case measure => simp [intOf]; omega
              · have he : decide ((q : Int) < (M.length : Int)) = false := decide_eq_false (by omega)
                have he9 : decide (q < M.length) = false := decide_eq_false hq2
                have hqe : q = M.length := by omega
                have HKF : Hid (wr3.ownsRow wr2.heap.size 9 1 u10 (M.filter p).length ((M.filter p).map Value.string)) := Lib.hid (by
                  have h9 := HK.out
                  rw [hqe, List.take_length] at h9
                  exact h9)
                obtain ⟨a10, c10, rfl⟩ := ownV_slice HKF.out
                have HKE3 := HKE.out
                obtain ⟨g9, -, -, e9, -, hf3, -⟩ := HP3.out.cell HKE.out
                injection e9 with e9; injection e9 with e9; subst e9
                obtain ⟨FL, hFL⟩ : ∃ FL, FL = M.filter p := ⟨_, rfl⟩
                have HFL := Lib.hid hFL
                rw [← hFL] at HKF HST ⊢
                clear hFL HKE3 HK
                by_cases hs : FL.length < M.length
                · have hs3 : decide ((FL.length : Int) < (M.length : Int)) = true := decide_eq_true (by omega)
                  have hs9 : decide (FL.length < M.length) = true := decide_eq_true hs
                  have HP9 := Lib.hid (HP3.out.store (u := .slice a10 FL.length c10) (m := FL) HKE.out (own_base HKF.out (Nat.le_trans HPE.out.low HPE.out.size)) (fun k e => (HKF.out.lt k e).1))
                  have HT9 : Hid (true = true → sumL (E.set k FL) < sumL C) := Lib.hid (fun _ => by
                    have h7 := HSS.out FL
                    cases t with
                    | true => have := HT1.out rfl; omega
                    | false => rw [← (HT2.out rfl).1]; omega)
                  go_wp2_with fail
                  go_roundw
                  case rel => exact ⟨true, k + 1, E.set k FL, by omega, rfl, by go_num, HP9, HST, HT9, Lib.hid (fun h => by cases h)⟩
                  case measure => simp [intOf]; omega
                · have hs3 : decide ((FL.length : Int) < (M.length : Int)) = false := decide_eq_false (by omega)
                  have hs9 : decide (FL.length < M.length) = false := decide_eq_false hs
                  have HT9 : Hid (t = false → E = C ∧ ∀ j, j < k + 1 → ∀ z ∈ C.getD j [], okX l X C j z = true) := Lib.hid (fun h => by
                    obtain ⟨h1, h2⟩ := HT2.out h
                    refine ⟨h1, fun j hj z hz => ?_⟩
                    by_cases e : j = k
                    · subst e
                      have h5 := filter_len_eq (p := p) (l := M) (by rw [← HFL.out]; omega) z (by rw [HMM.out, h1]; exact hz)
                      rw [HPP.out, h1] at h5
                      exact h5
                    · exact h2 j (by omega) z hz)
                  have HP9 := Lib.hid HP3.out.full
                  go_wp2_with fail
                  go_roundw
                  case rel => exact ⟨t, k + 1, E, by omega, rfl, by go_num, HP9, HSE, HT1, HT9⟩
                  case measure => simp [intOf]; omega
          · have hd : decide ((k : Int) < (D.length : Int)) = false := decide_eq_false (by omega)
            have hd9 : decide (k < D.length) = false := decide_eq_false hlt
            have HSU := Lib.hid (HPE.out.sum D.length HLE.out)
            have HSC := Lib.hid (HP.out.sum D.length HL.out)
            have HCL2 : Hid (t = false → closedF l X E) := Lib.hid (fun h => by
              obtain ⟨h1, h2⟩ := HT2.out h
              subst h1
              exact fun j hj z hz => h2 j (by have := HLE.out; omega) z hz)
            go_wp2_with fail
            go_roundw
            case rel => exact ⟨t, E, rfl, HPE, HSE, HCL2⟩
            case measure =>
              show 2 * sumAt _ _ _ + boolM (.bool t) < 2 * sumAt _ _ _ + boolM (.bool true)
              rw [HSU.out, HSC.out]
              cases t with
              | true => have := HT1.out rfl; simp only [boolM]; omega
              | false => rw [(HT2.out rfl).1]; simp only [boolM]; omega
  · have hne : ((D.length : Int) == (l.length : Int)) = false := beq_eq_false_iff_ne.2 (by omega)
    have hnn : ((D.length : Int) != (l.length : Int)) = true := by rw [bne, hne]; rfl
    have HF : Hid (PruF (r, c, s) D D) := Lib.hid ((HPF.out D).2 ⟨fun h => absurd h h1, fun _ => rfl⟩)
    clear h1
    go_wp2_with (first | (go_at_call 19; refine (HCO.out _ HV0.out).mono ?_; rintro e w2 ⟨v2, rfl, ⟨us2, o2⟩, b2⟩; obtain ⟨a2, cap2, rfl⟩ := ownV_slice o2.row; have HO2 := Lib.hid o2; have HB2 := Lib.hid b2; obtain ⟨d0, d1, d2⟩ := HKP.out _ HB2.out; clear o2 b2) | (go_at_call 20; refine (HSL.out _).mono ?_; rintro e w3 ⟨v3, rfl, o3, b3⟩; obtain ⟨a3, cap3, rfl⟩ := ownV_slice o3; have HB3 := Lib.hid b3; clear o3 b3))
    have HB9 := Lib.hid (HBX.out.trans ((HB2.out.trans (HB3.out.mono HB2.out.size)).mono HBX.out.size))
    have HT9 : Hid (OwnT w3 w.heap.size w3.heap.size (.slice a2 D.length cap2) D) := Lib.hid ⟨us2, (HO2.out.now HB3.out).under (by omega)⟩
    go_ret
    exact ⟨_, D, rfl, HT9.out, HF.out, HB9.out⟩
end Go.Proofs.Ytmhgejljjjmejaa
