/-
  The stable sort of slots, seventh part: symMerge.
  The stable sort of slots, eighth part: stableCmpFunc, SortStableFunc, at fewer than 40 slots.
-/
import Derived.Test.YtgpplfhbgkcjhaaDoorSlotSortF
import Derived.Deep.Cut
import Derived.Deep.DeepCutAuto
namespace Go.Proofs.YtgpplfhbgkcjhaaDoor
open Go.RowKit Go.Sort

set_option maxRecDepth 100000 in
set_option maxHeartbeats 6400000 in
theorem sym_any (base g m cap : Nat) (hm : m ≤ 1000) : ∀ (N : Nat) (P A B S : List SlotV) (a k b : Nat), A.length + B.length ≤ N → 1 ≤ A.length → 1 ≤ B.length → P.length = a → a + A.length = k → k + B.length = b → A.Pairwise leS → B.Pairwise leS → ∀ w : World, SRow w base g m cap (P ++ A ++ B ++ S) →
    Calls Tryd.prog 104 #[.slice (some ⟨g, 0, none⟩) m cap, .int .i64 (a : Int), .int .i64 (k : Int), .int .i64 (b : Int), lessF] w fun e w' => (∃ r, e = .returned r) ∧ (∃ M', SRow w' base g m cap (P ++ M' ++ S) ∧ M'.Pairwise leS ∧ Bub ltS (A ++ B) M') ∧ w.grownBy w' (some g) := by
  intro N
  induction N with
  | zero => intro P A B S a k b h1 h2; omega
  | succ N ih =>
  intro P A B S a k b hN hA1 hB1 ha hk hb hsA hsB w hR
  by_cases hA2 : A.length = 1
  · obtain ⟨x, rfl⟩ := List.length_eq_one_iff.1 hA2
    exact sym1_any base g m cap P S x B a k b ha (by simpa using hk.symm) hb hm hsB w (by simpa using hR)
  by_cases hB2 : B.length = 1
  · obtain ⟨y, rfl⟩ := List.length_eq_one_iff.1 hB2
    exact sym2_any base g m cap P S y A a k b ha hk (by simpa using hb.symm) (by omega) hm hsA w (by simpa using hR)
  have HR := Lib.hid hR
  have HIH := Lib.hid ih
  have hbm : b ≤ m := by have := hR.2; simp at this; omega
  have hka : (((k : Int) - (a : Int)) == 1) = false := by simp; omega
  have hbk : (((b : Int) - (k : Int)) == 1) = false := by simp; omega
  have hmix : Tryd.prog.follows .mixedOrders = true := by kernel_rfl
  obtain ⟨mid, hmid⟩ : ∃ mid, mid = (a + b) / 2 := ⟨_, rfl⟩
  have hme : ((a : Int) + (b : Int)) / 2 = (mid : Int) := by omega
  obtain ⟨nn, hnn⟩ : ∃ nn, nn = mid + k := ⟨_, rfl⟩
  have hne : (mid : Int) + (k : Int) = (nn : Int) := by omega
  obtain ⟨p9, hp9⟩ : ∃ p9, p9 + 1 = nn := ⟨nn - 1, by omega⟩
  have hpe : (nn : Int) - 1 = (p9 : Int) := by omega
  have hak : a + 2 ≤ k := by omega
  have hkb : k + 2 ≤ b := by omega
  have HMO0 := Lib.hid (fun s0 r0 h => sym_mono (S := S) (mid := mid) (p := p9) (s0 := s0) (r0 := r0) ha hk hb hsA hsB h)
  have HFD0 := Lib.hid (fun s0 r0 h s e he hi => sym_found (S := S) (mid := mid) (p := p9) (s0 := s0) (r0 := r0) (s := s) (e := e) ha hk hb hsA hsB h he hi)
  obtain ⟨L, hL⟩ : ∃ L, L = P ++ A ++ B ++ S := ⟨_, rfl⟩
  rw [← hL] at HR HMO0 HFD0
  have HL := Lib.hid hL
  have HK := Lib.hid (And.intro ha (And.intro hk hb))
  have HNN := Lib.hid hnn
  have HN := Lib.hid (And.intro hN (And.intro hA1 hB1))
  have hm1 : mid ≤ 1000 := by omega
  have hm2 : nn ≤ 2000 := by omega
  have hm3 : p9 ≤ 2000 := by omega
  clear hR hL hA2 hB2 hA1 hB1 hN ha hk hb ih
  by_cases hkm : mid < k
  · obtain ⟨s0, hs0⟩ : ∃ s0, s0 + b = nn := ⟨nn - b, by omega⟩
    have hse : (nn : Int) - (b : Int) = (s0 : Int) := by omega
    have HRR : Hid (SymR a k b mid p9 s0 mid) := Lib.hid (symR_left hak hkb hmid hkm (by omega) (by omega))
    have HMO := Lib.hid (HMO0.out _ _ HRR.out)
    have HFD := Lib.hid (HFD0.out _ _ HRR.out)
    have hsr : s0 ≤ mid := HRR.out.2.1
    have d1 : decide ((mid : Int) < (k : Int)) = true := decide_eq_true (by omega)
    clear HMO0 HFD0 hmid hnn hp9 hs0
    unfold lessF at HIH ⊢
    go_enter Tryd.func104, Tryd.ntmps104
    go_wp2_with fail
    go_loopw [20, 21, 23] (fun u v h9 wr => ∃ i j : Nat, u = .int .i64 (i : Int) ∧ v = .int .i64 (j : Int) ∧ s0 ≤ i ∧ i ≤ j ∧ j ≤ mid ∧ Hid (BinInv (symF L p9) s0 mid i j) ∧ Hid (SRow wr base g m cap L) ∧ Hid (w.grownBy wr (some g))) (fun u v _ _ => (intOf v).toNat - (intOf u).toNat)
    case atStart => exact ⟨s0, mid, rfl, rfl, Nat.le_refl _, hsr, Nat.le_refl _, Lib.hid (bin_start _ hsr), HR, Lib.hid (grown_refl w _)⟩
    case round =>
      obtain ⟨i, j, rfl, rfl, hi1, hij, hjb, HI, HS, HG⟩ := hrel
      clear HR
      by_cases hlt : i < j
      · have hd : decide ((i : Int) < (j : Int)) = true := decide_eq_true (by omega)
        have hrr := HRR.out
        unfold SymR at hrr
        obtain ⟨c, hh⟩ : ∃ c, c = (i + j) / 2 := ⟨_, rfl⟩
        have hhe : ((i : Int) + (j : Int)) / 2 = (c : Int) := by omega
        have hh1 : i ≤ c := by omega
        have hh2 : c < j := by omega
        obtain ⟨d, hdc⟩ : ∃ d, p9 - c = d := ⟨_, rfl⟩
        have hde : (p9 : Int) - (c : Int) = (d : Int) := by omega
        have HDC := Lib.hid hdc
        have hdm : d < m := by omega
        have hcm : c < m := by omega
        have hj200 : j ≤ 1000 := by omega
        have hwd : IntKind.i64.wrap (d : Int) = (d : Int) := by rw [IntKind.wrap_i64]; omega
        clear hh hdc hrr
        obtain ⟨x9, hx9⟩ : ∃ x9, x9 = L.getD d none_Slot := ⟨_, rfl⟩
        obtain ⟨y9, hy9⟩ : ∃ y9, y9 = L.getD c none_Slot := ⟨_, rfl⟩
        obtain ⟨b9, hb9⟩ : ∃ b9, b9 = ltS x9 y9 := ⟨_, rfl⟩
        have HB9 : Hid (ltS (L.getD d none_Slot) (L.getD c none_Slot) = b9) := Lib.hid (by rw [hb9, hx9, hy9])
        obtain ⟨z9, hz9⟩ : ∃ z9, z9 = cmpI x9.2.2.1 y9.2.2.1 := ⟨_, rfl⟩
        have hzb : decide (z9 < 0) = b9 := by rw [hz9, hb9, cmpI_neg]; rfl
        have HCL := fun n os => closure_grown x9 y9 wr n os
        rw [← hz9] at HCL
        obtain ⟨c0, c1, c2, c3, -, -, -, -⟩ := row_at HS.out (p := d) hdm x9 hx9
        obtain ⟨e0, e1, e2, e3, -, -, -, -⟩ := row_at HS.out (p := c) hcm y9 hy9
        have hgr : g < wr.heap.size := World.block_lt_of_cell? _ _ c0
        have c0 := cell_grown hgr c0
        have c1 := cell_grown hgr c1
        have c2 := cell_grown hgr c2
        have c3 := cell_grown hgr c3
        have e0 := cell_grown hgr e0
        have e1 := cell_grown hgr e1
        have e2 := cell_grown hgr e2
        have e3 := cell_grown hgr e3
        obtain ⟨x0, x1, x2, x3⟩ := x9
        obtain ⟨y0, y1, y2, y3⟩ := y9
        simp only at c0 c1 c2 c3 e0 e1 e2 e3 HCL
        clear hx9 hy9 hb9 hz9
        cases b9 with
        | true =>
          go_wp2_with fail
          go_quiet_grown (first | (go_at_call 57; refine Calls.grown_of (HCL _ _)))
          have HS2 := Lib.hid (srow_grown HS.out nq osq)
          have HG2 := Lib.hid (grown_growN HG.out nq osq)
          obtain ⟨W, hW⟩ : ∃ W, W = grow (wr.drewN nq) osq := ⟨_, rfl⟩
          simp only
          rw [← hW] at HS2 HG2 ⊢
          clear hW HS HG c0 c1 c2 c3 e0 e1 e2 e3 HCL hgr

          have HBI : Hid (BinInv (symF L p9) s0 mid i c) := Lib.hid (bin_true HI.out HMO.out (by omega) (by omega) (by unfold symF; rw [HDC.out]; exact HB9.out))
          go_wp2_with fail
          go_roundw
          case rel => exact ⟨i, c, rfl, by first | rfl | go_num, hi1, by omega, by omega, HBI, HS2, HG2⟩
          case measure => simp [intOf]; omega
        | false =>
          go_wp2_with fail
          go_quiet_grown (first | (go_at_call 57; refine Calls.grown_of (HCL _ _)))
          have HS2 := Lib.hid (srow_grown HS.out nq osq)
          have HG2 := Lib.hid (grown_growN HG.out nq osq)
          obtain ⟨W, hW⟩ : ∃ W, W = grow (wr.drewN nq) osq := ⟨_, rfl⟩
          simp only
          rw [← hW] at HS2 HG2 ⊢
          clear hW HS HG c0 c1 c2 c3 e0 e1 e2 e3 HCL hgr

          have HBI : Hid (BinInv (symF L p9) s0 mid (c + 1) j) := Lib.hid (bin_false HI.out HMO.out (by omega) (by omega) (by unfold symF; rw [HDC.out]; exact HB9.out))
          go_wp2_with fail
          go_roundw
          case rel => exact ⟨c + 1, j, by go_num, rfl, by omega, by omega, hjb, HBI, HS2, HG2⟩
          case measure => simp [intOf]; omega
      · have hd : decide ((i : Int) < (j : Int)) = false := decide_eq_false (by omega)
        have hd2 : decide (i < j) = false := decide_eq_false (by omega)
        obtain rfl : i = j := by omega
        have hrr := HRR.out
        unfold SymR at hrr
        obtain ⟨e, he⟩ : ∃ e, e + i = mid + k := ⟨mid + k - i, by omega⟩
        have hee : (nn : Int) - (i : Int) = (e : Int) := by have := HNN.out; omega
        obtain ⟨b1, b2, b3, b4, hcut9⟩ := HFD.out i e he HI.out
        have HCUT := Lib.hid hcut9
        have hn1 : e ≤ 1000 := by omega
        have hn2 : i ≤ 1000 := by omega
        have HE := Lib.hid he
        have hnm : mid ≤ b := by omega
        have ham : a ≤ mid := by omega
        clear hrr hcut9 he hlt hij hjb hi1 HI HMO HFD
        have HST : Hid (∃ A1 A2 B1 B2, SymCut A B A1 A2 B1 B2 ∧ a + A1.length = i ∧ k + B1.length = e ∧ SRow wr base g m cap (P ++ A1 ++ A2 ++ B1 ++ B2 ++ S)) := Lib.hid (by
          obtain ⟨A1, A2, B1, B2, h1, h2, h3⟩ := HCUT.out
          refine ⟨A1, A2, B1, B2, h1, h2, h3, ?_⟩
          have h9 := HS.out
          rw [HL.out, h1.1, h1.2.1] at h9
          simpa using h9)
        obtain ⟨A1, A2, B1, B2, hC, hA1, hB1, hS1⟩ := HST.out
        have HC := Lib.hid hC
        have hA12 : A1.length + A2.length = A.length := by rw [hC.1]; simp
        have hB12 : B1.length + B2.length = B.length := by rw [hC.2.1]; simp
        have HS1 := Lib.hid hS1
        have HLE := Lib.hid (And.intro hA1 (And.intro hB1 (And.intro hA12 hB12)))
        have HSO : Hid (A1.Pairwise leS ∧ A2.Pairwise leS ∧ B1.Pairwise leS ∧ B2.Pairwise leS) := Lib.hid (by
          have h1 := hsA
          have h2 := hsB
          rw [hC.1, List.pairwise_append] at h1
          rw [hC.2.1, List.pairwise_append] at h2
          exact ⟨h1.1, h1.2.1, h2.1, h2.2.1⟩)
        clear hC hA1 hB1 hA12 hB12 hS1 HST HCUT HS
        obtain ⟨gA, hgA⟩ : ∃ g, g = decide (i < k ∧ k < e) := ⟨_, rfl⟩
        have HgA := Lib.hid hgA
        clear hgA
        go_upto_region 39 with fail
        go_cut [185] from 186 (fun v wx => v = .bool gA ∧ wr = wx)
        case first =>
          by_cases q1 : i < k
          · have d1 : decide ((i : Int) < (k : Int)) = true := decide_eq_true (by omega)
            by_cases q2 : k < e
            · have d2 : decide ((k : Int) < (e : Int)) = true := decide_eq_true (by omega)
              go_wp2_with fail
              go_meet
              case rel => exact ⟨by rw [HgA.out]; simp [q1, q2], rfl⟩
            · have d2 : decide ((k : Int) < (e : Int)) = false := decide_eq_false (by omega)
              have d3 : decide (k < e) = false := decide_eq_false q2
              go_wp2_with fail
              go_meet
              case rel => exact ⟨by rw [HgA.out]; simp [q1, q2], rfl⟩
          · have d1 : decide ((i : Int) < (k : Int)) = false := decide_eq_false (by omega)
            have d3 : decide (i < k) = false := decide_eq_false q1
            go_wp2_with fail
            go_meet
            case rel => exact ⟨by rw [HgA.out]; simp [q1], rfl⟩
        case rest =>
          obtain ⟨rfl, rfl⟩ := hcut
          go_upto_if 185 with fail
          go_cut [] from 186 (fun wx => Hid (SRow wx base g m cap (P ++ (A1 ++ B1) ++ (A2 ++ B2) ++ S)) ∧ Hid (w.grownBy wx (some g)))
          case first =>
            have h9 := HLE.out
            have h8 := HK.out
            have hE9 := HE.out
            cases gA with
            | true =>
              have q : i < k ∧ k < e := of_decide_eq_true HgA.out.symm
              have HRC : Hid (∀ w' : World, SRow w' base g m cap (P ++ A1 ++ A2 ++ B1 ++ (B2 ++ S)) → Calls Tryd.prog 108 #[.slice (some ⟨g, 0, none⟩) m cap, .int .i64 (i : Int), .int .i64 (k : Int), .int .i64 (e : Int), .func (.func 57) #[] #[]] w' fun e w'' => (∃ r, e = .returned r) ∧ SRow w'' base g m cap (P ++ A1 ++ B1 ++ A2 ++ (B2 ++ S)) ∧ w'.grownBy w'' (some g)) := Lib.hid (fun w' h => rotate_any base g m cap (P ++ A1) A2 B1 (B2 ++ S) i k e (by rw [List.length_append]; omega) (by omega) (by omega) (by omega) (by omega) hm _ w' h)
              have HS4 : Hid (SRow wr base g m cap (P ++ A1 ++ A2 ++ B1 ++ (B2 ++ S))) := Lib.hid (by simpa using HS1.out)
              clear h9 h8 hE9 q
              go_wp2_with (go_at_call 108; refine (HRC.out _ HS4.out).mono ?_; rintro e w4 ⟨⟨r, rfl⟩, hM, hg4⟩; have HM2 := Lib.hid hM; have HG4 := Lib.hid (grown_trans HG.out hg4); clear hM hg4)
              go_meet
              case rel => exact ⟨Lib.hid (by simpa using HM2.out), HG4⟩
            | false =>
              have q : ¬ (i < k ∧ k < e) := of_decide_eq_false HgA.out.symm
              have HO2 : Hid (SRow wr base g m cap (P ++ (A1 ++ B1) ++ (A2 ++ B2) ++ S)) := Lib.hid (by
                have h7 := HS1.out
                rcases Nat.eq_zero_or_pos A2.length with h | h
                · rw [List.length_eq_zero_iff.1 h] at h7 ⊢; simpa using h7
                · rw [List.length_eq_zero_iff.1 (show B1.length = 0 by omega)] at h7 ⊢; simpa using h7)
              clear h9 h8 hE9 q
              go_wp2_with fail
              go_meet
              case rel => exact ⟨HO2, HG⟩
          case rest =>
            obtain ⟨HS2, HG2⟩ := hcut
            clear HS1 HG
            obtain ⟨gB, hgB⟩ : ∃ g, g = decide (a < i ∧ i < mid) := ⟨_, rfl⟩
            have HgB := Lib.hid hgB
            clear hgB
            go_upto_region 41 with fail
            go_cut [199] from 200 (fun v wx => v = .bool gB ∧ wc = wx)
            case first =>
              by_cases q1 : a < i
              · have d1 : decide ((a : Int) < (i : Int)) = true := decide_eq_true (by omega)
                by_cases q2 : i < mid
                · have d2 : decide ((i : Int) < (mid : Int)) = true := decide_eq_true (by omega)
                  go_wp2_with fail
                  go_meet
                  case rel => exact ⟨by rw [HgB.out]; simp [q1, q2], rfl⟩
                · have d2 : decide ((i : Int) < (mid : Int)) = false := decide_eq_false (by omega)
                  have d3 : decide (i < mid) = false := decide_eq_false q2
                  go_wp2_with fail
                  go_meet
                  case rel => exact ⟨by rw [HgB.out]; simp [q1, q2], rfl⟩
              · have d1 : decide ((a : Int) < (i : Int)) = false := decide_eq_false (by omega)
                have d3 : decide (a < i) = false := decide_eq_false q1
                go_wp2_with fail
                go_meet
                case rel => exact ⟨by rw [HgB.out]; simp [q1], rfl⟩
            case rest =>
              obtain ⟨rfl, rfl⟩ := hcut
              go_upto_if 199 with fail
              go_cut [] from 200 (fun wx => Hid (∃ M1, SRow wx base g m cap (P ++ M1 ++ (A2 ++ B2) ++ S) ∧ M1.Pairwise leS ∧ Bub ltS (A1 ++ B1) M1) ∧ Hid (w.grownBy wx (some g)))
              case first =>
                have h9 := HLE.out
                have h8 := HK.out
                have hE9 := HE.out
                cases gB with
                | true =>
                  have q : a < i ∧ i < mid := of_decide_eq_true HgB.out.symm
                  have HRC : Hid (∀ w' : World, SRow w' base g m cap (P ++ A1 ++ B1 ++ (A2 ++ B2 ++ S)) → Calls Tryd.prog 104 #[.slice (some ⟨g, 0, none⟩) m cap, .int .i64 (a : Int), .int .i64 (i : Int), .int .i64 (mid : Int), .func (.func 57) #[] #[]] w' fun e w'' => (∃ r, e = .returned r) ∧ (∃ M', SRow w'' base g m cap (P ++ M' ++ (A2 ++ B2 ++ S)) ∧ M'.Pairwise leS ∧ Bub ltS (A1 ++ B1) M') ∧ w'.grownBy w'' (some g)) := Lib.hid (fun w' h => HIH.out P A1 B1 (A2 ++ B2 ++ S) a i mid (by have := HN.out.1; omega) (by omega) (by omega) h8.1 (by omega) (by omega) HSO.out.1 HSO.out.2.2.1 w' h)
                  have HS4 : Hid (SRow wc base g m cap (P ++ A1 ++ B1 ++ (A2 ++ B2 ++ S))) := Lib.hid (by simpa using HS2.out)
                  clear h9 h8 hE9 q
                  go_wp2_with (go_at_call 104; refine (HRC.out _ HS4.out).mono ?_; rintro e w4 ⟨⟨r, rfl⟩, hM, hg4⟩; have HM2 := Lib.hid hM; have HG4 := Lib.hid (grown_trans HG2.out hg4); clear hM hg4)
                  go_meet
                  case rel =>
                    refine ⟨Lib.hid ?_, HG4⟩
                    obtain ⟨M1, hs4, ho, hb9⟩ := HM2.out
                    exact ⟨M1, by simpa using hs4, ho, hb9⟩
                | false =>
                  have q : ¬ (a < i ∧ i < mid) := of_decide_eq_false HgB.out.symm
                  have HO2 : Hid ((A1 ++ B1).Pairwise leS) := Lib.hid (by
                    rcases Nat.eq_zero_or_pos A1.length with h | h
                    · rw [List.length_eq_zero_iff.1 h]; exact HSO.out.2.2.1
                    · rw [List.length_eq_zero_iff.1 (show B1.length = 0 by omega), List.append_nil]; exact HSO.out.1)
                  clear h9 h8 hE9 q
                  go_wp2_with fail
                  go_meet
                  case rel => exact ⟨Lib.hid ⟨A1 ++ B1, HS2.out, HO2.out, .refl _⟩, HG2⟩
              case rest =>
                obtain ⟨HMX, HG3⟩ := hcut
                clear HS2 HG2
                obtain ⟨M1, hs3, ho1, hm1⟩ := HMX.out
                have HS3 := Lib.hid hs3
                have HO1 := Lib.hid ho1
                have HM1 := Lib.hid hm1
                clear HMX hs3 ho1 hm1
                obtain ⟨gC, hgC⟩ : ∃ g, g = decide (mid < e ∧ e < b) := ⟨_, rfl⟩
                have HgC := Lib.hid hgC
                clear hgC
                go_upto_region 43 with fail
                go_cut [213] from 214 (fun v wx => v = .bool gC ∧ wc = wx)
                case first =>
                  by_cases q1 : mid < e
                  · have d1 : decide ((mid : Int) < (e : Int)) = true := decide_eq_true (by omega)
                    by_cases q2 : e < b
                    · have d2 : decide ((e : Int) < (b : Int)) = true := decide_eq_true (by omega)
                      go_wp2_with fail
                      go_meet
                      case rel => exact ⟨by rw [HgC.out]; simp [q1, q2], rfl⟩
                    · have d2 : decide ((e : Int) < (b : Int)) = false := decide_eq_false (by omega)
                      have d3 : decide (e < b) = false := decide_eq_false q2
                      go_wp2_with fail
                      go_meet
                      case rel => exact ⟨by rw [HgC.out]; simp [q1, q2], rfl⟩
                  · have d1 : decide ((mid : Int) < (e : Int)) = false := decide_eq_false (by omega)
                    have d3 : decide (mid < e) = false := decide_eq_false q1
                    go_wp2_with fail
                    go_meet
                    case rel => exact ⟨by rw [HgC.out]; simp [q1], rfl⟩
                case rest =>
                  obtain ⟨rfl, rfl⟩ := hcut
                  have h9 := HLE.out
                  have h8 := HK.out
                  have hE9 := HE.out
                  cases gC with
                  | true =>
                    have q : mid < e ∧ e < b := of_decide_eq_true HgC.out.symm
                    have HRC : Hid (∀ w' : World, SRow w' base g m cap (P ++ M1 ++ A2 ++ B2 ++ S) → Calls Tryd.prog 104 #[.slice (some ⟨g, 0, none⟩) m cap, .int .i64 (mid : Int), .int .i64 (e : Int), .int .i64 (b : Int), .func (.func 57) #[] #[]] w' fun e w'' => (∃ r, e = .returned r) ∧ (∃ M', SRow w'' base g m cap (P ++ M1 ++ M' ++ S) ∧ M'.Pairwise leS ∧ Bub ltS (A2 ++ B2) M') ∧ w'.grownBy w'' (some g)) := Lib.hid (fun w' h => HIH.out (P ++ M1) A2 B2 S mid e b (by have := HN.out.1; omega) (by omega) (by omega) (by rw [List.length_append]; have := HM1.out.length; simp at this; omega) (by omega) (by omega) HSO.out.2.1 HSO.out.2.2.2 w' h)
                    have HS4 : Hid (SRow wc base g m cap (P ++ M1 ++ A2 ++ B2 ++ S)) := Lib.hid (by simpa using HS3.out)
                    clear h9 h8 hE9 q
                    go_wp2_with (go_at_call 104; refine (HRC.out _ HS4.out).mono ?_; rintro e w4 ⟨⟨r, rfl⟩, hM, hg4⟩; have HM2 := Lib.hid hM; have HG4 := Lib.hid (grown_trans HG3.out hg4); clear hM hg4)
                    go_end0
                    obtain ⟨M2, hs4, ho2, hb2⟩ := HM2.out
                    have h7 := symCut_end HC.out hsA hsB HO1.out ho2 HM1.out hb2
                    exact ⟨⟨_, rfl⟩, ⟨M1 ++ M2, by simpa using hs4, h7.1, h7.2⟩, HG4.out⟩
                  | false =>
                    have q : ¬ (mid < e ∧ e < b) := of_decide_eq_false HgC.out.symm
                    have HO2 : Hid ((A2 ++ B2).Pairwise leS) := Lib.hid (by
                      rcases Nat.eq_zero_or_pos A2.length with h | h
                      · rw [List.length_eq_zero_iff.1 h]; exact HSO.out.2.2.2
                      · rw [List.length_eq_zero_iff.1 (show B2.length = 0 by omega), List.append_nil]; exact HSO.out.2.1)
                    clear h9 h8 hE9 q
                    go_wp2_with fail
                    go_end0
                    have h7 := symCut_end HC.out hsA hsB HO1.out HO2.out HM1.out (.refl _)
                    exact ⟨⟨_, rfl⟩, ⟨M1 ++ (A2 ++ B2), by simpa using HS3.out, h7.1, h7.2⟩, HG3.out⟩
  · have HRR : Hid (SymR a k b mid p9 a k) := Lib.hid (symR_right hak hkb hmid hkm (by omega))
    have HMO := Lib.hid (HMO0.out _ _ HRR.out)
    have HFD := Lib.hid (HFD0.out _ _ HRR.out)
    have hsr : a ≤ k := HRR.out.2.1
    have d1 : decide ((mid : Int) < (k : Int)) = false := decide_eq_false (by omega)
    have d1' : decide (mid < k) = false := decide_eq_false hkm
    clear HMO0 HFD0 hmid hnn hp9
    unfold lessF at HIH ⊢
    go_enter Tryd.func104, Tryd.ntmps104
    go_wp2_with fail
    go_loopw [20, 21, 23] (fun u v h9 wr => ∃ i j : Nat, u = .int .i64 (i : Int) ∧ v = .int .i64 (j : Int) ∧ a ≤ i ∧ i ≤ j ∧ j ≤ k ∧ Hid (BinInv (symF L p9) a k i j) ∧ Hid (SRow wr base g m cap L) ∧ Hid (w.grownBy wr (some g))) (fun u v _ _ => (intOf v).toNat - (intOf u).toNat)
    case atStart => exact ⟨a, k, rfl, rfl, Nat.le_refl _, hsr, Nat.le_refl _, Lib.hid (bin_start _ hsr), HR, Lib.hid (grown_refl w _)⟩
    case round =>
      obtain ⟨i, j, rfl, rfl, hi1, hij, hjb, HI, HS, HG⟩ := hrel
      clear HR
      by_cases hlt : i < j
      · have hd : decide ((i : Int) < (j : Int)) = true := decide_eq_true (by omega)
        have hrr := HRR.out
        unfold SymR at hrr
        obtain ⟨c, hh⟩ : ∃ c, c = (i + j) / 2 := ⟨_, rfl⟩
        have hhe : ((i : Int) + (j : Int)) / 2 = (c : Int) := by omega
        have hh1 : i ≤ c := by omega
        have hh2 : c < j := by omega
        obtain ⟨d, hdc⟩ : ∃ d, p9 - c = d := ⟨_, rfl⟩
        have hde : (p9 : Int) - (c : Int) = (d : Int) := by omega
        have HDC := Lib.hid hdc
        have hdm : d < m := by omega
        have hcm : c < m := by omega
        have hj200 : j ≤ 1000 := by omega
        have hwd : IntKind.i64.wrap (d : Int) = (d : Int) := by rw [IntKind.wrap_i64]; omega
        clear hh hdc hrr
        obtain ⟨x9, hx9⟩ : ∃ x9, x9 = L.getD d none_Slot := ⟨_, rfl⟩
        obtain ⟨y9, hy9⟩ : ∃ y9, y9 = L.getD c none_Slot := ⟨_, rfl⟩
        obtain ⟨b9, hb9⟩ : ∃ b9, b9 = ltS x9 y9 := ⟨_, rfl⟩
        have HB9 : Hid (ltS (L.getD d none_Slot) (L.getD c none_Slot) = b9) := Lib.hid (by rw [hb9, hx9, hy9])
        obtain ⟨z9, hz9⟩ : ∃ z9, z9 = cmpI x9.2.2.1 y9.2.2.1 := ⟨_, rfl⟩
        have hzb : decide (z9 < 0) = b9 := by rw [hz9, hb9, cmpI_neg]; rfl
        have HCL := fun n os => closure_grown x9 y9 wr n os
        rw [← hz9] at HCL
        obtain ⟨c0, c1, c2, c3, -, -, -, -⟩ := row_at HS.out (p := d) hdm x9 hx9
        obtain ⟨e0, e1, e2, e3, -, -, -, -⟩ := row_at HS.out (p := c) hcm y9 hy9
        have hgr : g < wr.heap.size := World.block_lt_of_cell? _ _ c0
        have c0 := cell_grown hgr c0
        have c1 := cell_grown hgr c1
        have c2 := cell_grown hgr c2
        have c3 := cell_grown hgr c3
        have e0 := cell_grown hgr e0
        have e1 := cell_grown hgr e1
        have e2 := cell_grown hgr e2
        have e3 := cell_grown hgr e3
        obtain ⟨x0, x1, x2, x3⟩ := x9
        obtain ⟨y0, y1, y2, y3⟩ := y9
        simp only at c0 c1 c2 c3 e0 e1 e2 e3 HCL
        clear hx9 hy9 hb9 hz9
        cases b9 with
        | true =>
          go_wp2_with fail
          go_quiet_grown (first | (go_at_call 57; refine Calls.grown_of (HCL _ _)))
          have HS2 := Lib.hid (srow_grown HS.out nq osq)
          have HG2 := Lib.hid (grown_growN HG.out nq osq)
          obtain ⟨W, hW⟩ : ∃ W, W = grow (wr.drewN nq) osq := ⟨_, rfl⟩
          simp only
          rw [← hW] at HS2 HG2 ⊢
          clear hW HS HG c0 c1 c2 c3 e0 e1 e2 e3 HCL hgr

          have HBI : Hid (BinInv (symF L p9) a k i c) := Lib.hid (bin_true HI.out HMO.out (by omega) (by omega) (by unfold symF; rw [HDC.out]; exact HB9.out))
          go_wp2_with fail
          go_roundw
          case rel => exact ⟨i, c, rfl, by first | rfl | go_num, hi1, by omega, by omega, HBI, HS2, HG2⟩
          case measure => simp [intOf]; omega
        | false =>
          go_wp2_with fail
          go_quiet_grown (first | (go_at_call 57; refine Calls.grown_of (HCL _ _)))
          have HS2 := Lib.hid (srow_grown HS.out nq osq)
          have HG2 := Lib.hid (grown_growN HG.out nq osq)
          obtain ⟨W, hW⟩ : ∃ W, W = grow (wr.drewN nq) osq := ⟨_, rfl⟩
          simp only
          rw [← hW] at HS2 HG2 ⊢
          clear hW HS HG c0 c1 c2 c3 e0 e1 e2 e3 HCL hgr

          have HBI : Hid (BinInv (symF L p9) a k (c + 1) j) := Lib.hid (bin_false HI.out HMO.out (by omega) (by omega) (by unfold symF; rw [HDC.out]; exact HB9.out))
          go_wp2_with fail
          go_roundw
          case rel => exact ⟨c + 1, j, by go_num, rfl, by omega, by omega, hjb, HBI, HS2, HG2⟩
          case measure => simp [intOf]; omega
      · have hd : decide ((i : Int) < (j : Int)) = false := decide_eq_false (by omega)
        have hd2 : decide (i < j) = false := decide_eq_false (by omega)
        obtain rfl : i = j := by omega
        have hrr := HRR.out
        unfold SymR at hrr
        obtain ⟨e, he⟩ : ∃ e, e + i = mid + k := ⟨mid + k - i, by omega⟩
        have hee : (nn : Int) - (i : Int) = (e : Int) := by have := HNN.out; omega
        obtain ⟨b1, b2, b3, b4, hcut9⟩ := HFD.out i e he HI.out
        have HCUT := Lib.hid hcut9
        have hn1 : e ≤ 1000 := by omega
        have hn2 : i ≤ 1000 := by omega
        have HE := Lib.hid he
        have hnm : mid ≤ b := by omega
        have ham : a ≤ mid := by omega
        clear hrr hcut9 he hlt hij hjb hi1 HI HMO HFD
        have HST : Hid (∃ A1 A2 B1 B2, SymCut A B A1 A2 B1 B2 ∧ a + A1.length = i ∧ k + B1.length = e ∧ SRow wr base g m cap (P ++ A1 ++ A2 ++ B1 ++ B2 ++ S)) := Lib.hid (by
          obtain ⟨A1, A2, B1, B2, h1, h2, h3⟩ := HCUT.out
          refine ⟨A1, A2, B1, B2, h1, h2, h3, ?_⟩
          have h9 := HS.out
          rw [HL.out, h1.1, h1.2.1] at h9
          simpa using h9)
        obtain ⟨A1, A2, B1, B2, hC, hA1, hB1, hS1⟩ := HST.out
        have HC := Lib.hid hC
        have hA12 : A1.length + A2.length = A.length := by rw [hC.1]; simp
        have hB12 : B1.length + B2.length = B.length := by rw [hC.2.1]; simp
        have HS1 := Lib.hid hS1
        have HLE := Lib.hid (And.intro hA1 (And.intro hB1 (And.intro hA12 hB12)))
        have HSO : Hid (A1.Pairwise leS ∧ A2.Pairwise leS ∧ B1.Pairwise leS ∧ B2.Pairwise leS) := Lib.hid (by
          have h1 := hsA
          have h2 := hsB
          rw [hC.1, List.pairwise_append] at h1
          rw [hC.2.1, List.pairwise_append] at h2
          exact ⟨h1.1, h1.2.1, h2.1, h2.2.1⟩)
        clear hC hA1 hB1 hA12 hB12 hS1 HST HCUT HS
        obtain ⟨gA, hgA⟩ : ∃ g, g = decide (i < k ∧ k < e) := ⟨_, rfl⟩
        have HgA := Lib.hid hgA
        clear hgA
        go_upto_region 39 with fail
        go_cut [185] from 186 (fun v wx => v = .bool gA ∧ wr = wx)
        case first =>
          by_cases q1 : i < k
          · have d1 : decide ((i : Int) < (k : Int)) = true := decide_eq_true (by omega)
            by_cases q2 : k < e
            · have d2 : decide ((k : Int) < (e : Int)) = true := decide_eq_true (by omega)
              go_wp2_with fail
              go_meet
              case rel => exact ⟨by rw [HgA.out]; simp [q1, q2], rfl⟩
            · have d2 : decide ((k : Int) < (e : Int)) = false := decide_eq_false (by omega)
              have d3 : decide (k < e) = false := decide_eq_false q2
              go_wp2_with fail
              go_meet
              case rel => exact ⟨by rw [HgA.out]; simp [q1, q2], rfl⟩
          · have d1 : decide ((i : Int) < (k : Int)) = false := decide_eq_false (by omega)
            have d3 : decide (i < k) = false := decide_eq_false q1
            go_wp2_with fail
            go_meet
            case rel => exact ⟨by rw [HgA.out]; simp [q1], rfl⟩
        case rest =>
          obtain ⟨rfl, rfl⟩ := hcut
          go_upto_if 185 with fail
          go_cut [] from 186 (fun wx => Hid (SRow wx base g m cap (P ++ (A1 ++ B1) ++ (A2 ++ B2) ++ S)) ∧ Hid (w.grownBy wx (some g)))
          case first =>
            have h9 := HLE.out
            have h8 := HK.out
            have hE9 := HE.out
            cases gA with
            | true =>
              have q : i < k ∧ k < e := of_decide_eq_true HgA.out.symm
              have HRC : Hid (∀ w' : World, SRow w' base g m cap (P ++ A1 ++ A2 ++ B1 ++ (B2 ++ S)) → Calls Tryd.prog 108 #[.slice (some ⟨g, 0, none⟩) m cap, .int .i64 (i : Int), .int .i64 (k : Int), .int .i64 (e : Int), .func (.func 57) #[] #[]] w' fun e w'' => (∃ r, e = .returned r) ∧ SRow w'' base g m cap (P ++ A1 ++ B1 ++ A2 ++ (B2 ++ S)) ∧ w'.grownBy w'' (some g)) := Lib.hid (fun w' h => rotate_any base g m cap (P ++ A1) A2 B1 (B2 ++ S) i k e (by rw [List.length_append]; omega) (by omega) (by omega) (by omega) (by omega) hm _ w' h)
              have HS4 : Hid (SRow wr base g m cap (P ++ A1 ++ A2 ++ B1 ++ (B2 ++ S))) := Lib.hid (by simpa using HS1.out)
              clear h9 h8 hE9 q
              go_wp2_with (go_at_call 108; refine (HRC.out _ HS4.out).mono ?_; rintro e w4 ⟨⟨r, rfl⟩, hM, hg4⟩; have HM2 := Lib.hid hM; have HG4 := Lib.hid (grown_trans HG.out hg4); clear hM hg4)
              go_meet
              case rel => exact ⟨Lib.hid (by simpa using HM2.out), HG4⟩
            | false =>
              have q : ¬ (i < k ∧ k < e) := of_decide_eq_false HgA.out.symm
              have HO2 : Hid (SRow wr base g m cap (P ++ (A1 ++ B1) ++ (A2 ++ B2) ++ S)) := Lib.hid (by
                have h7 := HS1.out
                rcases Nat.eq_zero_or_pos A2.length with h | h
                · rw [List.length_eq_zero_iff.1 h] at h7 ⊢; simpa using h7
                · rw [List.length_eq_zero_iff.1 (show B1.length = 0 by omega)] at h7 ⊢; simpa using h7)
              clear h9 h8 hE9 q
              go_wp2_with fail
              go_meet
              case rel => exact ⟨HO2, HG⟩
          case rest =>
            obtain ⟨HS2, HG2⟩ := hcut
            clear HS1 HG
            obtain ⟨gB, hgB⟩ : ∃ g, g = decide (a < i ∧ i < mid) := ⟨_, rfl⟩
            have HgB := Lib.hid hgB
            clear hgB
            go_upto_region 41 with fail
            go_cut [199] from 200 (fun v wx => v = .bool gB ∧ wc = wx)
            case first =>
              by_cases q1 : a < i
              · have d1 : decide ((a : Int) < (i : Int)) = true := decide_eq_true (by omega)
                by_cases q2 : i < mid
                · have d2 : decide ((i : Int) < (mid : Int)) = true := decide_eq_true (by omega)
                  go_wp2_with fail
                  go_meet
                  case rel => exact ⟨by rw [HgB.out]; simp [q1, q2], rfl⟩
                · have d2 : decide ((i : Int) < (mid : Int)) = false := decide_eq_false (by omega)
                  have d3 : decide (i < mid) = false := decide_eq_false q2
                  go_wp2_with fail
                  go_meet
                  case rel => exact ⟨by rw [HgB.out]; simp [q1, q2], rfl⟩
              · have d1 : decide ((a : Int) < (i : Int)) = false := decide_eq_false (by omega)
                have d3 : decide (a < i) = false := decide_eq_false q1
                go_wp2_with fail
                go_meet
                case rel => exact ⟨by rw [HgB.out]; simp [q1], rfl⟩
            case rest =>
              obtain ⟨rfl, rfl⟩ := hcut
              go_upto_if 199 with fail
              go_cut [] from 200 (fun wx => Hid (∃ M1, SRow wx base g m cap (P ++ M1 ++ (A2 ++ B2) ++ S) ∧ M1.Pairwise leS ∧ Bub ltS (A1 ++ B1) M1) ∧ Hid (w.grownBy wx (some g)))
              case first =>
                have h9 := HLE.out
                have h8 := HK.out
                have hE9 := HE.out
                cases gB with
                | true =>
                  have q : a < i ∧ i < mid := of_decide_eq_true HgB.out.symm
                  have HRC : Hid (∀ w' : World, SRow w' base g m cap (P ++ A1 ++ B1 ++ (A2 ++ B2 ++ S)) → Calls Tryd.prog 104 #[.slice (some ⟨g, 0, none⟩) m cap, .int .i64 (a : Int), .int .i64 (i : Int), .int .i64 (mid : Int), .func (.func 57) #[] #[]] w' fun e w'' => (∃ r, e = .returned r) ∧ (∃ M', SRow w'' base g m cap (P ++ M' ++ (A2 ++ B2 ++ S)) ∧ M'.Pairwise leS ∧ Bub ltS (A1 ++ B1) M') ∧ w'.grownBy w'' (some g)) := Lib.hid (fun w' h => HIH.out P A1 B1 (A2 ++ B2 ++ S) a i mid (by have := HN.out.1; omega) (by omega) (by omega) h8.1 (by omega) (by omega) HSO.out.1 HSO.out.2.2.1 w' h)
                  have HS4 : Hid (SRow wc base g m cap (P ++ A1 ++ B1 ++ (A2 ++ B2 ++ S))) := Lib.hid (by simpa using HS2.out)
                  clear h9 h8 hE9 q
                  go_wp2_with (go_at_call 104; refine (HRC.out _ HS4.out).mono ?_; rintro e w4 ⟨⟨r, rfl⟩, hM, hg4⟩; have HM2 := Lib.hid hM; have HG4 := Lib.hid (grown_trans HG2.out hg4); clear hM hg4)
                  go_meet
                  case rel =>
                    refine ⟨Lib.hid ?_, HG4⟩
                    obtain ⟨M1, hs4, ho, hb9⟩ := HM2.out
                    exact ⟨M1, by simpa using hs4, ho, hb9⟩
                | false =>
                  have q : ¬ (a < i ∧ i < mid) := of_decide_eq_false HgB.out.symm
                  have HO2 : Hid ((A1 ++ B1).Pairwise leS) := Lib.hid (by
                    rcases Nat.eq_zero_or_pos A1.length with h | h
                    · rw [List.length_eq_zero_iff.1 h]; exact HSO.out.2.2.1
                    · rw [List.length_eq_zero_iff.1 (show B1.length = 0 by omega), List.append_nil]; exact HSO.out.1)
                  clear h9 h8 hE9 q
                  go_wp2_with fail
                  go_meet
                  case rel => exact ⟨Lib.hid ⟨A1 ++ B1, HS2.out, HO2.out, .refl _⟩, HG2⟩
              case rest =>
                obtain ⟨HMX, HG3⟩ := hcut
                clear HS2 HG2
                obtain ⟨M1, hs3, ho1, hm1⟩ := HMX.out
                have HS3 := Lib.hid hs3
                have HO1 := Lib.hid ho1
                have HM1 := Lib.hid hm1
                clear HMX hs3 ho1 hm1
                obtain ⟨gC, hgC⟩ : ∃ g, g = decide (mid < e ∧ e < b) := ⟨_, rfl⟩
                have HgC := Lib.hid hgC
                clear hgC
                go_upto_region 43 with fail
                go_cut [213] from 214 (fun v wx => v = .bool gC ∧ wc = wx)
                case first =>
                  by_cases q1 : mid < e
                  · have d1 : decide ((mid : Int) < (e : Int)) = true := decide_eq_true (by omega)
                    by_cases q2 : e < b
                    · have d2 : decide ((e : Int) < (b : Int)) = true := decide_eq_true (by omega)
                      go_wp2_with fail
                      go_meet
                      case rel => exact ⟨by rw [HgC.out]; simp [q1, q2], rfl⟩
                    · have d2 : decide ((e : Int) < (b : Int)) = false := decide_eq_false (by omega)
                      have d3 : decide (e < b) = false := decide_eq_false q2
                      go_wp2_with fail
                      go_meet
                      case rel => exact ⟨by rw [HgC.out]; simp [q1, q2], rfl⟩
                  · have d1 : decide ((mid : Int) < (e : Int)) = false := decide_eq_false (by omega)
                    have d3 : decide (mid < e) = false := decide_eq_false q1
                    go_wp2_with fail
                    go_meet
                    case rel => exact ⟨by rw [HgC.out]; simp [q1], rfl⟩
                case rest =>
                  obtain ⟨rfl, rfl⟩ := hcut
                  have h9 := HLE.out
                  have h8 := HK.out
                  have hE9 := HE.out
                  cases gC with
                  | true =>
                    have q : mid < e ∧ e < b := of_decide_eq_true HgC.out.symm
                    have HRC : Hid (∀ w' : World, SRow w' base g m cap (P ++ M1 ++ A2 ++ B2 ++ S) → Calls Tryd.prog 104 #[.slice (some ⟨g, 0, none⟩) m cap, .int .i64 (mid : Int), .int .i64 (e : Int), .int .i64 (b : Int), .func (.func 57) #[] #[]] w' fun e w'' => (∃ r, e = .returned r) ∧ (∃ M', SRow w'' base g m cap (P ++ M1 ++ M' ++ S) ∧ M'.Pairwise leS ∧ Bub ltS (A2 ++ B2) M') ∧ w'.grownBy w'' (some g)) := Lib.hid (fun w' h => HIH.out (P ++ M1) A2 B2 S mid e b (by have := HN.out.1; omega) (by omega) (by omega) (by rw [List.length_append]; have := HM1.out.length; simp at this; omega) (by omega) (by omega) HSO.out.2.1 HSO.out.2.2.2 w' h)
                    have HS4 : Hid (SRow wc base g m cap (P ++ M1 ++ A2 ++ B2 ++ S)) := Lib.hid (by simpa using HS3.out)
                    clear h9 h8 hE9 q
                    go_wp2_with (go_at_call 104; refine (HRC.out _ HS4.out).mono ?_; rintro e w4 ⟨⟨r, rfl⟩, hM, hg4⟩; have HM2 := Lib.hid hM; have HG4 := Lib.hid (grown_trans HG3.out hg4); clear hM hg4)
                    go_end0
                    obtain ⟨M2, hs4, ho2, hb2⟩ := HM2.out
                    have h7 := symCut_end HC.out hsA hsB HO1.out ho2 HM1.out hb2
                    exact ⟨⟨_, rfl⟩, ⟨M1 ++ M2, by simpa using hs4, h7.1, h7.2⟩, HG4.out⟩
                  | false =>
                    have q : ¬ (mid < e ∧ e < b) := of_decide_eq_false HgC.out.symm
                    have HO2 : Hid ((A2 ++ B2).Pairwise leS) := Lib.hid (by
                      rcases Nat.eq_zero_or_pos A2.length with h | h
                      · rw [List.length_eq_zero_iff.1 h]; exact HSO.out.2.2.2
                      · rw [List.length_eq_zero_iff.1 (show B2.length = 0 by omega), List.append_nil]; exact HSO.out.2.1)
                    clear h9 h8 hE9 q
                    go_wp2_with fail
                    go_end0
                    have h7 := symCut_end HC.out hsA hsB HO1.out HO2.out HM1.out (.refl _)
                    exact ⟨⟨_, rfl⟩, ⟨M1 ++ (A2 ++ B2), by simpa using HS3.out, h7.1, h7.2⟩, HG3.out⟩
end Go.Proofs.YtgpplfhbgkcjhaaDoor
namespace Go.Proofs.YtgpplfhbgkcjhaaDoor
open Go.RowKit Go.Sort

set_option maxRecDepth 100000 in
set_option maxHeartbeats 3200000 in
theorem stable_few (base g m cap : Nat) (L : List SlotV) (hm : m < 20) (w : World) (hR : SRow w base g m cap L) :
    Calls Tryd.prog 85 #[.slice (some ⟨g, 0, none⟩) m cap, .int .i64 (m : Int), lessF] w fun e w' => (∃ r, e = .returned r) ∧ (∃ M', SRow w' base g m cap M' ∧ M'.Pairwise leS ∧ Bub ltS L M') ∧ w.grownBy w' (some g) := by
  have HIN : Hid (∀ w : World, SRow w base g m cap L → Calls Tryd.prog 103 #[.slice (some ⟨g, 0, none⟩) m cap, .int .i64 0, .int .i64 (m : Int), lessF] w fun e w' => (∃ r, e = .returned r) ∧ (∃ M', SRow w' base g m cap M' ∧ M'.Pairwise leS ∧ Bub ltS L M') ∧ w.grownBy w' (some g)) := Lib.hid (fun w h => (insertion_any base g m cap [] L [] 0 m rfl (by rw [Nat.zero_add]; exact h.2.symm) (by omega) w (by simpa using h)).mono fun _ _ ⟨h1, ⟨M', h2, h3, h4⟩, h5⟩ => ⟨h1, ⟨M', by simpa using h2, h3, h4⟩, h5⟩)
  have HR := Lib.hid hR
  have d1 : decide ((20 : Int) ≤ (m : Int)) = false := decide_eq_false (by omega)
  have d2 : decide ((20 : Int) < (m : Int)) = false := decide_eq_false (by omega)
  clear hR
  unfold lessF at HIN ⊢
  go_enter Tryd.func85, Tryd.ntmps85
  go_wp2_with fail
  go_loopw [7, 8] (fun u v wr => u = .int .i64 0 ∧ v = .int .i64 20 ∧ w = wr) (fun _ _ _ => 0)
  case atStart => exact ⟨rfl, rfl, rfl⟩
  case round =>
    obtain ⟨rfl, rfl, rfl⟩ := hrel
    go_wp2_with (go_at_call 103; refine (HIN.out _ HR.out).mono ?_; rintro e w2 ⟨⟨r, rfl⟩, hM, hg⟩; have HM := Lib.hid hM; have HG := Lib.hid hg; clear hM hg)
    go_loopw [6, 7, 8, 9] (fun t u v x wr => t = .int .i64 20 ∧ w2 = wr) (fun _ _ _ _ _ => 0)
    case atStart => exact ⟨rfl, rfl⟩
    case round =>
      obtain ⟨rfl, rfl⟩ := hrel
      go_wp2_with fail
      go_end0
      exact ⟨⟨_, rfl⟩, HM.out, HG.out⟩
set_option maxRecDepth 100000 in
set_option maxHeartbeats 3200000 in
theorem stable_more (base g m cap : Nat) (L : List SlotV) (hm : 20 ≤ m) (hm2 : m ≤ 39) (w : World) (hR : SRow w base g m cap L) :
    Calls Tryd.prog 85 #[.slice (some ⟨g, 0, none⟩) m cap, .int .i64 (m : Int), lessF] w fun e w' => (∃ r, e = .returned r) ∧ (∃ M', SRow w' base g m cap M' ∧ M'.Pairwise leS ∧ Bub ltS L M') ∧ w.grownBy w' (some g) := by
  have hmix : Tryd.prog.follows .mixedOrders = true := by kernel_rfl
  obtain ⟨X, Y, hXY, hX20⟩ := split_l8 L 20 (by have := hR.2; omega)
  have hY : 20 + Y.length = m := by have := hR.2; rw [hXY] at this; simp at this; omega
  rw [hXY] at hR ⊢
  have HIN : Hid (∀ w : World, SRow w base g m cap (X ++ Y) → Calls Tryd.prog 103 #[.slice (some ⟨g, 0, none⟩) m cap, .int .i64 0, .int .i64 20, lessF] w fun e w' => (∃ r, e = .returned r) ∧ (∃ M', SRow w' base g m cap (M' ++ Y) ∧ M'.Pairwise leS ∧ Bub ltS X M') ∧ w.grownBy w' (some g)) := Lib.hid (fun w h => (insertion_any base g m cap [] X Y 0 20 rfl (by omega) (by omega) w (by simpa using h)).mono fun _ _ ⟨h1, ⟨M', h2, h3, h4⟩, h5⟩ => ⟨h1, ⟨M', by simpa using h2, h3, h4⟩, h5⟩)
  have HIN2 : Hid (∀ (M : List SlotV) (w : World), M.length = 20 → SRow w base g m cap (M ++ Y) → Calls Tryd.prog 103 #[.slice (some ⟨g, 0, none⟩) m cap, .int .i64 20, .int .i64 (m : Int), lessF] w fun e w' => (∃ r, e = .returned r) ∧ (∃ M', SRow w' base g m cap (M ++ M') ∧ M'.Pairwise leS ∧ Bub ltS Y M') ∧ w.grownBy w' (some g)) := Lib.hid (fun M w hM h => (insertion_any base g m cap M Y [] 20 m hM hY (by omega) w (by simpa using h)).mono fun _ _ ⟨h1, ⟨M', h2, h3, h4⟩, h5⟩ => ⟨h1, ⟨M', by simpa using h2, h3, h4⟩, h5⟩)
  have HSY : Hid (∀ (M N : List SlotV) (w : World), M.length = 20 → 20 + N.length = m → 20 < m → M.Pairwise leS → N.Pairwise leS → SRow w base g m cap (M ++ N) → Calls Tryd.prog 104 #[.slice (some ⟨g, 0, none⟩) m cap, .int .i64 0, .int .i64 20, .int .i64 (m : Int), lessF] w fun e w' => (∃ r, e = .returned r) ∧ (∃ M', SRow w' base g m cap M' ∧ M'.Pairwise leS ∧ Bub ltS (M ++ N) M') ∧ w.grownBy w' (some g)) := Lib.hid (fun M N w hM hN h20 h1 h2 h => (sym_any base g m cap (by omega) _ [] M N [] 0 20 m (Nat.le_refl _) (by omega) (by omega) rfl (by omega) (by omega) h1 h2 w (by simpa using h)).mono fun _ _ ⟨h1, ⟨M', h2, h3, h4⟩, h5⟩ => ⟨h1, ⟨M', by simpa using h2, h3, h4⟩, h5⟩)
  have HR := Lib.hid hR
  have HX20 := Lib.hid hX20
  have HY := Lib.hid hY
  have d1 : decide ((20 : Int) ≤ (m : Int)) = true := decide_eq_true (by omega)
  have d2 : decide ((40 : Int) ≤ (m : Int)) = false := decide_eq_false (by omega)
  have d3 : decide ((40 : Int) < (m : Int)) = false := decide_eq_false (by omega)
  clear hR hXY hX20 hY
  unfold lessF at HIN HIN2 HSY ⊢
  go_enter Tryd.func85, Tryd.ntmps85
  go_wp2_with fail
  go_loopw [7, 8] (fun u v wr => (u = .int .i64 0 ∧ v = .int .i64 20 ∧ w = wr) ∨ (u = .int .i64 20 ∧ v = .int .i64 40 ∧ Hid (∃ M, M.length = 20 ∧ SRow wr base g m cap (M ++ Y) ∧ M.Pairwise leS ∧ Bub ltS X M) ∧ Hid (w.grownBy wr (some g)))) (fun _ v _ => 40 - (intOf v).toNat)
  case atStart => exact .inl ⟨rfl, rfl, rfl⟩
  case round =>
    rcases hrel with ⟨rfl, rfl, rfl⟩ | ⟨rfl, rfl, HM, HG⟩
    · go_wp2_with (go_at_call 103; refine (HIN.out _ HR.out).mono ?_; rintro e w2 ⟨⟨r, rfl⟩, hM, hg⟩; have HM := Lib.hid hM; have HG := Lib.hid hg; clear hM hg)
      have HM2 : Hid (∃ M, M.length = 20 ∧ SRow w2 base g m cap (M ++ Y) ∧ M.Pairwise leS ∧ Bub ltS X M) := Lib.hid (by
        obtain ⟨M, h1, h2, h3⟩ := HM.out
        exact ⟨M, h3.length.symm.trans HX20.out, h1, h2, h3⟩)
      go_roundw
      case rel => exact .inr ⟨rfl, rfl, HM2, HG⟩
      case measure => simp [intOf]
    · obtain ⟨M, hM20, hs, hso, hbu⟩ := HM.out
      have HS := Lib.hid hs
      have HMF := Lib.hid (And.intro hM20 (And.intro hso hbu))
      clear hM20 hs hso hbu HM
      go_wp2_with (go_at_call 103; refine (HIN2.out M _ HMF.out.1 HS.out).mono ?_; rintro e w2 ⟨⟨r, rfl⟩, hM, hg⟩; have HN := Lib.hid hM; have HG2 := Lib.hid (grown_trans HG.out hg); clear hM hg)
      obtain ⟨N, hsN, hsoN, hbuN⟩ := HN.out
      have HS2 := Lib.hid hsN
      have HNF := Lib.hid (And.intro hsoN hbuN)
      have HNL : Hid (20 + N.length = m) := Lib.hid (by rw [← hbuN.length]; exact HY.out)
      have HBB : Hid (Bub ltS (X ++ Y) (M ++ N)) := Lib.hid (by
        have h1 := HMF.out.2.2.ctx [] Y
        have h2 := hbuN.ctx M []
        simp only [List.nil_append, List.append_nil] at h1 h2
        exact h1.trans h2)
      clear HN hsN hsoN hbuN HS
      obtain ⟨wo, hwo⟩ : ∃ wo, wo = w2 := ⟨_, rfl⟩
      rw [← hwo] at HS2 HG2 ⊢
      clear hwo w2
      go_loopw [6, 7, 8, 9] (fun t u v x wr => (t = .int .i64 20 ∧ wo = wr) ∨ (t = .int .i64 40 ∧ Hid (∃ M', SRow wr base g m cap M' ∧ M'.Pairwise leS ∧ Bub ltS (X ++ Y) M') ∧ Hid (w.grownBy wr (some g)))) (fun t _ _ _ _ => 40 - (intOf t).toNat)
      case atStart => exact .inl ⟨rfl, rfl⟩
      case round =>
        rcases hrel with ⟨rfl, rfl⟩ | ⟨rfl, HF, HG3⟩
        · by_cases h20 : 20 < m
          · have d4 : decide ((20 : Int) < (m : Int)) = true := decide_eq_true (by omega)
            go_wp2_with fail
            go_loopw [7, 8] (fun u v wr => u = .int .i64 0 ∧ v = .int .i64 40 ∧ wo = wr) (fun _ _ _ => 0)
            case atStart => exact ⟨rfl, rfl, rfl⟩
            case round =>
              obtain ⟨rfl, rfl, rfl⟩ := hrel
              go_wp2_with (go_at_call 104; refine (HSY.out M N _ HMF.out.1 HNL.out h20 HMF.out.2.1 HNF.out.1 HS2.out).mono ?_; rintro e w3 ⟨⟨r, rfl⟩, hM, hg⟩; have HM3 := Lib.hid hM; have HG4 := Lib.hid (grown_trans HG2.out hg); clear hM hg)
              have HF3 : Hid (∃ M', SRow w3 base g m cap M' ∧ M'.Pairwise leS ∧ Bub ltS (X ++ Y) M') := Lib.hid (by
                obtain ⟨M', h1, h2, h3⟩ := HM3.out
                exact ⟨M', h1, h2, HBB.out.trans h3⟩)
              go_roundw
              case rel => exact .inr ⟨rfl, HF3, HG4⟩
              case measure => simp [intOf]
          · have d4 : decide ((20 : Int) < (m : Int)) = false := decide_eq_false (by omega)
            have HF3 : Hid (∃ M', SRow wo base g m cap M' ∧ M'.Pairwise leS ∧ Bub ltS (X ++ Y) M') := Lib.hid (by
              have hN0 : N = [] := List.length_eq_zero_iff.1 (by have := HNL.out; omega)
              refine ⟨M ++ N, HS2.out, ?_, HBB.out⟩
              rw [hN0, List.append_nil]
              exact HMF.out.2.1)
            go_wp2_with fail
            go_end0
            exact ⟨⟨_, rfl⟩, HF3.out, HG2.out⟩
        · go_wp2_with fail
          go_end0
          exact ⟨⟨_, rfl⟩, HF.out, HG3.out⟩
theorem stable_any (base g m cap : Nat) (L : List SlotV) (hm : m ≤ 39) (w : World) (hR : SRow w base g m cap L) :
    Calls Tryd.prog 85 #[.slice (some ⟨g, 0, none⟩) m cap, .int .i64 (m : Int), lessF] w fun e w' => (∃ r, e = .returned r) ∧ (∃ M', SRow w' base g m cap M' ∧ M'.Pairwise leS ∧ Bub ltS L M') ∧ w.grownBy w' (some g) := by
  by_cases h : m < 20
  · exact stable_few base g m cap L h w hR
  · exact stable_more base g m cap L (by omega) hm w hR
theorem sort_any (base g m cap : Nat) (L : List SlotV) (hm : m ≤ 39) (w : World) (hR : SRow w base g m cap L) :
    Calls Tryd.prog 56 #[.slice (some ⟨g, 0, none⟩) m cap, lessF] w fun e w' => (∃ r, e = .returned r) ∧ (∃ M', SRow w' base g m cap M' ∧ M'.Pairwise leS ∧ Bub ltS L M') ∧ w.grownBy w' (some g) := by
  have HST := Lib.hid (stable_any base g m cap L hm w hR)
  clear hR
  unfold lessF at HST ⊢
  go_enter Tryd.func56, Tryd.ntmps56
  go_wp2_with (go_at_call 85; refine HST.out.mono ?_; rintro e w2 ⟨⟨r, rfl⟩, hM, hg⟩; have HM := Lib.hid hM; have HG := Lib.hid hg; clear hM hg)
  go_end0
  exact ⟨⟨_, rfl⟩, HM.out, HG.out⟩
end Go.Proofs.YtgpplfhbgkcjhaaDoor
