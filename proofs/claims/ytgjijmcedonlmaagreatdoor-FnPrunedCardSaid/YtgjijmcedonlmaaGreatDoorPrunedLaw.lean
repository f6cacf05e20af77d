/-
  The walk of the law FnPruned: true at every argument.
-/
import Derived.Test.YtgjijmcedonlmaaGreatDoorPrunedLawA
import Derived.Test.YtgjijmcedonlmaaGreatDoorQuietBelow
import Derived.Test.YtgjijmcedonlmaaGreatDoorFillB
import Derived.Test.YtgjijmcedonlmaaGreatDoorSame
namespace Go.Proofs.YtgjijmcedonlmaaGreatDoor
open Go.RowKit

theorem follows_mix12 : Tryz.prog.follows .mixedOrders = true := by kernel_rfl
set_option maxRecDepth 100000 in
set_option maxHeartbeats 12800000 in
theorem pruned_walk (n cap : Nat) (a0 : Option Addr) (w : World) (hc : Code w.heap.size w a0 n) (hn : n ≤ 1048576) (hml : ML w) :
    Calls Tryz.prog 3 #[.slice a0 n cap] w fun e w' => e = .returned (.bool true) ∧ Below w.heap.size w w' := by
  have hfm := follows_mix12
  go_enter Tryz.func3, Tryz.ntmps3
  go_wp2_with (first | (go_at_call 4; refine (big_no n cap a0 hn _).mono ?_; rintro e w0 ⟨rfl, rfl⟩) | (go_at_call 5; refine (dpr12_any n cap a0 _ hc hn).mono ?_; rintro e w1 ⟨r, c, s, v1, D, hig, hD, hm, rfl, hr1, b1⟩; have HB1 := Lib.hid b1; have HR1 := Lib.hid hr1; have HIG := Lib.hid hig; have HM := Lib.hid hm; clear b1 hr1 hig hm))
  have HC := Lib.hid hc
  have HML := Lib.hid hml
  clear hc hml
  obtain ⟨a1, c1, rfl⟩ : ∃ a1 c1, v1 = .slice a1 D.length c1 := HR1.out.form
  obtain ⟨W2, hW2⟩ : ∃ W2, W2 = w1.alloc (.cells #[.int .i64 r, .int .i64 c, .string s] 25) := ⟨_, rfl⟩
  have HX2 : Hid (W2.heap[w1.heap.size]? = some (.cells #[.int .i64 r, .int .i64 c, .string s] 25)) := Lib.hid (by rw [hW2]; exact new_block w1 _)
  have HB2 : Hid (Below w.heap.size w W2) := Lib.hid (by rw [hW2]; exact HB1.out.alloc HB1.out.size _)
  have HR2 : Hid (ReadsN W2.heap.size W2 (.slice a1 D.length c1) D) := Lib.hid (by rw [hW2]; exact HR1.out.now ((Below.refl _ _).alloc (Nat.le_refl _) _))
  rw [← hW2]
  clear hW2 HR1 HB1
  have hgs := isG_size HIG.out
  simp only at hgs
  have HMD : Hid (∀ m ∈ D, m.length ≤ 1048576 ∧ ∀ z ∈ m, z.size ≤ 1048576) := Lib.hid (fun m hm => ⟨by have := (HM.out m hm).1; omega, fun z hz => by have := (HM.out m hm).2 z hz; omega⟩)
  refine (iprun_any r c s D (by omega) (by omega) HMD.out _ W2 HR2.out).mono ?_
  rintro e w3 ⟨v3, E, rfl, o3, hp3, b3⟩
  have HPF := Lib.hid hp3
  have HEL := Lib.hid (pruF_len hp3)
  have HM3 := Lib.hid (pruF_10 hp3 HM.out)
  have HSN := Lib.hid (pru_count hp3)
  have HRE : Hid (ReadsN w3.heap.size w3 v3 E) := Lib.hid (o3.reads (by have := HEL.out; omega) (fun m hm => by have := (HM3.out m hm).1; omega))
  have HRD := Lib.hid (HR2.out.now b3)
  have HX3 := Lib.hid ((b3.block w1.heap.size (size_of_heap HX2.out)).trans HX2.out)
  have HB3 := Lib.hid (HB2.out.trans (b3.mono HB2.out.size))
  obtain ⟨a3, c3, rfl⟩ : ∃ a3 c3, v3 = .slice a3 D.length c3 := by
    obtain ⟨a, c, e⟩ := HRE.out.form
    exact ⟨a, c, by rw [e, HEL.out]⟩
  have HME : Hid (∀ m ∈ E, m.length ≤ 1048576 ∧ ∀ z ∈ m, z.size ≤ 1048576) := Lib.hid (fun m hm => ⟨by have := (HM3.out m hm).1; omega, fun z hz => by have := (HM3.out m hm).2 z hz; omega⟩)
  clear o3 hp3 b3 HR2 HX2 HB2
  have hnn : ((D.length : Int) != (D.length : Int)) = false := bne_self_eq_false _
  have HCE := Lib.hid (fun W h => icnt12_any E (by have := HEL.out; omega) (fun m hm => by have := (HM3.out m hm).1; omega) (.slice a3 D.length c3) W h)
  have HCD := Lib.hid (fun W h => icnt12_any D (by omega) (fun m hm => by have := (HM.out m hm).1; omega) (.slice a1 D.length c1) W h)
  have HSL := Lib.hid (fun W => islo_any r c s (by omega) W)
  have HSU := Lib.hid (fun (k : Nat) (x : ByteArray) v W hv => isup_any r c s E (k : Int) x (by omega) HME.out v W hv)
  have HPS := Lib.hid (fun h i hi => pru_sup HPF.out h (i := i) hi)
  have HPI := Lib.hid (fun i => pru_in HPF.out i)
  have HPR2 := Lib.hid (fun W hv => iprun_any r c s E (by omega) (by have := HEL.out; omega) HME.out (.slice a3 D.length c3) W hv)
  have HPE := Lib.hid (fun h E' hE' => pru_idem (E' := E') HPF.out h hE')
  obtain ⟨l, hl⟩ : ∃ l, l = slG (r, c, s) := ⟨_, rfl⟩
  rw [← hl] at HSL HPS HPE
  obtain ⟨sE, hsE⟩ : ∃ sE, sE = sumN E := ⟨_, rfl⟩
  obtain ⟨sD, hsD⟩ : ∃ sD, sD = sumN D := ⟨_, rfl⟩
  rw [← hsE] at HCE HSN
  rw [← hsD] at HCD HSN
  clear hl hsE hsD
  have hsn := HSN.out
  have hgt : decide ((sD : Int) < (sE : Int)) = false := decide_eq_false (by omega)
  have hgt2 : decide (sD < sE) = false := decide_eq_false (by omega)
  obtain ⟨x0, x1, x2, -⟩ := cells3 HX3.out
  have FL := Lib.hid trivial
  by_cases hDl : D.length = l.length
  · have HDl := Lib.hid hDl
    have hee : ((D.length : Int) == (l.length : Int)) = true := by rw [hDl]; exact beq_self_eq_true _
    clear hDl
    go_wp2_with (first | (go_at_call 7; have FG := FL; refine (HCE.out _ HRE.out).mono ?_; rintro e w4 ⟨rfl, b4⟩; have HB4 := Lib.hid b4; clear b4 FL FG) | (go_at_call 7; refine (HCD.out _ (HRD.out.now HB4.out)).mono ?_; rintro e w5 ⟨rfl, b5⟩; have HB5 := Lib.hid (HB4.out.trans (b5.mono HB4.out.size)); clear b5; have y0 := (HB5.out.cell (p := ⟨w1.heap.size, 0, none⟩) (size_of_heap HX3.out)).trans x0; have y1 := (HB5.out.cell (p := ⟨w1.heap.size, 1, none⟩) (size_of_heap HX3.out)).trans x1; have y2 := (HB5.out.cell (p := ⟨w1.heap.size, 2, none⟩) (size_of_heap HX3.out)).trans x2) | (go_at_call 8; refine (HSL.out _).mono ?_; rintro e w6 ⟨v6, rfl, o6, b6⟩; obtain ⟨a6, c6, rfl⟩ := ownV_slice o6; have HB6 := Lib.hid (HB5.out.trans (b6.mono HB5.out.size)); clear o6 b6))
    clear y0 y1 y2
    go_loopw [6] (fun i wr => ∃ k : Nat, k ≤ D.length ∧ i = .int .i64 (k : Int) ∧ Hid (Below w3.heap.size w3 wr)) (fun i _ => D.length - (intOf i).toNat)
    case atStart => exact ⟨0, Nat.zero_le _, rfl, HB6⟩
    case round =>
      clear HB4 HB5 HB6
      obtain ⟨k, hk, rfl, HB⟩ := hrel
      obtain ⟨wr1, rfl⟩ : ∃ x, x = wr := ⟨wr, rfl⟩
      by_cases hlt : k < D.length
      · have hd : decide ((k : Int) < (D.length : Int)) = true := decide_eq_true (by omega)
        have hkl : (k : Int) < (D.length : Int) := by omega
        have hk0 : (0 : Int) ≤ (k : Int) := by omega
        have HKE : Hid (k < E.length) := Lib.hid (by rw [HEL.out]; exact hlt)
        obtain ⟨-, a3', c3', e3, -, hcE⟩ := HRE.out.cells
        rw [HEL.out] at e3
        injection e3 with e3a e3b e3c
        subst e3a e3c
        obtain ⟨b1, o1, u1, rfl, hb1, q1, hu1⟩ := hcE k HKE.out
        obtain ⟨-, a1', c1', e1, -, hcD⟩ := HRD.out.cells
        injection e1 with e1a e1b e1c
        subst e1a e1c
        obtain ⟨b2, o2, u2, rfl, hb2, q2, hu2⟩ := hcD k hlt
        have HIN := Lib.hid (HPI.out k)
        have HSK := Lib.hid (HPS.out HDl.out k hlt)
        have hmE : (E.getD k []).length ≤ 36 := (HM3.out _ (by have := HKE.out; simp [List.getD, this])).1
        have hmD : (D.getD k []).length ≤ 36 := (HM.out _ (by simp [List.getD, hlt])).1
        obtain ⟨M, hM⟩ : ∃ M, M = E.getD k [] := ⟨_, rfl⟩
        obtain ⟨Md, hMd⟩ : ∃ Md, Md = D.getD k [] := ⟨_, rfl⟩
        rw [← hM] at hu1 HIN HSK hmE
        rw [← hMd] at hu2 HIN hmD
        have HU1 := Lib.hid hu1
        have HU2 := Lib.hid hu2
        obtain ⟨au, cu, rfl⟩ : ∃ a c, u1 = .slice a M.length c := by obtain ⟨-, a0, cap, e, -⟩ := hu1.cells; exact ⟨_, _, e⟩
        have HQ1 := Lib.hid q1
        clear hM hMd hu1 hu2 hcE hcD
        have p1 : ∀ q : BelowBy wr1, q.W.cell? ⟨b1, o1 + k, none⟩ = some (.slice au M.length cu) := fun q => ((HB.out.trans (q.h.mono HB.out.size)).cell (p := ⟨b1, o1 + k, none⟩) hb1).trans HQ1.out
        have p2 : ∀ q : BelowBy wr1, q.W.cell? ⟨b2, o2 + k, none⟩ = some u2 := fun q => ((HB.out.trans (q.h.mono HB.out.size)).cell (p := ⟨b2, o2 + k, none⟩) hb2).trans q2
        have HWI : Hid (∀ q : BelowBy wr1, Calls Tryz.prog 9 #[.slice au M.length cu, u2] q.W fun e w' => e = .returned (.bool true) ∧ Below q.W.heap.size q.W w') := Lib.hid (fun (q : BelowBy wr1) => (lwith_any M Md (by omega) (by omega) HIN.out (.slice au M.length cu) u2 q.W (ReadsV.now HU1.out (HB.out.trans (q.h.mono HB.out.size))) (ReadsV.now HU2.out (HB.out.trans (q.h.mono HB.out.size)))).mono fun _ _ h => ⟨h.1, by rw [← h.2]; exact Below.refl _ _⟩)
        clear q1 q2
        go_wp2_with fail
        refine wp_region_quiet_below (by assumption) (by kernel_rfl) ?_
        repeat (quiet_step (first | (go_at_call 9; refine calls_below (HWI.out _))))
        refine wpQuiet_nil ?_
        intro _ hw'
        obtain ⟨⟨wq, hwq⟩, hw''⟩ := hw'
        subst hw''
        have HBq := Lib.hid (HB.out.trans (hwq.mono HB.out.size))
        clear p1 p2 hwq
        go_wp2_with fail
        go_loopw [7] (fun j wr => ∃ m : Nat, m ≤ M.length ∧ j = .int .i64 (m : Int) ∧ Hid (Below w3.heap.size w3 wr)) (fun j _ => M.length - (intOf j).toNat)
        case atStart => exact ⟨0, Nat.zero_le _, rfl, HBq⟩
        case round =>
          clear HBq
          obtain ⟨m, hm, rfl, HB2⟩ := hrel
          obtain ⟨wr2, rfl⟩ : ∃ x, x = wr := ⟨wr, rfl⟩
          have r1 := (HB2.out.cell (p := ⟨b1, o1 + k, none⟩) hb1).trans HQ1.out
          by_cases hlt2 : m < M.length
          · have hd2 : decide ((m : Int) < (M.length : Int)) = true := decide_eq_true (by omega)
            have hml2 : (m : Int) < (M.length : Int) := by omega
            have hm0 : (0 : Int) ≤ (m : Int) := by omega
            obtain ⟨-, au', cu', e5, -, hcx⟩ := HU1.out.cells
            injection e5 with e5a e5b e5c
            subst e5a e5c
            obtain ⟨b3, o3, rfl, hb3, q3⟩ := hcx m hlt2
            have HXI := Lib.hid (HSK.out (M.getD m ⟨#[]⟩) (getD_mem M m ⟨#[]⟩ hlt2))
            obtain ⟨x, hx⟩ : ∃ x, x = M.getD m ⟨#[]⟩ := ⟨_, rfl⟩
            rw [← hx] at q3 HXI
            clear hx hcx
            have HSX := Lib.hid (fun (q : BelowBy wr2) => by
              have h9 := HSU.out k x (.slice (some ⟨b1, o1, none⟩) D.length c3) q.W (HRE.out.now (HB2.out.trans (q.h.mono HB2.out.size)))
              rw [HXI.out] at h9
              exact h9)
            have f0 : ∀ q : BelowBy wr2, q.W.cell? ⟨w1.heap.size, 0, none⟩ = some (.int .i64 r) := fun q => ((HB2.out.trans (q.h.mono HB2.out.size)).cell (p := ⟨w1.heap.size, 0, none⟩) (size_of_heap HX3.out)).trans x0
            have f1 : ∀ q : BelowBy wr2, q.W.cell? ⟨w1.heap.size, 1, none⟩ = some (.int .i64 c) := fun q => ((HB2.out.trans (q.h.mono HB2.out.size)).cell (p := ⟨w1.heap.size, 1, none⟩) (size_of_heap HX3.out)).trans x1
            have f2 : ∀ q : BelowBy wr2, q.W.cell? ⟨w1.heap.size, 2, none⟩ = some (.string s) := fun q => ((HB2.out.trans (q.h.mono HB2.out.size)).cell (p := ⟨w1.heap.size, 2, none⟩) (size_of_heap HX3.out)).trans x2
            have f3 : ∀ q : BelowBy wr2, q.W.cell? ⟨b1, o1 + k, none⟩ = some (.slice (some ⟨b3, o3, none⟩) M.length cu) := fun q => ((HB2.out.trans (q.h.mono HB2.out.size)).cell (p := ⟨b1, o1 + k, none⟩) hb1).trans HQ1.out
            have f4 : ∀ q : BelowBy wr2, q.W.cell? ⟨b3, o3 + m, none⟩ = some (.string x) := fun q => ((HB2.out.trans (q.h.mono HB2.out.size)).cell (p := ⟨b3, o3 + m, none⟩) hb3).trans q3
            clear q3
            go_wp2_with fail
            refine wp_region_quiet_below (by assumption) (by kernel_rfl) ?_
            repeat (quiet_step (first | (go_at_call 10; refine calls_below (HSX.out _))))
            refine wpQuiet_nil ?_
            intro _ hw'
            obtain ⟨⟨wq, hwq⟩, hw''⟩ := hw'
            subst hw''
            have HBq := Lib.hid (HB2.out.trans (hwq.mono HB2.out.size))
            clear f0 f1 f2 f3 f4 hwq r1
            go_wp2_with fail
            go_roundw
            case rel => exact ⟨m + 1, by omega, by go_num, HBq⟩
            case measure => simp [intOf]; omega
          · have hd2 : decide ((m : Int) < (M.length : Int)) = false := decide_eq_false (by omega)
            go_wp2_with fail
            go_roundw
            case rel => exact ⟨k + 1, by omega, by go_num, HB2⟩
            case measure => simp [intOf]; omega
      · have hd : decide ((k : Int) < (D.length : Int)) = false := decide_eq_false (by omega)
        have z0 := (HB.out.cell (p := ⟨w1.heap.size, 0, none⟩) (size_of_heap HX3.out)).trans x0
        have z1 := (HB.out.cell (p := ⟨w1.heap.size, 1, none⟩) (size_of_heap HX3.out)).trans x1
        have z2 := (HB.out.cell (p := ⟨w1.heap.size, 2, none⟩) (size_of_heap HX3.out)).trans x2
        go_wp2_with (go_at_call 6; refine (HPR2.out _ (HRE.out.now HB.out)).mono ?_; rintro e w7 ⟨v7, E', rfl, o7, hp7, b7⟩; obtain rfl := HPE.out HDl.out E' hp7; have HB7 := Lib.hid (HB.out.trans (b7.mono HB.out.size)); have HRQ : Hid (ReadsN w7.heap.size w7 v7 E') := Lib.hid (o7.reads (by have := HEL.out; omega) (fun m hm => by have := (HM3.out m hm).1; omega)); clear o7 hp7 b7)
        obtain ⟨a7, c7, rfl⟩ : ∃ a7 c7, v7 = .slice a7 D.length c7 := by
          obtain ⟨a, c, e⟩ := HRQ.out.form
          exact ⟨a, c, by rw [e, HEL.out]⟩
        go_wp2_with fail
        go_loopw [9] (fun i wr => ∃ k : Nat, k ≤ D.length ∧ i = .int .i64 (k : Int) ∧ Hid (Below w7.heap.size w7 wr)) (fun i _ => D.length - (intOf i).toNat)
        case atStart => exact ⟨0, Nat.zero_le _, rfl, Lib.hid (Below.refl _ _)⟩
        case round =>
          obtain ⟨m, hm, rfl, HB8⟩ := hrel
          obtain ⟨wr3, rfl⟩ : ∃ x, x = wr := ⟨wr, rfl⟩
          by_cases hlt3 : m < D.length
          · have hd3 : decide ((m : Int) < (D.length : Int)) = true := decide_eq_true (by omega)
            have hkl : (m : Int) < (D.length : Int) := by omega
            have hk0 : (0 : Int) ≤ (m : Int) := by omega
            have HKE : Hid (m < E'.length) := Lib.hid (by rw [HEL.out]; exact hlt3)
            have HR7 := Lib.hid (HRE.out.now HB7.out)
            obtain ⟨-, a3', c3', e3, -, hcE⟩ := HR7.out.cells
            rw [HEL.out] at e3
            injection e3 with e3a e3b e3c
            subst e3a e3c
            obtain ⟨b1, o1, u1, rfl, hb1, q1, hu1⟩ := hcE m HKE.out
            obtain ⟨-, a1', c1', e1, -, hcD⟩ := HRQ.out.cells
            rw [HEL.out] at e1
            injection e1 with e1a e1b e1c
            subst e1a e1c
            obtain ⟨b2, o2, u2, rfl, hb2, q2, hu2⟩ := hcD m HKE.out
            have hmE : (E'.getD m []).length ≤ 36 := (HM3.out _ (by have := HKE.out; simp [List.getD, this])).1
            have p1 : ∀ q : BelowBy wr3, q.W.cell? ⟨b1, o1 + m, none⟩ = some u1 := fun q => ((HB8.out.trans (q.h.mono HB8.out.size)).cell (p := ⟨b1, o1 + m, none⟩) hb1).trans q1
            have p2 : ∀ q : BelowBy wr3, q.W.cell? ⟨b2, o2 + m, none⟩ = some u2 := fun q => ((HB8.out.trans (q.h.mono HB8.out.size)).cell (p := ⟨b2, o2 + m, none⟩) hb2).trans q2
            have HSA := Lib.hid (fun (q : BelowBy wr3) => lsame_any (E'.getD m []) (by omega) u1 u2 q.W (ReadsV.now hu1 (HB8.out.trans (q.h.mono HB8.out.size))) (ReadsV.now hu2 (HB8.out.trans (q.h.mono HB8.out.size))))
            clear q1 q2 hu1 hu2 hcE hcD
            go_wp2_with fail
            refine wp_region_quiet_below (by assumption) (by kernel_rfl) ?_
            repeat (quiet_step (first | (go_at_call 11; refine calls_below (HSA.out _))))
            refine wpQuiet_nil ?_
            intro _ hw'
            obtain ⟨⟨wq, hwq⟩, hw''⟩ := hw'
            subst hw''
            have HBq := Lib.hid (HB8.out.trans (hwq.mono HB8.out.size))
            clear p1 p2 hwq
            go_wp2_with fail
            go_roundw
            case rel => exact ⟨m + 1, by omega, by go_num, HBq⟩
            case measure => simp [intOf]; omega
          · have hd3 : decide ((m : Int) < (D.length : Int)) = false := decide_eq_false (by omega)
            have HBT := Lib.hid (HB3.out.trans ((HB7.out.trans (HB8.out.mono HB7.out.size)).mono HB3.out.size))
            go_wp2_with fail
            refine (dfo12_any n cap a0 _ (code_later HC.out HBT.out) hn).mono ?_
            rintro e wf ⟨r3, k3, s3, f3, vf, D3, hig3, hf3, hD3, hm3, rfl, hr3, bf⟩
            obtain ⟨W4, hW4⟩ : ∃ W4, W4 = wf.alloc (.cells #[.int .i64 r3, .int .i64 k3, .string s3] 25) := ⟨_, rfl⟩
            have HBf := Lib.hid (HBT.out.trans (bf.mono HBT.out.size))
            have HX4 : Hid (W4.heap[wf.heap.size]? = some (.cells #[.int .i64 r3, .int .i64 k3, .string s3] 25)) := Lib.hid (by rw [hW4]; exact new_block wf _)
            have HB4 : Hid (Below w.heap.size w W4) := Lib.hid (by rw [hW4]; exact HBf.out.alloc HBf.out.size _)
            have HR4 : Hid (ReadsN W4.heap.size W4 vf D3) := Lib.hid (by rw [hW4]; exact hr3.now ((Below.refl _ _).alloc (Nat.le_refl _) _))
            have hgs3 := isG_size hig3
            simp only at hgs3
            obtain ⟨af, cf, rfl⟩ : ∃ af cf, vf = .slice af D3.length cf := hr3.form
            have HFO := Lib.hid (ifor_any r3 k3 s3 f3 D3 (by omega) (by omega) (fun m hm => ⟨by have := (hm3 m hm).1; omega, fun z hz => by have := (hm3 m hm).2 z hz; omega⟩) _ W4 (HML.out.later HB4.out) HR4.out)
            have HIF := Lib.hid (fun W => iisf_any r3 k3 s3 f3 (by omega) (by omega) W)
            have HTR := Lib.hid (forced_true (g := (r3, k3, s3)) (f := f3) (D := D3))
            have HFA := Lib.hid (forced_false (g := (r3, k3, s3)) (f := f3) (D := D3))
            obtain ⟨x3, hx3⟩ : ∃ x, x = (forcedF (r3, k3, s3) f3 D3).1 := ⟨_, rfl⟩
            obtain ⟨ok, hok⟩ : ∃ ok, ok = (forcedF (r3, k3, s3) f3 D3).2 := ⟨_, rfl⟩
            rw [← hx3, ← hok] at HFO HTR HFA
            obtain ⟨bi, hbi⟩ : ∃ bi, bi = isF (r3, k3, s3) f3 := ⟨_, rfl⟩
            rw [← hbi] at HIF
            clear hx3 hok hbi hig3 hD3 hm3 hr3 bf HBf
            obtain ⟨c0, c1, c2, fc0, fc1, fc2⟩ := cells3 HX4.out
            cases ok with
            | true =>
              obtain ⟨t1, t2⟩ := HTR.out rfl
              have HLA := Lib.hid (fun W => lagr12_any x3 f3 t1 (by omega) t2 W)
              clear t1 t2 HFA HTR
              cases bi with
              | true =>
                go_wp2_with (first | (rw [← hW4]; go_at_call 13; refine HFO.out.mono ?_; rintro e w5 ⟨rfl, b5⟩; have HX5 := Lib.hid ((b5.block wf.heap.size (size_of_heap HX4.out)).trans HX4.out); have HB5 := Lib.hid (HB4.out.trans (b5.mono HB4.out.size)); clear b5 c0 c1 c2 fc0 fc1 fc2 hW4; obtain ⟨c0, c1, c2, fc0, fc1, fc2⟩ := cells3 HX5.out) | (go_at_call 13; refine HFO.out.mono ?_; rintro e w5 ⟨rfl, b5⟩; have HX5 := Lib.hid ((b5.block wf.heap.size (size_of_heap HX4.out)).trans HX4.out); have HB5 := Lib.hid (HB4.out.trans (b5.mono HB4.out.size)); clear b5 c0 c1 c2 fc0 fc1 fc2; obtain ⟨c0, c1, c2, fc0, fc1, fc2⟩ := cells3 HX5.out) | (go_at_call 14; refine (HIF.out _).mono ?_; rintro e w6 ⟨rfl, b6⟩; have HB6 := Lib.hid (HB5.out.trans (b6.mono HB5.out.size)); clear b6) | (go_at_call 15; refine (HLA.out _).mono ?_; rintro e w7 ⟨rfl, b7⟩; have HB7 := Lib.hid (HB6.out.trans (b7.mono HB6.out.size)); clear b7))
                refine (did12_any n cap a0 _ (code_later HC.out HB7.out) hn).mono ?_
                rintro e wi ⟨vi, D4, hD4, rfl, hr4, bi4⟩
                have HID := Lib.hid (idead_any D4 (by omega) _ _ hr4)
                have HB9 := Lib.hid (HB7.out.trans (bi4.mono HB7.out.size))
                obtain ⟨ai, ci, rfl⟩ : ∃ ai ci, vi = .slice ai D4.length ci := hr4.form
                have HDE : Hid (deadF D4 = true → 0 < D4.length) := Lib.hid (fun h => by
                  cases D4 with
                  | nil => cases h
                  | cons a D => simp)
                obtain ⟨dd, hdd⟩ : ∃ dd, dd = deadF D4 := ⟨_, rfl⟩
                rw [← hdd] at HID HDE
                clear hdd hr4 bi4
                cases dd with
                | true =>
                  have hl4 := HDE.out rfl
                  have hg4 : decide ((0 : Int) < (D4.length : Int)) = true := decide_eq_true (by omega)
                  have hg5 : decide (0 < D4.length) = true := decide_eq_true hl4
                  go_wp2_with (go_at_call 17; refine HID.out.mono ?_; rintro e wz ⟨rfl, bz⟩; have HBZ := Lib.hid (HB9.out.trans (bz.mono HB9.out.size)); clear bz)
                  go_ret
                  exact ⟨rfl, HBZ.out⟩
                | false =>
                  go_wp2_with (go_at_call 17; refine HID.out.mono ?_; rintro e wz ⟨rfl, bz⟩; have HBZ := Lib.hid (HB9.out.trans (bz.mono HB9.out.size)); clear bz)
                  go_ret
                  exact ⟨rfl, HBZ.out⟩
              | false =>
                go_wp2_with (first | (rw [← hW4]; go_at_call 13; refine HFO.out.mono ?_; rintro e w5 ⟨rfl, b5⟩; have HX5 := Lib.hid ((b5.block wf.heap.size (size_of_heap HX4.out)).trans HX4.out); have HB5 := Lib.hid (HB4.out.trans (b5.mono HB4.out.size)); clear b5 c0 c1 c2 fc0 fc1 fc2 hW4; obtain ⟨c0, c1, c2, fc0, fc1, fc2⟩ := cells3 HX5.out) | (go_at_call 14; refine (HIF.out _).mono ?_; rintro e w6 ⟨rfl, b6⟩; have HB6 := Lib.hid (HB5.out.trans (b6.mono HB5.out.size)); clear b6))
                refine (did12_any n cap a0 _ (code_later HC.out HB6.out) hn).mono ?_
                rintro e wi ⟨vi, D4, hD4, rfl, hr4, bi4⟩
                have HID := Lib.hid (idead_any D4 (by omega) _ _ hr4)
                have HB9 := Lib.hid (HB6.out.trans (bi4.mono HB6.out.size))
                obtain ⟨ai, ci, rfl⟩ : ∃ ai ci, vi = .slice ai D4.length ci := hr4.form
                have HDE : Hid (deadF D4 = true → 0 < D4.length) := Lib.hid (fun h => by
                  cases D4 with
                  | nil => cases h
                  | cons a D => simp)
                obtain ⟨dd, hdd⟩ : ∃ dd, dd = deadF D4 := ⟨_, rfl⟩
                rw [← hdd] at HID HDE
                clear hdd hr4 bi4
                cases dd with
                | true =>
                  have hl4 := HDE.out rfl
                  have hg4 : decide ((0 : Int) < (D4.length : Int)) = true := decide_eq_true (by omega)
                  have hg5 : decide (0 < D4.length) = true := decide_eq_true hl4
                  go_wp2_with (go_at_call 17; refine HID.out.mono ?_; rintro e wz ⟨rfl, bz⟩; have HBZ := Lib.hid (HB9.out.trans (bz.mono HB9.out.size)); clear bz)
                  go_ret
                  exact ⟨rfl, HBZ.out⟩
                | false =>
                  go_wp2_with (go_at_call 17; refine HID.out.mono ?_; rintro e wz ⟨rfl, bz⟩; have HBZ := Lib.hid (HB9.out.trans (bz.mono HB9.out.size)); clear bz)
                  go_ret
                  exact ⟨rfl, HBZ.out⟩
            | false =>
              have hxf := HFA.out rfl
              subst hxf
              have hs1 : (x3.toList == x3.toList) = true := by simp
              have hs2 : (x3.toList != x3.toList) = false := by simp
              clear HTR HFA
              go_wp2_with (rw [← hW4]; go_at_call 13; refine HFO.out.mono ?_; rintro e w5 ⟨rfl, b5⟩; have HB5 := Lib.hid (HB4.out.trans (b5.mono HB4.out.size)); clear b5 hW4)
              refine (did12_any n cap a0 _ (code_later HC.out HB5.out) hn).mono ?_
              rintro e wi ⟨vi, D4, hD4, rfl, hr4, bi4⟩
              have HID := Lib.hid (idead_any D4 (by omega) _ _ hr4)
              have HB9 := Lib.hid (HB5.out.trans (bi4.mono HB5.out.size))
              obtain ⟨ai, ci, rfl⟩ : ∃ ai ci, vi = .slice ai D4.length ci := hr4.form
              have HDE : Hid (deadF D4 = true → 0 < D4.length) := Lib.hid (fun h => by
                cases D4 with
                | nil => cases h
                | cons a D => simp)
              obtain ⟨dd, hdd⟩ : ∃ dd, dd = deadF D4 := ⟨_, rfl⟩
              rw [← hdd] at HID HDE
              clear hdd hr4 bi4
              cases dd with
              | true =>
                have hl4 := HDE.out rfl
                have hg4 : decide ((0 : Int) < (D4.length : Int)) = true := decide_eq_true (by omega)
                have hg5 : decide (0 < D4.length) = true := decide_eq_true hl4
                go_wp2_with (go_at_call 17; refine HID.out.mono ?_; rintro e wz ⟨rfl, bz⟩; have HBZ := Lib.hid (HB9.out.trans (bz.mono HB9.out.size)); clear bz)
                go_ret
                exact ⟨rfl, HBZ.out⟩
              | false =>
                go_wp2_with (go_at_call 17; refine HID.out.mono ?_; rintro e wz ⟨rfl, bz⟩; have HBZ := Lib.hid (HB9.out.trans (bz.mono HB9.out.size)); clear bz)
                go_ret
                exact ⟨rfl, HBZ.out⟩
  · have HDl := Lib.hid hDl
    have hee : ((D.length : Int) == (l.length : Int)) = false := beq_eq_false_iff_ne.2 (by omega)
    clear hDl
    go_wp2_with (first | (go_at_call 7; have FG := FL; refine (HCE.out _ HRE.out).mono ?_; rintro e w4 ⟨rfl, b4⟩; have HB4 := Lib.hid b4; clear b4 FL FG) | (go_at_call 7; refine (HCD.out _ (HRD.out.now HB4.out)).mono ?_; rintro e w5 ⟨rfl, b5⟩; have HB5 := Lib.hid (HB4.out.trans (b5.mono HB4.out.size)); clear b5; have y0 := (HB5.out.cell (p := ⟨w1.heap.size, 0, none⟩) (size_of_heap HX3.out)).trans x0; have y1 := (HB5.out.cell (p := ⟨w1.heap.size, 1, none⟩) (size_of_heap HX3.out)).trans x1; have y2 := (HB5.out.cell (p := ⟨w1.heap.size, 2, none⟩) (size_of_heap HX3.out)).trans x2) | (go_at_call 8; refine (HSL.out _).mono ?_; rintro e w6 ⟨v6, rfl, o6, b6⟩; obtain ⟨a6, c6, rfl⟩ := ownV_slice o6; have HB6 := Lib.hid (HB5.out.trans (b6.mono HB5.out.size)); clear o6 b6))
    clear y0 y1 y2
    have HBT := Lib.hid (HB3.out.trans (HB6.out.mono HB3.out.size))
    go_wp2_with fail
    refine (dfo12_any n cap a0 _ (code_later HC.out HBT.out) hn).mono ?_
    rintro e wf ⟨r3, k3, s3, f3, vf, D3, hig3, hf3, hD3, hm3, rfl, hr3, bf⟩
    obtain ⟨W4, hW4⟩ : ∃ W4, W4 = wf.alloc (.cells #[.int .i64 r3, .int .i64 k3, .string s3] 25) := ⟨_, rfl⟩
    have HBf := Lib.hid (HBT.out.trans (bf.mono HBT.out.size))
    have HX4 : Hid (W4.heap[wf.heap.size]? = some (.cells #[.int .i64 r3, .int .i64 k3, .string s3] 25)) := Lib.hid (by rw [hW4]; exact new_block wf _)
    have HB4 : Hid (Below w.heap.size w W4) := Lib.hid (by rw [hW4]; exact HBf.out.alloc HBf.out.size _)
    have HR4 : Hid (ReadsN W4.heap.size W4 vf D3) := Lib.hid (by rw [hW4]; exact hr3.now ((Below.refl _ _).alloc (Nat.le_refl _) _))
    have hgs3 := isG_size hig3
    simp only at hgs3
    obtain ⟨af, cf, rfl⟩ : ∃ af cf, vf = .slice af D3.length cf := hr3.form
    have HFO := Lib.hid (ifor_any r3 k3 s3 f3 D3 (by omega) (by omega) (fun m hm => ⟨by have := (hm3 m hm).1; omega, fun z hz => by have := (hm3 m hm).2 z hz; omega⟩) _ W4 (HML.out.later HB4.out) HR4.out)
    have HIF := Lib.hid (fun W => iisf_any r3 k3 s3 f3 (by omega) (by omega) W)
    have HTR := Lib.hid (forced_true (g := (r3, k3, s3)) (f := f3) (D := D3))
    have HFA := Lib.hid (forced_false (g := (r3, k3, s3)) (f := f3) (D := D3))
    obtain ⟨x3, hx3⟩ : ∃ x, x = (forcedF (r3, k3, s3) f3 D3).1 := ⟨_, rfl⟩
    obtain ⟨ok, hok⟩ : ∃ ok, ok = (forcedF (r3, k3, s3) f3 D3).2 := ⟨_, rfl⟩
    rw [← hx3, ← hok] at HFO HTR HFA
    obtain ⟨bi, hbi⟩ : ∃ bi, bi = isF (r3, k3, s3) f3 := ⟨_, rfl⟩
    rw [← hbi] at HIF
    clear hx3 hok hbi hig3 hD3 hm3 hr3 bf HBf
    obtain ⟨c0, c1, c2, fc0, fc1, fc2⟩ := cells3 HX4.out
    cases ok with
    | true =>
      obtain ⟨t1, t2⟩ := HTR.out rfl
      have HLA := Lib.hid (fun W => lagr12_any x3 f3 t1 (by omega) t2 W)
      clear t1 t2 HFA HTR
      cases bi with
      | true =>
        go_wp2_with (first | (rw [← hW4]; go_at_call 13; refine HFO.out.mono ?_; rintro e w5 ⟨rfl, b5⟩; have HX5 := Lib.hid ((b5.block wf.heap.size (size_of_heap HX4.out)).trans HX4.out); have HB5 := Lib.hid (HB4.out.trans (b5.mono HB4.out.size)); clear b5 c0 c1 c2 fc0 fc1 fc2 hW4; obtain ⟨c0, c1, c2, fc0, fc1, fc2⟩ := cells3 HX5.out) | (go_at_call 13; refine HFO.out.mono ?_; rintro e w5 ⟨rfl, b5⟩; have HX5 := Lib.hid ((b5.block wf.heap.size (size_of_heap HX4.out)).trans HX4.out); have HB5 := Lib.hid (HB4.out.trans (b5.mono HB4.out.size)); clear b5 c0 c1 c2 fc0 fc1 fc2; obtain ⟨c0, c1, c2, fc0, fc1, fc2⟩ := cells3 HX5.out) | (go_at_call 14; refine (HIF.out _).mono ?_; rintro e w6 ⟨rfl, b6⟩; have HB6 := Lib.hid (HB5.out.trans (b6.mono HB5.out.size)); clear b6) | (go_at_call 15; refine (HLA.out _).mono ?_; rintro e w7 ⟨rfl, b7⟩; have HB7 := Lib.hid (HB6.out.trans (b7.mono HB6.out.size)); clear b7))
        refine (did12_any n cap a0 _ (code_later HC.out HB7.out) hn).mono ?_
        rintro e wi ⟨vi, D4, hD4, rfl, hr4, bi4⟩
        have HID := Lib.hid (idead_any D4 (by omega) _ _ hr4)
        have HB9 := Lib.hid (HB7.out.trans (bi4.mono HB7.out.size))
        obtain ⟨ai, ci, rfl⟩ : ∃ ai ci, vi = .slice ai D4.length ci := hr4.form
        have HDE : Hid (deadF D4 = true → 0 < D4.length) := Lib.hid (fun h => by
          cases D4 with
          | nil => cases h
          | cons a D => simp)
        obtain ⟨dd, hdd⟩ : ∃ dd, dd = deadF D4 := ⟨_, rfl⟩
        rw [← hdd] at HID HDE
        clear hdd hr4 bi4
        cases dd with
        | true =>
          have hl4 := HDE.out rfl
          have hg4 : decide ((0 : Int) < (D4.length : Int)) = true := decide_eq_true (by omega)
          have hg5 : decide (0 < D4.length) = true := decide_eq_true hl4
          go_wp2_with (go_at_call 17; refine HID.out.mono ?_; rintro e wz ⟨rfl, bz⟩; have HBZ := Lib.hid (HB9.out.trans (bz.mono HB9.out.size)); clear bz)
          go_ret
          exact ⟨rfl, HBZ.out⟩
        | false =>
          go_wp2_with (go_at_call 17; refine HID.out.mono ?_; rintro e wz ⟨rfl, bz⟩; have HBZ := Lib.hid (HB9.out.trans (bz.mono HB9.out.size)); clear bz)
          go_ret
          exact ⟨rfl, HBZ.out⟩
      | false =>
        go_wp2_with (first | (rw [← hW4]; go_at_call 13; refine HFO.out.mono ?_; rintro e w5 ⟨rfl, b5⟩; have HX5 := Lib.hid ((b5.block wf.heap.size (size_of_heap HX4.out)).trans HX4.out); have HB5 := Lib.hid (HB4.out.trans (b5.mono HB4.out.size)); clear b5 c0 c1 c2 fc0 fc1 fc2 hW4; obtain ⟨c0, c1, c2, fc0, fc1, fc2⟩ := cells3 HX5.out) | (go_at_call 14; refine (HIF.out _).mono ?_; rintro e w6 ⟨rfl, b6⟩; have HB6 := Lib.hid (HB5.out.trans (b6.mono HB5.out.size)); clear b6))
        refine (did12_any n cap a0 _ (code_later HC.out HB6.out) hn).mono ?_
        rintro e wi ⟨vi, D4, hD4, rfl, hr4, bi4⟩
        have HID := Lib.hid (idead_any D4 (by omega) _ _ hr4)
        have HB9 := Lib.hid (HB6.out.trans (bi4.mono HB6.out.size))
        obtain ⟨ai, ci, rfl⟩ : ∃ ai ci, vi = .slice ai D4.length ci := hr4.form
        have HDE : Hid (deadF D4 = true → 0 < D4.length) := Lib.hid (fun h => by
          cases D4 with
          | nil => cases h
          | cons a D => simp)
        obtain ⟨dd, hdd⟩ : ∃ dd, dd = deadF D4 := ⟨_, rfl⟩
        rw [← hdd] at HID HDE
        clear hdd hr4 bi4
        cases dd with
        | true =>
          have hl4 := HDE.out rfl
          have hg4 : decide ((0 : Int) < (D4.length : Int)) = true := decide_eq_true (by omega)
          have hg5 : decide (0 < D4.length) = true := decide_eq_true hl4
          go_wp2_with (go_at_call 17; refine HID.out.mono ?_; rintro e wz ⟨rfl, bz⟩; have HBZ := Lib.hid (HB9.out.trans (bz.mono HB9.out.size)); clear bz)
          go_ret
          exact ⟨rfl, HBZ.out⟩
        | false =>
          go_wp2_with (go_at_call 17; refine HID.out.mono ?_; rintro e wz ⟨rfl, bz⟩; have HBZ := Lib.hid (HB9.out.trans (bz.mono HB9.out.size)); clear bz)
          go_ret
          exact ⟨rfl, HBZ.out⟩
    | false =>
      have hxf := HFA.out rfl
      subst hxf
      have hs1 : (x3.toList == x3.toList) = true := by simp
      have hs2 : (x3.toList != x3.toList) = false := by simp
      clear HTR HFA
      go_wp2_with (rw [← hW4]; go_at_call 13; refine HFO.out.mono ?_; rintro e w5 ⟨rfl, b5⟩; have HB5 := Lib.hid (HB4.out.trans (b5.mono HB4.out.size)); clear b5 hW4)
      refine (did12_any n cap a0 _ (code_later HC.out HB5.out) hn).mono ?_
      rintro e wi ⟨vi, D4, hD4, rfl, hr4, bi4⟩
      have HID := Lib.hid (idead_any D4 (by omega) _ _ hr4)
      have HB9 := Lib.hid (HB5.out.trans (bi4.mono HB5.out.size))
      obtain ⟨ai, ci, rfl⟩ : ∃ ai ci, vi = .slice ai D4.length ci := hr4.form
      have HDE : Hid (deadF D4 = true → 0 < D4.length) := Lib.hid (fun h => by
        cases D4 with
        | nil => cases h
        | cons a D => simp)
      obtain ⟨dd, hdd⟩ : ∃ dd, dd = deadF D4 := ⟨_, rfl⟩
      rw [← hdd] at HID HDE
      clear hdd hr4 bi4
      cases dd with
      | true =>
        have hl4 := HDE.out rfl
        have hg4 : decide ((0 : Int) < (D4.length : Int)) = true := decide_eq_true (by omega)
        have hg5 : decide (0 < D4.length) = true := decide_eq_true hl4
        go_wp2_with (go_at_call 17; refine HID.out.mono ?_; rintro e wz ⟨rfl, bz⟩; have HBZ := Lib.hid (HB9.out.trans (bz.mono HB9.out.size)); clear bz)
        go_ret
        exact ⟨rfl, HBZ.out⟩
      | false =>
        go_wp2_with (go_at_call 17; refine HID.out.mono ?_; rintro e wz ⟨rfl, bz⟩; have HBZ := Lib.hid (HB9.out.trans (bz.mono HB9.out.size)); clear bz)
        go_ret
        exact ⟨rfl, HBZ.out⟩
namespace fnPruned
theorem walk (v0 : Value) (l0 : List Int) (w : World) (hR : Reads w.heap.size w v0 .u8 l0) (hB : ∀ z ∈ l0, 0 ≤ z ∧ z ≤ 255) (hV : ML w) :
    Calls Tryz.prog 3 #[v0] w fun e w' => e = .returned (.bool true) ∧ Below w.heap.size w w' := by
  obtain ⟨a0, cap, rfl⟩ : ∃ a0 cap, v0 = .slice a0 l0.length cap := ⟨hR.2.choose, hR.2.choose_spec.choose, hR.2.choose_spec.choose_spec.1⟩
  have hc := code_of_reads hR rfl hB
  clear hR hB
  by_cases hbig : 1048576 < l0.length
  · go_enter Tryz.func3, Tryz.ntmps3
    go_wp2_with (go_at_call 4; refine (big_yes l0.length cap a0 hbig _).mono ?_; rintro e w1 ⟨rfl, rfl⟩)
    go_ret
    exact ⟨rfl, Below.refl _ _⟩
  · exact pruned_walk l0.length cap a0 w hc (by omega) hV
end fnPruned
end Go.Proofs.YtgjijmcedonlmaaGreatDoor
