/-
  The program's contracts of chapter 5: ScoreOf, EndWord.
-/
import Derived.Test.YtcpojeiciaghmaaListImplD
namespace Go.Proofs.Ytcpojeiciaghmaa
open Go.RowKit

set_option maxHeartbeats 1600000 in
theorem iscore_any (l : LZ) (ws : List ByteArray) (hl : l.length ≤ 16777216) (hw : ws.length ≤ 16777216) (v u : Value) (w : World) (hv : ReadsListed w.heap.size w v l) (hu : ReadsS w.heap.size w u ws) :
    Calls Try.prog 20 #[v, u] w fun e w' => e = .returned (.int .i64 (scoreW l ws)) ∧ Below w.heap.size w w' := by
  have HV := Lib.hid hv
  have HIS := Lib.hid (iislist_any l hl v w hv)
  have HPL := Lib.hid (fun x v w h => iplace_any l x hl v w h)
  obtain ⟨-, a0, cap, rfl, -, hc⟩ := hv.cells
  obtain ⟨-, a1, cap1, rfl, -, hd⟩ := hu.cells
  have HC := Lib.hid hc
  have HD := Lib.hid hd
  clear hc hv hd hu
  obtain ⟨p, hp⟩ : ∃ p, p = islW l := ⟨_, rfl⟩
  have HA : Hid (scoreW l ws = if p = true then scoreSum l ws else 0) := Lib.hid (by unfold scoreW; rw [hp])
  have HR : Hid (p = true → ∀ x, 0 ≤ scoreAt l x ∧ scoreAt l x ≤ 99) := Lib.hid (fun h x => scoreAt_range (by rw [← hp]; exact h) x)
  have HOR : Hid (p = true → Ord l) := Lib.hid (fun h => ord_of (by rw [← hp]; exact h))
  rw [← hp] at HIS
  clear hp
  cases p with
  | true =>
    go_enter Try.func20, Try.ntmps20
    go_wp2_with (go_at_call 13; refine HIS.out.mono ?_; rintro e w2 ⟨rfl, b2⟩; have HB2 := Lib.hid b2; clear b2)
    go_loopw [5, 15] (fun nv i wr => ∃ (k : Nat) (n : Int), k ≤ ws.length ∧ i = .int .i64 k ∧ nv = .int .i64 n ∧ Hid (n = scoreSum l (ws.take k)) ∧ 0 ≤ n ∧ n ≤ 99 * k ∧ Below w.heap.size w wr) (fun _ i _ => ws.length - (intOf i).toNat)
    case atStart => exact ⟨0, 0, Nat.zero_le _, rfl, rfl, Lib.hid (by simp [scoreSum]), by decide, by decide, HB2.out⟩
    case round =>
      obtain ⟨k, n, hk, rfl, rfl, HN, hn0, hn1, hbl⟩ := hrel
      clear HB2
      by_cases hlt : k < ws.length
      · obtain ⟨b1, off1, rfl, hb1, q0⟩ := HD.out k hlt
        have HNX := Lib.hid (scoreSum_next l ws k hlt)
        obtain ⟨x, hx⟩ : ∃ x, x = ws.getD k ⟨#[]⟩ := ⟨_, rfl⟩
        rw [← hx] at q0 HNX
        have cx := (hbl.cell (p := ⟨b1, off1 + k, none⟩) hb1).trans q0
        have HRX := HR.out trivial x
        have HPX := Lib.hid (HPL.out x)
        have HS0 := Lib.hid (score_found (plc_place l x) (HOR.out trivial))
        obtain ⟨j, hj⟩ : ∃ j, j = plc l x := ⟨_, rfl⟩
        rw [← hj] at HPX HS0
        obtain ⟨a, ha⟩ : ∃ a, a = atP l x j := ⟨_, rfl⟩
        rw [← ha] at HPX HS0
        have HAT : Hid (a = true → j < l.length) := Lib.hid (fun h => (atP_iff.1 (by rw [← ha]; exact h)).1)
        clear q0 hx hj ha
        cases a with
        | false =>
          have HN2 : Hid (n = scoreSum l (ws.take (k + 1))) := Lib.hid (by rw [HNX.out, HS0.out, ← HN.out, if_neg (by decide)]; omega)
          clear HRX HS0
          go_wp2_with (go_at_call 48; refine (HPX.out _ _ (HV.out.now hbl)).mono ?_; rintro e w3 ⟨rfl, b3⟩; have HB3 := Lib.hid (hbl.trans (b3.mono hbl.size)); clear b3)
          go_roundw
          case rel => exact ⟨k + 1, n, by omega, by go_num, rfl, HN2, by omega, by omega, HB3.out⟩
          case measure => simp [intOf]; omega
        | true =>
          have hjl : j < l.length := HAT.out rfl
          obtain ⟨b, off, rfl, hb, -, -, -, q3⟩ := HC.out j hjl
          obtain ⟨s, hs⟩ : ∃ s, s = (l.getD j none_Listed).2.2.2 := ⟨_, rfl⟩
          rw [← hs] at q3
          have HS : Hid (scoreAt l x = s) := Lib.hid (by rw [HS0.out, if_pos rfl, hs])
          rw [HS.out] at HRX
          have QS := Lib.hid q3
          clear q3 hs HS0
          have HN2 : Hid (n + s = scoreSum l (ws.take (k + 1))) := Lib.hid (by rw [HNX.out, HS.out, ← HN.out])
          go_wp2_with (go_at_call 48; refine (HPX.out _ _ (HV.out.now hbl)).mono ?_; rintro e w3 ⟨rfl, b3⟩; have HB3 := Lib.hid (hbl.trans (b3.mono hbl.size)); clear b3; have cs := (HB3.out.cell (p := ⟨b, off + j * 4 + 3, none⟩) hb).trans QS.out)
          go_roundw
          case rel => exact ⟨k + 1, n + s, by omega, by go_num, by go_num, HN2, by omega, by omega, HB3.out⟩
          case measure => simp [intOf]; omega
      · have HF : Hid (scoreW l ws = n) := Lib.hid (by rw [HA.out, if_pos (by trivial), HN.out, List.take_of_length_le (by omega)])
        go_wp2
        go_ret
        exact ⟨by rw [HF.out]; rfl, hbl⟩
  | false =>
    have HA2 : Hid (scoreW l ws = 0) := Lib.hid (by rw [HA.out, if_neg (by simp)])
    clear HA HR HOR
    go_enter Try.func20, Try.ntmps20
    go_wp2_with (go_at_call 13; refine HIS.out.mono ?_; rintro e w2 ⟨rfl, b2⟩; have HB2 := Lib.hid b2; clear b2)
    go_ret
    exact ⟨by rw [HA2.out]; rfl, HB2.out⟩

set_option maxHeartbeats 1600000 in
theorem iend_early (l : LZ) (x : ByteArray) (t : Int) (hl : l.length ≤ 1048576) (v : Value) (w : World) (hv : ReadsListed w.heap.size w v l) (hE : endW l x t = (l, false)) (hq : atP l x (plc l x) = false ∨ (atP l x (plc l x) = true ∧ (l.getD (plc l x) none_Listed).2.2.1 < t)) :
    Calls Try.prog 18 #[v, .string x, .int .i64 t] w fun e w' => ∃ v', e = .returned (.tuple #[v', .bool (endW l x t).2]) ∧ w'.ownsRow w.heap.size 32 4 v' (endW l x t).1.length (row_Listed (endW l x t).1) ∧ Below w.heap.size w w' := by
  have HE := Lib.hid hE
  have HV := Lib.hid hv
  have HPX := Lib.hid (fun v w h => iplace_any l x (by omega) v w h)
  have HCL := Lib.hid (clone_l l hl v w hv)
  obtain ⟨-, a0, cap, rfl, -, hc⟩ := hv.cells
  have HC := Lib.hid hc
  have HAT0 := Lib.hid (fun h => (atP_iff (l := l) (x := x) (p := plc l x)).1 h)
  obtain ⟨j, hj⟩ : ∃ j, j = plc l x := ⟨_, rfl⟩
  rw [← hj] at HPX hq HAT0
  obtain ⟨a, ha⟩ : ∃ a, a = atP l x j := ⟨_, rfl⟩
  rw [← ha] at HPX hq HAT0
  clear hc hv hE hj ha
  cases a with
  | false =>
    clear hq HAT0
    go_enter Try.func18, Try.ntmps18
    go_wp2_with (first | (go_at_call 51; refine HCL.out.mono ?_; rintro e w2 ⟨v2, rfl, o2, b2⟩; obtain ⟨a2, c2, rfl⟩ := ownV_slice o2; have HB2 := Lib.hid b2; have HO2 := Lib.hid o2; clear b2 o2) | (go_at_call 48; refine (HPX.out _ _ (HV.out.now HB2.out)).mono ?_; rintro e w3 ⟨rfl, b3⟩; have HB3 := Lib.hid (HB2.out.trans (b3.mono HB2.out.size)); have HO3 := Lib.hid (ownV_later HO2.out b3); clear b3))
    go_ret2
    exact ⟨_, by rw [HE.out]; rfl, by rw [HE.out]; exact HO3.out, HB3.out⟩
  | true =>
    have hjl := (HAT0.out rfl).1
    have hut : (l.getD j none_Listed).2.2.1 < t := by simpa using hq
    obtain ⟨b, off, rfl, hb, -, -, q2, -⟩ := HC.out j hjl
    obtain ⟨u, hu⟩ : ∃ u, u = (l.getD j none_Listed).2.2.1 := ⟨_, rfl⟩
    rw [← hu] at q2 hut
    have Q2 := Lib.hid q2
    have hd : decide (u < t) = true := decide_eq_true hut
    clear hu q2 hut hq HAT0
    go_enter Try.func18, Try.ntmps18
    go_wp2_with (first | (go_at_call 51; refine HCL.out.mono ?_; rintro e w2 ⟨v2, rfl, o2, b2⟩; obtain ⟨a2, c2, rfl⟩ := ownV_slice o2; have HB2 := Lib.hid b2; have HO2 := Lib.hid o2; clear b2 o2) | (go_at_call 48; refine (HPX.out _ _ (HV.out.now HB2.out)).mono ?_; rintro e w3 ⟨rfl, b3⟩; have HB3 := Lib.hid (HB2.out.trans (b3.mono HB2.out.size)); have HO3 := Lib.hid (ownV_later HO2.out b3); have k2 := (HB3.out.cell (p := ⟨b, off + j * 4 + 2, none⟩) hb).trans Q2.out; clear b3))
    go_ret2
    exact ⟨_, by rw [HE.out]; rfl, by rw [HE.out]; exact HO3.out, HB3.out⟩
set_option maxHeartbeats 1600000 in
theorem iend_set (l : LZ) (x : ByteArray) (t : Int) (hl : l.length ≤ 1048576) (v : Value) (w : World) (hv : ReadsListed w.heap.size w v l) (hE : endW l x t = endI l x t (plc l x)) (hq : atP l x (plc l x) = true) (hut : ¬ (l.getD (plc l x) none_Listed).2.2.1 < t) :
    Calls Try.prog 18 #[v, .string x, .int .i64 t] w fun e w' => ∃ v', e = .returned (.tuple #[v', .bool (endW l x t).2]) ∧ w'.ownsRow w.heap.size 32 4 v' (endW l x t).1.length (row_Listed (endW l x t).1) ∧ Below w.heap.size w w' := by
  have HV := Lib.hid hv
  have HPX := Lib.hid (fun v w h => iplace_any l x (by omega) v w h)
  have HCL := Lib.hid (clone_l l hl v w hv)
  obtain ⟨-, a0, cap, rfl, -, hc⟩ := hv.cells
  have HC := Lib.hid hc
  have hjl := (atP_iff.1 hq).1
  obtain ⟨j, hj⟩ : ∃ j, j = plc l x := ⟨_, rfl⟩
  rw [hq] at HPX
  rw [← hj] at HPX hut hjl hE hq
  have HEI : Hid (endW l x t = if islW (setU l j t) = true then (setU l j t, true) else (l, false)) := Lib.hid (by rw [hE]; unfold endI; rw [hq, if_neg (by simp only [Bool.true_eq_false, false_or]; exact hut)])
  have HM : Hid ((row_Listed l).set (j * 4 + 2) (.int .i64 t) = row_Listed (setU l j t)) := Lib.hid (lrow_set2 l j hjl t)
  have HAT := Lib.hid (row_Listed_at l j hjl 2 (by decide))
  have hml := setU_length l j t
  obtain ⟨m, hm⟩ : ∃ m, m = setU l j t := ⟨_, rfl⟩
  rw [← hm] at HEI HM hml
  have HLO := Lib.hid (fun n hn base v u w a b c => ilor_any l m n hn hl (by omega) base v u w a b c)
  obtain ⟨p, hp⟩ : ∃ p, p = islW m := ⟨_, rfl⟩
  rw [← hp] at HEI HLO
  obtain ⟨r, hr⟩ : ∃ r, r = if p = true then m else l := ⟨_, rfl⟩
  have HR : Hid (endW l x t = (r, p)) := Lib.hid (by rw [HEI.out, hr]; cases p <;> rfl)
  rw [← hr] at HLO
  have HML := Lib.hid hml
  clear hr hp hm HEI hml hj hc hv hE hq
  obtain ⟨b, off, rfl, hb, -, -, q2, -⟩ := HC.out j hjl
  obtain ⟨u, hu⟩ : ∃ u, u = (l.getD j none_Listed).2.2.1 := ⟨_, rfl⟩
  rw [← hu] at q2 hut
  have Q2 := Lib.hid q2
  have hd : decide (u < t) = false := decide_eq_false hut
  clear hu q2 hut
  go_enter Try.func18, Try.ntmps18
  go_wp2_with (first | (go_at_call 51; refine HCL.out.mono ?_; rintro e w2 ⟨v2, rfl, o2, b2⟩; obtain ⟨g, capm, hgw, rfl⟩ := own_formV o2 (by omega); have HB2 := Lib.hid b2; have HO2 := Lib.hid o2; clear b2 o2) | (go_at_call 48; refine (HPX.out _ _ (HV.out.now HB2.out)).mono ?_; rintro e w3 ⟨rfl, b3⟩; have HB3 := Lib.hid (HB2.out.trans (b3.mono HB2.out.size)); have HO3 := Lib.hid (ownV_later HO2.out b3); have k2 := (HB3.out.cell (p := ⟨b, off + j * 4 + 2, none⟩) hb).trans Q2.out; have d2 : w3.cell? ⟨g, j * 4 + 2, none⟩ = some (.int .i64 (l[j].2.2.1)) := (HO3.out.cellAt (j * 4 + 2) (by omega)).trans HAT.out; have f2 := HO3.out.frozenAt (j * 4 + 2); have HO5 : Hid ((w3.setCell ⟨g, j * 4 + 2, none⟩ (.int .i64 t)).ownsRow w.heap.size 32 4 (.slice (some ⟨g, 0, none⟩) l.length capm) l.length (row_Listed m)) := Lib.hid (by rw [← HM.out]; exact (HO3.out.stored _ _).1); have HB5 := Lib.hid (HB3.out.setCell (p := ⟨g, j * 4 + 2, none⟩) hgw (.int .i64 t)); clear b3) | (go_at_call 49; refine (HLO.out _ HML.out _ _ _ _ HB5.out.size (HV.out.now HB5.out) HO5.out).mono ?_; rintro e w6 ⟨v6, rfl, o6, b6⟩; obtain ⟨a6, c6, rfl⟩ := ownV_slice o6; have HB6 := Lib.hid (HB5.out.trans (b6.mono HB5.out.size)); have HO6 := Lib.hid o6; clear b6 o6))
  go_ret2
  exact ⟨_, by rw [HR.out]; rfl, by rw [HR.out]; exact HO6.out, HB6.out⟩
/-- EndWord. -/
theorem iend_any (l : LZ) (x : ByteArray) (t : Int) (hl : l.length ≤ 1048576) (v : Value) (w : World) (hv : ReadsListed w.heap.size w v l) :
    Calls Try.prog 18 #[v, .string x, .int .i64 t] w fun e w' => ∃ v', e = .returned (.tuple #[v', .bool (endW l x t).2]) ∧ w'.ownsRow w.heap.size 32 4 v' (endW l x t).1.length (row_Listed (endW l x t).1) ∧ Below w.heap.size w w' := by
  have hE := (endI_eq (t := t) (plc_place l x)).symm
  by_cases hq : atP l x (plc l x) = true
  · by_cases hut : (l.getD (plc l x) none_Listed).2.2.1 < t
    · exact iend_early l x t hl v w hv (by rw [hE]; unfold endI; rw [if_pos (Or.inr hut)]) (Or.inr ⟨hq, hut⟩)
    · exact iend_set l x t hl v w hv hE hq hut
  · have hq2 : atP l x (plc l x) = false := by simpa using hq
    exact iend_early l x t hl v w hv (by rw [hE]; unfold endI; rw [if_pos (Or.inl hq2)]) (Or.inl hq2)
end Go.Proofs.Ytcpojeiciaghmaa
