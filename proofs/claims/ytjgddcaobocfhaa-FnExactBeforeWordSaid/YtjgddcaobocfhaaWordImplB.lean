/-
  The program's contracts of chapter 4: CountLetter, SortLetters, IsRearranged, BeforeWord.
-/
import Derived.Test.YtjgddcaobocfhaaWordImplA
namespace Go.Proofs.Ytjgddcaobocfhaa
open Go.RowKit

theorem count_letter (l : List UInt8) (b : UInt8) (j : Nat) (h : b.toNat = 97 + j) : l.count b = (nth l j).length := by
  unfold nth
  rw [List.count_eq_length_filter]
  congr 1
  refine List.filter_congr fun x _ => ?_
  rw [Bool.eq_iff_iff]
  simp only [beq_iff_eq]
  exact ⟨fun e => by rw [e, h], fun e => UInt8.toNat_inj.1 (by rw [e, h])⟩
theorem one_list (t : ByteArray) (h : t.size = 1) : t.data.toList = [t[0]] := by
  refine List.ext_getElem (by rw [size_list]; simp [h]) fun i h1 h2 => ?_
  have hi : i = 0 := by simpa using h2
  subst hi
  simp
  rfl
theorem isW_one (t : ByteArray) (h : t.size = 1) : isW t = decide (isL t[0]) := by
  unfold isW
  rw [one_list t h]
  simp [h]
/-- What CountLetter answers, by the cells of countLetters. -/
theorem cntL_yes {s t : ByteArray} (hs : isW s = true) (ht : t.size = 1) (j : Nat) (hj : t[0].toNat = 97 + j) (hj25 : j ≤ 25) : cntL s t = ((nth s.data.toList j).length : Nat) := by
  unfold cntL
  rw [if_pos ⟨hs, by rw [isW_one t ht]; exact decide_eq_true ⟨by omega, by omega⟩, ht⟩, one_list t ht, List.headD_cons, count_letter _ _ j hj]
theorem cntL_no {s t : ByteArray} (h : ¬ (isW s = true ∧ isW t = true ∧ t.size = 1)) : cntL s t = 0 := by unfold cntL; rw [if_neg h]
theorem infoI64 : (Try.prog.info? 3).map (fun i => (i.zero, i.size, i.bytes)) = some (some (.int .i64 0), 1, 8) := by kernel_rfl
/-- An element of the array of counts. -/
theorem idx_cnt (l : List UInt8) (j : Nat) (hj : j < 26) (k : IntKind) (W : World) : (Instr.index 38 (.agg (cntA l)) (.int k j)).run Try.prog W = .ok (.int .i64 ((nth l j).length : Nat)) W := by
  obtain ⟨i0, hi, hz0, hz1, hz2⟩ := info_parts infoI64
  have hc := cntA_at l j hj
  have h1 : (0 : Int) ≤ (j : Int) ∧ (j : Int) < 26 := by omega
  have hu := run_underlying (P := Try.prog) Try.underlying38
  have hv := run_underlying (P := Try.prog) Try.underlying3
  simp [Instr.index, asIntOf, hu, hv, part, isAgg, sizeOf, typeInfo, hi, hz1, hc, h1, hj]
theorem isl_in (j : Nat) (hj : j ≤ 25) (w : World) :
    Calls Try.prog 30 #[.int .u8 (97 + j)] w fun e w' => e = .returned (.bool true) ∧ w = w' := by
  have h := isl_any (UInt8.ofNat (97 + j)) w
  have e : (UInt8.ofNat (97 + j)).toNat = 97 + j := by rw [UInt8.toNat_ofNat']; omega
  rw [e, decide_eq_true (show isL (UInt8.ofNat (97 + j)) from ⟨by omega, by omega⟩)] at h
  exact h
set_option maxHeartbeats 1600000 in
theorem icnt_yes (s t : ByteArray) (hs : isW s = true) (ht : t.size = 1) (hl : isL t[0]) (w : World) :
    Calls Try.prog 17 #[.string s, .string t] w fun e w' => e = .returned (.int .i64 (cntL s t)) ∧ Below w.heap.size w w' := by
  have HW := Lib.hid hs
  obtain ⟨j, hj⟩ : ∃ j, t[0].toNat = 97 + j := ⟨t[0].toNat - 97, by have := hl.1; omega⟩
  have hj25 : j ≤ 25 := by have := hl.2; omega
  have HF := Lib.hid (cntL_yes hs ht j hj hj25)
  have hx := idx_cnt s.data.toList j (by omega) .u8
  have hwr : IntKind.u8.wrap (97 + (j : Int) - 97) = j := by simp [IntKind.wrap, IntKind.bits, IntKind.signed]; omega
  have HL := Lib.hid (icl_any s hs)
  clear hs hl
  go_enter Try.func17, Try.ntmps17
  go_wp2_with (first | (go_at_call 13; refine (iiw_any s _).mono ?_; rw [HW.out]; rintro e w1 ⟨rfl, b1⟩) | (go_at_call 30; ((with_reducible refine (isl_in j hj25 _).mono ?_); rintro e w2 ⟨rfl, rfl⟩)))
  go_region_with (go_at_call 31; refine (HL.out _).mono ?_; rintro e w3 ⟨rfl, b3⟩)
  all_goals go_wp2
  all_goals go_ret
  all_goals exact ⟨by rw [HF.out]; rfl, btrans b1 ((Below.refl _ _).drew.trans b3)⟩
set_option maxHeartbeats 1600000 in
theorem icnt_no (s t : ByteArray) (h : ¬ (isW s = true ∧ isW t = true ∧ t.size = 1)) (w : World) :
    Calls Try.prog 17 #[.string s, .string t] w fun e w' => e = .returned (.int .i64 (cntL s t)) ∧ Below w.heap.size w w' := by
  have HF := Lib.hid (cntL_no h)
  cases hw : isW s with
  | false =>
    have HW := Lib.hid hw
    clear h hw
    go_enter Try.func17, Try.ntmps17
    go_wp2_with (go_at_call 13; refine (iiw_any s _).mono ?_; rw [HW.out]; rintro e w1 ⟨rfl, b1⟩)
    go_ret
    exact ⟨by rw [HF.out]; rfl, b1⟩
  | true =>
    have HW := Lib.hid hw
    by_cases ht : t.size = 1
    · have hl : decide (isL t[0]) = false := by
        cases hd : decide (isL t[0]) with
        | false => rfl
        | true => exact absurd ⟨hw, by rw [isW_one t ht, hd], ht⟩ h
      have HL := Lib.hid hl
      have hpos : 0 < t.size := by omega
      have HI := Lib.hid (isl_any t[0])
      rw [hl] at HI
      have h255 : t[0].toNat ≤ 255 := by have := t[0].toNat_lt; omega
      clear h hw hl
      go_enter Try.func17, Try.ntmps17
      go_wp2_with (first | (go_at_call 13; refine (iiw_any s _).mono ?_; rw [HW.out]; rintro e w1 ⟨rfl, b1⟩) | (go_at_call 30; ((with_reducible refine (HI.out _).mono ?_); rintro e w2 ⟨rfl, rfl⟩)))
      go_ret
      exact ⟨by rw [HF.out]; rfl, b1⟩
    · have hd : ((t.size : Int) != 1) = true := by simp; omega
      clear h hw ht
      go_enter Try.func17, Try.ntmps17
      go_wp2_with (go_at_call 13; refine (iiw_any s _).mono ?_; rw [HW.out]; rintro e w1 ⟨rfl, b1⟩)
      go_ret
      exact ⟨by rw [HF.out]; rfl, b1⟩
theorem icnt_any (s t : ByteArray) (w : World) :
    Calls Try.prog 17 #[.string s, .string t] w fun e w' => e = .returned (.int .i64 (cntL s t)) ∧ Below w.heap.size w w' := by
  by_cases h : isW s = true ∧ isW t = true ∧ t.size = 1
  · exact icnt_yes s t h.1 h.2.2 (of_decide_eq_true ((isW_one t h.2.2).symm.trans h.2.1)) w
  · exact icnt_no s t h w

set_option maxHeartbeats 800000 in
theorem ibef_any (a b : ByteArray) (w : World) :
    Calls Try.prog 19 #[.string a, .string b] w fun e w' => e = .returned (.bool (befW a b)) ∧ Below w.heap.size w w' := by
  by_cases h : a.size = b.size
  · have HF : Hid (befW a b = Op.bytesLess a.toList b.toList) := Lib.hid (by unfold befW; rw [if_pos h])
    have hd : ((a.size : Int) != (b.size : Int)) = false := by simp; omega
    clear h
    go_enter Try.func19, Try.ntmps19
    go_wp2
    go_ret
    exact ⟨by rw [HF.out]; rfl, Below.refl _ _⟩
  · have HF : Hid (befW a b = decide (a.size < b.size)) := Lib.hid (by unfold befW; rw [if_neg h])
    have hd : ((a.size : Int) != (b.size : Int)) = true := by simp; omega
    clear h
    go_enter Try.func19, Try.ntmps19
    go_wp2
    go_ret
    exact ⟨by rw [HF.out]; simp, Below.refl _ _⟩
end Go.Proofs.Ytjgddcaobocfhaa
