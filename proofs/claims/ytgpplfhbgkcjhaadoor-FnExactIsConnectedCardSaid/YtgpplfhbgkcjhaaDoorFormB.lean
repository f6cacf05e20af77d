/-
  The program's contracts of chapter 10, first part: the cells beside a set, one part of a board.
-/
import Derived.Test.YtgpplfhbgkcjhaaDoorFormPure
import Derived.Test.YtgpplfhbgkcjhaaDoorGridImplE
import Derived.BigQuiet
import Derived.Deep.RegionWith
import Derived.Deep.DeepCutAuto
import Derived.Deep.RegionHeld3
namespace Go.Proofs.YtgpplfhbgkcjhaaDoor
open Go.RowKit

theorem bits_andN (a b : Nat) : bits .andNot .u64 (a : Int) (b : Int) = ((andN a b : Nat) : Int) := by
  show IntKind.u64.wrap ((BitVec.ofInt 64 (a : Int) &&& ~~~ BitVec.ofInt 64 (b : Int)).toNat : Int) = _
  have hlt := andN_lt a b
  unfold andN at hlt ⊢
  rw [IntKind.wrap_u64]
  omega
theorem wrapN (x : Nat) : IntKind.u64.wrap (x : Int) = ((x % 18446744073709551616 : Nat) : Int) := by
  rw [IntKind.wrap_u64]
  omega
set_option maxRecDepth 100000 in
set_option maxHeartbeats 1600000 in
theorem besb_any (R C P : Nat) (W : Int) (h1 : 2 ≤ R) (h2 : R ≤ 6) (h3 : 2 ≤ C) (h4 : C ≤ 6) (hP : P < 18446744073709551616) (w : World) :
    Calls Tryd.prog 97 #[.agg #[.int .i64 (R : Int), .int .i64 (C : Int), .int .u64 W], .int .u64 (P : Int)] w fun e w' => e = .returned (.int .u64 ((besN R C P : Nat) : Int)) ∧ Below w.heap.size w w' := by
  have hfm : Tryd.prog.follows .mixedOrders = true := by kernel_rfl
  go_enter Tryd.func97, Tryd.ntmps97
  go_wp2
  go_loopw [5, 6, 10] (fun a b i wr => ∃ k : Nat, k ≤ R ∧ i = .int .i64 (k : Int) ∧ a = .int .u64 ((leftN C k : Nat) : Int) ∧ b = .int .u64 ((rightN C k : Nat) : Int) ∧ wr.cell? ⟨w.heap.size, 1, none⟩ = some (.int .i64 (C : Int)) ∧ Hid (Below w.heap.size w wr)) (fun _ _ i _ => R - (intOf i).toNat)
  case atStart => exact ⟨0, Nat.zero_le _, rfl, rfl, rfl, by simp, Lib.hid ((Below.refl _ _).alloc (Nat.le_refl _) _)⟩
  case round =>
    obtain ⟨k, hk, rfl, rfl, rfl, hx, HBL⟩ := hrel
    by_cases hlt : k < R
    · have hd : decide ((k : Int) < (R : Int)) = true := decide_eq_true (by omega)
      have hd9 : decide (k < R) = true := decide_eq_true hlt
      have hm1 : k * C ≤ 5 * 6 := Nat.mul_le_mul (by omega) h4
      have hm2 : (k + 1) * C ≤ 6 * 6 := Nat.mul_le_mul (by omega) h4
      have hm3 : 1 * 2 ≤ (k + 1) * C := Nat.mul_le_mul (by omega) h3
      have hL64 : leftN C k < 18446744073709551616 := Nat.lt_of_lt_of_le (leftN_lt C k (by omega)) (show 2 ^ (k * C) ≤ 2 ^ 64 from Nat.pow_le_pow_right (by omega) (by omega))
      have hR64 : rightN C k < 18446744073709551616 := Nat.lt_of_lt_of_le (rightN_lt C k (by omega)) (show 2 ^ (k * C) ≤ 2 ^ 64 from Nat.pow_le_pow_right (by omega) (by omega))
      have HA := Lib.hid (fun w => withJ_any (leftN C k) (k * C) hL64 (by omega) w)
      have HB := Lib.hid (fun w => withJ_any (rightN C k) ((k + 1) * C - 1) hR64 (by omega) w)
      rw [show leftN C k ||| 2 ^ (k * C) = leftN C (k + 1) from rfl] at HA
      rw [show rightN C k ||| 2 ^ ((k + 1) * C - 1) = rightN C (k + 1) from rfl] at HB
      have e1 : ((k * C : Nat) : Int) = (k : Int) * (C : Int) := by simp
      have e2 : (((k + 1) * C : Nat) : Int) = ((k : Int) + 1) * (C : Int) := by simp
      obtain ⟨q1, hq1⟩ : ∃ q1, q1 = k * C := ⟨_, rfl⟩
      obtain ⟨q2, hq2⟩ : ∃ q2, q2 = (k + 1) * C := ⟨_, rfl⟩
      obtain ⟨q3, hq3⟩ : ∃ q3, q3 = (k + 1) * C - 1 := ⟨_, rfl⟩
      have hw0 : IntKind.i64.wrap ((k : Int) + 1) = (k : Int) + 1 := by rw [IntKind.wrap_i64]; omega
      have hw1 : IntKind.i64.wrap ((k : Int) * (C : Int)) = (q1 : Int) := by rw [← e1, ← hq1, IntKind.wrap_i64]; omega
      have hw2 : IntKind.i64.wrap (((k : Int) + 1) * (C : Int)) = (q2 : Int) := by rw [← e2, ← hq2, IntKind.wrap_i64]; omega
      have hw3 : IntKind.i64.wrap ((q2 : Int) - 1) = (q3 : Int) := by rw [IntKind.wrap_i64]; omega
      rw [← hq1] at HA
      rw [← hq3] at HB
      obtain ⟨a0, ha0⟩ : ∃ a0, a0 = leftN C k := ⟨_, rfl⟩
      obtain ⟨a1, ha1⟩ : ∃ a1, a1 = leftN C (k + 1) := ⟨_, rfl⟩
      obtain ⟨b0, hb0⟩ : ∃ b0, b0 = rightN C k := ⟨_, rfl⟩
      obtain ⟨b1, hb1⟩ : ∃ b1, b1 = rightN C (k + 1) := ⟨_, rfl⟩
      rw [← ha0, ← ha1] at HA
      rw [← hb0, ← hb1] at HB
      rw [← ha0, ← hb0]
      have HA1 := Lib.hid ha1
      have HB1 := Lib.hid hb1
      clear ha0 hb0 ha1 hb1 hq1 hq2 hq3 e1 e2 hm1 hm2 hm3 hL64 hR64
      go_wp2_with fail
      go_quiet (first | (go_at_call_of 53 (#[Value.int .u64 (a0 : Int), Value.int .i64 (q1 : Int)] : Array Value); exact Calls.quiet_of_same ((HA.out _).mono fun _ _ h => ⟨h.1, h.2.symm⟩)) | (go_at_call_of 53 (#[Value.int .u64 (b0 : Int), Value.int .i64 (q3 : Int)] : Array Value); exact Calls.quiet_of_same ((HB.out _).mono fun _ _ h => ⟨h.1, h.2.symm⟩)))
      go_wp2_with fail
      go_roundw
      case rel => exact ⟨k + 1, by omega, by go_num, by rw [HA1.out], by rw [HB1.out], by first | exact hx | simpa using hx, Lib.hid (below_drewN HBL.out _)⟩
      case measure => simp [intOf]; omega
    · have hd : decide ((k : Int) < (R : Int)) = false := decide_eq_false (by omega)
      have hd9 : decide (k < R) = false := decide_eq_false hlt
      obtain rfl : k = R := by omega
      have HE : Hid (bits .or .u64 (bits .or .u64 (bits .or .u64 (IntKind.u64.wrap ((P : Int) * 2 ^ C)) ((P : Int) / 2 ^ C)) (IntKind.u64.wrap (bits .andNot .u64 (P : Int) ((rightN C k : Nat) : Int) * 2))) (bits .andNot .u64 (P : Int) ((leftN C k : Nat) : Int) / 2) = ((besN k C P : Nat) : Int)) := Lib.hid (by
        rw [bits_andN, bits_andN, show (P : Int) * 2 ^ C = ((P * 2 ^ C : Nat) : Int) by simp, show (P : Int) / 2 ^ C = ((P / 2 ^ C : Nat) : Int) by simp, wrapN]
        rw [show ((andN P (rightN C k) : Nat) : Int) * 2 = ((andN P (rightN C k) * 2 : Nat) : Int) by simp, wrapN, show ((andN P (leftN C k) : Nat) : Int) / 2 = ((andN P (leftN C k) / 2 : Nat) : Int) by simp]
        have hm : ∀ x : Nat, x % 18446744073709551616 < 18446744073709551616 := fun x => Nat.mod_lt _ (by decide)
        have hq : P / 2 ^ C < 18446744073709551616 := Nat.lt_of_le_of_lt (Nat.div_le_self _ _) hP
        have hl : andN P (leftN C k) / 2 < 18446744073709551616 := Nat.lt_of_le_of_lt (Nat.div_le_self _ _) (andN_lt _ _)
        have ho : ∀ x y : Nat, x < 18446744073709551616 → y < 18446744073709551616 → x ||| y < 18446744073709551616 := fun x y hx hy => Nat.or_lt_two_pow (n := 64) hx hy
        rw [bits_or_u64_nat _ _ (hm _) hq, bits_or_u64_nat _ _ (ho _ _ (hm _) hq) (hm _), bits_or_u64_nat _ _ (ho _ _ (ho _ _ (hm _) hq) (hm _)) hl]
        rfl)
      have hc0 : ¬ (C : Int) < 0 := by omega
      have hd0 : decide ((C : Int) < 0) = false := decide_eq_false hc0
      go_wp2_with fail
      go_quiet (fail)
      go_wp2_with fail
      go_ret
      exact ⟨by rw [← HE.out]; rfl, below_drewN HBL.out _⟩
/-- What a board's numbers say of its cells. -/
def BrdW (R C : Nat) (W : Nat → Bool) (Wn : Nat) : Prop := 2 ≤ R ∧ R ≤ 6 ∧ 2 ≤ C ∧ C ≤ 6 ∧ Wn < 68719476736 ∧ ∀ k, Wn.testBit k = (decide (k < R * C) && W k)
set_option maxRecDepth 100000 in
set_option maxHeartbeats 1600000 in
theorem partb_any (R C Wn i : Nat) (W : Nat → Bool) (hB : BrdW R C W Wn) (hi : i < R * C) (w : World) :
    Calls Tryd.prog 78 #[.agg #[.int .i64 (R : Int), .int .i64 (C : Int), .int .u64 (Wn : Int)], .int .i64 (i : Int)] w fun e w' => ∃ P : Nat, e = .returned (.int .u64 (P : Int)) ∧ (∀ k, P.testBit k = reachB W C (R * C) i k) ∧ P < 68719476736 ∧ Below w.heap.size w w' := by
  obtain ⟨h1, h2, h3, h4, hWn, hbits⟩ := hB
  have hn36 : R * C ≤ 6 * 6 := Nat.mul_le_mul h2 h4
  have HBE := Lib.hid (fun P hP w => besb_any R C P (Wn : Int) h1 h2 h3 h4 hP w)
  have HWI := Lib.hid (fun w => withJ_any 0 i (by decide) (by omega) w)
  rw [Nat.zero_or] at HWI
  have HNR : Hid (∀ P, (∀ k, P.testBit k = true → Reach W C (R * C) i k) → (∀ k, (growN R C Wn P).testBit k = true → Reach W C (R * C) i k)) := Lib.hid (fun P hP => growN_reach h3 rfl hn36 hi hbits hP)
  have HND : Hid (∀ P, (∀ k, P.testBit k = true → Reach W C (R * C) i k) → P.testBit i = true → growN R C Wn P = P → ∀ k, P.testBit k = reachB W C (R * C) i k) := Lib.hid (fun P hP h0 he => growN_done h3 rfl hn36 hi hbits hP h0 he)
  have HLT : Hid (∀ P : Nat, (∀ k, P.testBit k = true → Reach W C (R * C) i k) → P < 68719476736) := Lib.hid (fun P hP => Nat.lt_of_lt_of_le (lt_of_bits (n := R * C) fun k h => reach_lt hi (hP k h)) (show 2 ^ (R * C) ≤ 2 ^ 36 from Nat.pow_le_pow_right (by omega) (by omega)))
  have H1 : Hid (∀ k, (2 ^ i).testBit k = true → Reach W C (R * C) i k) := Lib.hid (fun k h => by
    rw [Nat.testBit_two_pow, decide_eq_true_eq] at h
    subst h
    exact .base)
  have H1I : Hid ((2 ^ i).testBit i = true) := Lib.hid (by rw [Nat.testBit_two_pow]; simp)
  have H1P : Hid (0 < 2 ^ i) := Lib.hid (Nat.pow_pos (by decide))
  have HGL : Hid (∀ P, P ≤ growN R C Wn P) := Lib.hid (fun P => growN_le R C Wn P)
  have HGI : Hid (∀ P : Nat, P.testBit i = true → (growN R C Wn P).testBit i = true) := Lib.hid (fun P h => by unfold growN; rw [Nat.testBit_or, h]; rfl)
  have HG : Hid (∀ P : Nat, P < 68719476736 → bits .or .u64 (P : Int) (bits .and .u64 ((besN R C P : Nat) : Int) (Wn : Int)) = ((growN R C Wn P : Nat) : Int)) := Lib.hid (fun P hP => by
    have hb := besN_lt R C P (by omega)
    have ha : besN R C P &&& Wn < 18446744073709551616 := Nat.lt_of_le_of_lt Nat.and_le_left hb
    rw [bits_and_u64_nat _ _ hb (by omega), bits_or_u64_nat _ _ (by omega) ha]
    rfl)
  obtain ⟨I2, hI2⟩ : ∃ I2, I2 = 2 ^ i := ⟨_, rfl⟩
  rw [← hI2] at HWI H1 H1I H1P
  clear hI2 hi hbits hn36
  go_enter Tryd.func78, Tryd.ntmps78
  go_wp2_with (go_at_call 53; refine (HWI.out _).mono ?_; rintro e w1 ⟨rfl, rfl⟩)
  go_loopw [5, 6] (fun a b wr => ∃ P N : Nat, a = .int .u64 (P : Int) ∧ b = .int .u64 (N : Int) ∧ P ≤ N ∧ N < 68719476736 ∧ Hid (∀ k, N.testBit k = true → Reach W C (R * C) i k) ∧ Hid (N.testBit i = true) ∧ Hid (P < N ∨ N = growN R C Wn P) ∧ Hid (wr.heap[w.heap.size]? = some (.cells #[.int .i64 (R : Int), .int .i64 (C : Int), .int .u64 (Wn : Int)] 50)) ∧ Hid (Below w.heap.size w wr)) (fun a _ _ => 68719476736 - (intOf a).toNat)
  case atStart => exact ⟨0, I2, rfl, rfl, Nat.zero_le _, HLT.out _ H1.out, H1, H1I, Lib.hid (.inl H1P.out), Lib.hid (new_block w _), Lib.hid ((Below.refl _ _).alloc (Nat.le_refl _) _)⟩
  case round =>
    obtain ⟨P, N, rfl, rfl, hPN, hN, HR, HI, HO, HX, HB⟩ := hrel
    by_cases hne : P = N
    · have hb : ((N : Int) != (P : Int)) = false := by simp; omega
      subst hne
      have HE : Hid (growN R C Wn P = P) := Lib.hid (by
        rcases HO.out with h | h
        · omega
        · exact h.symm)
      have HF := Lib.hid (HND.out P HR.out HI.out HE.out)
      go_wp2
      go_ret
      exact ⟨P, rfl, HF.out, hN, HB.out⟩
    · have hb : ((N : Int) != (P : Int)) = true := by simp; omega
      have HBN := Lib.hid (fun w => HBE.out N (by omega) w)
      have HGN := Lib.hid (HG.out N hN)
      have HRN := Lib.hid (HNR.out N HR.out)
      have HIN := Lib.hid (HGI.out N HI.out)
      have HLN := Lib.hid (HGL.out N)
      have HNN : Hid (N < growN R C Wn N ∨ growN R C Wn N = growN R C Wn N) := Lib.hid (.inr rfl)
      have HTN := Lib.hid (HLT.out _ HRN.out)
      obtain ⟨G, hG⟩ : ∃ G, G = growN R C Wn N := ⟨_, rfl⟩
      rw [← hG] at HGN HRN HIN HLN HTN
      have HGE := Lib.hid hG
      obtain ⟨B, hBs⟩ : ∃ B, B = besN R C N := ⟨_, rfl⟩
      rw [← hBs] at HBN HGN
      clear hG hBs
      have SOT : Hid (∀ W : World, Below wr.heap.size wr W → W.cell? ⟨w.heap.size, 0, none⟩ = some (.int .i64 (R : Int)) ∧ W.cell? ⟨w.heap.size, 1, none⟩ = some (.int .i64 (C : Int)) ∧ W.cell? ⟨w.heap.size, 2, none⟩ = some (.int .u64 (Wn : Int))) := Lib.hid (fun W h => by
        have h9 := (h.block w.heap.size (Array.getElem?_eq_some_iff.1 HX.out).1).trans HX.out
        exact ⟨Joins.cell_of_block h9 0, Joins.cell_of_block h9 1, Joins.cell_of_block h9 2⟩)
      have hbn : Below wr.heap.size wr wr := Below.refl _ _
      go_wp2_with fail
      go_region_held3 (fun W => W.cell? ⟨w.heap.size, 0, none⟩ = some (.int .i64 (R : Int)) ∧ W.cell? ⟨w.heap.size, 1, none⟩ = some (.int .i64 (C : Int)) ∧ W.cell? ⟨w.heap.size, 2, none⟩ = some (.int .u64 (Wn : Int))) (first | exact SOT.out _ hbn | exact SOT.out _ hbn.drew) (first | (go_at_call 97; refine Calls.mono (HBN.out _) ?_; rintro e w6 ⟨rfl, b6⟩; have hbm : Below wr.heap.size wr _ := (by first | exact hbn.trans (b6.mono hbn.size) | exact hbn.drew.trans b6); clear hbn; have hbn := hbm; clear hbm b6; have HX6 := Lib.hid ((hbn.block w.heap.size (Array.getElem?_eq_some_iff.1 HX.out).1).trans HX.out); have HB6 := Lib.hid (HB.out.trans (hbn.mono HB.out.size))))
      all_goals go_wp2_with fail
      all_goals go_roundw
      all_goals first | exact ⟨N, G, rfl, by rw [HGN.out], HLN.out, HTN.out, HRN, HIN, Lib.hid (.inr HGE.out), HX6, HB6⟩ | (simp [intOf]; omega)
end Go.Proofs.YtgpplfhbgkcjhaaDoor
