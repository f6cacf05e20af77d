/-
  The program's contracts of PutWord and WordsIn.
-/
import Derived.Test.YtpacopebdoflpaaGreatDoorFillD
import Derived.Test.YtpacopebdoflpaaGreatDoorVals
namespace Go.Proofs.YtpacopebdoflpaaGreatDoor
open Go.RowKit

set_option maxRecDepth 100000 in
set_option maxHeartbeats 3200000 in
theorem ipw_any (r c : Int) (s f : ByteArray) (k : Int) (x : ByteArray) (hs : s.size ≤ 4194304) (hf : f.size ≤ 1048576) (hx : x.size ≤ 1048576) (w : World) (hm : ML w) :
    Calls Tryz.prog 6 #[.agg #[.int .i64 r, .int .i64 c, .string s], .string f, .int .i64 k, .string x] w fun e w' => e = .returned (.tuple #[.string (putF (r, c, s) f k x).1, .bool (putF (r, c, s) f k x).2]) ∧ Below w.heap.size w w' := by
  have HFI := Lib.hid (fun w => ifill_any r c s f hs hf w)
  unfold FillE at HFI
  have HML := Lib.hid hm
  clear hm
  cases hp : isF (r, c, s) f with
  | false =>
    rw [hp] at HFI
    have hpe : patF (r, c, s) f k = ⟨#[]⟩ := patF_else (fun h => by rw [hp] at h; cases h.1)
    have HF := Lib.hid (putF_no (g := (r, c, s)) (f := f) (k := k) (x := x) (by rw [hpe]; exact fits_none x))
    have HFT := Lib.hid (fun w h => by
      have h9 := ifits_any ⟨#[]⟩ x w h (by decide) hx
      rw [fits_none] at h9
      exact h9)
    have HSO := Lib.hid (fun w => isof_any (0, 0, ⟨#[]⟩) k w)
    rw [slotN_no (g := (0, 0, ⟨#[]⟩)) (k := k) (by rw [slG_none]; simp), brd_none] at HSO
    have HP0 := Lib.hid (fun w => ipat0 0 0 0 (.slice none 0 0) 0 w ⟨_, _, _, rfl⟩)
    simp only [brdV, slotV, none_Slot] at HSO
    obtain ⟨bn, hbn⟩ : ∃ bn, bn = decide (0 ≤ k ∧ k < ((slG (0, 0, ⟨#[]⟩)).length : Int)) := ⟨_, rfl⟩
    rw [← hbn] at HSO
    clear hp hbn hpe
    go_enter Tryz.func6, Tryz.ntmps6
    go_wp2_with (first | (go_at_call 26; refine (HFI.out _).mono ?_; rintro e w1 ⟨he, b1⟩; have HB1 := Lib.hid (box1_of b1); clear b1; rcases he with ⟨h, -⟩ | ⟨-, rfl⟩; cases h; have HA1 := Lib.hid ((Below.refl w1.heap.size w1).alloc (Nat.le_refl _) (.cells #[.int .i64 0, .int .i64 0, .int .u64 0, .slice none 0 0, .int .u64 0] 57)); have HX1 := Lib.hid (new_block w1 (.cells #[.int .i64 0, .int .i64 0, .int .u64 0, .slice none 0 0, .int .u64 0] 57)); have HC1 := Lib.hid (HB1.out.trans (HA1.out.mono HB1.out.size))) | (go_at_call 27; refine (HSO.out _).mono ?_; rintro e w2 ⟨rfl, b2⟩; have HB2 := Lib.hid (HC1.out.trans (b2.mono HC1.out.size)); have HX2 := Lib.hid ((b2.block w1.heap.size (size_of_heap HX1.out)).trans HX1.out); have HA2 := Lib.hid ((Below.refl w2.heap.size w2).alloc (Nat.le_refl _) (.cells #[.int .i64 0, .bool false, .int .i64 0, .int .i64 0] 61)); have HX3 := Lib.hid ((HA2.out.block _ (size_of_heap HX2.out)).trans HX2.out); have HY3 := Lib.hid (new_block w2 (.cells #[.int .i64 0, .bool false, .int .i64 0, .int .i64 0] 61)); have HC2 := Lib.hid (HB2.out.trans (HA2.out.mono HB2.out.size)); clear b2; obtain ⟨x0, x1, x2, x3, x4, fx0, fx1, fx2, fx3, fx4⟩ := cells5F HX3.out) | (go_at_call 29; refine (HP0.out _).mono ?_; rintro e w3 ⟨rfl, b3⟩; have HB3 := Lib.hid (HC2.out.trans (b3.mono HC2.out.size)); have HX4 := Lib.hid ((b3.block _ (size_of_heap HX3.out)).trans HX3.out); have HY4 := Lib.hid ((b3.block _ (size_of_heap HY3.out)).trans HY3.out); clear b3) | (go_at_call 28; refine (HFT.out _ (HML.out.later HB3.out)).mono ?_; rintro e w4 ⟨rfl, b4⟩; have HB4 := Lib.hid (HB3.out.trans (b4.mono HB3.out.size)); clear b4))
    go_ret2
    exact ⟨by rw [HF.out]; rfl, HB4.out⟩
  | true =>
    rw [hp] at HFI
    have hg := (isF_parts hp).1
    have hfs : f.size = s.size := (isF_parts hp).2.1
    have hf36 := (isF_parts hp).2.2.1
    have hbe := brd_yes hg
    have HSO := Lib.hid (fun w => isof_any (r, c, s) k w)
    rw [hbe] at HSO
    obtain ⟨OP, hOP⟩ : ∃ OP, OP = opK f f.size := ⟨_, rfl⟩
    rw [← hOP] at HFI
    by_cases hin : 0 ≤ k ∧ k < ((slG (r, c, s)).length : Int)
    · obtain ⟨j, rfl⟩ : ∃ j : Nat, k = j := ⟨k.toNat, by omega⟩
      have hj : j < (slG (r, c, s)).length := by omega
      rw [slotN_in hj] at HSO
      have HF := Lib.hid (patF_bytes hp hj)
      have HPI := Lib.hid (fun blk cp op w hM => ipat_in (r, c, s) _ (getD_in hj) blk cp (fun j => f.data.toList.getD j 0) op w hM)
      rw [hbe] at HPI
      simp only at HPI HF
      rw [← HF.out, ← hfs] at HPI
      have HFT := Lib.hid (fun w h => ifits_any (patF (r, c, s) f (j : Int)) x w h (by
        have h26 := (slG_small (getD_in hj)).2.2.2.1
        rw [HF.out, arr_size, bytesOf, List.length_map, cellsS_length]
        omega) hx)
      obtain ⟨bn, hbn⟩ : ∃ bn, bn = decide (0 ≤ (j : Int) ∧ (j : Int) < ((slG (r, c, s)).length : Int)) := ⟨_, rfl⟩
      rw [← hbn] at HSO
      obtain ⟨q, hq⟩ : ∃ q, q = fitsP (patF (r, c, s) f (j : Int)) x := ⟨_, rfl⟩
      rw [← hq] at HFT
      cases q with
      | false =>
        have HR := Lib.hid (putF_no hq.symm)
        obtain ⟨P, hP⟩ : ∃ P, P = patF (r, c, s) f (j : Int) := ⟨_, rfl⟩
        rw [← hP] at HPI HFT
        obtain ⟨y, hy⟩ : ∃ y, y = (slG (r, c, s)).getD j none_Slot := ⟨_, rfl⟩
        rw [← hy] at HSO HPI
        obtain ⟨S, hS⟩ : ∃ S, S = wT s s.size := ⟨_, rfl⟩
        rw [hfs] at HPI
        rw [← hS] at HFI HSO HPI
        rw [← hfs] at HPI
        clear hp hg hbe hin hj hbn hP hy HF hq hfs hOP hS
        obtain ⟨t0, t1, t2, t3⟩ := y
        simp only [brdV, slotV] at HSO HPI
        go_enter Tryz.func6, Tryz.ntmps6
        go_wp2_with (first | (go_at_call 26; refine (HFI.out _).mono ?_; rintro e w1 ⟨he, b1⟩; have HB1 := Lib.hid (box1_of b1); clear b1; rcases he with ⟨-, blk, cp, rfl, hq1, hq2, hq3, hM⟩ | ⟨h, -⟩; rotate_left; cases h; have HA1 := Lib.hid ((Below.refl w1.heap.size w1).alloc (Nat.le_refl _) (.cells #[.int .i64 r, .int .i64 c, .int .u64 (S : Int), .slice (some ⟨blk, 0, none⟩) f.size cp, .int .u64 (OP : Int)] 57)); have HX1 := Lib.hid (new_block w1 (.cells #[.int .i64 r, .int .i64 c, .int .u64 (S : Int), .slice (some ⟨blk, 0, none⟩) f.size cp, .int .u64 (OP : Int)] 57)); have HM1 := Lib.hid (hM.later HA1.out); have HC1 := Lib.hid (HB1.out.trans (HA1.out.mono HB1.out.size)); clear hM) | (go_at_call 27; refine (HSO.out _).mono ?_; rintro e w2 ⟨rfl, b2⟩; have HB2 := Lib.hid (HC1.out.trans (b2.mono HC1.out.size)); have HX2 := Lib.hid ((b2.block w1.heap.size (size_of_heap HX1.out)).trans HX1.out); have HA2 := Lib.hid ((Below.refl w2.heap.size w2).alloc (Nat.le_refl _) (.cells #[.int .i64 t0, .bool t1, .int .i64 t2, .int .i64 t3] 61)); have HX3 := Lib.hid ((HA2.out.block _ (size_of_heap HX2.out)).trans HX2.out); have HY3 := Lib.hid (new_block w2 (.cells #[.int .i64 t0, .bool t1, .int .i64 t2, .int .i64 t3] 61)); have HM3 := Lib.hid ((HM1.out.later b2).later HA2.out); have HC2 := Lib.hid (HB2.out.trans (HA2.out.mono HB2.out.size)); clear b2; obtain ⟨x0, x1, x2, x3, x4, fx0, fx1, fx2, fx3, fx4⟩ := cells5F HX3.out) | (go_at_call 29; refine (HPI.out _ _ _ _ HM3.out).mono ?_; rintro e w3 ⟨rfl, b3⟩; have HB3 := Lib.hid (HC2.out.trans (b3.mono HC2.out.size)); have HX4 := Lib.hid ((b3.block _ (size_of_heap HX3.out)).trans HX3.out); have HY4 := Lib.hid ((b3.block _ (size_of_heap HY3.out)).trans HY3.out); have HM4 := Lib.hid (HM3.out.later b3); clear b3) | (go_at_call 28; refine (HFT.out _ (HML.out.later HB3.out)).mono ?_; rintro e w4 ⟨rfl, b4⟩; have HB4 := Lib.hid (HB3.out.trans (b4.mono HB3.out.size)); clear b4))
        go_ret2
        exact ⟨by rw [HR.out]; rfl, HB4.out⟩
      | true =>
        have HR := Lib.hid (putF_yes hq.symm)
        obtain ⟨i9, Z, he9, hi9, hZ, -, -, -, -, -, hl9, -, -, -, hxe⟩ := put_rec hq.symm
        obtain rfl : i9 = j := by omega
        have HWR := Lib.hid (fun blk cp op w hM => iwr_any (r, c, s) _ (getD_in hj) blk cp (fun j => f.data.toList.getD j 0) op x (by simp only at hZ ⊢; rw [← hZ]; exact hl9) w hM)
        rw [hbe] at HWR
        simp only at HWR hZ
        rw [← hZ] at HWR
        have HLN : Hid ((numsL (putTo (mixL s.size (fun j => f.data.toList.getD j 0)) Z x.data.toList Z.length)).length = f.size) := Lib.hid (by rw [numsL_length, putTo_length, mixL_len, hfs])
        have HPS : Hid (strOfNums (numsL (putTo (mixL s.size (fun j => f.data.toList.getD j 0)) Z x.data.toList Z.length)) = putS (r, c, s) f (i9 : Int) x) := Lib.hid (by rw [str_nums, hxe, ← hfs, mixL_self])
        obtain ⟨NB, hNB⟩ : ∃ NB, NB = numsL (putTo (mixL s.size (fun j => f.data.toList.getD j 0)) Z x.data.toList Z.length) := ⟨_, rfl⟩
        rw [← hNB] at HLN HPS HWR
        obtain ⟨P, hP⟩ : ∃ P, P = patF (r, c, s) f (i9 : Int) := ⟨_, rfl⟩
        rw [← hP] at HPI HFT
        obtain ⟨y, hy⟩ : ∃ y, y = (slG (r, c, s)).getD i9 none_Slot := ⟨_, rfl⟩
        rw [← hy] at HSO HPI HWR
        obtain ⟨S, hS⟩ : ∃ S, S = wT s s.size := ⟨_, rfl⟩
        rw [hfs] at HPI
        rw [← hS] at HFI HSO HPI HWR
        rw [← hfs] at HPI HWR
        obtain ⟨PS, hPS⟩ : ∃ PS, PS = putS (r, c, s) f (i9 : Int) x := ⟨_, rfl⟩
        rw [← hPS] at HPS HR
        clear hp hg hbe hin hj hbn hP hy HF hq hfs hOP hS hNB hPS he9 hi9 hZ hl9 hxe
        obtain ⟨t0, t1, t2, t3⟩ := y
        simp only [brdV, slotV] at HSO HPI HWR
        go_enter Tryz.func6, Tryz.ntmps6
        go_wp2_with (first | (go_at_call 26; refine (HFI.out _).mono ?_; rintro e w1 ⟨he, b1⟩; have HB1 := Lib.hid (box1_of b1); clear b1; rcases he with ⟨-, blk, cp, rfl, hq1, hq2, hq3, hM⟩ | ⟨h, -⟩; rotate_left; cases h; have HA1 := Lib.hid ((Below.refl w1.heap.size w1).alloc (Nat.le_refl _) (.cells #[.int .i64 r, .int .i64 c, .int .u64 (S : Int), .slice (some ⟨blk, 0, none⟩) f.size cp, .int .u64 (OP : Int)] 57)); have HX1 := Lib.hid (new_block w1 (.cells #[.int .i64 r, .int .i64 c, .int .u64 (S : Int), .slice (some ⟨blk, 0, none⟩) f.size cp, .int .u64 (OP : Int)] 57)); have HM1 := Lib.hid (hM.later HA1.out); have HC1 := Lib.hid (HB1.out.trans (HA1.out.mono HB1.out.size)); clear hM) | (go_at_call 27; refine (HSO.out _).mono ?_; rintro e w2 ⟨rfl, b2⟩; have HB2 := Lib.hid (HC1.out.trans (b2.mono HC1.out.size)); have HX2 := Lib.hid ((b2.block w1.heap.size (size_of_heap HX1.out)).trans HX1.out); have HA2 := Lib.hid ((Below.refl w2.heap.size w2).alloc (Nat.le_refl _) (.cells #[.int .i64 t0, .bool t1, .int .i64 t2, .int .i64 t3] 61)); have HX3 := Lib.hid ((HA2.out.block _ (size_of_heap HX2.out)).trans HX2.out); have HY3 := Lib.hid (new_block w2 (.cells #[.int .i64 t0, .bool t1, .int .i64 t2, .int .i64 t3] 61)); have HM3 := Lib.hid ((HM1.out.later b2).later HA2.out); have HC2 := Lib.hid (HB2.out.trans (HA2.out.mono HB2.out.size)); clear b2; obtain ⟨x0, x1, x2, x3, x4, fx0, fx1, fx2, fx3, fx4⟩ := cells5F HX3.out) | (go_at_call 29; refine (HPI.out _ _ _ _ HM3.out).mono ?_; rintro e w3 ⟨rfl, b3⟩; have HB3 := Lib.hid (HC2.out.trans (b3.mono HC2.out.size)); have HX4 := Lib.hid ((b3.block _ (size_of_heap HX3.out)).trans HX3.out); have HY4 := Lib.hid ((b3.block _ (size_of_heap HY3.out)).trans HY3.out); have HM4 := Lib.hid (HM3.out.later b3); clear b3) | (go_at_call 28; refine (HFT.out _ (HML.out.later HB3.out)).mono ?_; rintro e w4 ⟨rfl, b4⟩; have HB4 := Lib.hid (HB3.out.trans (b4.mono HB3.out.size)); have HX5 := Lib.hid ((b4.block _ (size_of_heap HX4.out)).trans HX4.out); have HY5 := Lib.hid ((b4.block _ (size_of_heap HY4.out)).trans HY4.out); have HM5 := Lib.hid (HM4.out.later b4); clear x0 x1 x2 x3 x4 fx0 fx1 fx2 fx3 fx4 b4; obtain ⟨x0, x1, x2, x3, x4, fx0, fx1, fx2, fx3, fx4⟩ := cells5F HX5.out; obtain ⟨z0, z1, z2, z3, y0, y1, y2, y3⟩ := cells4F HY5.out) | (go_at_call 30; refine (HWR.out _ _ _ _ HM5.out).mono ?_; rintro e w5 ⟨v5, rfl, o5, b5⟩; obtain ⟨a5, cap5, rfl⟩ := ownV_slice o5; have HB5 := Lib.hid (HB4.out.trans (b5.mono HB4.out.size)); have hconv := conv_own (reads_own o5 (HLN.out).symm (by rw [HLN.out]; omega)); rw [HPS.out] at hconv; clear b5 o5))
        go_ret2
        exact ⟨by rw [HR.out]; rfl, HB5.out⟩
    · rw [slotN_no hin] at HSO
      have hpe : patF (r, c, s) f k = ⟨#[]⟩ := patF_else (fun h => hin h.2)
      have HF := Lib.hid (putF_no (g := (r, c, s)) (f := f) (k := k) (x := x) (by rw [hpe]; exact fits_none x))
      have HFT := Lib.hid (fun w h => by
        have h9 := ifits_any ⟨#[]⟩ x w h (by decide) hx
        rw [fits_none] at h9
        exact h9)
      have HP0 := Lib.hid (fun blk cp op w => ipat0 r c ((wT s s.size : Nat) : Int) (.slice (some ⟨blk, 0, none⟩) f.size cp) op w ⟨_, _, _, rfl⟩)
      obtain ⟨bn, hbn⟩ : ∃ bn, bn = decide (0 ≤ k ∧ k < ((slG (r, c, s)).length : Int)) := ⟨_, rfl⟩
      rw [← hbn] at HSO
      obtain ⟨S, hS⟩ : ∃ S, S = wT s s.size := ⟨_, rfl⟩
      rw [← hS] at HFI HSO HP0
      simp only [brdV, slotV, none_Slot] at HSO
      clear hp hg hbe hin hbn hS hOP hfs hpe
      go_enter Tryz.func6, Tryz.ntmps6
      go_wp2_with (first | (go_at_call 26; refine (HFI.out _).mono ?_; rintro e w1 ⟨he, b1⟩; have HB1 := Lib.hid (box1_of b1); clear b1; rcases he with ⟨-, blk, cp, rfl, -⟩ | ⟨h, -⟩; rotate_left; cases h; have HA1 := Lib.hid ((Below.refl w1.heap.size w1).alloc (Nat.le_refl _) (.cells #[.int .i64 r, .int .i64 c, .int .u64 (S : Int), .slice (some ⟨blk, 0, none⟩) f.size cp, .int .u64 (OP : Int)] 57)); have HX1 := Lib.hid (new_block w1 (.cells #[.int .i64 r, .int .i64 c, .int .u64 (S : Int), .slice (some ⟨blk, 0, none⟩) f.size cp, .int .u64 (OP : Int)] 57)); have HC1 := Lib.hid (HB1.out.trans (HA1.out.mono HB1.out.size))) | (go_at_call 27; refine (HSO.out _).mono ?_; rintro e w2 ⟨rfl, b2⟩; have HB2 := Lib.hid (HC1.out.trans (b2.mono HC1.out.size)); have HX2 := Lib.hid ((b2.block w1.heap.size (size_of_heap HX1.out)).trans HX1.out); have HA2 := Lib.hid ((Below.refl w2.heap.size w2).alloc (Nat.le_refl _) (.cells #[.int .i64 0, .bool false, .int .i64 0, .int .i64 0] 61)); have HX3 := Lib.hid ((HA2.out.block _ (size_of_heap HX2.out)).trans HX2.out); have HY3 := Lib.hid (new_block w2 (.cells #[.int .i64 0, .bool false, .int .i64 0, .int .i64 0] 61)); have HC2 := Lib.hid (HB2.out.trans (HA2.out.mono HB2.out.size)); clear b2; obtain ⟨x0, x1, x2, x3, x4, fx0, fx1, fx2, fx3, fx4⟩ := cells5F HX3.out) | (go_at_call 29; refine (HP0.out _ _ _ _).mono ?_; rintro e w3 ⟨rfl, b3⟩; have HB3 := Lib.hid (HC2.out.trans (b3.mono HC2.out.size)); have HX4 := Lib.hid ((b3.block _ (size_of_heap HX3.out)).trans HX3.out); have HY4 := Lib.hid ((b3.block _ (size_of_heap HY3.out)).trans HY3.out); clear b3) | (go_at_call 28; refine (HFT.out _ (HML.out.later HB3.out)).mono ?_; rintro e w4 ⟨rfl, b4⟩; have HB4 := Lib.hid (HB3.out.trans (b4.mono HB3.out.size)); clear b4))
      go_ret2
      exact ⟨by rw [HF.out]; rfl, HB4.out⟩
theorem row_zero : row_Slot [] = [] := rfl
set_option maxRecDepth 100000 in
set_option maxHeartbeats 3200000 in
theorem iwin_any (r c : Int) (s f : ByteArray) (hs : s.size ≤ 4194304) (hf : f.size ≤ 1048576) (w : World) (hm : ML w) :
    Calls Tryz.prog 11 #[.agg #[.int .i64 r, .int .i64 c, .string s], .string f] w fun e w' => ∃ v, e = .returned v ∧ w'.ownsRow w.heap.size 9 1 v (wordsF (r, c, s) f).length ((wordsF (r, c, s) f).map Value.string) ∧ Below w.heap.size w w' := by
  obtain ⟨i0, hi, hz0, hz1, hz2⟩ := info_parts infoStF
  have HFI := Lib.hid (fun w => ifill_any r c s f hs hf w)
  unfold FillE at HFI
  have HML := Lib.hid hm
  clear hm
  cases hp : isF (r, c, s) f with
  | false =>
    rw [hp] at HFI
    have HF : Hid (wordsF (r, c, s) f = []) := Lib.hid (by unfold wordsF; rw [hp]; rfl)
    have HSB := Lib.hid (fun w => slots_brd (0, 0, ⟨#[]⟩) w)
    rw [slG_none, brd_none, row_zero] at HSB
    simp only [brdV, List.length_nil] at HSB
    clear hp
    go_enter Tryz.func11, Tryz.ntmps11
    go_wp2_with (first | (go_at_call 26; refine (HFI.out _).mono ?_; rintro e w1 ⟨he, b1⟩; have HB1 := Lib.hid (box1_of b1); clear b1; rcases he with ⟨h, -⟩ | ⟨-, rfl⟩; cases h; have HA1 := Lib.hid ((Below.refl w1.heap.size w1).alloc (Nat.le_refl _) (.cells #[.int .i64 0, .int .i64 0, .int .u64 0, .slice none 0 0, .int .u64 0] 57)); have HX1 := Lib.hid (new_block w1 (.cells #[.int .i64 0, .int .i64 0, .int .u64 0, .slice none 0 0, .int .u64 0] 57)); have HC1 := Lib.hid (HB1.out.trans (HA1.out.mono HB1.out.size)); have HA2 := Lib.hid ((Below.refl (w1.alloc (.cells #[.int .i64 0, .int .i64 0, .int .u64 0, .slice none 0 0, .int .u64 0] 57)).heap.size (w1.alloc (.cells #[.int .i64 0, .int .i64 0, .int .u64 0, .slice none 0 0, .int .u64 0] 57))).alloc (Nat.le_refl _) (.cells #[] 9)); have HO1 := Lib.hid (own_empty (w1.alloc (.cells #[.int .i64 0, .int .i64 0, .int .u64 0, .slice none 0 0, .int .u64 0] 57)) 9); have HC2 := Lib.hid (HC1.out.trans (HA2.out.mono HC1.out.size)); obtain ⟨x0, x1, x2, x3, x4, fx0, fx1, fx2, fx3, fx4⟩ := cells5F ((HA2.out.block _ (size_of_heap HX1.out)).trans HX1.out)) | (go_at_call 32; refine (HSB.out _).mono ?_; rintro e w2 ⟨v2, rfl, o2, b2⟩; obtain ⟨a2, cap2, rfl⟩ := ownV_slice o2; have HO2 := Lib.hid (own_later HO1.out b2); have HB2 := Lib.hid (HC2.out.trans (b2.mono HC2.out.size)); clear o2 b2))
    rw [World.size_alloc] at HO2
    go_loopw [7, 22] (fun o i wr => i = .int .i64 0 ∧ Hid (wr.ownsRow (w1.heap.size + 1) 9 1 o 0 []) ∧ Hid (Below w.heap.size w wr)) (fun _ _ _ => 0)
    case atStart => exact ⟨rfl, HO2, HB2⟩
    case round =>
      clear HO2 HB2
      obtain ⟨rfl, HO, HB⟩ := hrel
      go_wp2
      go_ret
      exact ⟨_, rfl, by rw [HF.out]; exact own_widen HO.out (by have := HB1.out.size; omega), HB.out⟩
  | true =>
    rw [hp] at HFI
    have hg := (isF_parts hp).1
    have hfs : f.size = s.size := (isF_parts hp).2.1
    have hbe := brd_yes hg
    have HSB := Lib.hid (fun w => slots_brd (r, c, s) w)
    have HLEN := Lib.hid (slG_length (r, c, s))
    have HPI := Lib.hid (fun j hj blk cp op w hM => by
      have h9 := ipat_in (r, c, s) ((slG (r, c, s)).getD j none_Slot) (getD_in hj) blk cp (fun j => f.data.toList.getD j 0) op w hM
      rw [show (⟨(bytesOf (fun j => f.data.toList.getD j 0) (cellsS (r, c, s).2.1 ((slG (r, c, s)).getD j none_Slot))).toArray⟩ : ByteArray) = patF (r, c, s) f (j : Int) from (patF_bytes hp hj).symm] at h9
      exact h9)
    rw [hbe] at HPI HSB
    simp only [brdV, slotV] at HPI HSB
    rw [← hfs] at HPI
    have HIP := Lib.hid (fun j hj => patF_isP (g := (r, c, s)) (f := f) (i := j) hp hj)
    have HF : Hid (wordsF (r, c, s) f = wordsTo (r, c, s) f (slG (r, c, s)).length) := Lib.hid (by unfold wordsF; rw [if_pos hp])
    obtain ⟨OP, hOP⟩ : ∃ OP, OP = opK f f.size := ⟨_, rfl⟩
    rw [← hOP] at HFI
    obtain ⟨S, hS⟩ : ∃ S, S = wT s s.size := ⟨_, rfl⟩
    rw [hfs] at HPI
    rw [← hS] at HFI HSB HPI
    rw [← hfs] at HPI
    obtain ⟨l, hl⟩ : ∃ l, l = slG (r, c, s) := ⟨_, rfl⟩
    rw [← hl] at HSB HLEN HPI HIP HF
    clear hp hg hbe hOP hS hl hfs
    have hl72 := HLEN.out
    have HWL := Lib.hid (fun n => wordsTo_length (r, c, s) f n)
    have HWN := Lib.hid (fun n => wordsTo_next (r, c, s) f n)
    go_enter Tryz.func11, Tryz.ntmps11
    go_wp2_with (first | (go_at_call 26; refine (HFI.out _).mono ?_; rintro e w1 ⟨he, b1⟩; have HB1 := Lib.hid (box1_of b1); clear b1; rcases he with ⟨-, blk, cp, rfl, hq1, hq2, hq3, hM⟩ | ⟨h, -⟩; rotate_left; cases h; have HA1 := Lib.hid ((Below.refl w1.heap.size w1).alloc (Nat.le_refl _) (.cells #[.int .i64 r, .int .i64 c, .int .u64 (S : Int), .slice (some ⟨blk, 0, none⟩) f.size cp, .int .u64 (OP : Int)] 57)); have HX1 := Lib.hid (new_block w1 (.cells #[.int .i64 r, .int .i64 c, .int .u64 (S : Int), .slice (some ⟨blk, 0, none⟩) f.size cp, .int .u64 (OP : Int)] 57)); have HM1 := Lib.hid (hM.later HA1.out); have HC1 := Lib.hid (HB1.out.trans (HA1.out.mono HB1.out.size)); have HA2 := Lib.hid ((Below.refl (w1.alloc (.cells #[.int .i64 r, .int .i64 c, .int .u64 (S : Int), .slice (some ⟨blk, 0, none⟩) f.size cp, .int .u64 (OP : Int)] 57)).heap.size (w1.alloc (.cells #[.int .i64 r, .int .i64 c, .int .u64 (S : Int), .slice (some ⟨blk, 0, none⟩) f.size cp, .int .u64 (OP : Int)] 57))).alloc (Nat.le_refl _) (.cells #[] 9)); have HO1 := Lib.hid (own_empty (w1.alloc (.cells #[.int .i64 r, .int .i64 c, .int .u64 (S : Int), .slice (some ⟨blk, 0, none⟩) f.size cp, .int .u64 (OP : Int)] 57)) 9); clear hM; obtain ⟨x0, x1, x2, x3, x4, fx0, fx1, fx2, fx3, fx4⟩ := cells5F ((HA2.out.block _ (size_of_heap HX1.out)).trans HX1.out)) | (go_at_call 32; refine (HSB.out _).mono ?_; rintro e w2 ⟨v2, rfl, o2, b2⟩; obtain ⟨a2, cap2, rfl⟩ := ownV_slice o2; have HO2 := Lib.hid (own_later HO1.out b2); have HL2 := Lib.hid (own_widen o2 HA2.out.size); have HB2 := Lib.hid (HA2.out.trans (b2.mono HA2.out.size)); clear o2 b2))
    obtain ⟨W1, hW1⟩ : ∃ W1, W1 = w1.alloc (.cells #[.int .i64 r, .int .i64 c, .int .u64 (S : Int), .slice (some ⟨blk, 0, none⟩) f.size cp, .int .u64 (OP : Int)] 57) := ⟨_, rfl⟩
    have hws : W1.heap.size = w1.heap.size + 1 := by rw [hW1]; simp
    rw [← hW1] at HX1 HM1 HC1 HO2 HL2 HB2
    clear hW1 x0 x1 x2 x3 x4 fx0 fx1 fx2 fx3 fx4 HA1 HA2 HO1 HB1 HFI HSB
    have HO3 : Hid (w2.ownsRow W1.heap.size 9 1 (.slice (some ⟨w1.heap.size + 1, 0, none⟩) 0 0) 0 []) := Lib.hid (by rw [← hws]; exact HO2.out)
    clear HO2
    go_loopw [7, 22] (fun o i wr => ∃ k : Nat, k ≤ l.length ∧ i = .int .i64 (k : Int) ∧ Hid (wr.ownsRow W1.heap.size 9 1 o (wordsTo (r, c, s) f k).length ((wordsTo (r, c, s) f k).map Value.string)) ∧ Hid (wr.ownsRow W1.heap.size 61 4 (.slice a2 l.length cap2) l.length (row_Slot l)) ∧ Hid (Below W1.heap.size W1 wr)) (fun _ i _ => l.length - (intOf i).toNat)
    case atStart => exact ⟨0, Nat.zero_le _, rfl, HO3, HL2, HB2⟩
    case round =>
      clear HO3 HL2 HB2
      obtain ⟨k, hk, rfl, HO, HL, HB⟩ := hrel
      by_cases hlt : k < l.length
      · have hd : decide ((k : Int) < (l.length : Int)) = true := decide_eq_true (by omega)
        have hd9 : decide (k < l.length) = true := decide_eq_true hlt
        obtain ⟨b, rfl, q0, q1, q2, q3⟩ := slot_cells HL.out rfl k hlt
        have HNX := Lib.hid (HWN.out k)
        have hwl := HWL.out k
        have HP1 := Lib.hid (HPI.out k hlt)
        have hip := HIP.out k hlt
        have HCN := Lib.hid (fun w h => ico_any (patF (r, c, s) f (k : Int)) w h (by have := (isP_size hip).2; omega))
        have HOE := Lib.hid (openN_opn hip)
        obtain ⟨y, hy⟩ : ∃ y, y = l.getD k none_Slot := ⟨_, rfl⟩
        rw [← hy] at q0 q1 q2 q3 HP1
        obtain ⟨L, hL⟩ : ∃ L, L = wordsTo (r, c, s) f k := ⟨_, rfl⟩
        rw [← hL] at HO HNX hwl
        obtain ⟨P, hP⟩ : ∃ P, P = patF (r, c, s) f (k : Int) := ⟨_, rfl⟩
        rw [← hP] at HNX HP1 HCN HOE
        obtain ⟨N, hN⟩ : ∃ N, N = openN P := ⟨_, rfl⟩
        rw [← hN] at HCN HOE
        obtain ⟨q, hq⟩ : ∃ q, q = opn P := ⟨_, rfl⟩
        rw [← hq] at HNX HOE
        clear hy hL hP hN hq hip
        obtain ⟨t0, t1, t2, t3⟩ := y
        simp only at q0 q1 q2 q3 HP1
        have HA := Lib.hid ((Below.refl wr.heap.size wr).alloc (Nat.le_refl _) (.cells #[.int .i64 t0, .bool t1, .int .i64 t2, .int .i64 t3] 61))
        have HBA := Lib.hid (HB.out.trans (HA.out.mono HB.out.size))
        have HOA := Lib.hid (own_later HO.out HA.out)
        have HLA := Lib.hid (ownV_later HL.out HA.out)
        obtain ⟨x0, x1, x2, x3, x4, fx0, fx1, fx2, fx3, fx4⟩ := cells5F ((HBA.out.block _ (size_of_heap HX1.out)).trans HX1.out)
        have HMA := Lib.hid (HM1.out.later HBA.out)
        cases q with
        | true =>
          have HE : Hid (wordsTo (r, c, s) f (k + 1) = L) := Lib.hid (by rw [HNX.out]; simp)
          have hn0 : (N == 0) = false := by
            have h9 : ¬ N = 0 := fun e => by have := HOE.out.1 e; cases this
            simpa using h9
          go_wp2_with (first | (go_at_call 29; refine (HP1.out _ _ _ _ HMA.out).mono ?_; rintro e w4 ⟨rfl, b4⟩; have HB4 := Lib.hid (HBA.out.trans (b4.mono HBA.out.size)); have HO4 := Lib.hid (own_later HOA.out b4); have HL4 := Lib.hid (ownV_later HLA.out b4); clear b4) | (go_at_call 33; refine (HCN.out _ (HML.out.later (HC1.out.trans (HB4.out.mono HC1.out.size)))).mono ?_; rintro e w5 ⟨rfl, b5⟩; have HB5 := Lib.hid (HB4.out.trans (b5.mono HB4.out.size)); have HO5 := Lib.hid (own_later HO4.out b5); have HL5 := Lib.hid (ownV_later HL4.out b5); clear b5))
          go_roundw
          case rel => exact ⟨k + 1, by omega, by go_num, by rw [HE.out]; exact HO5, HL5, HB5⟩
          case measure => simp [intOf]; omega
        | false =>
          have HE : Hid (wordsTo (r, c, s) f (k + 1) = L ++ [P]) := Lib.hid (by rw [HNX.out]; simp)
          have hn0 : (N == 0) = true := by
            have h9 : N = 0 := HOE.out.2 rfl
            simpa using h9
          go_wp2_with (first | (go_at_call 29; refine (HP1.out _ _ _ _ HMA.out).mono ?_; rintro e w4 ⟨rfl, b4⟩; have HB4 := Lib.hid (HBA.out.trans (b4.mono HBA.out.size)); have HO4 := Lib.hid (own_later HOA.out b4); have HL4 := Lib.hid (ownV_later HLA.out b4); clear b4) | (go_at_call 33; refine (HCN.out _ (HML.out.later (HC1.out.trans (HB4.out.mono HC1.out.size)))).mono ?_; rintro e w5 ⟨rfl, b5⟩; have HB5 := Lib.hid (HB4.out.trans (b5.mono HB4.out.size)); have HO5 := Lib.hid (own_later HO4.out b5); have HL5 := Lib.hid (ownV_later HL4.out b5); clear b5) | (at_builtin; refine appendV_reads _ rfl _ _ 34 rfl W1.heap.size 9 i0 (.string ⟨#[]⟩) 1 16 Tryz.underlying34 hi hz0 hz1 hz2 rfl (by decide) _ _ _ rfl (HO5.out.alloc _) (some ⟨w5.heap.size, 0, none⟩) 1 1 [.string P] rfl rfl (by simp [Value.oneCell']) (fun e => by cases e) (one_srcP w5 _ _) (by omega) (by omega) (le_alloc HB5.out.size _) ?_; intro v6 w6 hown hgrow))
          have HB6 := Lib.hid (below_own (HB5.out.alloc HB5.out.size _) hgrow (HO5.out.alloc _) (Nat.le_refl _) (le_alloc HB5.out.size _))
          have HL6 := Lib.hid ((HL5.out.alloc _).kept hgrow (own_types HO5.out HL5.out (by decide)))
          have HO6 : Hid (w6.ownsRow W1.heap.size 9 1 v6 (wordsTo (r, c, s) f (k + 1)).length ((wordsTo (r, c, s) f (k + 1)).map Value.string)) := Lib.hid (by rw [HE.out, List.length_append, List.map_append]; exact hown)
          clear hown hgrow
          go_roundw
          case rel => exact ⟨k + 1, by omega, by go_num, HO6, HL6, HB6⟩
          case measure => simp [intOf]; omega
      · have hd : decide ((k : Int) < (l.length : Int)) = false := decide_eq_false (by omega)
        have hd9 : decide (k < l.length) = false := decide_eq_false hlt
        have HV : Hid (wr.ownsRow w.heap.size 9 1 u7 (wordsF (r, c, s) f).length ((wordsF (r, c, s) f).map Value.string)) := Lib.hid (by
          rw [HF.out, ← show k = l.length by omega]
          exact own_widen HO.out HC1.out.size)
        go_wp2
        go_ret
        exact ⟨_, rfl, HV.out, HC1.out.trans (HB.out.mono HC1.out.size)⟩
end Go.Proofs.YtpacopebdoflpaaGreatDoor
