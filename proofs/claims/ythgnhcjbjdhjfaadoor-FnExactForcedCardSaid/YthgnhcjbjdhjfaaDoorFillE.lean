/-
  The program's contracts of PutWord and WordsIn.
-/
import Derived.Test.YthgnhcjbjdhjfaaDoorFillD
import Derived.Test.YthgnhcjbjdhjfaaDoorVals
namespace Go.Proofs.YthgnhcjbjdhjfaaDoor
open Go.RowKit

set_option maxRecDepth 100000 in
set_option maxHeartbeats 3200000 in
theorem ipw_any (r c : Int) (s f : ByteArray) (k : Int) (x : ByteArray) (hs : s.size ≤ 4194304) (hf : f.size ≤ 1048576) (hx : x.size ≤ 1048576) (w : World) (hm : ML w) :
    Calls Tryd.prog 66 #[.agg #[.int .i64 r, .int .i64 c, .string s], .string f, .int .i64 k, .string x] w fun e w' => e = .returned (.tuple #[.string (putF (r, c, s) f k x).1, .bool (putF (r, c, s) f k x).2]) ∧ Below w.heap.size w w' := by
  have HFI := Lib.hid (fun w => ifill_any r c s f hs hf w)
  unfold FillE at HFI
  have HML := Lib.hid hm
  clear hm
  cases hp : isF (r, c, s) f with
  | false =>
    rw [hp] at HFI
    have hpe : patF (r, c, s) f k = ⟨#[]⟩ := patF_else (fun h => by rw [hp] at h; cases h.1)
    have HF := Lib.hid (putF_no (g := (r, c, s)) (f := f) (k := k) (x := x) (by rw [hpe]; exact fits_none x))
    have HFT := Lib.hid (fun w h => by
      have h9 := ifits_any ⟨#[]⟩ x w h (by decide) hx
      rw [fits_none] at h9
      exact h9)
    have HSO := Lib.hid (fun w => isof_any (0, 0, ⟨#[]⟩) k w)
    rw [slotN_no (g := (0, 0, ⟨#[]⟩)) (k := k) (by rw [slG_none]; simp), brd_none] at HSO
    have HP0 := Lib.hid (fun w => ipat0 0 0 0 (.slice none 0 0) 0 w ⟨_, _, _, rfl⟩)
    simp only [brdV, slotV, none_Slot] at HSO
    obtain ⟨bn, hbn⟩ : ∃ bn, bn = decide (0 ≤ k ∧ k < ((slG (0, 0, ⟨#[]⟩)).length : Int)) := ⟨_, rfl⟩
    rw [← hbn] at HSO
    clear hp hbn hpe
    go_enter Tryd.func66, Tryd.ntmps66
    go_wp2_with (first | (go_at_call 59; refine (HFI.out _).mono ?_; rintro e w1 ⟨he, b1⟩; have HB1 := Lib.hid (box1_of b1); clear b1; rcases he with ⟨h, -⟩ | ⟨-, rfl⟩; cases h; have HA1 := Lib.hid ((Below.refl w1.heap.size w1).alloc (Nat.le_refl _) (.cells #[.int .i64 0, .int .i64 0, .int .u64 0, .slice none 0 0, .int .u64 0] 83)); have HX1 := Lib.hid (new_block w1 (.cells #[.int .i64 0, .int .i64 0, .int .u64 0, .slice none 0 0, .int .u64 0] 83)); have HC1 := Lib.hid (HB1.out.trans (HA1.out.mono HB1.out.size))) | (go_at_call 94; refine (HSO.out _).mono ?_; rintro e w2 ⟨rfl, b2⟩; have HB2 := Lib.hid (HC1.out.trans (b2.mono HC1.out.size)); have HX2 := Lib.hid ((b2.block w1.heap.size (size_of_heap HX1.out)).trans HX1.out); have HA2 := Lib.hid ((Below.refl w2.heap.size w2).alloc (Nat.le_refl _) (.cells #[.int .i64 0, .bool false, .int .i64 0, .int .i64 0] 88)); have HX3 := Lib.hid ((HA2.out.block _ (size_of_heap HX2.out)).trans HX2.out); have HY3 := Lib.hid (new_block w2 (.cells #[.int .i64 0, .bool false, .int .i64 0, .int .i64 0] 88)); have HC2 := Lib.hid (HB2.out.trans (HA2.out.mono HB2.out.size)); clear b2; obtain ⟨x0, x1, x2, x3, x4, fx0, fx1, fx2, fx3, fx4⟩ := cells5F HX3.out) | (go_at_call 61; refine (HP0.out _).mono ?_; rintro e w3 ⟨rfl, b3⟩; have HB3 := Lib.hid (HC2.out.trans (b3.mono HC2.out.size)); have HX4 := Lib.hid ((b3.block _ (size_of_heap HX3.out)).trans HX3.out); have HY4 := Lib.hid ((b3.block _ (size_of_heap HY3.out)).trans HY3.out); clear b3) | (go_at_call 11; refine (HFT.out _ (HML.out.later HB3.out)).mono ?_; rintro e w4 ⟨rfl, b4⟩; have HB4 := Lib.hid (HB3.out.trans (b4.mono HB3.out.size)); clear b4))
    go_ret2
    exact ⟨by rw [HF.out]; rfl, HB4.out⟩
  | true =>
    rw [hp] at HFI
    have hg := (isF_parts hp).1
    have hfs : f.size = s.size := (isF_parts hp).2.1
    have hf36 := (isF_parts hp).2.2.1
    have hbe := brd_yes hg
    have HSO := Lib.hid (fun w => isof_any (r, c, s) k w)
    rw [hbe] at HSO
    obtain ⟨OP, hOP⟩ : ∃ OP, OP = opK f f.size := ⟨_, rfl⟩
    rw [← hOP] at HFI
    by_cases hin : 0 ≤ k ∧ k < ((slG (r, c, s)).length : Int)
    · obtain ⟨j, rfl⟩ : ∃ j : Nat, k = j := ⟨k.toNat, by omega⟩
      have hj : j < (slG (r, c, s)).length := by omega
      rw [slotN_in hj] at HSO
      have HF := Lib.hid (patF_bytes hp hj)
      have HPI := Lib.hid (fun blk cp op w hM => ipat_in (r, c, s) _ (getD_in hj) blk cp (fun j => f.data.toList.getD j 0) op w hM)
      rw [hbe] at HPI
      simp only at HPI HF
      rw [← HF.out, ← hfs] at HPI
      have HFT := Lib.hid (fun w h => ifits_any (patF (r, c, s) f (j : Int)) x w h (by
        have h26 := (slG_small (getD_in hj)).2.2.2.1
        rw [HF.out, arr_size, bytesOf, List.length_map, cellsS_length]
        omega) hx)
      obtain ⟨bn, hbn⟩ : ∃ bn, bn = decide (0 ≤ (j : Int) ∧ (j : Int) < ((slG (r, c, s)).length : Int)) := ⟨_, rfl⟩
      rw [← hbn] at HSO
      obtain ⟨q, hq⟩ : ∃ q, q = fitsP (patF (r, c, s) f (j : Int)) x := ⟨_, rfl⟩
      rw [← hq] at HFT
      cases q with
      | false =>
        have HR := Lib.hid (putF_no hq.symm)
        obtain ⟨P, hP⟩ : ∃ P, P = patF (r, c, s) f (j : Int) := ⟨_, rfl⟩
        rw [← hP] at HPI HFT
        obtain ⟨y, hy⟩ : ∃ y, y = (slG (r, c, s)).getD j none_Slot := ⟨_, rfl⟩
        rw [← hy] at HSO HPI
        obtain ⟨S, hS⟩ : ∃ S, S = wT s s.size := ⟨_, rfl⟩
        rw [hfs] at HPI
        rw [← hS] at HFI HSO HPI
        rw [← hfs] at HPI
        clear hp hg hbe hin hj hbn hP hy HF hq hfs hOP hS
        obtain ⟨t0, t1, t2, t3⟩ := y
        simp only [brdV, slotV] at HSO HPI
        go_enter Tryd.func66, Tryd.ntmps66
        go_wp2_with (first | (go_at_call 59; refine (HFI.out _).mono ?_; rintro e w1 ⟨he, b1⟩; have HB1 := Lib.hid (box1_of b1); clear b1; rcases he with ⟨-, blk, cp, rfl, hq1, hq2, hq3, hM⟩ | ⟨h, -⟩; rotate_left; cases h; have HA1 := Lib.hid ((Below.refl w1.heap.size w1).alloc (Nat.le_refl _) (.cells #[.int .i64 r, .int .i64 c, .int .u64 (S : Int), .slice (some ⟨blk, 0, none⟩) f.size cp, .int .u64 (OP : Int)] 83)); have HX1 := Lib.hid (new_block w1 (.cells #[.int .i64 r, .int .i64 c, .int .u64 (S : Int), .slice (some ⟨blk, 0, none⟩) f.size cp, .int .u64 (OP : Int)] 83)); have HM1 := Lib.hid (hM.later HA1.out); have HC1 := Lib.hid (HB1.out.trans (HA1.out.mono HB1.out.size)); clear hM) | (go_at_call 94; refine (HSO.out _).mono ?_; rintro e w2 ⟨rfl, b2⟩; have HB2 := Lib.hid (HC1.out.trans (b2.mono HC1.out.size)); have HX2 := Lib.hid ((b2.block w1.heap.size (size_of_heap HX1.out)).trans HX1.out); have HA2 := Lib.hid ((Below.refl w2.heap.size w2).alloc (Nat.le_refl _) (.cells #[.int .i64 t0, .bool t1, .int .i64 t2, .int .i64 t3] 88)); have HX3 := Lib.hid ((HA2.out.block _ (size_of_heap HX2.out)).trans HX2.out); have HY3 := Lib.hid (new_block w2 (.cells #[.int .i64 t0, .bool t1, .int .i64 t2, .int .i64 t3] 88)); have HM3 := Lib.hid ((HM1.out.later b2).later HA2.out); have HC2 := Lib.hid (HB2.out.trans (HA2.out.mono HB2.out.size)); clear b2; obtain ⟨x0, x1, x2, x3, x4, fx0, fx1, fx2, fx3, fx4⟩ := cells5F HX3.out) | (go_at_call 61; refine (HPI.out _ _ _ _ HM3.out).mono ?_; rintro e w3 ⟨rfl, b3⟩; have HB3 := Lib.hid (HC2.out.trans (b3.mono HC2.out.size)); have HX4 := Lib.hid ((b3.block _ (size_of_heap HX3.out)).trans HX3.out); have HY4 := Lib.hid ((b3.block _ (size_of_heap HY3.out)).trans HY3.out); have HM4 := Lib.hid (HM3.out.later b3); clear b3) | (go_at_call 11; refine (HFT.out _ (HML.out.later HB3.out)).mono ?_; rintro e w4 ⟨rfl, b4⟩; have HB4 := Lib.hid (HB3.out.trans (b4.mono HB3.out.size)); clear b4))
        go_ret2
        exact ⟨by rw [HR.out]; rfl, HB4.out⟩
      | true =>
        have HR := Lib.hid (putF_yes hq.symm)
        obtain ⟨i9, Z, he9, hi9, hZ, -, -, -, -, -, hl9, -, -, -, hxe⟩ := put_rec hq.symm
        obtain rfl : i9 = j := by omega
        have HWR := Lib.hid (fun blk cp op w hM => iwr_any (r, c, s) _ (getD_in hj) blk cp (fun j => f.data.toList.getD j 0) op x (by simp only at hZ ⊢; rw [← hZ]; exact hl9) w hM)
        rw [hbe] at HWR
        simp only at HWR hZ
        rw [← hZ] at HWR
        have HLN : Hid ((numsL (putTo (mixL s.size (fun j => f.data.toList.getD j 0)) Z x.data.toList Z.length)).length = f.size) := Lib.hid (by rw [numsL_length, putTo_length, mixL_len, hfs])
        have HPS : Hid (strOfNums (numsL (putTo (mixL s.size (fun j => f.data.toList.getD j 0)) Z x.data.toList Z.length)) = putS (r, c, s) f (i9 : Int) x) := Lib.hid (by rw [str_nums, hxe, ← hfs, mixL_self])
        obtain ⟨NB, hNB⟩ : ∃ NB, NB = numsL (putTo (mixL s.size (fun j => f.data.toList.getD j 0)) Z x.data.toList Z.length) := ⟨_, rfl⟩
        rw [← hNB] at HLN HPS HWR
        obtain ⟨P, hP⟩ : ∃ P, P = patF (r, c, s) f (i9 : Int) := ⟨_, rfl⟩
        rw [← hP] at HPI HFT
        obtain ⟨y, hy⟩ : ∃ y, y = (slG (r, c, s)).getD i9 none_Slot := ⟨_, rfl⟩
        rw [← hy] at HSO HPI HWR
        obtain ⟨S, hS⟩ : ∃ S, S = wT s s.size := ⟨_, rfl⟩
        rw [hfs] at HPI
        rw [← hS] at HFI HSO HPI HWR
        rw [← hfs] at HPI HWR
        obtain ⟨PS, hPS⟩ : ∃ PS, PS = putS (r, c, s) f (i9 : Int) x := ⟨_, rfl⟩
        rw [← hPS] at HPS HR
        clear hp hg hbe hin hj hbn hP hy HF hq hfs hOP hS hNB hPS he9 hi9 hZ hl9 hxe
        obtain ⟨t0, t1, t2, t3⟩ := y
        simp only [brdV, slotV] at HSO HPI HWR
        go_enter Tryd.func66, Tryd.ntmps66
        go_wp2_with (first | (go_at_call 59; refine (HFI.out _).mono ?_; rintro e w1 ⟨he, b1⟩; have HB1 := Lib.hid (box1_of b1); clear b1; rcases he with ⟨-, blk, cp, rfl, hq1, hq2, hq3, hM⟩ | ⟨h, -⟩; rotate_left; cases h; have HA1 := Lib.hid ((Below.refl w1.heap.size w1).alloc (Nat.le_refl _) (.cells #[.int .i64 r, .int .i64 c, .int .u64 (S : Int), .slice (some ⟨blk, 0, none⟩) f.size cp, .int .u64 (OP : Int)] 83)); have HX1 := Lib.hid (new_block w1 (.cells #[.int .i64 r, .int .i64 c, .int .u64 (S : Int), .slice (some ⟨blk, 0, none⟩) f.size cp, .int .u64 (OP : Int)] 83)); have HM1 := Lib.hid (hM.later HA1.out); have HC1 := Lib.hid (HB1.out.trans (HA1.out.mono HB1.out.size)); clear hM) | (go_at_call 94; refine (HSO.out _).mono ?_; rintro e w2 ⟨rfl, b2⟩; have HB2 := Lib.hid (HC1.out.trans (b2.mono HC1.out.size)); have HX2 := Lib.hid ((b2.block w1.heap.size (size_of_heap HX1.out)).trans HX1.out); have HA2 := Lib.hid ((Below.refl w2.heap.size w2).alloc (Nat.le_refl _) (.cells #[.int .i64 t0, .bool t1, .int .i64 t2, .int .i64 t3] 88)); have HX3 := Lib.hid ((HA2.out.block _ (size_of_heap HX2.out)).trans HX2.out); have HY3 := Lib.hid (new_block w2 (.cells #[.int .i64 t0, .bool t1, .int .i64 t2, .int .i64 t3] 88)); have HM3 := Lib.hid ((HM1.out.later b2).later HA2.out); have HC2 := Lib.hid (HB2.out.trans (HA2.out.mono HB2.out.size)); clear b2; obtain ⟨x0, x1, x2, x3, x4, fx0, fx1, fx2, fx3, fx4⟩ := cells5F HX3.out) | (go_at_call 61; refine (HPI.out _ _ _ _ HM3.out).mono ?_; rintro e w3 ⟨rfl, b3⟩; have HB3 := Lib.hid (HC2.out.trans (b3.mono HC2.out.size)); have HX4 := Lib.hid ((b3.block _ (size_of_heap HX3.out)).trans HX3.out); have HY4 := Lib.hid ((b3.block _ (size_of_heap HY3.out)).trans HY3.out); have HM4 := Lib.hid (HM3.out.later b3); clear b3) | (go_at_call 11; refine (HFT.out _ (HML.out.later HB3.out)).mono ?_; rintro e w4 ⟨rfl, b4⟩; have HB4 := Lib.hid (HB3.out.trans (b4.mono HB3.out.size)); have HX5 := Lib.hid ((b4.block _ (size_of_heap HX4.out)).trans HX4.out); have HY5 := Lib.hid ((b4.block _ (size_of_heap HY4.out)).trans HY4.out); have HM5 := Lib.hid (HM4.out.later b4); clear x0 x1 x2 x3 x4 fx0 fx1 fx2 fx3 fx4 b4; obtain ⟨x0, x1, x2, x3, x4, fx0, fx1, fx2, fx3, fx4⟩ := cells5F HX5.out; obtain ⟨z0, z1, z2, z3, y0, y1, y2, y3⟩ := cells4F HY5.out) | (go_at_call 95; refine (HWR.out _ _ _ _ HM5.out).mono ?_; rintro e w5 ⟨v5, rfl, o5, b5⟩; obtain ⟨a5, cap5, rfl⟩ := ownV_slice o5; have HB5 := Lib.hid (HB4.out.trans (b5.mono HB4.out.size)); have hconv := conv_own (reads_own o5 (HLN.out).symm (by rw [HLN.out]; omega)); rw [HPS.out] at hconv; clear b5 o5))
        go_ret2
        exact ⟨by rw [HR.out]; rfl, HB5.out⟩
    · rw [slotN_no hin] at HSO
      have hpe : patF (r, c, s) f k = ⟨#[]⟩ := patF_else (fun h => hin h.2)
      have HF := Lib.hid (putF_no (g := (r, c, s)) (f := f) (k := k) (x := x) (by rw [hpe]; exact fits_none x))
      have HFT := Lib.hid (fun w h => by
        have h9 := ifits_any ⟨#[]⟩ x w h (by decide) hx
        rw [fits_none] at h9
        exact h9)
      have HP0 := Lib.hid (fun blk cp op w => ipat0 r c ((wT s s.size : Nat) : Int) (.slice (some ⟨blk, 0, none⟩) f.size cp) op w ⟨_, _, _, rfl⟩)
      obtain ⟨bn, hbn⟩ : ∃ bn, bn = decide (0 ≤ k ∧ k < ((slG (r, c, s)).length : Int)) := ⟨_, rfl⟩
      rw [← hbn] at HSO
      obtain ⟨S, hS⟩ : ∃ S, S = wT s s.size := ⟨_, rfl⟩
      rw [← hS] at HFI HSO HP0
      simp only [brdV, slotV, none_Slot] at HSO
      clear hp hg hbe hin hbn hS hOP hfs hpe
      go_enter Tryd.func66, Tryd.ntmps66
      go_wp2_with (first | (go_at_call 59; refine (HFI.out _).mono ?_; rintro e w1 ⟨he, b1⟩; have HB1 := Lib.hid (box1_of b1); clear b1; rcases he with ⟨-, blk, cp, rfl, -⟩ | ⟨h, -⟩; rotate_left; cases h; have HA1 := Lib.hid ((Below.refl w1.heap.size w1).alloc (Nat.le_refl _) (.cells #[.int .i64 r, .int .i64 c, .int .u64 (S : Int), .slice (some ⟨blk, 0, none⟩) f.size cp, .int .u64 (OP : Int)] 83)); have HX1 := Lib.hid (new_block w1 (.cells #[.int .i64 r, .int .i64 c, .int .u64 (S : Int), .slice (some ⟨blk, 0, none⟩) f.size cp, .int .u64 (OP : Int)] 83)); have HC1 := Lib.hid (HB1.out.trans (HA1.out.mono HB1.out.size))) | (go_at_call 94; refine (HSO.out _).mono ?_; rintro e w2 ⟨rfl, b2⟩; have HB2 := Lib.hid (HC1.out.trans (b2.mono HC1.out.size)); have HX2 := Lib.hid ((b2.block w1.heap.size (size_of_heap HX1.out)).trans HX1.out); have HA2 := Lib.hid ((Below.refl w2.heap.size w2).alloc (Nat.le_refl _) (.cells #[.int .i64 0, .bool false, .int .i64 0, .int .i64 0] 88)); have HX3 := Lib.hid ((HA2.out.block _ (size_of_heap HX2.out)).trans HX2.out); have HY3 := Lib.hid (new_block w2 (.cells #[.int .i64 0, .bool false, .int .i64 0, .int .i64 0] 88)); have HC2 := Lib.hid (HB2.out.trans (HA2.out.mono HB2.out.size)); clear b2; obtain ⟨x0, x1, x2, x3, x4, fx0, fx1, fx2, fx3, fx4⟩ := cells5F HX3.out) | (go_at_call 61; refine (HP0.out _ _ _ _).mono ?_; rintro e w3 ⟨rfl, b3⟩; have HB3 := Lib.hid (HC2.out.trans (b3.mono HC2.out.size)); have HX4 := Lib.hid ((b3.block _ (size_of_heap HX3.out)).trans HX3.out); have HY4 := Lib.hid ((b3.block _ (size_of_heap HY3.out)).trans HY3.out); clear b3) | (go_at_call 11; refine (HFT.out _ (HML.out.later HB3.out)).mono ?_; rintro e w4 ⟨rfl, b4⟩; have HB4 := Lib.hid (HB3.out.trans (b4.mono HB3.out.size)); clear b4))
      go_ret2
      exact ⟨by rw [HF.out]; rfl, HB4.out⟩
theorem row_zero : row_Slot [] = [] := rfl
end Go.Proofs.YthgnhcjbjdhjfaaDoor
