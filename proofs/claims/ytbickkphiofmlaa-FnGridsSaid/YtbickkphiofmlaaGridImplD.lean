/-
  The program's contracts of chapter 7, fourth part: the grid of a board.
-/
import Derived.Test.YtbickkphiofmlaaGridImplC
import Derived.Test.YtbickkphiofmlaaBytes
namespace Go.Proofs.Ytbickkphiofmlaa
open Go.RowKit

/-- The signs of a board's cells. -/
def sgB (n S : Nat) : List UInt8 := (List.range n).map fun i => if S.testBit i = true then 46 else 35
theorem sgB_length (n S : Nat) : (sgB n S).length = n := by simp [sgB]
theorem sgB_at (n S k : Nat) (hk : k < n) : (numsL (sgB n S)).getD k 0 = if S.testBit k = true then 46 else 35 := by
  unfold numsL sgB
  rw [List.getD_eq_getElem?_getD, List.map_map, List.getElem?_map, List.getElem?_range hk]
  simp only [Option.map_some, Option.getD_some, Function.comp]
  split <;> rfl
theorem info25 : (Try.prog.info? 5).map (fun i => (i.zero, i.size, i.bytes)) = some (some (.int .u8 0), 1, 1) := by kernel_rfl
set_option maxHeartbeats 1600000 in
theorem igrid_any (r c : Int) (n S : Nat) (hn : r * c = (n : Int)) (h36 : n ≤ 36) (hS : S < 18446744073709551616) (w : World) :
    Calls Try.prog 39 #[.agg #[.int .i64 r, .int .i64 c, .int .u64 (S : Int)]] w fun e w' => e = .returned (.agg #[.int .i64 r, .int .i64 c, .string ⟨(sgB n S).toArray⟩]) ∧ Below w.heap.size w w' := by
  have HSZ := Lib.hid (fun w => size_n r c n hn h36 (S : Int) w)
  have HMA := Lib.hid (fun k hk w => imat_any r c n S hn h36 hS k hk w)
  have HBX := Lib.hid (box33 (Below.refl _ ((w.alloc (.cells #[.int .i64 r, .int .i64 c, .int .u64 (S : Int)] 63)).alloc (.cells #[.int .i64 0, .int .i64 0, .string ⟨#[]⟩] 25))))
  obtain ⟨i0, hi, hz0, hz1, hz2⟩ := info_parts info25
  clear hn
  obtain ⟨l, hl⟩ : ∃ l, l = numsL (sgB n S) := ⟨_, rfl⟩
  have HL : Hid (l.length = n) := Lib.hid (by rw [hl, numsL_length, sgB_length])
  have HAT : Hid (∀ k, k < n → l.getD k 0 = if S.testBit k = true then 46 else 35) := Lib.hid (fun k hk => by rw [hl]; exact sgB_at n S k hk)
  have HST : Hid (strOfNums l = ⟨(sgB n S).toArray⟩) := Lib.hid (by rw [hl]; exact str_nums _)
  have HE := Lib.hid (copied_zero .u8 l)
  rw [← HST.out]
  clear hl
  go_enter Try.func39, Try.ntmps39
  go_wp2_with fail
  obtain ⟨W1, hW1⟩ : ∃ W1, W1 = (w.alloc (.cells #[.int .i64 r, .int .i64 c, .int .u64 (S : Int)] 63)).alloc (.cells #[.int .i64 0, .int .i64 0, .string ⟨#[]⟩] 25) := ⟨_, rfl⟩
  rw [← hW1] at HBX ⊢
  clear hW1
  have HA := Lib.hid HBX.out.1
  have HR := Lib.hid HBX.out.2.1
  have HB := Lib.hid HBX.out.2.2
  clear HBX
  obtain ⟨a0, a1, a2, fa0, fa1, fa2⟩ := cells3 HA.out
  go_wp2_with (first | (go_at_call 53; refine (HSZ.out _).mono ?_; rintro e w2 ⟨rfl, b2⟩; have HA2 := Lib.hid ((b2.block w.heap.size (size_of_heap HA.out)).trans HA.out); have HR2 := Lib.hid ((b2.block (w.heap.size + 1) (size_of_heap HR.out)).trans HR.out); have HB2 := Lib.hid (HB.out.trans (b2.mono HB.out.size)); clear b2) | (at_make; refine wpList_make_full _ rfl _ _ 22 rfl w2.heap.size 5 i0 (.int .u8 0) 1 Try.underlying22 hi hz0 hz1 .i64 .i64 _ _ n rfl rfl rfl rfl (by rw [hz2]; omega) (by unfold maxLen; omega) (Nat.le_refl _) ?_; intro w3 hown hgrow))
  have hGw : w.heap.size + 1 < w2.heap.size := size_of_heap HR2.out
  have HA3 := Lib.hid ((hgrow.block w.heap.size (by omega) (by simp)).trans HA2.out)
  have HR3 := Lib.hid ((hgrow.block (w.heap.size + 1) hGw (by simp)).trans HR2.out)
  have HB3 := Lib.hid (HB2.out.grown hgrow HB2.out.size (fun k e => by cases e))
  obtain ⟨G, hG⟩ : ∃ G, G = w2.heap.size := ⟨_, rfl⟩
  rw [← hG] at hown hGw ⊢
  clear hG a0 a1 a2 fa0 fa1 fa2 HA HR HB HA2 HR2 HB2 hgrow
  have hmW := mth_W
  have hmB := mth_B
  go_loopw [10] (fun i wr => ∃ k : Nat, k ≤ n ∧ i = .int .i64 k ∧ Hid (wr.ownsRow G 5 1 (.slice (some ⟨G, 0, none⟩) n n) n (copied .u8 l k)) ∧ Hid (wr.heap[w.heap.size]? = some (.cells #[.int .i64 r, .int .i64 c, .int .u64 (S : Int)] 63)) ∧ Hid (wr.heap[w.heap.size + 1]? = some (.cells #[.int .i64 0, .int .i64 0, .string ⟨#[]⟩] 25)) ∧ Hid (Below w.heap.size w wr)) (fun i _ => n - (intOf i).toNat)
  case atStart => exact ⟨0, Nat.zero_le _, rfl, Lib.hid (by rw [← HE.out, HL.out]; exact hown), HA3, HR3, HB3⟩
  case round =>
    obtain ⟨k, hk, rfl, HO, HA, HR, HB⟩ := hrel
    obtain ⟨a0, a1, a2, fa0, fa1, fa2⟩ := cells3 HA.out
    by_cases hlt : k < n
    · have HM := Lib.hid (HMA.out k hlt)
      have HV := Lib.hid (HAT.out k hlt)
      obtain ⟨b, hb⟩ : ∃ b, b = S.testBit k := ⟨_, rfl⟩
      rw [← hb] at HM HV
      clear hb
      cases b with
      | true =>
          have HM2 := HM
          rw [if_pos rfl] at HM
          unfold mW at HM
          clear HM2
          have HV2 : Hid (l.getD k 0 = 46) := Lib.hid (by rw [HV.out]; rfl)
          clear HV
          go_wp2_with (first | (go_at_call 54; refine (HM.out _).mono ?_; rintro e w4 ⟨rfl, b4⟩; have HA4 := Lib.hid ((b4.block w.heap.size (size_of_heap HA.out)).trans HA.out); have HR4 := Lib.hid ((b4.block (w.heap.size + 1) (size_of_heap HR.out)).trans HR.out); have HO4 := Lib.hid (own_later HO.out (Joins.below_le b4 (Nat.le_refl _))); have HB4 := Lib.hid (HB.out.trans (b4.mono HB.out.size)); clear b4) | (go_at_call 75; refine (signW _).mono ?_; rintro e w5 ⟨rfl, b5⟩; have HA5 := Lib.hid ((b5.block w.heap.size (size_of_heap HA4.out)).trans HA4.out); have HR5 := Lib.hid ((b5.block (w.heap.size + 1) (size_of_heap HR4.out)).trans HR4.out); have HO5 := Lib.hid (own_later HO4.out b5); have HB5 := Lib.hid (HB4.out.trans (b5.mono HB4.out.size)); have hc5 := (HO5.out.cellAt k (by omega)).trans (copied_at .u8 l k (by rw [HL.out]; exact hlt)); have hf5 := HO5.out.frozenAt k; clear b5))
          go_roundw
          case rel =>
            refine ⟨k + 1, by omega, by go_num, Lib.hid ?_, Lib.hid ((Below.heap_setCell _ _ _ _ (by simp; omega)).trans HA5.out), Lib.hid ((Below.heap_setCell _ _ _ _ (by simp; omega)).trans HR5.out), Lib.hid (HB5.out.setCell (p := ⟨G, k, none⟩) (by simp; omega) _)⟩
            have hst := (HO5.out.stored k (.int .u8 46)).1
            rw [← HV2.out, copied_set .u8 l k (by rw [HL.out]; exact hlt), HV2.out] at hst
            exact hst
          case measure => simp [intOf]; omega
      | false =>
          rw [if_neg (by decide)] at HM
          unfold mB at HM
          have HV2 : Hid (l.getD k 0 = 35) := Lib.hid (by rw [HV.out]; rfl)
          clear HV
          go_wp2_with (first | (go_at_call 54; refine (HM.out _).mono ?_; rintro e w4 ⟨rfl, b4⟩; have HA4 := Lib.hid ((b4.block w.heap.size (size_of_heap HA.out)).trans HA.out); have HR4 := Lib.hid ((b4.block (w.heap.size + 1) (size_of_heap HR.out)).trans HR.out); have HO4 := Lib.hid (own_later HO.out (Joins.below_le b4 (Nat.le_refl _))); have HB4 := Lib.hid (HB.out.trans (b4.mono HB.out.size)); clear b4) | (go_at_call 76; refine (signB _).mono ?_; rintro e w5 ⟨rfl, b5⟩; have HA5 := Lib.hid ((b5.block w.heap.size (size_of_heap HA4.out)).trans HA4.out); have HR5 := Lib.hid ((b5.block (w.heap.size + 1) (size_of_heap HR4.out)).trans HR4.out); have HO5 := Lib.hid (own_later HO4.out b5); have HB5 := Lib.hid (HB4.out.trans (b5.mono HB4.out.size)); have hc5 := (HO5.out.cellAt k (by omega)).trans (copied_at .u8 l k (by rw [HL.out]; exact hlt)); have hf5 := HO5.out.frozenAt k; clear b5))
          go_roundw
          case rel =>
            refine ⟨k + 1, by omega, by go_num, Lib.hid ?_, Lib.hid ((Below.heap_setCell _ _ _ _ (by simp; omega)).trans HA5.out), Lib.hid ((Below.heap_setCell _ _ _ _ (by simp; omega)).trans HR5.out), Lib.hid (HB5.out.setCell (p := ⟨G, k, none⟩) (by simp; omega) _)⟩
            have hst := (HO5.out.stored k (.int .u8 35)).1
            rw [← HV2.out, copied_set .u8 l k (by rw [HL.out]; exact hlt), HV2.out] at hst
            exact hst
          case measure => simp [intOf]; omega
    · have hk' : k = n := by omega
      have HF : Hid (wr.ownsRow G 5 1 (.slice (some ⟨G, 0, none⟩) n n) n (l.map (Value.int .u8))) := Lib.hid (by have h9 := HO.out; rw [hk'] at h9; have e9 := copied_full .u8 l; rw [HL.out] at e9; rw [e9] at h9; exact h9)
      have hconv := conv_own (reads_own HF.out HL.out.symm (by rw [HL.out]; omega))
      obtain ⟨z0, z1, z2, y0, y1, y2⟩ := cells3 HR.out
      clear hk'
      go_wp2
      exact bodyPost_ret (v := .agg #[.int .i64 r, .int .i64 c, .string (strOfNums l)]) (by simp [results, Try.results39, go_sem, z0, z1, z2]) rfl ⟨rfl, (((HB.out.setCell (p := ⟨w.heap.size + 1, 0, none⟩) (by simp) _).setCell (p := ⟨w.heap.size + 1, 1, none⟩) (by simp) _).setCell (p := ⟨w.heap.size + 1, 2, none⟩) (by simp) _)⟩
end Go.Proofs.Ytbickkphiofmlaa
