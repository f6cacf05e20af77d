/-
  The program's contracts of chapter 7, third part: a board's cells, its half turn, its grid.
  The program's contracts of chapter 7, fourth part: the grid of a board.
  The program's contracts of chapter 7, fifth part: IsGrid, IsWhite, TurnGrid, IsSymmetric.
-/
import Derived.Test.YtgpplfhbgkcjhaaDoorGridImplB
import Derived.Test.YtgpplfhbgkcjhaaDoorSlices
import Derived.Test.YtgpplfhbgkcjhaaDoorGridTwo
import Derived.Deep.RegionHeld3
import Derived.Deep.RegionWith
namespace Go.Proofs.YtgpplfhbgkcjhaaDoor
open Go.RowKit

theorem box1 {w w' : World} {A : Array Value} {t : TypeId} (h : Below (w.alloc (.cells A t)).heap.size (w.alloc (.cells A t)) w') : w'.heap[w.heap.size]? = some (.cells A t) ∧ Below w.heap.size w w' := by
  have hz : (w.alloc (.cells A t)).heap.size = w.heap.size + 1 := by simp
  exact ⟨(h.block w.heap.size (by omega)).trans (new_block w _), ((Below.refl _ _).alloc (Nat.le_refl _) _).trans (h.mono (by omega))⟩
theorem size_n (r c : Int) (n : Nat) (hn : r * c = (n : Int)) (h36 : n ≤ 36) (S : Int) (w : World) :
    Calls Tryd.prog 63 #[.agg #[.int .i64 r, .int .i64 c, .int .u64 S]] w fun e w' => e = .returned (.int .i64 (n : Int)) ∧ Below w.heap.size w w' := by
  rw [← hn]
  exact size_any r c S (by rw [hn]; exact IntWalk.i64_in _ (by omega)) w
/-- Whether a board has a white cell with this number. -/
def whB (n S : Nat) (k : Int) : Bool := decide (0 ≤ k ∧ k ≤ (n : Int) - 1) && S.testBit k.toNat
set_option maxHeartbeats 800000 in
theorem ibw_any (r c : Int) (n S : Nat) (hn : r * c = (n : Int)) (h36 : n ≤ 36) (hS : S < 18446744073709551616) (k : Int) (w : World) :
    Calls Tryd.prog 39 #[.agg #[.int .i64 r, .int .i64 c, .int .u64 (S : Int)], .int .i64 k] w fun e w' => e = .returned (.bool (whB n S k)) ∧ Below w.heap.size w w' := by
  have HSZ := Lib.hid (fun w => size_n r c n hn h36 (S : Int) w)
  clear hn
  by_cases hk : 0 ≤ k ∧ k ≤ (n : Int) - 1
  · obtain ⟨a, rfl⟩ : ∃ a : Nat, k = (a : Int) := ⟨k.toNat, by omega⟩
    have HF : Hid (whB n S (a : Int) = S.testBit a) := Lib.hid (by unfold whB; rw [decide_eq_true hk, Int.toNat_natCast, Bool.true_and])
    have ha : a < 64 := by omega
    go_enter Tryd.func39, Tryd.ntmps39
    go_wp2_with (first | (go_at_call 63; refine (HSZ.out _).mono ?_; rintro e w1 ⟨rfl, b1⟩; obtain ⟨hA, hB⟩ := box1 b1; have HA := Lib.hid hA; have HB := Lib.hid hB; obtain ⟨a0, a1, a2, fa0, fa1, fa2⟩ := cells3 HA.out; clear b1 hA hB) | (go_at_call 51; refine (inr_yes (a : Int) _ _ (by omega) (by omega) _).mono ?_; rintro e w2 ⟨rfl, rfl⟩) | (go_at_call 64; refine (has_any S a hS ha _).mono ?_; rintro e w3 ⟨rfl, rfl⟩))
    go_ret
    exact ⟨by rw [HF.out]; rfl, HB.out⟩
  · have HF : Hid (whB n S k = false) := Lib.hid (by unfold whB; rw [decide_eq_false hk, Bool.false_and])
    have HN := Lib.hid hk
    clear hk
    go_enter Tryd.func39, Tryd.ntmps39
    go_wp2_with (first | (go_at_call 63; refine (HSZ.out _).mono ?_; rintro e w1 ⟨rfl, b1⟩; obtain ⟨hA, hB⟩ := box1 b1; have HA := Lib.hid hA; have HB := Lib.hid hB; obtain ⟨a0, a1, a2, fa0, fa1, fa2⟩ := cells3 HA.out; clear b1 hA hB) | (go_at_call 51; refine (inr_no k _ _ HN.out _).mono ?_; rintro e w2 ⟨rfl, rfl⟩))
    go_ret
    exact ⟨by rw [HF.out]; rfl, HB.out⟩
set_option maxHeartbeats 800000 in
theorem imat_any (r c : Int) (n S : Nat) (hn : r * c = (n : Int)) (h36 : n ≤ 36) (hS : S < 18446744073709551616) (k : Nat) (hk : k < n) (w : World) :
    Calls Tryd.prog 67 #[.agg #[.int .i64 r, .int .i64 c, .int .u64 (S : Int)], .int .i64 (k : Int)] w fun e w' => e = .returned (if S.testBit k = true then mW else mB) ∧ Below w.heap.size w w' := by
  have HW := Lib.hid (fun w => ibw_any r c n S hn h36 hS (k : Int) w)
  have hw : whB n S (k : Int) = S.testBit k := by unfold whB; rw [decide_eq_true (by omega), Int.toNat_natCast, Bool.true_and]
  rw [hw] at HW
  clear hw hn
  obtain ⟨b, hb⟩ : ∃ b, b = S.testBit k := ⟨_, rfl⟩
  rw [← hb] at HW ⊢
  clear hb
  cases b with
  | true =>
    go_enter Tryd.func67, Tryd.ntmps67
    go_wp2_with (go_at_call 39; refine (HW.out _).mono ?_; rintro e w1 ⟨rfl, b1⟩; have HB := Lib.hid (box1 b1).2; clear b1)
    go_ret
    exact ⟨rfl, HB.out⟩
  | false =>
    go_enter Tryd.func67, Tryd.ntmps67
    go_wp2_with (go_at_call 39; refine (HW.out _).mono ?_; rintro e w1 ⟨rfl, b1⟩; have HB := Lib.hid (box1 b1).2; clear b1)
    go_ret
    exact ⟨rfl, HB.out⟩
set_option maxHeartbeats 1600000 in
theorem iturned_any (r c : Int) (n S : Nat) (hn : r * c = (n : Int)) (h36 : n ≤ 36) (hS : S < 18446744073709551616) (w : World) :
    Calls Tryd.prog 41 #[.agg #[.int .i64 r, .int .i64 c, .int .u64 (S : Int)]] w fun e w' => e = .returned (.agg #[.int .i64 r, .int .i64 c, .int .u64 ((revN S / 2 ^ (64 - n) : Nat) : Int)]) ∧ Below w.heap.size w w' := by
  have HSZ := Lib.hid (fun w => size_n r c n hn h36 (S : Int) w)
  have HBX := Lib.hid (box33 (Below.refl _ ((w.alloc (.cells #[.int .i64 r, .int .i64 c, .int .u64 (S : Int)] 50)).alloc (.cells #[.int .i64 0, .int .i64 0, .int .u64 0] 50))))
  clear hn
  obtain ⟨m, hm⟩ : ∃ m, m = 64 - n := ⟨_, rfl⟩
  have hm1 : (64 : Int) - (n : Int) = (m : Int) := by omega
  rw [← hm]
  have hm2 : m ≤ 64 := by omega
  have hm3 : IntKind.i64.wrap (m : Int) = (m : Int) := IntWalk.i64_in _ (by omega)
  clear hm
  have HRV := Lib.hid (fun w => rev_any S hS w)
  obtain ⟨T, hT⟩ : ∃ T, T = revN S := ⟨_, rfl⟩
  rw [← hT] at HRV ⊢
  clear hT
  rw [show ((T / 2 ^ m : Nat) : Int) = (T : Int) / 2 ^ m by simp]
  go_enter Tryd.func41, Tryd.ntmps41
  go_wp2_with fail
  obtain ⟨W1, hW1⟩ : ∃ W1, W1 = (w.alloc (.cells #[.int .i64 r, .int .i64 c, .int .u64 (S : Int)] 50)).alloc (.cells #[.int .i64 0, .int .i64 0, .int .u64 0] 50) := ⟨_, rfl⟩
  rw [← hW1] at HBX ⊢
  clear hW1
  have HA := Lib.hid HBX.out.1
  have HR := Lib.hid HBX.out.2.1
  have HB := Lib.hid HBX.out.2.2
  clear HBX
  obtain ⟨a0, a1, a2, fa0, fa1, fa2⟩ := cells3 HA.out
  obtain ⟨z0, z1, z2, y0, y1, y2⟩ := cells3 HR.out
  go_region_with (first | (go_at_call 66; refine (HRV.out _).mono ?_; rintro e w1 ⟨rfl, rfl⟩) | (go_at_call 63; refine (HSZ.out _).mono ?_; rintro e w2 ⟨rfl, b2⟩; have HA2 := Lib.hid ((b2.block w.heap.size (size_of_heap HA.out)).trans HA.out); have HR2 := Lib.hid ((b2.block (w.heap.size + 1) (size_of_heap HR.out)).trans HR.out); have HB2 := Lib.hid (HB.out.drew.trans (b2.mono HB.out.drew.size)); obtain ⟨p0, p1, p2, q0, q1, q2⟩ := cells3 HA2.out; obtain ⟨z0, z1, z2, y0, y1, y2⟩ := cells3 HR2.out; clear b2))
  all_goals go_wp2
  all_goals exact bodyPost_ret (v := .agg #[.int .i64 r, .int .i64 c, .int .u64 ((T : Int) / 2 ^ m)]) (by simp [results, Tryd.results41, go_sem, z0, z1, z2]) rfl ⟨rfl, ((((HB2.out.setCell (p := ⟨w.heap.size, 2, none⟩) (by simp) _).setCell (p := ⟨w.heap.size + 1, 0, none⟩) (by simp) _).setCell (p := ⟨w.heap.size + 1, 1, none⟩) (by simp) _).setCell (p := ⟨w.heap.size + 1, 2, none⟩) (by simp) _)⟩

end Go.Proofs.YtgpplfhbgkcjhaaDoor
namespace Go.Proofs.YtgpplfhbgkcjhaaDoor
open Go.RowKit

/-- The signs of a board's cells. -/
def sgB (n S : Nat) : List UInt8 := (List.range n).map fun i => if S.testBit i = true then 46 else 35
theorem sgB_length (n S : Nat) : (sgB n S).length = n := by simp [sgB]
theorem sgB_at (n S k : Nat) (hk : k < n) : (numsL (sgB n S)).getD k 0 = if S.testBit k = true then 46 else 35 := by
  unfold numsL sgB
  rw [List.getD_eq_getElem?_getD, List.map_map, List.getElem?_map, List.getElem?_range hk]
  simp only [Option.map_some, Option.getD_some, Function.comp]
  split <;> rfl
theorem info25 : (Tryd.prog.info? 5).map (fun i => (i.zero, i.size, i.bytes)) = some (some (.int .u8 0), 1, 1) := by kernel_rfl
set_option maxHeartbeats 1600000 in
theorem igrid_any (r c : Int) (n S : Nat) (hn : r * c = (n : Int)) (h36 : n ≤ 36) (hS : S < 18446744073709551616) (w : World) :
    Calls Tryd.prog 42 #[.agg #[.int .i64 r, .int .i64 c, .int .u64 (S : Int)]] w fun e w' => e = .returned (.agg #[.int .i64 r, .int .i64 c, .string ⟨(sgB n S).toArray⟩]) ∧ Below w.heap.size w w' := by
  have HSZ := Lib.hid (fun w => size_n r c n hn h36 (S : Int) w)
  have HMA := Lib.hid (fun k hk w => imat_any r c n S hn h36 hS k hk w)
  have HBX := Lib.hid (box33 (Below.refl _ ((w.alloc (.cells #[.int .i64 r, .int .i64 c, .int .u64 (S : Int)] 50)).alloc (.cells #[.int .i64 0, .int .i64 0, .string ⟨#[]⟩] 25))))
  obtain ⟨i0, hi, hz0, hz1, hz2⟩ := info_parts info25
  clear hn
  obtain ⟨l, hl⟩ : ∃ l, l = numsL (sgB n S) := ⟨_, rfl⟩
  have HL : Hid (l.length = n) := Lib.hid (by rw [hl, numsL_length, sgB_length])
  have HAT : Hid (∀ k, k < n → l.getD k 0 = if S.testBit k = true then 46 else 35) := Lib.hid (fun k hk => by rw [hl]; exact sgB_at n S k hk)
  have HST : Hid (strOfNums l = ⟨(sgB n S).toArray⟩) := Lib.hid (by rw [hl]; exact str_nums _)
  have HE := Lib.hid (copied_zero .u8 l)
  rw [← HST.out]
  clear hl
  go_enter Tryd.func42, Tryd.ntmps42
  go_wp2_with fail
  obtain ⟨W1, hW1⟩ : ∃ W1, W1 = (w.alloc (.cells #[.int .i64 r, .int .i64 c, .int .u64 (S : Int)] 50)).alloc (.cells #[.int .i64 0, .int .i64 0, .string ⟨#[]⟩] 25) := ⟨_, rfl⟩
  rw [← hW1] at HBX ⊢
  clear hW1
  have HA := Lib.hid HBX.out.1
  have HR := Lib.hid HBX.out.2.1
  have HB := Lib.hid HBX.out.2.2
  clear HBX
  obtain ⟨a0, a1, a2, fa0, fa1, fa2⟩ := cells3 HA.out
  go_wp2_with (first | (go_at_call 63; refine (HSZ.out _).mono ?_; rintro e w2 ⟨rfl, b2⟩; have HA2 := Lib.hid ((b2.block w.heap.size (size_of_heap HA.out)).trans HA.out); have HR2 := Lib.hid ((b2.block (w.heap.size + 1) (size_of_heap HR.out)).trans HR.out); have HB2 := Lib.hid (HB.out.trans (b2.mono HB.out.size)); clear b2) | (at_make; refine wpList_make_full _ rfl _ _ 22 rfl w2.heap.size 5 i0 (.int .u8 0) 1 Tryd.underlying22 hi hz0 hz1 .i64 .i64 _ _ n rfl rfl rfl rfl (by rw [hz2]; omega) (by unfold maxLen; omega) (Nat.le_refl _) ?_; intro w3 hown hgrow))
  have hGw : w.heap.size + 1 < w2.heap.size := size_of_heap HR2.out
  have HA3 := Lib.hid ((hgrow.block w.heap.size (by omega) (by simp)).trans HA2.out)
  have HR3 := Lib.hid ((hgrow.block (w.heap.size + 1) hGw (by simp)).trans HR2.out)
  have HB3 := Lib.hid (HB2.out.grown hgrow HB2.out.size (fun k e => by cases e))
  obtain ⟨G, hG⟩ : ∃ G, G = w2.heap.size := ⟨_, rfl⟩
  rw [← hG] at hown hGw ⊢
  clear hG a0 a1 a2 fa0 fa1 fa2 HA HR HB HA2 HR2 HB2 hgrow
  have hmW := mth_W
  have hmB := mth_B
  go_loopw [10] (fun i wr => ∃ k : Nat, k ≤ n ∧ i = .int .i64 k ∧ Hid (wr.ownsRow G 5 1 (.slice (some ⟨G, 0, none⟩) n n) n (copied .u8 l k)) ∧ Hid (wr.heap[w.heap.size]? = some (.cells #[.int .i64 r, .int .i64 c, .int .u64 (S : Int)] 50)) ∧ Hid (wr.heap[w.heap.size + 1]? = some (.cells #[.int .i64 0, .int .i64 0, .string ⟨#[]⟩] 25)) ∧ Hid (Below w.heap.size w wr)) (fun i _ => n - (intOf i).toNat)
  case atStart => exact ⟨0, Nat.zero_le _, rfl, Lib.hid (by rw [← HE.out, HL.out]; exact hown), HA3, HR3, HB3⟩
  case round =>
    obtain ⟨k, hk, rfl, HO, HA, HR, HB⟩ := hrel
    obtain ⟨a0, a1, a2, fa0, fa1, fa2⟩ := cells3 HA.out
    by_cases hlt : k < n
    · have HM := Lib.hid (HMA.out k hlt)
      have HV := Lib.hid (HAT.out k hlt)
      obtain ⟨b, hb⟩ : ∃ b, b = S.testBit k := ⟨_, rfl⟩
      rw [← hb] at HM HV
      clear hb
      cases b with
      | true =>
          have HM2 := HM
          rw [if_pos rfl] at HM
          unfold mW at HM
          clear HM2
          have HV2 : Hid (l.getD k 0 = 46) := Lib.hid (by rw [HV.out]; rfl)
          clear HV
          go_wp2_with (first | (go_at_call 67; refine (HM.out _).mono ?_; rintro e w4 ⟨rfl, b4⟩; have HA4 := Lib.hid ((b4.block w.heap.size (size_of_heap HA.out)).trans HA.out); have HR4 := Lib.hid ((b4.block (w.heap.size + 1) (size_of_heap HR.out)).trans HR.out); have HO4 := Lib.hid (own_later HO.out (Joins.below_le b4 (Nat.le_refl _))); have HB4 := Lib.hid (HB.out.trans (b4.mono HB.out.size)); clear b4) | (go_at_call 135; refine (signW _).mono ?_; rintro e w5 ⟨rfl, b5⟩; have HA5 := Lib.hid ((b5.block w.heap.size (size_of_heap HA4.out)).trans HA4.out); have HR5 := Lib.hid ((b5.block (w.heap.size + 1) (size_of_heap HR4.out)).trans HR4.out); have HO5 := Lib.hid (own_later HO4.out b5); have HB5 := Lib.hid (HB4.out.trans (b5.mono HB4.out.size)); have hc5 := (HO5.out.cellAt k (by omega)).trans (copied_at .u8 l k (by rw [HL.out]; exact hlt)); have hf5 := HO5.out.frozenAt k; clear b5))
          go_roundw
          case rel =>
            refine ⟨k + 1, by omega, by go_num, Lib.hid ?_, Lib.hid ((Below.heap_setCell _ _ _ _ (by simp; omega)).trans HA5.out), Lib.hid ((Below.heap_setCell _ _ _ _ (by simp; omega)).trans HR5.out), Lib.hid (HB5.out.setCell (p := ⟨G, k, none⟩) (by simp; omega) _)⟩
            have hst := (HO5.out.stored k (.int .u8 46)).1
            rw [← HV2.out, copied_set .u8 l k (by rw [HL.out]; exact hlt), HV2.out] at hst
            exact hst
          case measure => simp [intOf]; omega
      | false =>
          rw [if_neg (by decide)] at HM
          unfold mB at HM
          have HV2 : Hid (l.getD k 0 = 35) := Lib.hid (by rw [HV.out]; rfl)
          clear HV
          go_wp2_with (first | (go_at_call 67; refine (HM.out _).mono ?_; rintro e w4 ⟨rfl, b4⟩; have HA4 := Lib.hid ((b4.block w.heap.size (size_of_heap HA.out)).trans HA.out); have HR4 := Lib.hid ((b4.block (w.heap.size + 1) (size_of_heap HR.out)).trans HR.out); have HO4 := Lib.hid (own_later HO.out (Joins.below_le b4 (Nat.le_refl _))); have HB4 := Lib.hid (HB.out.trans (b4.mono HB.out.size)); clear b4) | (go_at_call 136; refine (signB _).mono ?_; rintro e w5 ⟨rfl, b5⟩; have HA5 := Lib.hid ((b5.block w.heap.size (size_of_heap HA4.out)).trans HA4.out); have HR5 := Lib.hid ((b5.block (w.heap.size + 1) (size_of_heap HR4.out)).trans HR4.out); have HO5 := Lib.hid (own_later HO4.out b5); have HB5 := Lib.hid (HB4.out.trans (b5.mono HB4.out.size)); have hc5 := (HO5.out.cellAt k (by omega)).trans (copied_at .u8 l k (by rw [HL.out]; exact hlt)); have hf5 := HO5.out.frozenAt k; clear b5))
          go_roundw
          case rel =>
            refine ⟨k + 1, by omega, by go_num, Lib.hid ?_, Lib.hid ((Below.heap_setCell _ _ _ _ (by simp; omega)).trans HA5.out), Lib.hid ((Below.heap_setCell _ _ _ _ (by simp; omega)).trans HR5.out), Lib.hid (HB5.out.setCell (p := ⟨G, k, none⟩) (by simp; omega) _)⟩
            have hst := (HO5.out.stored k (.int .u8 35)).1
            rw [← HV2.out, copied_set .u8 l k (by rw [HL.out]; exact hlt), HV2.out] at hst
            exact hst
          case measure => simp [intOf]; omega
    · have hk' : k = n := by omega
      have HF : Hid (wr.ownsRow G 5 1 (.slice (some ⟨G, 0, none⟩) n n) n (l.map (Value.int .u8))) := Lib.hid (by have h9 := HO.out; rw [hk'] at h9; have e9 := copied_full .u8 l; rw [HL.out] at e9; rw [e9] at h9; exact h9)
      have hconv := conv_own (reads_own HF.out HL.out.symm (by rw [HL.out]; omega))
      obtain ⟨z0, z1, z2, y0, y1, y2⟩ := cells3 HR.out
      clear hk'
      go_wp2
      exact bodyPost_ret (v := .agg #[.int .i64 r, .int .i64 c, .string (strOfNums l)]) (by simp [results, Tryd.results42, go_sem, z0, z1, z2]) rfl ⟨rfl, (((HB.out.setCell (p := ⟨w.heap.size + 1, 0, none⟩) (by simp) _).setCell (p := ⟨w.heap.size + 1, 1, none⟩) (by simp) _).setCell (p := ⟨w.heap.size + 1, 2, none⟩) (by simp) _)⟩
end Go.Proofs.YtgpplfhbgkcjhaaDoor
namespace Go.Proofs.YtgpplfhbgkcjhaaDoor
open Go.RowKit

theorem brd_fits (g : Int × Int × ByteArray) : ∃ n : Nat, (brd g).1 * (brd g).2.1 = (n : Int) ∧ n ≤ 36 ∧ (brd g).2.2 < 18446744073709551616 ∧ (isG g = true → n = g.2.2.size ∧ brd g = (g.1, g.2.1, wT g.2.2 n)) ∧ (isG g = false → n = 0 ∧ brd g = (0, 0, 0)) := by
  by_cases h : isG g = true
  · have hs := isG_size h
    obtain ⟨h1, h2, h3, -⟩ := of_decide_eq_true h
    have hb : brd g = (g.1, g.2.1, wT g.2.2 g.2.2.size) := by unfold brd; rw [if_pos h]
    refine ⟨g.2.2.size, ?_, hs, ?_, fun _ => ⟨rfl, hb⟩, fun e => by rw [h] at e; cases e⟩
    · rw [hb]; exact h3.symm
    · rw [hb]; exact Nat.lt_trans (wT_lt g.2.2 _ hs) (by decide)
  · have hb : brd g = (0, 0, 0) := by unfold brd; rw [if_neg h]
    refine ⟨0, by rw [hb]; rfl, by decide, by rw [hb]; decide, fun e => absurd e h, fun _ => ⟨rfl, hb⟩⟩
theorem box1_of {w w' : World} {A : Array Value} {t : TypeId} (h : Below (w.alloc (.cells A t)).heap.size (w.alloc (.cells A t)) w') : Below w.heap.size w w' := (box1 h).2
theorem iisg_any (r c : Int) (s : ByteArray) (hs : s.size ≤ 4194304) (w : World) :
    Calls Tryd.prog 11 #[.agg #[.int .i64 r, .int .i64 c, .string s]] w fun e w' => e = .returned (.bool (isG (r, c, s))) ∧ Below w.heap.size w w' := by
  have HBO := Lib.hid (fun w => ibo_any r c s hs w)
  go_enter Tryd.func11, Tryd.ntmps11
  go_wp2_with (go_at_call 31; refine (HBO.out _).mono ?_; rintro e w1 ⟨rfl, b1⟩; simp only [brdV]; have HB := Lib.hid (box1_of b1); clear b1)
  go_ret
  exact ⟨rfl, HB.out.alloc HB.out.size _⟩
theorem whB_isWh {g : Int × Int × ByteArray} (h : isG g = true) (k : Int) : whB g.2.2.size (wT g.2.2 g.2.2.size) k = isWh g k := by
  unfold whB isWh
  rw [h, Bool.true_and]
  by_cases hk : 0 ≤ k ∧ k ≤ (g.2.2.size : Int) - 1
  · rw [decide_eq_true hk, Bool.true_and, Bool.true_and, wT_bit _ _ _ (by omega)]
  · rw [decide_eq_false hk, Bool.false_and, Bool.false_and]
set_option maxHeartbeats 800000 in
theorem iiswh_any (r c : Int) (s : ByteArray) (k : Int) (hs : s.size ≤ 4194304) (w : World) :
    Calls Tryd.prog 16 #[.agg #[.int .i64 r, .int .i64 c, .string s], .int .i64 k] w fun e w' => e = .returned (.bool (isWh (r, c, s) k)) ∧ Below w.heap.size w w' := by
  have HBO := Lib.hid (fun w => ibo_any r c s hs w)
  obtain ⟨n, hn, h36, hS, hy, -⟩ := brd_fits (r, c, s)
  have HW := Lib.hid (fun w => ibw_any _ _ n _ hn h36 hS k w)
  obtain ⟨p, hp⟩ : ∃ p, p = isG (r, c, s) := ⟨_, rfl⟩
  have HE : Hid (p = true → whB n (brd (r, c, s)).2.2 k = isWh (r, c, s) k) := Lib.hid (fun h => by obtain ⟨h1, h2⟩ := hy (hp.symm.trans h); rw [h2, h1]; exact whB_isWh (hp.symm.trans h) k)
  have HF : Hid (p = false → isWh (r, c, s) k = false) := Lib.hid (fun h => by unfold isWh; rw [← hp, h]; rfl)
  rw [← hp] at HBO
  clear hp hy hn h36 hS
  obtain ⟨⟨b0, b1, b2⟩, hb⟩ : ∃ b, b = brd (r, c, s) := ⟨_, rfl⟩
  rw [← hb] at HBO HW HE
  clear hb
  cases p with
  | false =>
    have HG := Lib.hid (HF.out rfl)
    go_enter Tryd.func16, Tryd.ntmps16
    go_wp2_with (go_at_call 31; refine (HBO.out _).mono ?_; rintro e w1 ⟨rfl, b1⟩; simp only [brdV]; have HB := Lib.hid (box1_of b1); clear b1)
    go_ret
    exact ⟨by rw [HG.out]; rfl, HB.out.alloc HB.out.size _⟩
  | true =>
    have HG := Lib.hid (HE.out rfl)
    go_enter Tryd.func16, Tryd.ntmps16
    go_wp2_with (first | (go_at_call 31; refine (HBO.out _).mono ?_; rintro e w1 ⟨rfl, b1⟩; simp only [brdV]; have HB := Lib.hid (box1_of b1); clear b1) | (go_at_call 39; refine (HW.out _).mono ?_; rintro e w2 ⟨rfl, b2⟩; have HB2 := Lib.hid b2; clear b2))
    go_ret
    exact ⟨by rw [← HG.out]; rfl, (HB.out.alloc HB.out.size _).trans (HB2.out.mono (by have := HB.out.size; simp; omega))⟩
theorem sgB_wT (s : ByteArray) (h : ∀ b ∈ s.data.toList, b = 35 ∨ b = 46) : sgB s.size (wT s s.size) = s.data.toList := by
  refine List.ext_getElem? fun i => ?_
  by_cases hi : i < s.size
  · have h2 : i < s.data.toList.length := by rw [size_list]; exact hi
    unfold sgB
    rw [List.getElem?_map, List.getElem?_range hi, Option.map_some, wT_bit s _ i hi, List.getD_eq_getElem?_getD, List.getElem?_eq_getElem h2, Option.getD_some]
    rcases h _ (List.getElem_mem h2) with e | e <;> rw [e] <;> rfl
  · rw [List.getElem?_eq_none (by rw [sgB_length]; omega), List.getElem?_eq_none (by rw [size_list]; omega)]
theorem turn_list {g : Int × Int × ByteArray} (h : isG g = true) : (⟨(sgB g.2.2.size (revN (wT g.2.2 g.2.2.size) / 2 ^ (64 - g.2.2.size))).toArray⟩ : ByteArray) = backL g.2.2 := by
  have hs := isG_size h
  obtain ⟨-, -, -, hb⟩ := of_decide_eq_true h
  have hz : (backL g.2.2).size = g.2.2.size := back_size (by omega)
  have h1 : ∀ b ∈ (backL g.2.2).data.toList, b = 35 ∨ b = 46 := fun b hm => by rw [back_list (by omega)] at hm; exact hb b (List.mem_reverse.1 hm)
  rw [turn_bits g.2.2 _ rfl hs, ← hz, sgB_wT _ h1]
set_option maxHeartbeats 800000 in
theorem iturn_any (r c : Int) (s : ByteArray) (hs : s.size ≤ 4194304) (w : World) :
    Calls Tryd.prog 19 #[.agg #[.int .i64 r, .int .i64 c, .string s]] w fun e w' => e = .returned (aggG (turnG (r, c, s))) ∧ Below w.heap.size w w' := by
  have HBO := Lib.hid (fun w => ibo_any r c s hs w)
  obtain ⟨n, hn, h36, hS, hy, hno⟩ := brd_fits (r, c, s)
  have HT := Lib.hid (fun w => iturned_any _ _ n _ hn h36 hS w)
  have hT2 : revN (brd (r, c, s)).2.2 / 2 ^ (64 - n) < 18446744073709551616 := Nat.lt_of_le_of_lt (Nat.div_le_self _ _) (revN_lt _)
  have HG := Lib.hid (fun w => igrid_any _ _ n _ hn h36 hT2 w)
  have HE : Hid (turnG (r, c, s) = ((brd (r, c, s)).1, (brd (r, c, s)).2.1, ⟨(sgB n (revN (brd (r, c, s)).2.2 / 2 ^ (64 - n))).toArray⟩)) := Lib.hid (by
    unfold turnG
    by_cases h : isG (r, c, s) = true
    · obtain ⟨h1, h2⟩ := hy h
      rw [if_pos h, h2, h1, turn_list h]
    · obtain ⟨h1, h2⟩ := hno (by simpa using h)
      rw [if_neg h, h2, h1]; rfl)
  clear hy hno hn h36 hS hT2
  rw [HE.out]
  obtain ⟨p, hp⟩ : ∃ p, p = isG (r, c, s) := ⟨_, rfl⟩
  rw [← hp] at HBO
  clear hp HE
  obtain ⟨⟨b0, b1, b2⟩, hb⟩ : ∃ b, b = brd (r, c, s) := ⟨_, rfl⟩
  rw [← hb] at HBO HT HG ⊢
  clear hb
  have HBX := Lib.hid (fun w' => @box33 w w' #[.int .i64 r, .int .i64 c, .string s] #[.int .i64 0, .int .i64 0, .string ⟨#[]⟩] 25 25)
  go_enter Tryd.func19, Tryd.ntmps19
  go_wp2_with (first | (go_at_call 31; refine (HBO.out _).mono ?_; rintro e w1 ⟨rfl, b1⟩; simp only [brdV]; have HR := Lib.hid (HBX.out _ b1).2.1; have HB := Lib.hid (HBX.out _ b1).2.2; clear b1) | (go_at_call 41; refine (HT.out _).mono ?_; rintro e w2 ⟨rfl, b2⟩; have HR2 := Lib.hid ((b2.block (w.heap.size + 1) (by have := size_of_heap HR.out; simp; omega)).trans ((Below.heap_alloc _ _ (w.heap.size + 1) (size_of_heap HR.out)).trans HR.out)); have HB2 := Lib.hid ((HB.out.alloc HB.out.size _).trans (b2.mono (by have := HB.out.size; simp; omega))); clear b2) | (go_at_call 42; refine (HG.out _).mono ?_; rintro e w3 ⟨rfl, b3⟩; have HR3 := Lib.hid ((b3.block (w.heap.size + 1) (size_of_heap HR2.out)).trans HR2.out); have HB3 := Lib.hid (HB2.out.trans (b3.mono HB2.out.size)); obtain ⟨z0, z1, z2, y0, y1, y2⟩ := cells3 HR3.out; clear b3))
  exact bodyPost_ret (v := .agg #[.int .i64 b0, .int .i64 b1, .string ⟨(sgB n (revN b2 / 2 ^ (64 - n))).toArray⟩]) (by simp [results, Tryd.results19, go_sem, z0, z1, z2]) rfl ⟨rfl, (((HB3.out.setCell (p := ⟨w.heap.size + 1, 0, none⟩) (by simp) _).setCell (p := ⟨w.heap.size + 1, 1, none⟩) (by simp) _).setCell (p := ⟨w.heap.size + 1, 2, none⟩) (by simp) _)⟩
set_option maxHeartbeats 1600000 in
theorem isym_any (r c : Int) (s : ByteArray) (hs : s.size ≤ 1048576) (w : World) :
    Calls Tryd.prog 73 #[.agg #[.int .i64 r, .int .i64 c, .string s]] w fun e w' => e = .returned (.bool (symG (r, c, s))) ∧ Below w.heap.size w w' := by
  obtain ⟨p, hp⟩ : ∃ p, p = isG (r, c, s) := ⟨_, rfl⟩
  have HIG := Lib.hid (fun w => iisg_any r c s (by omega) w)
  have HTG := Lib.hid (fun w => iturn_any r c s (by omega) w)
  rw [show turnG (r, c, s) = if p = true then (r, c, backL s) else (0, 0, ⟨#[]⟩) from by rw [hp]; rfl] at HTG
  rw [← hp] at HIG
  have HE : Hid (symG (r, c, s) = (p && decide (backL s = s))) := Lib.hid (by rw [hp]; rfl)
  clear hp
  go_enter Tryd.func73, Tryd.ntmps73
  have HBX : Hid (Below w.heap.size w (w.alloc (.cells #[.int .i64 r, .int .i64 c, .string s] 25))) := Lib.hid ((Below.refl _ _).alloc (Nat.le_refl _) _)
  have HKP : Hid (∀ w', Below (w.alloc (.cells #[.int .i64 r, .int .i64 c, .string s] 25)).heap.size (w.alloc (.cells #[.int .i64 r, .int .i64 c, .string s] 25)) w' → w'.cell? ⟨w.heap.size, 0, none⟩ = some (.int .i64 r) ∧ w'.cell? ⟨w.heap.size, 1, none⟩ = some (.int .i64 c) ∧ w'.cell? ⟨w.heap.size, 2, none⟩ = some (.string s)) := Lib.hid (fun w' h => ⟨(box3_keep h).1, (box3_keep h).2.1, (box3_keep h).2.2.1⟩)
  obtain ⟨e0, e1, e2⟩ := HKP.out _ (Below.refl _ _)
  go_wp2
  obtain ⟨W0, hW0⟩ : ∃ W0, W0 = w.alloc (.cells #[.int .i64 r, .int .i64 c, .string s] 25) := ⟨_, rfl⟩
  rw [← hW0] at HBX HKP e0 e1 e2 ⊢
  clear hW0
  cases p with
  | false =>
    have HF : Hid (symG (r, c, s) = false) := Lib.hid (by rw [HE.out]; rfl)
    clear HE HTG
    go_region_with (first | (go_at_call 11; refine (HIG.out _).mono ?_; rintro e w1 ⟨rfl, b1⟩; have B1 : Hid (Below W0.heap.size W0 w1) := Lib.hid (((Below.refl W0.heap.size W0).drew).trans b1); obtain ⟨e0', e1', e2'⟩ := HKP.out _ B1.out; clear b1))
    all_goals (go_wp2; go_ret; exact ⟨by rw [HF.out]; rfl, HBX.out.trans (B1.out.mono HBX.out.size)⟩)
  | true =>
    rw [if_pos rfl] at HTG
    by_cases hb : backL s = s
    · have HF : Hid (symG (r, c, s) = true) := Lib.hid (by rw [HE.out, decide_eq_true hb]; rfl)
      rw [hb] at HTG
      clear HE hb
      go_region_with (first | (go_at_call 11; refine (HIG.out _).mono ?_; rintro e w1 ⟨rfl, b1⟩; have B1 : Hid (Below W0.heap.size W0 w1) := Lib.hid (((Below.refl W0.heap.size W0).drew).trans b1); obtain ⟨e0', e1', e2'⟩ := HKP.out _ B1.out; clear b1) | (go_at_call 19; refine (HTG.out _).mono ?_; rintro e w2 ⟨rfl, b2⟩; simp only [aggG]; have B2 : Hid (Below W0.heap.size W0 w2) := Lib.hid (B1.out.trans (b2.mono B1.out.size)); obtain ⟨e0'', e1'', e2''⟩ := HKP.out _ B2.out; clear b2))
      all_goals (go_wp2; go_ret; exact ⟨by rw [HF.out]; rfl, HBX.out.trans (B2.out.mono HBX.out.size)⟩)
    · have HF : Hid (symG (r, c, s) = false) := Lib.hid (by rw [HE.out, decide_eq_false hb]; rfl)
      clear HE
      have hb2 := toList_ne (Ne.symm hb)
      clear hb
      go_region_with (first | (go_at_call 11; refine (HIG.out _).mono ?_; rintro e w1 ⟨rfl, b1⟩; have B1 : Hid (Below W0.heap.size W0 w1) := Lib.hid (((Below.refl W0.heap.size W0).drew).trans b1); obtain ⟨e0', e1', e2'⟩ := HKP.out _ B1.out; clear b1) | (go_at_call 19; refine (HTG.out _).mono ?_; rintro e w2 ⟨rfl, b2⟩; simp only [aggG]; have B2 : Hid (Below W0.heap.size W0 w2) := Lib.hid (B1.out.trans (b2.mono B1.out.size)); obtain ⟨e0'', e1'', e2''⟩ := HKP.out _ B2.out; clear b2))
      all_goals (go_wp2; go_ret; exact ⟨by rw [HF.out]; rfl, HBX.out.trans (B2.out.mono HBX.out.size)⟩)
end Go.Proofs.YtgpplfhbgkcjhaaDoor
