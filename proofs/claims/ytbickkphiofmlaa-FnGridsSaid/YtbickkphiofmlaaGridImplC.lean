/-
  The program's contracts of chapter 7, third part: a board's cells, its half turn, its grid.
-/
import Derived.Test.YtbickkphiofmlaaGridImplB
import Derived.Deep.RegionHeld3
import Derived.Deep.RegionWith
namespace Go.Proofs.Ytbickkphiofmlaa
open Go.RowKit

theorem box1 {w w' : World} {A : Array Value} {t : TypeId} (h : Below (w.alloc (.cells A t)).heap.size (w.alloc (.cells A t)) w') : w'.heap[w.heap.size]? = some (.cells A t) ∧ Below w.heap.size w w' := by
  have hz : (w.alloc (.cells A t)).heap.size = w.heap.size + 1 := by simp
  exact ⟨(h.block w.heap.size (by omega)).trans (new_block w _), ((Below.refl _ _).alloc (Nat.le_refl _) _).trans (h.mono (by omega))⟩
theorem size_n (r c : Int) (n : Nat) (hn : r * c = (n : Int)) (h36 : n ≤ 36) (S : Int) (w : World) :
    Calls Try.prog 53 #[.agg #[.int .i64 r, .int .i64 c, .int .u64 S]] w fun e w' => e = .returned (.int .i64 (n : Int)) ∧ Below w.heap.size w w' := by
  rw [← hn]
  exact size_any r c S (by rw [hn]; exact IntWalk.i64_in _ (by omega)) w
/-- Whether a board has a white cell with this number. -/
def whB (n S : Nat) (k : Int) : Bool := decide (0 ≤ k ∧ k ≤ (n : Int) - 1) && S.testBit k.toNat
set_option maxHeartbeats 800000 in
theorem ibw_any (r c : Int) (n S : Nat) (hn : r * c = (n : Int)) (h36 : n ≤ 36) (hS : S < 18446744073709551616) (k : Int) (w : World) :
    Calls Try.prog 43 #[.agg #[.int .i64 r, .int .i64 c, .int .u64 (S : Int)], .int .i64 k] w fun e w' => e = .returned (.bool (whB n S k)) ∧ Below w.heap.size w w' := by
  have HSZ := Lib.hid (fun w => size_n r c n hn h36 (S : Int) w)
  clear hn
  by_cases hk : 0 ≤ k ∧ k ≤ (n : Int) - 1
  · obtain ⟨a, rfl⟩ : ∃ a : Nat, k = (a : Int) := ⟨k.toNat, by omega⟩
    have HF : Hid (whB n S (a : Int) = S.testBit a) := Lib.hid (by unfold whB; rw [decide_eq_true hk, Int.toNat_natCast, Bool.true_and])
    have ha : a < 64 := by omega
    go_enter Try.func43, Try.ntmps43
    go_wp2_with (first | (go_at_call 53; refine (HSZ.out _).mono ?_; rintro e w1 ⟨rfl, b1⟩; obtain ⟨hA, hB⟩ := box1 b1; have HA := Lib.hid hA; have HB := Lib.hid hB; obtain ⟨a0, a1, a2, fa0, fa1, fa2⟩ := cells3 HA.out; clear b1 hA hB) | (go_at_call 50; refine (inr_yes (a : Int) _ _ (by omega) (by omega) _).mono ?_; rintro e w2 ⟨rfl, rfl⟩) | (go_at_call 57; refine (has_any S a hS ha _).mono ?_; rintro e w3 ⟨rfl, rfl⟩))
    go_ret
    exact ⟨by rw [HF.out]; rfl, HB.out⟩
  · have HF : Hid (whB n S k = false) := Lib.hid (by unfold whB; rw [decide_eq_false hk, Bool.false_and])
    have HN := Lib.hid hk
    clear hk
    go_enter Try.func43, Try.ntmps43
    go_wp2_with (first | (go_at_call 53; refine (HSZ.out _).mono ?_; rintro e w1 ⟨rfl, b1⟩; obtain ⟨hA, hB⟩ := box1 b1; have HA := Lib.hid hA; have HB := Lib.hid hB; obtain ⟨a0, a1, a2, fa0, fa1, fa2⟩ := cells3 HA.out; clear b1 hA hB) | (go_at_call 50; refine (inr_no k _ _ HN.out _).mono ?_; rintro e w2 ⟨rfl, rfl⟩))
    go_ret
    exact ⟨by rw [HF.out]; rfl, HB.out⟩
set_option maxHeartbeats 800000 in
theorem imat_any (r c : Int) (n S : Nat) (hn : r * c = (n : Int)) (h36 : n ≤ 36) (hS : S < 18446744073709551616) (k : Nat) (hk : k < n) (w : World) :
    Calls Try.prog 54 #[.agg #[.int .i64 r, .int .i64 c, .int .u64 (S : Int)], .int .i64 (k : Int)] w fun e w' => e = .returned (if S.testBit k = true then mW else mB) ∧ Below w.heap.size w w' := by
  have HW := Lib.hid (fun w => ibw_any r c n S hn h36 hS (k : Int) w)
  have hw : whB n S (k : Int) = S.testBit k := by unfold whB; rw [decide_eq_true (by omega), Int.toNat_natCast, Bool.true_and]
  rw [hw] at HW
  clear hw hn
  obtain ⟨b, hb⟩ : ∃ b, b = S.testBit k := ⟨_, rfl⟩
  rw [← hb] at HW ⊢
  clear hb
  cases b with
  | true =>
    go_enter Try.func54, Try.ntmps54
    go_wp2_with (go_at_call 43; refine (HW.out _).mono ?_; rintro e w1 ⟨rfl, b1⟩; have HB := Lib.hid (box1 b1).2; clear b1)
    go_ret
    exact ⟨rfl, HB.out⟩
  | false =>
    go_enter Try.func54, Try.ntmps54
    go_wp2_with (go_at_call 43; refine (HW.out _).mono ?_; rintro e w1 ⟨rfl, b1⟩; have HB := Lib.hid (box1 b1).2; clear b1)
    go_ret
    exact ⟨rfl, HB.out⟩
set_option maxHeartbeats 1600000 in
theorem iturned_any (r c : Int) (n S : Nat) (hn : r * c = (n : Int)) (h36 : n ≤ 36) (hS : S < 18446744073709551616) (w : World) :
    Calls Try.prog 38 #[.agg #[.int .i64 r, .int .i64 c, .int .u64 (S : Int)]] w fun e w' => e = .returned (.agg #[.int .i64 r, .int .i64 c, .int .u64 ((revN S / 2 ^ (64 - n) : Nat) : Int)]) ∧ Below w.heap.size w w' := by
  have HSZ := Lib.hid (fun w => size_n r c n hn h36 (S : Int) w)
  have HBX := Lib.hid (box33 (Below.refl _ ((w.alloc (.cells #[.int .i64 r, .int .i64 c, .int .u64 (S : Int)] 63)).alloc (.cells #[.int .i64 0, .int .i64 0, .int .u64 0] 63))))
  clear hn
  obtain ⟨m, hm⟩ : ∃ m, m = 64 - n := ⟨_, rfl⟩
  have hm1 : (64 : Int) - (n : Int) = (m : Int) := by omega
  rw [← hm]
  have hm2 : m ≤ 64 := by omega
  have hm3 : IntKind.i64.wrap (m : Int) = (m : Int) := IntWalk.i64_in _ (by omega)
  clear hm
  have HRV := Lib.hid (fun w => rev_any S hS w)
  obtain ⟨T, hT⟩ : ∃ T, T = revN S := ⟨_, rfl⟩
  rw [← hT] at HRV ⊢
  clear hT
  rw [show ((T / 2 ^ m : Nat) : Int) = (T : Int) / 2 ^ m by simp]
  go_enter Try.func38, Try.ntmps38
  go_wp2_with fail
  obtain ⟨W1, hW1⟩ : ∃ W1, W1 = (w.alloc (.cells #[.int .i64 r, .int .i64 c, .int .u64 (S : Int)] 63)).alloc (.cells #[.int .i64 0, .int .i64 0, .int .u64 0] 63) := ⟨_, rfl⟩
  rw [← hW1] at HBX ⊢
  clear hW1
  have HA := Lib.hid HBX.out.1
  have HR := Lib.hid HBX.out.2.1
  have HB := Lib.hid HBX.out.2.2
  clear HBX
  obtain ⟨a0, a1, a2, fa0, fa1, fa2⟩ := cells3 HA.out
  obtain ⟨z0, z1, z2, y0, y1, y2⟩ := cells3 HR.out
  go_region_with (first | (go_at_call 52; refine (HRV.out _).mono ?_; rintro e w1 ⟨rfl, rfl⟩) | (go_at_call 53; refine (HSZ.out _).mono ?_; rintro e w2 ⟨rfl, b2⟩; have HA2 := Lib.hid ((b2.block w.heap.size (size_of_heap HA.out)).trans HA.out); have HR2 := Lib.hid ((b2.block (w.heap.size + 1) (size_of_heap HR.out)).trans HR.out); have HB2 := Lib.hid (HB.out.drew.trans (b2.mono HB.out.drew.size)); obtain ⟨p0, p1, p2, q0, q1, q2⟩ := cells3 HA2.out; obtain ⟨z0, z1, z2, y0, y1, y2⟩ := cells3 HR2.out; clear b2))
  all_goals go_wp2
  all_goals exact bodyPost_ret (v := .agg #[.int .i64 r, .int .i64 c, .int .u64 ((T : Int) / 2 ^ m)]) (by simp [results, Try.results38, go_sem, z0, z1, z2]) rfl ⟨rfl, ((((HB2.out.setCell (p := ⟨w.heap.size, 2, none⟩) (by simp) _).setCell (p := ⟨w.heap.size + 1, 0, none⟩) (by simp) _).setCell (p := ⟨w.heap.size + 1, 1, none⟩) (by simp) _).setCell (p := ⟨w.heap.size + 1, 2, none⟩) (by simp) _)⟩

end Go.Proofs.Ytbickkphiofmlaa
