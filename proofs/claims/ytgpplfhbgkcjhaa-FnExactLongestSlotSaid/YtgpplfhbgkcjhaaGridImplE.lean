/-
  The program's contracts of chapter 7, third part: a board's cells, its half turn, its grid.
  The program's contracts of chapter 7, fourth part: the grid of a board.
  The program's contracts of chapter 7, fifth part: IsGrid, IsWhite, TurnGrid, IsSymmetric.
-/
import Derived.Test.YtgpplfhbgkcjhaaGridImplB
import Derived.Test.YtgpplfhbgkcjhaaSlices
import Derived.Test.YtgpplfhbgkcjhaaGridTwo
import Derived.Deep.RegionHeld3
import Derived.Deep.RegionWith
namespace Go.Proofs.Ytgpplfhbgkcjhaa
open Go.RowKit

theorem box1 {w w' : World} {A : Array Value} {t : TypeId} (h : Below (w.alloc (.cells A t)).heap.size (w.alloc (.cells A t)) w') : w'.heap[w.heap.size]? = some (.cells A t) ∧ Below w.heap.size w w' := by
  have hz : (w.alloc (.cells A t)).heap.size = w.heap.size + 1 := by simp
  exact ⟨(h.block w.heap.size (by omega)).trans (new_block w _), ((Below.refl _ _).alloc (Nat.le_refl _) _).trans (h.mono (by omega))⟩
theorem size_n (r c : Int) (n : Nat) (hn : r * c = (n : Int)) (h36 : n ≤ 36) (S : Int) (w : World) :
    Calls Try.prog 49 #[.agg #[.int .i64 r, .int .i64 c, .int .u64 S]] w fun e w' => e = .returned (.int .i64 (n : Int)) ∧ Below w.heap.size w w' := by
  rw [← hn]
  exact size_any r c S (by rw [hn]; exact IntWalk.i64_in _ (by omega)) w
/-- Whether a board has a white cell with this number. -/
def whB (n S : Nat) (k : Int) : Bool := decide (0 ≤ k ∧ k ≤ (n : Int) - 1) && S.testBit k.toNat
set_option maxHeartbeats 800000 in
theorem ibw_any (r c : Int) (n S : Nat) (hn : r * c = (n : Int)) (h36 : n ≤ 36) (hS : S < 18446744073709551616) (k : Int) (w : World) :
    Calls Try.prog 63 #[.agg #[.int .i64 r, .int .i64 c, .int .u64 (S : Int)], .int .i64 k] w fun e w' => e = .returned (.bool (whB n S k)) ∧ Below w.heap.size w w' := by
  have HSZ := Lib.hid (fun w => size_n r c n hn h36 (S : Int) w)
  clear hn
  by_cases hk : 0 ≤ k ∧ k ≤ (n : Int) - 1
  · obtain ⟨a, rfl⟩ : ∃ a : Nat, k = (a : Int) := ⟨k.toNat, by omega⟩
    have HF : Hid (whB n S (a : Int) = S.testBit a) := Lib.hid (by unfold whB; rw [decide_eq_true hk, Int.toNat_natCast, Bool.true_and])
    have ha : a < 64 := by omega
    go_enter Try.func63, Try.ntmps63
    go_wp2_with (first | (go_at_call 49; refine (HSZ.out _).mono ?_; rintro e w1 ⟨rfl, b1⟩; obtain ⟨hA, hB⟩ := box1 b1; have HA := Lib.hid hA; have HB := Lib.hid hB; obtain ⟨a0, a1, a2, fa0, fa1, fa2⟩ := cells3 HA.out; clear b1 hA hB) | (go_at_call 31; refine (inr_yes (a : Int) _ _ (by omega) (by omega) _).mono ?_; rintro e w2 ⟨rfl, rfl⟩) | (go_at_call 85; refine (has_any S a hS ha _).mono ?_; rintro e w3 ⟨rfl, rfl⟩))
    go_ret
    exact ⟨by rw [HF.out]; rfl, HB.out⟩
  · have HF : Hid (whB n S k = false) := Lib.hid (by unfold whB; rw [decide_eq_false hk, Bool.false_and])
    have HN := Lib.hid hk
    clear hk
    go_enter Try.func63, Try.ntmps63
    go_wp2_with (first | (go_at_call 49; refine (HSZ.out _).mono ?_; rintro e w1 ⟨rfl, b1⟩; obtain ⟨hA, hB⟩ := box1 b1; have HA := Lib.hid hA; have HB := Lib.hid hB; obtain ⟨a0, a1, a2, fa0, fa1, fa2⟩ := cells3 HA.out; clear b1 hA hB) | (go_at_call 31; refine (inr_no k _ _ HN.out _).mono ?_; rintro e w2 ⟨rfl, rfl⟩))
    go_ret
    exact ⟨by rw [HF.out]; rfl, HB.out⟩
end Go.Proofs.Ytgpplfhbgkcjhaa
namespace Go.Proofs.Ytgpplfhbgkcjhaa
open Go.RowKit

/-- The signs of a board's cells. -/
def sgB (n S : Nat) : List UInt8 := (List.range n).map fun i => if S.testBit i = true then 46 else 35
theorem sgB_length (n S : Nat) : (sgB n S).length = n := by simp [sgB]
theorem sgB_at (n S k : Nat) (hk : k < n) : (numsL (sgB n S)).getD k 0 = if S.testBit k = true then 46 else 35 := by
  unfold numsL sgB
  rw [List.getD_eq_getElem?_getD, List.map_map, List.getElem?_map, List.getElem?_range hk]
  simp only [Option.map_some, Option.getD_some, Function.comp]
  split <;> rfl
theorem info25 : (Try.prog.info? 5).map (fun i => (i.zero, i.size, i.bytes)) = some (some (.int .u8 0), 1, 1) := by kernel_rfl
end Go.Proofs.Ytgpplfhbgkcjhaa
namespace Go.Proofs.Ytgpplfhbgkcjhaa
open Go.RowKit

theorem brd_fits (g : Int × Int × ByteArray) : ∃ n : Nat, (brd g).1 * (brd g).2.1 = (n : Int) ∧ n ≤ 36 ∧ (brd g).2.2 < 18446744073709551616 ∧ (isG g = true → n = g.2.2.size ∧ brd g = (g.1, g.2.1, wT g.2.2 n)) ∧ (isG g = false → n = 0 ∧ brd g = (0, 0, 0)) := by
  by_cases h : isG g = true
  · have hs := isG_size h
    obtain ⟨h1, h2, h3, -⟩ := of_decide_eq_true h
    have hb : brd g = (g.1, g.2.1, wT g.2.2 g.2.2.size) := by unfold brd; rw [if_pos h]
    refine ⟨g.2.2.size, ?_, hs, ?_, fun _ => ⟨rfl, hb⟩, fun e => by rw [h] at e; cases e⟩
    · rw [hb]; exact h3.symm
    · rw [hb]; exact Nat.lt_trans (wT_lt g.2.2 _ hs) (by decide)
  · have hb : brd g = (0, 0, 0) := by unfold brd; rw [if_neg h]
    refine ⟨0, by rw [hb]; rfl, by decide, by rw [hb]; decide, fun e => absurd e h, fun _ => ⟨rfl, hb⟩⟩
theorem box1_of {w w' : World} {A : Array Value} {t : TypeId} (h : Below (w.alloc (.cells A t)).heap.size (w.alloc (.cells A t)) w') : Below w.heap.size w w' := (box1 h).2
theorem whB_isWh {g : Int × Int × ByteArray} (h : isG g = true) (k : Int) : whB g.2.2.size (wT g.2.2 g.2.2.size) k = isWh g k := by
  unfold whB isWh
  rw [h, Bool.true_and]
  by_cases hk : 0 ≤ k ∧ k ≤ (g.2.2.size : Int) - 1
  · rw [decide_eq_true hk, Bool.true_and, Bool.true_and, wT_bit _ _ _ (by omega)]
  · rw [decide_eq_false hk, Bool.false_and, Bool.false_and]
theorem sgB_wT (s : ByteArray) (h : ∀ b ∈ s.data.toList, b = 35 ∨ b = 46) : sgB s.size (wT s s.size) = s.data.toList := by
  refine List.ext_getElem? fun i => ?_
  by_cases hi : i < s.size
  · have h2 : i < s.data.toList.length := by rw [size_list]; exact hi
    unfold sgB
    rw [List.getElem?_map, List.getElem?_range hi, Option.map_some, wT_bit s _ i hi, List.getD_eq_getElem?_getD, List.getElem?_eq_getElem h2, Option.getD_some]
    rcases h _ (List.getElem_mem h2) with e | e <;> rw [e] <;> rfl
  · rw [List.getElem?_eq_none (by rw [sgB_length]; omega), List.getElem?_eq_none (by rw [size_list]; omega)]
theorem turn_list {g : Int × Int × ByteArray} (h : isG g = true) : (⟨(sgB g.2.2.size (revN (wT g.2.2 g.2.2.size) / 2 ^ (64 - g.2.2.size))).toArray⟩ : ByteArray) = backL g.2.2 := by
  have hs := isG_size h
  obtain ⟨-, -, -, hb⟩ := of_decide_eq_true h
  have hz : (backL g.2.2).size = g.2.2.size := back_size (by omega)
  have h1 : ∀ b ∈ (backL g.2.2).data.toList, b = 35 ∨ b = 46 := fun b hm => by rw [back_list (by omega)] at hm; exact hb b (List.mem_reverse.1 hm)
  rw [turn_bits g.2.2 _ rfl hs, ← hz, sgB_wT _ h1]
end Go.Proofs.Ytgpplfhbgkcjhaa
