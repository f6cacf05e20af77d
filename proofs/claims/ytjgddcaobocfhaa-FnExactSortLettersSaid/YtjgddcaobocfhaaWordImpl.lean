/-
  The program's contracts of chapter 4 in the form that the laws' walks ask: i_F; Backwards.
-/
import Derived.Test.YtjgddcaobocfhaaWordImplC
namespace Go.Proofs.Ytjgddcaobocfhaa
open Go.RowKit

set_option maxHeartbeats 800000 in
theorem rev_nil (w : World) :
    Calls Try.prog 37 #[.slice none 0 0] w fun e w' => e = .returned (.tuple #[]) ∧ w = w' := by
  go_enter Try.func37, Try.ntmps37
  go_wp2
  go_loopw [2, 3] (fun i j wr => i = .int .i64 0 ∧ j = .int .i64 (-1) ∧ w = wr) (fun _ _ _ => 0)
  case atStart => exact ⟨rfl, rfl, rfl⟩
  case round =>
    obtain ⟨rfl, rfl, rfl⟩ := hrel
    go_wp2
    go_end0
    exact ⟨rfl, rfl⟩
theorem rev_own (l : List Int) (hl : l.length ≤ 8388608) (base : Nat) (v : Value) (w : World) (ho : w.ownsRow base 5 1 v l.length (l.map (Value.int .u8))) :
    Calls Try.prog 37 #[v] w fun e w' => e = .returned (.tuple #[]) ∧ w'.ownsRow base 5 1 v l.length (l.reverse.map (Value.int .u8)) ∧ Below base w w' := by
  rcases Joins.ownsRow_forms ho with ⟨rfl, h0⟩ | ⟨g, cap, rfl⟩
  · obtain rfl := List.length_eq_zero_iff.1 h0
    exact (rev_nil w).mono fun e w' ⟨h1, h2⟩ => by subst h2; exact ⟨h1, ho, Below.refl _ _⟩
  · exact rev_w l hl base g cap w ho
set_option maxHeartbeats 800000 in
theorem reversed_w (l : List Int) (hl : l.length ≤ 8388608) (ad : Addr) (cap : Nat) (w : World)
    (hc : ∀ j, j < l.length → ∃ b off, some ad = some ⟨b, off, none⟩ ∧ b < w.heap.size ∧ w.cell? ⟨b, off + j, none⟩ = some (.int .u8 (l.getD j 0))) :
    Calls Try.prog 28 #[.slice (some ad) l.length cap] w fun e w' => ∃ v', e = .returned v' ∧ w'.ownsRow w.heap.size 5 1 v' l.length (l.reverse.map (Value.int .u8)) ∧ Below w.heap.size w w' := by
  have HC := Lib.hid hc
  clear hc
  go_enter Try.func28, Try.ntmps28
  go_wp2_with (first | (go_at_call 36; refine (clone_w l hl ad cap _ HC.out).mono ?_; rintro e w1 ⟨v1, rfl, o1, b1⟩; have HO1 := Lib.hid o1; clear o1) | (go_at_call 37; refine (rev_own l hl _ v1 _ HO1.out).mono ?_; rintro e w2 ⟨rfl, o2, b2⟩; have HO2 := Lib.hid o2; clear o2))
  go_ret
  exact ⟨_, rfl, HO2.out, b1.trans b2⟩
theorem i_IsWord (a0 : ByteArray) (w : World) (_h0 : a0.size ≤ 1048576) :
    Calls Try.prog 13 #[.string a0] w fun e w' => ∃ r, r = isW a0 ∧ e = .returned (.bool r) ∧ Below w.heap.size w w' :=
  (iiw_any a0 w).mono fun _ _ ⟨h1, h2⟩ => ⟨_, rfl, h1, h2⟩
theorem i_SortLetters (a0 : ByteArray) (w : World) (_h0 : a0.size ≤ 1048576) :
    Calls Try.prog 14 #[.string a0] w fun e w' => ∃ r, r = sortL a0 ∧ e = .returned (.string r) ∧ Below w.heap.size w w' :=
  (isort_any a0 w).mono fun _ _ ⟨h1, h2⟩ => ⟨_, rfl, h1, h2⟩
theorem i_IsRearranged (a0 : ByteArray) (a1 : ByteArray) (w : World) (_h0 : a0.size ≤ 1048576) (_h1 : a1.size ≤ 1048576) :
    Calls Try.prog 16 #[.string a0, .string a1] w fun e w' => ∃ r, r = rearr a0 a1 ∧ e = .returned (.bool r) ∧ Below w.heap.size w w' :=
  (irear_any a0 a1 w).mono fun _ _ ⟨h1, h2⟩ => ⟨_, rfl, h1, h2⟩
theorem i_CountLetter (a0 : ByteArray) (a1 : ByteArray) (w : World) (_h0 : a0.size ≤ 1048576) (_h1 : a1.size ≤ 1048576) :
    Calls Try.prog 17 #[.string a0, .string a1] w fun e w' => ∃ r, r = cntL a0 a1 ∧ e = .returned (.int .i64 r) ∧ Below w.heap.size w w' :=
  (icnt_any a0 a1 w).mono fun _ _ ⟨h1, h2⟩ => ⟨_, rfl, h1, h2⟩
theorem i_BeforeWord (a0 : ByteArray) (a1 : ByteArray) (w : World) (_h0 : a0.size ≤ 1048576) (_h1 : a1.size ≤ 1048576) :
    Calls Try.prog 19 #[.string a0, .string a1] w fun e w' => ∃ r, r = befW a0 a1 ∧ e = .returned (.bool r) ∧ Below w.heap.size w w' :=
  (ibef_any a0 a1 w).mono fun _ _ ⟨h1, h2⟩ => ⟨_, rfl, h1, h2⟩
theorem back_nums {s : ByteArray} (h : s.size ≤ 100) : strOfNums (numsL s.data.toList).reverse = backL s := by
  rw [show (numsL s.data.toList).reverse = numsL s.data.toList.reverse by simp [numsL], str_nums]
  exact str_ext (by rw [back_list h])
theorem conv_src (s : ByteArray) (w : World) : ∀ j, j < (numsL s.data.toList).length → ∃ b off, some (⟨w.heap.size, 0, none⟩ : Addr) = some ⟨b, off, none⟩ ∧ b < (Lib.bytesWorld w 5 s).heap.size ∧ (Lib.bytesWorld w 5 s).cell? ⟨b, off + j, none⟩ = some (.int .u8 ((numsL s.data.toList).getD j 0)) := fun j hj => by
  have hj' : j < s.data.toList.length := by simpa [numsL] using hj
  refine ⟨w.heap.size, 0, rfl, by rw [Lib.bytesWorld_size]; omega, ?_⟩
  rw [Nat.zero_add, Lib.bytesWorld_cell w 5 s j (by rw [← size_list]; exact hj')]
  unfold numsL
  rw [List.getD_eq_getElem?_getD, List.getD_eq_getElem?_getD, List.getElem?_map, List.getElem?_eq_getElem hj']
  rfl
set_option maxHeartbeats 800000 in
theorem iback_any (s : ByteArray) (w : World) (hs : s.size ≤ 1048576) :
    Calls Try.prog 12 #[.string s] w fun e w' => e = .returned (.string (backL s)) ∧ Below w.heap.size w w' := by
  by_cases h100 : s.size ≤ 100
  · have hconv : ∀ W : World, (convert 9 22 (.string s)).run Try.prog W = .ok (.slice (some ⟨W.heap.size, 0, none⟩) (numsL s.data.toList).length (grownCap W s.size 0 5)) (Lib.bytesWorld W 5 s) := fun W => by
      rw [numsL_length, size_list]
      exact Lib.run_convert_string_bytes W _ _ _ s Try.underlying9 Try.underlying22 Try.underlying5
    have HL : Hid ((numsL s.data.toList).length ≤ 100) := Lib.hid (by rw [numsL_length, size_list]; exact h100)
    have HB := Lib.hid (back_nums h100)
    obtain ⟨l, hl⟩ : ∃ l, l = numsL s.data.toList := ⟨_, rfl⟩
    have HS := Lib.hid (conv_src s w)
    rw [← hl] at HL HB HS hconv
    clear hl
    go_enter Try.func12, Try.ntmps12
    go_wp2_with (go_at_call 28; refine (reversed_w l (by have := HL.out; omega) _ _ _ HS.out).mono ?_; rintro e w1 ⟨v1, rfl, o1, b1⟩; have hcb := conv_own (reads_own (l := l.reverse) o1 (by rw [List.length_reverse]) (by have := HL.out; rw [List.length_reverse]; omega)); rw [HB.out] at hcb; clear o1)
    go_ret
    exact ⟨rfl, btrans (conv_below _ _ _) b1⟩
  · have HF : Hid (backL s = ⟨#[]⟩) := Lib.hid (by unfold backL; rw [if_neg h100])
    have hd : decide ((s.size : Int) ≤ 100) = false := decide_eq_false (by omega)
    have hd2 : decide ((100 : Int) < (s.size : Int)) = true := decide_eq_true (by omega)
    clear h100
    go_enter Try.func12, Try.ntmps12
    go_wp2
    go_ret
    exact ⟨by rw [HF.out]; rfl, Below.refl _ _⟩
theorem i_Backwards (a0 : ByteArray) (w : World) (h0 : a0.size ≤ 1048576) :
    Calls Try.prog 12 #[.string a0] w fun e w' => ∃ r, r = backL a0 ∧ e = .returned (.string r) ∧ Below w.heap.size w w' :=
  (iback_any a0 w h0).mono fun _ _ ⟨h1, h2⟩ => ⟨_, rfl, h1, h2⟩
end Go.Proofs.Ytjgddcaobocfhaa
