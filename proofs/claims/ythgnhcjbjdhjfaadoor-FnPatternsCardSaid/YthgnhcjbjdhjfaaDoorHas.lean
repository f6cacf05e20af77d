/-
  The program's contracts of slices.Index, slices.Contains at strings and of HasWord.
-/
import Derived.Test.YthgnhcjbjdhjfaaDoorListSpec
import Derived.Test.YthgnhcjbjdhjfaaDoorVals
namespace Go.Proofs.YthgnhcjbjdhjfaaDoor
open Go.RowKit

/-- What slices.Index answers. -/
def idxS (l : List ByteArray) (x : ByteArray) : Int := if hasW l x = true then l.findIdx (fun y => decide (y = x)) else -1
theorem idxS_no {l : List ByteArray} {x : ByteArray} (h : ∀ y ∈ l, y ≠ x) : idxS l x = -1 := by unfold idxS; rw [hasW_no h, if_neg (by decide)]
theorem idxS_at {l : List ByteArray} {x : ByteArray} {k : Nat} (hk : k < l.length) (h : ∀ y ∈ l.take k, y ≠ x) (e : l.getD k ⟨#[]⟩ = x) : idxS l x = k := by
  have h9 : l.findIdx (fun y => decide (y = x)) = k := by
    rw [List.findIdx_eq hk]
    refine ⟨by rw [List.getD_eq_getElem?_getD, List.getElem?_eq_getElem hk] at e; simpa using e, fun j hj => ?_⟩
    refine decide_eq_false (h _ ?_)
    rw [List.mem_take_iff_getElem]
    exact ⟨j, by omega, rfl⟩
  unfold idxS
  rw [h9, hasW_yes (e ▸ getD_mem l k ⟨#[]⟩ hk), if_pos rfl]
set_option maxHeartbeats 800000 in
theorem idx_any (l : List ByteArray) (x : ByteArray) (hl : l.length ≤ 16777216) (v : Value) (w : World) (hv : ReadsS w.heap.size w v l) :
    Calls Tryd.prog 74 #[v, .string x] w fun e w' => e = .returned (.int .i64 (idxS l x)) ∧ w = w' := by
  obtain ⟨-, a0, cap, rfl, -, hc⟩ := hv.cells
  have HC := Lib.hid hc
  clear hc hv
  go_enter Tryd.func74, Tryd.ntmps74
  go_wp2
  go_loop [8] (fun i => ∃ k : Nat, k ≤ l.length ∧ i = .int .i64 k ∧ Hid (∀ y ∈ l.take k, y ≠ x)) (fun i => l.length - (intOf i).toNat)
  case atStart => exact ⟨0, Nat.zero_le _, rfl, Lib.hid (by simp)⟩
  case round =>
    obtain ⟨k, hk, rfl, HN⟩ := hrel
    by_cases hlt : k < l.length
    · obtain ⟨b, off, rfl, hb, q0⟩ := HC.out k hlt
      have HT := Lib.hid (take_next l k ⟨#[]⟩ hlt)
      have HF0 := Lib.hid (fun e => idxS_at (x := x) hlt HN.out e)
      obtain ⟨z, hz⟩ : ∃ z, z = l.getD k ⟨#[]⟩ := ⟨_, rfl⟩
      rw [← hz] at q0 HT HF0
      clear hz
      by_cases he : z = x
      · subst he
        have HF := Lib.hid (HF0.out rfl)
        go_wp2
        go_ret
        exact ⟨by rw [HF.out]; rfl, rfl⟩
      · have hne := str_ne (Ne.symm he)
        have HN2 : Hid (∀ y ∈ l.take (k + 1), y ≠ x) := Lib.hid (fun y hy => by
          rw [HT.out] at hy
          rcases List.mem_append.1 hy with h | h
          · exact HN.out y h
          · simp only [List.mem_singleton] at h; subst h; exact he)
        go_wp2
        go_round
        case rel => exact ⟨k + 1, by omega, by go_num, HN2⟩
        case measure => simp [intOf]; omega
    · have HF : Hid (idxS l x = -1) := Lib.hid (idxS_no (by have h9 := HN.out; rw [List.take_of_length_le (by omega)] at h9; exact h9))
      go_wp2
      go_ret
      exact ⟨by rw [HF.out]; rfl, rfl⟩
theorem idxS_has (l : List ByteArray) (x : ByteArray) : decide (idxS l x ≥ 0) = hasW l x := by
  unfold idxS
  cases h : hasW l x
  · rw [if_neg (by decide)]; rfl
  · rw [if_pos rfl]; exact decide_eq_true (by omega)
theorem cont_any (l : List ByteArray) (x : ByteArray) (hl : l.length ≤ 16777216) (v : Value) (w : World) (hv : ReadsS w.heap.size w v l) :
    Calls Tryd.prog 45 #[v, .string x] w fun e w' => e = .returned (.bool (hasW l x)) ∧ w = w' := by
  have HI := Lib.hid (idx_any l x hl v w hv)
  have HE := Lib.hid (idxS_has l x)
  obtain ⟨a, c, rfl⟩ : ∃ a c, v = .slice a l.length c := by obtain ⟨-, a0, cap, rfl, -⟩ := hv.cells; exact ⟨_, _, rfl⟩
  clear hv
  go_enter Tryd.func45, Tryd.ntmps45
  go_wp2_with (go_at_call 74; refine HI.out.mono ?_; rintro e w1 ⟨rfl, rfl⟩)
  go_ret
  exact ⟨by rw [← HE.out]; rfl, rfl⟩
theorem ihas_any (l : List ByteArray) (x : ByteArray) (hl : l.length ≤ 16777216) (v : Value) (w : World) (hv : ReadsS w.heap.size w v l) :
    Calls Tryd.prog 14 #[v, .string x] w fun e w' => e = .returned (.bool (hasW l x)) ∧ w = w' := by
  have HI := Lib.hid (cont_any l x hl v w hv)
  obtain ⟨a, c, rfl⟩ : ∃ a c, v = .slice a l.length c := by obtain ⟨-, a0, cap, rfl, -⟩ := hv.cells; exact ⟨_, _, rfl⟩
  clear hv
  go_enter Tryd.func14, Tryd.ntmps14
  go_wp2_with (go_at_call 45; refine HI.out.mono ?_; rintro e w1 ⟨rfl, rfl⟩)
  go_ret
  exact ⟨rfl, rfl⟩
end Go.Proofs.YthgnhcjbjdhjfaaDoor
