/-
  The program's contracts of chapter 5: isListed, HasWord.
-/
import Derived.Test.YtcpojeiciaghmaaListPure
import Derived.Test.YtcpojeiciaghmaaWordImplB
namespace Go.Proofs.Ytcpojeiciaghmaa
open Go.RowKit

theorem not_lt_dec (a b : Int) : (!decide (a < b)) = decide (b ≤ a) := by
  rw [← decide_not]; exact decide_eq_decide.2 Int.not_lt
set_option maxHeartbeats 1600000 in
theorem iisl_any (x : ByteArray) (f u s : Int) (w : World) :
    Calls Try.prog 43 #[.agg #[.string x, .int .i64 f, .int .i64 u, .int .i64 s]] w fun e w' => e = .returned (.bool (okL (x, f, u, s))) ∧ Below w.heap.size w w' := by
  obtain ⟨p, hp⟩ : ∃ p, p = isW x := ⟨_, rfl⟩
  obtain ⟨d1, hd1⟩ : ∃ d, d = decide (0 ≤ f) := ⟨_, rfl⟩
  obtain ⟨d2, hd2⟩ : ∃ d, d = decide (f ≤ u) := ⟨_, rfl⟩
  obtain ⟨d3, hd3⟩ : ∃ d, d = decide (u ≤ 1000) := ⟨_, rfl⟩
  obtain ⟨q, hq⟩ : ∃ q, q = decide (0 ≤ s ∧ s ≤ 99) := ⟨_, rfl⟩
  have HOK : Hid (okL (x, f, u, s) = (p && d1 && d2 && d3 && q)) := Lib.hid (by unfold okL; rw [not_lt_dec, not_lt_dec, not_lt_dec, hp, hd1, hd2, hd3, hq])
  have HIW := Lib.hid (iiw_any x)
  have HIN := Lib.hid (inr_any s 0 99)
  rw [← hp] at HIW
  rw [← hq] at HIN
  clear hp hq
  rw [eq_comm] at hd1 hd2 hd3
  have hcase : d1 = false ∨ d1 = true ∧ d2 = false ∨ d1 = true ∧ d2 = true ∧ d3 = false ∨ d1 = true ∧ d2 = true ∧ d3 = true ∧ p = false ∨ d1 = true ∧ d2 = true ∧ d3 = true ∧ p = true := by
    cases p <;> cases d1 <;> cases d2 <;> cases d3 <;> simp
  rcases hcase with rfl | ⟨rfl, rfl⟩ | ⟨rfl, rfl, rfl⟩ | ⟨rfl, rfl, rfl, rfl⟩ | ⟨rfl, rfl, rfl, rfl⟩
  all_goals
    go_enter Try.func43, Try.ntmps43
    go_wp2_with (first | (go_at_call 62; refine (HIW.out _).mono ?_; rintro e w1 ⟨rfl, b1⟩; have c3 := (b1.cell (p := ⟨w.heap.size, 3, none⟩) (by simp)).trans (box4 w x f u s _).2.2.2) | (go_at_call 42; ((with_reducible refine (HIN.out _).mono ?_); rintro e w2 ⟨rfl, rfl⟩)))
    go_ret
  · exact ⟨by rw [HOK.out]; simp, (Below.refl _ _).alloc (Nat.le_refl _) _⟩
  · exact ⟨by rw [HOK.out]; simp, (Below.refl _ _).alloc (Nat.le_refl _) _⟩
  · exact ⟨by rw [HOK.out]; simp, (Below.refl _ _).alloc (Nat.le_refl _) _⟩
  · exact ⟨by rw [HOK.out]; simp, ((Below.refl _ _).alloc (Nat.le_refl _) _).trans (b1.mono (by simp))⟩
  · exact ⟨by rw [HOK.out]; simp, ((Below.refl _ _).alloc (Nat.le_refl _) _).trans (b1.mono (by simp))⟩

/-- What slices.Index answers. -/
def idxS (l : List ByteArray) (x : ByteArray) : Int := if hasW l x = true then l.findIdx (fun y => decide (y = x)) else -1
theorem idxS_no {l : List ByteArray} {x : ByteArray} (h : ∀ y ∈ l, y ≠ x) : idxS l x = -1 := by unfold idxS; rw [hasW_no h, if_neg (by decide)]
theorem idxS_at {l : List ByteArray} {x : ByteArray} {k : Nat} (hk : k < l.length) (h : ∀ y ∈ l.take k, y ≠ x) (e : l.getD k ⟨#[]⟩ = x) : idxS l x = k := by
  have h9 : l.findIdx (fun y => decide (y = x)) = k := by
    rw [List.findIdx_eq hk]
    refine ⟨by rw [List.getD_eq_getElem?_getD, List.getElem?_eq_getElem hk] at e; simpa using e, fun j hj => ?_⟩
    refine decide_eq_false (h _ ?_)
    rw [List.mem_take_iff_getElem]
    exact ⟨j, by omega, rfl⟩
  unfold idxS
  rw [h9, hasW_yes (e ▸ getD_mem l k ⟨#[]⟩ hk), if_pos rfl]
set_option maxHeartbeats 800000 in
theorem idx_any (l : List ByteArray) (x : ByteArray) (hl : l.length ≤ 16777216) (v : Value) (w : World) (hv : ReadsS w.heap.size w v l) :
    Calls Try.prog 63 #[v, .string x] w fun e w' => e = .returned (.int .i64 (idxS l x)) ∧ w = w' := by
  obtain ⟨-, a0, cap, rfl, -, hc⟩ := hv.cells
  have HC := Lib.hid hc
  clear hc hv
  go_enter Try.func63, Try.ntmps63
  go_wp2
  go_loop [8] (fun i => ∃ k : Nat, k ≤ l.length ∧ i = .int .i64 k ∧ Hid (∀ y ∈ l.take k, y ≠ x)) (fun i => l.length - (intOf i).toNat)
  case atStart => exact ⟨0, Nat.zero_le _, rfl, Lib.hid (by simp)⟩
  case round =>
    obtain ⟨k, hk, rfl, HN⟩ := hrel
    by_cases hlt : k < l.length
    · obtain ⟨b, off, rfl, hb, q0⟩ := HC.out k hlt
      have HT := Lib.hid (take_next l k ⟨#[]⟩ hlt)
      have HF0 := Lib.hid (fun e => idxS_at (x := x) hlt HN.out e)
      obtain ⟨z, hz⟩ : ∃ z, z = l.getD k ⟨#[]⟩ := ⟨_, rfl⟩
      rw [← hz] at q0 HT HF0
      clear hz
      by_cases he : z = x
      · subst he
        have HF := Lib.hid (HF0.out rfl)
        go_wp2
        go_ret
        exact ⟨by rw [HF.out]; rfl, rfl⟩
      · have hne := str_ne (Ne.symm he)
        have HN2 : Hid (∀ y ∈ l.take (k + 1), y ≠ x) := Lib.hid (fun y hy => by
          rw [HT.out] at hy
          rcases List.mem_append.1 hy with h | h
          · exact HN.out y h
          · simp only [List.mem_singleton] at h; subst h; exact he)
        go_wp2
        go_round
        case rel => exact ⟨k + 1, by omega, by go_num, HN2⟩
        case measure => simp [intOf]; omega
    · have HF : Hid (idxS l x = -1) := Lib.hid (idxS_no (by have h9 := HN.out; rw [List.take_of_length_le (by omega)] at h9; exact h9))
      go_wp2
      go_ret
      exact ⟨by rw [HF.out]; rfl, rfl⟩
theorem idxS_has (l : List ByteArray) (x : ByteArray) : decide (idxS l x ≥ 0) = hasW l x := by
  unfold idxS
  cases h : hasW l x
  · rw [if_neg (by decide)]; rfl
  · rw [if_pos rfl]; exact decide_eq_true (by omega)
theorem cont_any (l : List ByteArray) (x : ByteArray) (hl : l.length ≤ 16777216) (v : Value) (w : World) (hv : ReadsS w.heap.size w v l) :
    Calls Try.prog 45 #[v, .string x] w fun e w' => e = .returned (.bool (hasW l x)) ∧ w = w' := by
  have HI := Lib.hid (idx_any l x hl v w hv)
  have HE := Lib.hid (idxS_has l x)
  obtain ⟨a, c, rfl⟩ : ∃ a c, v = .slice a l.length c := by obtain ⟨-, a0, cap, rfl, -⟩ := hv.cells; exact ⟨_, _, rfl⟩
  clear hv
  go_enter Try.func45, Try.ntmps45
  go_wp2_with (go_at_call 63; refine HI.out.mono ?_; rintro e w1 ⟨rfl, rfl⟩)
  go_ret
  exact ⟨by rw [← HE.out]; rfl, rfl⟩
theorem ihas_any (l : List ByteArray) (x : ByteArray) (hl : l.length ≤ 16777216) (v : Value) (w : World) (hv : ReadsS w.heap.size w v l) :
    Calls Try.prog 14 #[v, .string x] w fun e w' => e = .returned (.bool (hasW l x)) ∧ w = w' := by
  have HI := Lib.hid (cont_any l x hl v w hv)
  obtain ⟨a, c, rfl⟩ : ∃ a c, v = .slice a l.length c := by obtain ⟨-, a0, cap, rfl, -⟩ := hv.cells; exact ⟨_, _, rfl⟩
  clear hv
  go_enter Try.func14, Try.ntmps14
  go_wp2_with (go_at_call 45; refine HI.out.mono ?_; rintro e w1 ⟨rfl, rfl⟩)
  go_ret
  exact ⟨rfl, rfl⟩
end Go.Proofs.Ytcpojeiciaghmaa
