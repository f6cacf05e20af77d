/-
  The model's contracts of chapter 5.
-/
import Derived.Test.YtmhgejljjjmejaaListedS
import Derived.Test.YtmhgejljjjmejaaWordP
namespace Go.Proofs.Ytmhgejljjjmejaa
open Go.RowKit

/-- What HasWord answers. -/
def hasW (l : List ByteArray) (x : ByteArray) : Bool := l.any fun y => decide (y = x)
theorem hasW_no {l : List ByteArray} {x : ByteArray} (h : ∀ y ∈ l, y ≠ x) : hasW l x = false := by
  unfold hasW
  rw [List.any_eq_false]
  intro y hy
  simpa using h y hy
theorem hasW_yes {l : List ByteArray} {x : ByteArray} (h : x ∈ l) : hasW l x = true := by
  unfold hasW
  rw [List.any_eq_true]
  exact ⟨x, h, by simp⟩
theorem str_ne {a b : ByteArray} (h : a ≠ b) : (a.toList == b.toList) = false := by rw [str_beq]; exact decide_eq_false h
theorem getD_mem {α : Type} (l : List α) (k : Nat) (d : α) (h : k < l.length) : l.getD k d ∈ l := by
  rw [List.getD_eq_getElem?_getD, List.getElem?_eq_getElem h]
  exact List.getElem_mem h
theorem take_next {α : Type} (l : List α) (k : Nat) (d : α) (h : k < l.length) : l.take (k + 1) = l.take k ++ [l.getD k d] := by
  rw [List.take_succ_eq_append_getElem h, List.getD_eq_getElem?_getD, List.getElem?_eq_getElem h]
  rfl

set_option maxHeartbeats 800000 in
theorem shas_any (l : List ByteArray) (x : ByteArray) (hl : l.length ≤ 16777216) (v : Value) (w : World) (hv : ReadsS w.heap.size w v l) :
    Calls Try.prog 29 #[v, .string x] w fun e w' => e = .returned (.bool (hasW l x)) ∧ Below w.heap.size w w' := by
  obtain ⟨-, a0, cap, rfl, -, hc⟩ := hv.cells
  have HC := Lib.hid hc
  clear hc hv
  go_enter Try.func29, Try.ntmps29
  go_wp2
  go_loopw [5] (fun i wr => ∃ k : Nat, k ≤ l.length ∧ i = .int .i64 k ∧ Hid (∀ y ∈ l.take k, y ≠ x) ∧ Below w.heap.size w wr) (fun i _ => l.length - (intOf i).toNat)
  case atStart => exact ⟨0, Nat.zero_le _, rfl, Lib.hid (by simp), Below.refl _ _⟩
  case round =>
    obtain ⟨k, hk, rfl, HN, hbl⟩ := hrel
    by_cases hlt : k < l.length
    · obtain ⟨b, off, rfl, hb, q0⟩ := HC.out k hlt
      have HT := Lib.hid (take_next l k ⟨#[]⟩ hlt)
      have HM := Lib.hid (getD_mem l k ⟨#[]⟩ hlt)
      obtain ⟨z, hz⟩ : ∃ z, z = l.getD k ⟨#[]⟩ := ⟨_, rfl⟩
      rw [← hz] at q0 HT HM
      have c0 := (hbl.cell (p := ⟨b, off + k, none⟩) hb).trans q0
      clear q0 hz
      by_cases he : z = x
      · subst he
        have HF := Lib.hid (hasW_yes HM.out)
        go_wp2
        go_ret
        exact ⟨by rw [HF.out]; rfl, hbl⟩
      · have hne := str_ne he
        have HN2 : Hid (∀ y ∈ l.take (k + 1), y ≠ x) := Lib.hid (fun y hy => by
          rw [HT.out] at hy
          rcases List.mem_append.1 hy with h | h
          · exact HN.out y h
          · simp only [List.mem_singleton] at h; subst h; exact he)
        go_wp2
        go_roundw
        case rel => exact ⟨k + 1, by omega, by go_num, HN2, hbl⟩
        case measure => simp [intOf]; omega
    · have HF : Hid (hasW l x = false) := Lib.hid (hasW_no (by have h9 := HN.out; rw [List.take_of_length_le (by omega)] at h9; exact h9))
      go_wp2
      go_ret
      exact ⟨by rw [HF.out]; rfl, hbl⟩

/-- What l5Find answers. -/
def findL (l : List (ByteArray × Int × Int × Int)) (x : ByteArray) : Int := if l.findIdx (fun y => decide (y.1 = x)) < l.length then l.findIdx (fun y => decide (y.1 = x)) else -1
theorem findL_no {l : List (ByteArray × Int × Int × Int)} {x : ByteArray} (h : ∀ y ∈ l, y.1 ≠ x) : findL l x = -1 := by
  unfold findL
  rw [if_neg]
  rw [List.findIdx_lt_length]
  rintro ⟨y, hy, h9⟩
  exact h y hy (of_decide_eq_true h9)
theorem findL_at {l : List (ByteArray × Int × Int × Int)} {x : ByteArray} {k : Nat} (hk : k < l.length) (h : ∀ y ∈ l.take k, y.1 ≠ x) (e : (l.getD k none_Listed).1 = x) : findL l x = k := by
  have h9 : l.findIdx (fun y => decide (y.1 = x)) = k := by
    rw [List.findIdx_eq hk]
    refine ⟨by rw [List.getD_eq_getElem?_getD, List.getElem?_eq_getElem hk] at e; simpa using e, fun j hj => ?_⟩
    refine decide_eq_false (h _ ?_)
    rw [List.mem_take_iff_getElem]
    exact ⟨j, by omega, rfl⟩
  unfold findL
  rw [h9, if_pos hk]
end Go.Proofs.Ytmhgejljjjmejaa
