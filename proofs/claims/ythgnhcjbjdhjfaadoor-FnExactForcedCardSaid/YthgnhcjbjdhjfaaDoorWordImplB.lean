/-
  The program's contracts of chapter 4: CountLetter, SortLetters, IsRearranged, BeforeWord.
-/
import Derived.Test.YthgnhcjbjdhjfaaDoorWordI
namespace Go.Proofs.YthgnhcjbjdhjfaaDoor
open Go.RowKit

theorem count_letter (l : List UInt8) (b : UInt8) (j : Nat) (h : b.toNat = 97 + j) : l.count b = (nth l j).length := by
  unfold nth
  rw [List.count_eq_length_filter]
  congr 1
  refine List.filter_congr fun x _ => ?_
  rw [Bool.eq_iff_iff]
  simp only [beq_iff_eq]
  exact ⟨fun e => by rw [e, h], fun e => UInt8.toNat_inj.1 (by rw [e, h])⟩
theorem one_list (t : ByteArray) (h : t.size = 1) : t.data.toList = [t[0]] := by
  refine List.ext_getElem (by rw [size_list]; simp [h]) fun i h1 h2 => ?_
  have hi : i = 0 := by simpa using h2
  subst hi
  simp
  rfl
theorem isW_one (t : ByteArray) (h : t.size = 1) : isW t = decide (isL t[0]) := by
  unfold isW
  rw [one_list t h]
  simp [h]
/-- What CountLetter answers, by the cells of countLetters. -/
theorem cntL_yes {s t : ByteArray} (hs : isW s = true) (ht : t.size = 1) (j : Nat) (hj : t[0].toNat = 97 + j) (hj25 : j ≤ 25) : cntL s t = ((nth s.data.toList j).length : Nat) := by
  unfold cntL
  rw [if_pos ⟨hs, by rw [isW_one t ht]; exact decide_eq_true ⟨by omega, by omega⟩, ht⟩, one_list t ht, List.headD_cons, count_letter _ _ j hj]
theorem cntL_no {s t : ByteArray} (h : ¬ (isW s = true ∧ isW t = true ∧ t.size = 1)) : cntL s t = 0 := by unfold cntL; rw [if_neg h]
theorem infoI64 : (Tryd.prog.info? 3).map (fun i => (i.zero, i.size, i.bytes)) = some (some (.int .i64 0), 1, 8) := by kernel_rfl
theorem isl_in (j : Nat) (hj : j ≤ 25) (w : World) :
    Calls Tryd.prog 44 #[.int .u8 (97 + j)] w fun e w' => e = .returned (.bool true) ∧ w = w' := by
  have h := isl_any (UInt8.ofNat (97 + j)) w
  have e : (UInt8.ofNat (97 + j)).toNat = 97 + j := by rw [UInt8.toNat_ofNat']; omega
  rw [e, decide_eq_true (show isL (UInt8.ofNat (97 + j)) from ⟨by omega, by omega⟩)] at h
  exact h
end Go.Proofs.YthgnhcjbjdhjfaaDoor
