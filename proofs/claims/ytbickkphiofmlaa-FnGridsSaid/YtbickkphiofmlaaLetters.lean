/-
  The model's contract of LettersAt.
-/
import Derived.Test.YtbickkphiofmlaaPatTwo
namespace Go.Proofs.Ytbickkphiofmlaa
open Go.RowKit

/-- A word of the list has the letter c at its place a. -/
def hasAt1 (a : Nat) (c : Nat) (x : ByteArray) : Bool := isW x && decide (a < x.size) && decide ((x.data.toList.getD a 0).toNat = c)
def hasAt (l : List ByteArray) (a : Nat) (c : Nat) : Bool := l.any (hasAt1 a c)
def lettersL (l : List ByteArray) (a : Nat) (n : Nat) : List UInt8 := ((List.range n).filter fun i => hasAt l a (97 + i)).map fun i => UInt8.ofNat (97 + i)
/-- What LettersAt answers. -/
def lettersA (l : List ByteArray) (t : Int) : ByteArray := if 0 ≤ t then ⟨(lettersL l t.toNat 26).toArray⟩ else ⟨#[]⟩
theorem lettersL_next (l : List ByteArray) (a n : Nat) : lettersL l a (n + 1) = lettersL l a n ++ if hasAt l a (97 + n) = true then [UInt8.ofNat (97 + n)] else [] := by
  unfold lettersL
  rw [List.range_succ, List.filter_append, List.map_append]
  congr 1
  by_cases h : hasAt l a (97 + n) = true <;> simp [h]
theorem lettersL_len (l : List ByteArray) (a n : Nat) : (lettersL l a n).length ≤ n := by
  unfold lettersL
  rw [List.length_map]
  exact Nat.le_trans (List.length_filter_le _ _) (by simp)
theorem hasAt_next (l : List ByteArray) (a c k : Nat) (h : k < l.length) : hasAt (l.take (k + 1)) a c = (hasAt (l.take k) a c || hasAt1 a c (l.getD k ⟨#[]⟩)) := by
  unfold hasAt
  rw [List.take_succ_eq_append_getElem h, List.any_append, List.getD_eq_getElem?_getD, List.getElem?_eq_getElem h, Option.getD_some]
  simp
/-- A letter as a text. -/
def letB (n : Nat) : ByteArray := ⟨#[UInt8.ofNat (97 + n)]⟩
theorem letB_list (n : Nat) : (letB n).data.toList = [UInt8.ofNat (97 + n)] := rfl
theorem letB_size (n : Nat) : (letB n).size = 1 := rfl
theorem enc_letter (n : Nat) (h : n < 26) : Utf8.encode (97 + (n : Int)) = letB n := by
  unfold letB
  have hv : Utf8.valid (97 + (n : Int)) = true := by
    unfold Utf8.valid
    simp
    omega
  unfold Utf8.encode
  have ht : (97 + (n : Int)).toNat = 97 + n := by omega
  simp only [hv, if_true, ht]
  rw [if_pos (by omega)]
end Go.Proofs.Ytbickkphiofmlaa
