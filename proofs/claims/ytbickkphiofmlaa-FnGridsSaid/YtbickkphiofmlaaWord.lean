/-
  Plain facts on words, and the model's contracts of chapter 4.
-/
import Derived.Test.YtbickkphiofmlaaKit
import Derived.Test.YtbickkphiofmlaaModC
import Derived.WalkKit
import Derived.WalkLawsBesides
import Derived.WalkSpells
import Derived.BigQuiet
namespace Go.Proofs.Ytbickkphiofmlaa
open Go.RowKit

theorem size_list (s : ByteArray) : s.data.toList.length = s.size := by rw [Array.length_toList]; rfl
theorem str_ext {s t : ByteArray} (h : s.data.toList = t.data.toList) : s = t := by
  cases s; cases t
  simp only [ByteArray.mk.injEq]
  exact Array.toList_inj.1 h
theorem take_snoc (s : ByteArray) (k : Nat) (h : k < s.size) : s.data.toList.take (k + 1) = s.data.toList.take k ++ [s[k]] := by
  rw [List.take_succ_eq_append_getElem (by simpa using h)]; rfl
theorem byte_mem (s : ByteArray) (k : Nat) (h : k < s.size) : s[k] ∈ s.data.toList := by
  show s.data[k] ∈ s.data.toList
  simp

/-- A letter. -/
def isL (b : UInt8) : Prop := 97 ≤ b.toNat ∧ b.toNat ≤ 122
instance (b : UInt8) : Decidable (isL b) := inferInstanceAs (Decidable (_ ∧ _))
/-- A word. -/
def isW (s : ByteArray) : Bool := decide (1 ≤ s.size ∧ s.size ≤ 8 ∧ ∀ b ∈ s.data.toList, isL b)
theorem isW_not {s : ByteArray} {k : Nat} (h : k < s.size) (hn : ¬ isL s[k]) : isW s = false := decide_eq_false (fun hw => hn (hw.2.2 _ (byte_mem s k h)))

end Go.Proofs.Ytbickkphiofmlaa
