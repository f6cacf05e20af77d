/-
  Plain facts on patterns, and the model's contracts of IsPattern, FitsPattern, CountOpen.
-/
import Derived.Test.YtbickkphiofmlaaWord
namespace Go.Proofs.Ytbickkphiofmlaa
open Go.RowKit

/-- A sign of a pattern. -/
def isPL (b : UInt8) : Prop := b.toNat = 63 ∨ isL b
instance (b : UInt8) : Decidable (isPL b) := inferInstanceAs (Decidable (_ ∨ _))
/-- A pattern. -/
def isP (s : ByteArray) : Bool := decide (1 ≤ s.size ∧ s.size ≤ 8 ∧ ∀ b ∈ s.data.toList, isPL b)
theorem isP_not {s : ByteArray} {k : Nat} (h : k < s.size) (hn : ¬ isPL s[k]) : isP s = false := decide_eq_false (fun hw => hn (hw.2.2 _ (byte_mem s k h)))
theorem isP_size {s : ByteArray} (h : isP s = true) : 1 ≤ s.size ∧ s.size ≤ 8 := by
  have h9 := of_decide_eq_true h
  exact ⟨h9.1, h9.2.1⟩
/-- The sign at k fits the letter at k. -/
def fitAt (p s : ByteArray) (k : Nat) : Prop := p.data.toList.getD k 0 = 63 ∨ p.data.toList.getD k 0 = s.data.toList.getD k 0
instance (p s : ByteArray) (k : Nat) : Decidable (fitAt p s k) := inferInstanceAs (Decidable (_ ∨ _))
/-- What FitsPattern answers. -/
def fitsP (p s : ByteArray) : Bool := isP p && isW s && decide (p.size = s.size ∧ ∀ k, k < p.size → fitAt p s k)
theorem getD_byte (s : ByteArray) (k : Nat) (h : k < s.size) : s.data.toList.getD k 0 = s[k] := by
  rw [List.getD_eq_getElem?_getD, List.getElem?_eq_getElem (by rw [size_list]; exact h), Option.getD_some]
  rfl
/-- What CountOpen answers. -/
def openN (p : ByteArray) : Int := if isP p = true then ((p.data.toList.count 63 : Nat) : Int) else -1
end Go.Proofs.Ytbickkphiofmlaa
