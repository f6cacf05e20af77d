/-
  Contracts of the draws of chapter 4: texts of at most ten bytes.
-/
import Derived.Test.YtmhgejljjjmejaaDoorDraw
import Derived.Test.YtmhgejljjjmejaaDoorWordP
namespace Go.Proofs.YtmhgejljjjmejaaDoor
open Go.RowKit

/-- A text of at most n bytes. -/
def Txt (n : Nat) (v : Value) : Prop := ∃ z : ByteArray, z.size ≤ n ∧ v = .string z
def words4 : List ByteArray := [⟨#[99, 97, 116]⟩, ⟨#[97, 99, 116]⟩, ⟨#[116, 97, 99]⟩, ⟨#[97, 114, 99]⟩, ⟨#[99, 97, 114]⟩, ⟨#[101, 114, 97]⟩, ⟨#[97, 114, 101]⟩, ⟨#[101, 97, 114]⟩, ⟨#[97, 116, 101]⟩, ⟨#[116, 101, 97]⟩, ⟨#[101, 97, 116]⟩, ⟨#[115, 101, 97]⟩, ⟨#[116, 97, 114]⟩, ⟨#[114, 97, 116]⟩, ⟨#[97, 114, 116]⟩, ⟨#[97, 110, 116]⟩, ⟨#[116, 97, 110]⟩, ⟨#[110, 101, 116]⟩, ⟨#[116, 101, 110]⟩, ⟨#[114, 101, 115, 116]⟩, ⟨#[116, 114, 101, 101]⟩, ⟨#[115, 116, 97, 114]⟩, ⟨#[114, 97, 116, 115]⟩, ⟨#[97, 114, 116, 115]⟩, ⟨#[101, 97, 115, 116]⟩, ⟨#[115, 101, 97, 116]⟩, ⟨#[116, 101, 97, 115]⟩, ⟨#[110, 101, 116, 115]⟩, ⟨#[116, 101, 110, 115]⟩, ⟨#[115, 101, 110, 116]⟩, ⟨#[116, 114, 97, 99, 101]⟩, ⟨#[114, 101, 97, 99, 116]⟩, ⟨#[99, 114, 97, 116, 101]⟩, ⟨#[115, 116, 97, 114, 101]⟩, ⟨#[116, 101, 97, 114, 115]⟩]
theorem words4_in : ∀ z ∈ words4, z.size ≤ 5 := by decide
def any4 (z : ByteArray) : List ByteArray := [z, z, z, z, z, ⟨#[]⟩, ⟨#[65]⟩, ⟨#[97, 32, 98]⟩, ⟨#[116, 111, 111, 108, 111, 110, 103, 101, 114]⟩, ⟨#[116, 111, 111, 108, 111, 110, 103]⟩, z ++ ⟨#[63]⟩, ⟨#[122]⟩]
theorem any4_in {z : ByteArray} (hz : z.size ≤ 5) : ∀ y ∈ any4 z, y.size ≤ 10 := by
  intro y hy
  simp only [any4, List.mem_cons, List.not_mem_nil, or_false] at hy
  have h9 : (z ++ ⟨#[63]⟩).size = z.size + 1 := by simp [ByteArray.size_append]; rfl
  rcases hy with rfl | rfl | rfl | rfl | rfl | rfl | rfl | rfl | rfl | rfl | rfl | rfl <;> first | omega | decide
/-- Two texts. -/
def Txts (w : World) (e : Ending) (w' : World) : Prop :=
  ∃ x y : ByteArray, x.size ≤ 10 ∧ y.size ≤ 10 ∧ e = .returned (.tuple #[.string x, .string y]) ∧ Below w.heap.size w w'
end Go.Proofs.YtmhgejljjjmejaaDoor
