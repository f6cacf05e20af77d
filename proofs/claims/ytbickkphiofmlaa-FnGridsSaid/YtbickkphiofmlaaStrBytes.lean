/-
  The bytes of a string, as numbers, and what '[]byte(s)' makes.
-/
import Derived.Test.YtbickkphiofmlaaKit
import Derived.Lib.ConvBytes
namespace Go.Proofs.Ytbickkphiofmlaa
open Go.RowKit

/-- The bytes of a string, as numbers. -/
def bytesI (s : ByteArray) : List Int := s.data.toList.map fun b => (b.toNat : Int)
theorem bytesI_length (s : ByteArray) : (bytesI s).length = s.size := by unfold bytesI; rw [List.length_map, Array.length_toList]; rfl
theorem bytesI_byte (s : ByteArray) : ∀ z ∈ bytesI s, 0 ≤ z ∧ z ≤ 255 := by
  intro z hz
  obtain ⟨b, -, rfl⟩ := List.mem_map.1 hz
  have := b.toNat_lt
  omega
theorem conv_below (w : World) (e : TypeId) (s : ByteArray) : Below w.heap.size w (Lib.bytesWorld w e s) :=
  ⟨rfl, rfl, rfl, by rw [Lib.bytesWorld_size]; omega, fun k hk => Lib.bytesWorld_at_old w e s k hk⟩
theorem reads_conv (w : World) (e : TypeId) (s : ByteArray) (h : s.size ≤ 140737488355328) : Reads (Lib.bytesWorld w e s).heap.size (Lib.bytesWorld w e s) (.slice (some ⟨w.heap.size, 0, none⟩) s.size (grownCap w s.size 0 e)) .u8 (bytesI s) := by
  have h1 := grownCap_ge w s.size 0 e
  have h2 := grownCap_le_maxLen w s.size 0 e (by unfold maxLen; omega)
  unfold maxLen at h2
  refine ⟨by rw [bytesI_length]; omega, _, _, by rw [bytesI_length], ⟨(fun e => by cases e), by rw [bytesI_length]; omega, by omega⟩, fun j hj => ?_⟩
  rw [bytesI_length] at hj
  refine ⟨w.heap.size, 0, rfl, by rw [Lib.bytesWorld_size]; omega, ?_⟩
  rw [Nat.zero_add, Lib.bytesWorld_cell w e s j hj]
  have hj' : j < s.data.toList.length := by rw [Array.length_toList]; exact hj
  unfold bytesI
  rw [List.getD_eq_getElem?_getD, List.getD_eq_getElem?_getD, List.getElem?_map, List.getElem?_eq_getElem hj']
  rfl
end Go.Proofs.Ytbickkphiofmlaa
