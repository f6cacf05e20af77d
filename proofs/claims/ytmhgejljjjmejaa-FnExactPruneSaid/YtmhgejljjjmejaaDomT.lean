/-
  The model's contracts of chapter 12: Support, l12Copy.
-/
import Derived.Test.YtmhgejljjjmejaaDomS
import Derived.Test.YtmhgejljjjmejaaAppW
import Derived.Test.YtmhgejljjjmejaaNestW
namespace Go.Proofs.Ytmhgejljjjmejaa
open Go.RowKit

/-- The boxed grid's cells at later worlds. -/
theorem gbox_keep (w : World) (r c : Int) (s : ByteArray) (t : TypeId) : ∀ w', Below (w.alloc (.cells #[.int .i64 r, .int .i64 c, .string s] t)).heap.size (w.alloc (.cells #[.int .i64 r, .int .i64 c, .string s] t)) w' → w'.cell? ⟨w.heap.size, 0, none⟩ = some (.int .i64 r) ∧ w'.cell? ⟨w.heap.size, 1, none⟩ = some (.int .i64 c) ∧ w'.cell? ⟨w.heap.size, 2, none⟩ = some (.string s) :=
  fun w' h => ⟨(h.cell (p := ⟨w.heap.size, 0, none⟩) (by simp)).trans (by simp), (h.cell (p := ⟨w.heap.size, 1, none⟩) (by simp)).trans (by simp), (h.cell (p := ⟨w.heap.size, 2, none⟩) (by simp)).trans (by simp)⟩
theorem xfor_cross (g : Int × Int × ByteArray) {slot : Nat} {x : ByteArray} (hl : (x.size : Int) = ((slG g).getD slot none_Slot).2.2.2) (hs : slot < (slG g).length) : XFor (crossS g) (slG g).length slot x.size := by
  intro y hy
  obtain ⟨i, j, p, r, q, rfl, -, hi, hj, hp, -, hr, -⟩ := cross_facts hy
  have h1 := (len_at hi).2
  have h2 := (len_at hj).2
  have h3 := (len_at hs).1
  exact ⟨i, j, p, r, q, rfl, hi, hj, by omega, by omega, fun e => by subst e; omega, fun e => by subst e; omega⟩
end Go.Proofs.Ytmhgejljjjmejaa
