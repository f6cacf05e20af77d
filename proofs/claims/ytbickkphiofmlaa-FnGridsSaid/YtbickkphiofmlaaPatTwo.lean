/-
  The model's contracts of WordsFitting, MeetPatterns, LettersAt.
-/
import Derived.Test.YtbickkphiofmlaaPat
import Derived.Test.YtbickkphiofmlaaWordSpec
import Derived.Test.YtbickkphiofmlaaStrs
import Derived.BigQuiet
namespace Go.Proofs.Ytbickkphiofmlaa
open Go.RowKit

theorem one_srcP (W : World) (v : Value) (t : TypeId) : ∀ j, j < 1 * 1 → ∃ b off, (some ⟨W.heap.size, 0, none⟩ : Option Addr) = some ⟨b, off, none⟩ ∧ (W.alloc (.cells #[v] t)).cell? ⟨b, off + j, none⟩ = [v][j]? := fun j hj => by
  obtain rfl : j = 0 := by omega
  exact ⟨W.heap.size, 0, rfl, by rw [World.cell?_alloc_mark]; rfl⟩
/-- What WordsFitting answers. -/
def fitW (l : List ByteArray) (p : ByteArray) : List ByteArray := l.filter (fitsP p)
theorem fitW_next (l : List ByteArray) (p : ByteArray) (k : Nat) (h : k < l.length) : fitW (l.take (k + 1)) p = fitW (l.take k) p ++ if fitsP p (l.getD k ⟨#[]⟩) = true then [l.getD k ⟨#[]⟩] else [] := by
  unfold fitW
  rw [List.take_succ_eq_append_getElem h, List.filter_append, List.getD_eq_getElem?_getD, List.getElem?_eq_getElem h, Option.getD_some]
  congr 1
  simp [List.filter_cons]
theorem fitW_length (l : List ByteArray) (p : ByteArray) : (fitW l p).length ≤ l.length := List.length_filter_le _ _

/-- Two signs that meet. -/
def okM (a b : UInt8) : Prop := a = 63 ∨ b = 63 ∨ a = b
instance (a b : UInt8) : Decidable (okM a b) := inferInstanceAs (Decidable (_ ∨ _))
def meetB (a b : UInt8) : UInt8 := if a = 63 then b else a
def meetL (p q : ByteArray) (k : Nat) : List UInt8 := (List.range k).map fun i => meetB (p.data.toList.getD i 0) (q.data.toList.getD i 0)
theorem meetL_next (p q : ByteArray) (k : Nat) : meetL p q (k + 1) = meetL p q k ++ [meetB (p.data.toList.getD k 0) (q.data.toList.getD k 0)] := by
  unfold meetL
  rw [List.range_succ, List.map_append]
  rfl
theorem meetL_length (p q : ByteArray) (k : Nat) : (meetL p q k).length = k := by simp [meetL]
def meetOk (p q : ByteArray) : Bool := isP p && isP q && decide (p.size = q.size ∧ ∀ k, k < p.size → okM (p.data.toList.getD k 0) (q.data.toList.getD k 0))
/-- What MeetPatterns answers. -/
def meetP (p q : ByteArray) : ByteArray × Bool := if meetOk p q = true then (⟨(meetL p q p.size).toArray⟩, true) else (⟨#[]⟩, false)
theorem byte63 {b : UInt8} (h : b ≠ 63) : b.toNat ≠ 63 := fun e => h (UInt8.toNat_inj.1 (by show b.toNat = 63; exact e))

end Go.Proofs.Ytbickkphiofmlaa
