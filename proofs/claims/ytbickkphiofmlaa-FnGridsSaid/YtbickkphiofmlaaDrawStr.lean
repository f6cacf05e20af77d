/-
  Contract of spec.l1Str: one of the list's texts; only the cursor's own block is written.
-/
import Derived.Test.YtbickkphiofmlaaDraw
namespace Go.Proofs.Ytbickkphiofmlaa
open Go.RowKit

theorem str_any (P : ByteArray → Prop) (g m : Nat) (h1 : 1 ≤ m) (h2 : m ≤ 65536) (B : Nat) (w : World) (c n cap : Nat) (a0 : Option Addr) (hk : Cur B w c n cap a0) (hgc : g ≠ c)
    (hl : ∀ j, j < m → ∃ z : ByteArray, P z ∧ w.cell? ⟨g, j, none⟩ = some (.string z)) :
    Calls Try.prog 41 #[.pointer (some ⟨c, 0, none⟩), .slice (some ⟨g, 0, none⟩) m m] w (Gives (fun v => ∃ z, P z ∧ v = .string z) B w c n cap a0) := by
  have HL := Lib.hid hl
  clear hl
  go_enter Try.func41, Try.ntmps41
  go_wp2_with (go_at_call 45; refine (below_any _ (by omega) (by omega) B _ c n cap a0 hk).mono ?_; rintro e w1 ⟨v, ⟨x, hx0, hx1, rfl⟩, rfl, hk1, hg1⟩; clear hk; obtain ⟨r, rfl⟩ : ∃ r : Nat, x = (r : Int) := ⟨x.toNat, by omega⟩; obtain ⟨z, hz0, hz⟩ := HL.out r (by omega); have hz2 := hg1.cell hz (by simpa using hgc))
  go_ret
  exact ⟨_, ⟨z, hz0, rfl⟩, rfl, hk1, hg1⟩
end Go.Proofs.Ytbickkphiofmlaa
