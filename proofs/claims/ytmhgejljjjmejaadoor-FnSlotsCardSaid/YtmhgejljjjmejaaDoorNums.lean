/-
  Contracts: for every int spec.FormatInt returns the bytes of Lib.itoa, and so does impl.FormatInt where the library table uint64pow10 lies as its initialiser lays it; nothing that was there is changed.
-/
import Derived.Test.YtmhgejljjjmejaaDoorProg
import Derived.Test.YtmhgejljjjmejaaDoorShelf
import Derived.WalkKit
import Derived.WalkLawsBesides
import Derived.WalkSpells
import Derived.Outline
import Derived.Lib.Hide
import Derived.Lib.ItoaMem
import Derived.Laws.BytesArg
import Derived.Lib.SmallJoins
import Derived.Lib.LaidTab
import Derived.Lib.AppendIntMem
import Derived.Lib.ItoaLen
namespace Go.Proofs.YtmhgejljjjmejaaDoor
open Go.RowKit

theorem one_byte (c : Int) (w : World) : (convert 22 9 (.slice (some ⟨w.heap.size, 0, none⟩) 1 1)).run Tryd.prog (w.alloc (.cells #[.int .u8 c] 5)) = .ok (.string ⟨#[UInt8.ofNat c.toNat]⟩) (w.alloc (.cells #[.int .u8 c] 5)) := by
  have := run_convert_bytes_arg (P := Tryd.prog) (w.alloc (.cells #[.int .u8 c] 5)) 22 5 Tryd.underlying22 Tryd.underlying5 w.heap.size 0 1 1 [c] rfl (fun i hi => by
    obtain rfl : i = 0 := by omega
    simp) 9 Tryd.underlying9
  exact this

/-- The digits of u, none for 0. -/
def digs (u : Nat) : List UInt8 := if u = 0 then [] else Lib.decDigits u
theorem digs_zero : digs 0 = [] := rfl
theorem digs_pos {u : Nat} (h : 0 < u) : digs u = digs (u / 10) ++ [UInt8.ofNat (48 + u % 10)] := by
  unfold digs
  rw [if_neg (by omega)]
  by_cases h1 : u < 10
  · rw [Lib.decDigits_one h1, if_pos (by omega), Nat.mod_eq_of_lt h1]; rfl
  · rw [if_neg (by omega), Lib.decDigits, dif_neg h1]

theorem digs_snoc_length {n k : Nat} {l : List UInt8} (h : digs n = digs k ++ l) (h2 : n ≤ 9223372036854775808) : l.length ≤ 19 := by
  have h3 : (digs n).length ≤ 19 := by
    unfold digs
    split
    · simp
    · rw [Lib.decDigits_length]
      have h4 : ∀ (j m : Nat), m < 10 ^ (j + 1) → Lib.nDigits m ≤ j + 1 := by
        intro j
        induction j with
        | zero => intro m hm; rw [Lib.nDigits_small (by simpa using hm)]; omega
        | succ j ih =>
          intro m hm
          by_cases hs : m < 10
          · rw [Lib.nDigits_small hs]; omega
          · rw [Lib.nDigits_big hs]
            have := ih (m / 10) (by rw [Nat.pow_succ] at hm; omega)
            omega
      exact h4 18 n (by omega)
  rw [h, List.length_append] at h3
  omega
theorem byte_snoc (k : Nat) (l : List UInt8) : ((⟨#[48 + UInt8.ofNat (k % 10)]⟩ : ByteArray) ++ ⟨l.toArray⟩) = ⟨(UInt8.ofNat (48 + k % 10) :: l).toArray⟩ := by
  rw [ByteArray.mk_append_mk, UInt8.ofNat_add]
  simp
theorem ret_str {l l' : List UInt8} (h : l = l') : Ending.returned (.string ⟨l.toArray⟩) = .returned (.string ⟨l'.toArray⟩) := by rw [h]

theorem byte_cons (b : UInt8) (l : List UInt8) : ((⟨#[b]⟩ : ByteArray) ++ ⟨l.toArray⟩) = ⟨(b :: l).toArray⟩ := by
  rw [ByteArray.mk_append_mk]
  simp
theorem ret_minus {l l' : List UInt8} (h : l = l') : Ending.returned (.string ((⟨#[45]⟩ : ByteArray) ++ ⟨l.toArray⟩)) = .returned (.string ⟨(45 :: l').toArray⟩) := by
  rw [h, ByteArray.mk_append_mk]
  simp
theorem itoa_zero : Lib.itoa 0 = [48] := by
  unfold Lib.itoa
  rw [if_neg (by decide)]
  exact Lib.decDigits_one (by decide)
theorem gPow : Tryd.prog.globalNamed "internal/strconv.uint64pow10" = some 0 := by kernel_rfl

/-- ████ impl.FormatInt (strconv.Itoa) at every int, where the library's table lies. -/
theorem impl_format (n : Int) (h0 : -9223372036854775808 ≤ n) (h1 : n ≤ 9223372036854775807) (w : World) (htab : Lib.TabIs Tryd.prog w "internal/strconv.uint64pow10" .u64 Lib.pow10Tab) :
    Calls Tryd.prog 24 #[.int .i64 n] w fun e w' => e = .returned (.string ⟨(Lib.itoa n).toArray⟩) ∧ Below w.heap.size w w' := by
  go_enter Tryd.func24, Tryd.ntmps24
  go_wp2_with (go_at_call 42; refine (Tryd.strconv_Itoa n h0 h1 _ htab).mono ?_; rintro e w' ⟨rfl, k, os, rfl⟩)
  go_ret
  exact ⟨rfl, Lib.below_grow _ _ (Nat.le_refl _) _ _⟩
end Go.Proofs.YtmhgejljjjmejaaDoor
