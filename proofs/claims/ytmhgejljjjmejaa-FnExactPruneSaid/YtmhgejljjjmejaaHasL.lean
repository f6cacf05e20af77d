/-
  has of the program's sets of letters.
-/
import Derived.Test.YtmhgejljjjmejaaLset
namespace Go.Proofs.Ytmhgejljjjmejaa
open Go.RowKit

theorem hasL_any (S k : Nat) (hS : S < 67108864) (hk : k < 26) (w : World) :
    Calls Try.prog 69 #[.int .u64 (S : Int), .int .u8 (k : Int)] w fun e w' => e = .returned (.bool (S.testBit k)) ∧ w = w' := by
  have hb : (bits .and .u64 ((S : Int) / 2 ^ k) 1 == 1) = S.testBit k := by
    have hd : S / 2 ^ k < 18446744073709551616 := Nat.lt_of_le_of_lt (Nat.div_le_self _ _) (by omega)
    rw [show (S : Int) / 2 ^ k = ((S / 2 ^ k : Nat) : Int) by simp, show (1 : Int) = ((1 : Nat) : Int) by rfl, bits_and_u64_nat _ 1 hd (by decide), Nat.and_one_is_mod, Nat.testBit_eq_decide_div_mod_eq]
    generalize S / 2 ^ k % 2 = X
    by_cases e : X = 1
    · rw [e]; rfl
    · rw [decide_eq_false e]; exact beq_eq_false_iff_ne.2 (by omega)
  rw [← hb]
  clear hb hS
  go_enter Try.func69, Try.ntmps69
  go_wp2
  go_ret
  exact ⟨rfl, rfl⟩
end Go.Proofs.Ytmhgejljjjmejaa
