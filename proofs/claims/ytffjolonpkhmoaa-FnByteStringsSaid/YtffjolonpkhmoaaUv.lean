/-
  Plain facts on varints: the groups of seven bits of a number from 0 to 1000000000000.
-/
import Derived.Laws.Bits128
namespace Go.Proofs.Ytffjolonpkhmoaa

/-- The bytes of u's varint, as numbers. -/
def enc (u : Nat) : List Int := if h : u ≤ 127 then [(u : Int)] else ((u % 128 + 128 : Nat) : Int) :: enc (u / 128)
termination_by u
decreasing_by omega
theorem enc_small {u : Nat} (h : u ≤ 127) : enc u = [(u : Int)] := by rw [enc, dif_pos h]
theorem enc_large {u : Nat} (h : ¬ u ≤ 127) : enc u = ((u % 128 + 128 : Nat) : Int) :: enc (u / 128) := by rw [enc, dif_neg h]
/-- What AppendUvarint appends. -/
def uv (n : Int) : List Int := if 0 ≤ n ∧ n ≤ 1000000000000 then enc n.toNat else []
theorem enc_length : ∀ (k u : Nat), u < 128 ^ (k + 1) → (enc u).length ≤ k + 1 := by
  intro k
  induction k with
  | zero => intro u h; rw [enc_small (by simp at h; omega)]; simp
  | succ k ih =>
    intro u h
    by_cases hs : u ≤ 127
    · rw [enc_small hs]; simp
    · rw [enc_large hs, List.length_cons]
      have := ih (u / 128) (by rw [Nat.pow_succ] at h; omega)
      omega
theorem uv_length (n : Int) : (uv n).length ≤ 6 := by
  unfold uv
  split
  · exact enc_length 5 _ (by omega)
  · simp
theorem enc_byte (u : Nat) : ∀ z ∈ enc u, 0 ≤ z ∧ z ≤ 255 := by
  induction u using Nat.strongRecOn with
  | _ u ih =>
    intro z hz
    by_cases hs : u ≤ 127
    · rw [enc_small hs] at hz; simp only [List.mem_singleton] at hz; subst hz; omega
    · rw [enc_large hs] at hz
      rcases List.mem_cons.1 hz with h | h
      · subst h; omega
      · exact ih (u / 128) (by omega) z h
theorem i64_or128 (y : Int) (h0 : 0 ≤ y) (h1 : y < 128) : bits .or .i64 y 128 = y + 128 := by
  have hc : bits .or .i64 y 128 = bits .or .i64 128 y := by simp only [bits, BitVec.or_comm]
  rw [hc, bits_join .i64 8 (by decide) (fun n a b => by rw [IntKind.wrap_i64]; omega) 7 128 y (by decide) (by decide) (by decide) h0 h1 (by omega)]
  omega
theorem group_mod (u : Nat) : bits .or .i64 (bits .and .i64 (u : Int) 127) 128 % 256 = ((u % 128 + 128 : Nat) : Int) := by
  rw [i64_and127, i64_or128 _ (by omega) (by omega)]
  omega
theorem group_byte (u : Nat) : IntKind.u8.wrap (bits .or .i64 (bits .and .i64 (u : Int) 127) 128) = ((u % 128 + 128 : Nat) : Int) := by
  rw [i64_and127, i64_or128 _ (by omega) (by omega), IntKind.wrap_u8]
  omega
end Go.Proofs.Ytffjolonpkhmoaa
