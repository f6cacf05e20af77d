/-
  The model's contracts of chapter 3 in the form that the exact laws' walks ask: s_F, and u_F: the relation fixes the answer.
-/
import Derived.Test.YtkofmllikneleaaDerive
import Derived.Test.YtkofmllikneleaaEqInts
namespace Go.Proofs.Ytkofmllikneleaa
open Go.RowKit

theorem u_Hash {l : List Int} {r r' : Int} (h : r = hash l) (h' : r' = hash l) : r = r' := h.trans h'.symm
theorem s_Hash (v : Value) (l : List Int) (w : World) (hR : Reads w.heap.size w v .i64 l) (_hB : ∀ z ∈ l, -9223372036854775808 ≤ z ∧ z ≤ 9223372036854775807) (hl : l.length ≤ 1048576) :
    Calls Try.prog 15 #[v] w fun e w' => ∃ r, r = hash l ∧ e = .returned (.int .i64 r) ∧ Below w.heap.size w w' :=
  (sh_any l (by omega) v w hR).mono fun _ _ ⟨h1, h2⟩ => ⟨_, rfl, h1, h2⟩
theorem u_KeyedHash {s : Int} {l : List Int} {r r' : Int} (h : r = khash s l) (h' : r' = khash s l) : r = r' := h.trans h'.symm
theorem s_KeyedHash (s : Int) (v : Value) (l : List Int) (w : World) (_lo : -9223372036854775808 ≤ s) (_hi : s ≤ 9223372036854775807) (hR : Reads w.heap.size w v .i64 l) (_hB : ∀ z ∈ l, -9223372036854775808 ≤ z ∧ z ≤ 9223372036854775807) (hl : l.length ≤ 1048576) :
    Calls Try.prog 19 #[.int .i64 s, v] w fun e w' => ∃ r, r = khash s l ∧ e = .returned (.int .i64 r) ∧ Below w.heap.size w w' :=
  (skh_any s l (by omega) v w hR).mono fun _ _ ⟨h1, h2⟩ => ⟨_, rfl, h1, h2⟩
theorem u_IsValidKey {s : Int} {r r' : Bool} (h : r = decide (1 ≤ s ∧ s ≤ 2147483646)) (h' : r' = decide (1 ≤ s ∧ s ≤ 2147483646)) : r = r' := h.trans h'.symm
theorem s_IsValidKey (s : Int) (w : World) (_lo : -9223372036854775808 ≤ s) (_hi : s ≤ 9223372036854775807) :
    Calls Try.prog 21 #[.int .i64 s] w fun e w' => ∃ r, r = decide (1 ≤ s ∧ s ≤ 2147483646) ∧ e = .returned (.bool r) ∧ Below w.heap.size w w' := by
  obtain ⟨r, hr⟩ : ∃ r, r = decide (1 ≤ s ∧ s ≤ 2147483646) := ⟨_, rfl⟩
  have HC := Lib.hid (lin_any s 1 2147483646)
  rw [← hr] at HC
  have HR := Lib.hid hr
  clear hr
  go_enter Try.func21, Try.ntmps21
  go_wp2_with (go_at_call 43; refine (HC.out _).mono ?_; rintro e w2 ⟨rfl, rfl⟩)
  go_ret
  exact ⟨r, HR.out, rfl, Below.refl _ _⟩
theorem u_BytesToInts {l L L' : List Int} (h : L = b2i l) (h' : L' = b2i l) : L = L' := h.trans h'.symm
theorem s_BytesToInts (v : Value) (l : List Int) (w : World) (hR : Reads w.heap.size w v .u8 l) (hB : ∀ z ∈ l, 0 ≤ z ∧ z ≤ 255) (hl : l.length ≤ 1048576) :
    Calls Try.prog 23 #[v] w fun e w' => ∃ L v', L = b2i l ∧ L.length ≤ 16777216 ∧ e = .returned v' ∧ w'.ownsRow w.heap.size 3 1 v' L.length (L.map (Value.int .i64)) ∧ Below w.heap.size w w' :=
  (sb2i_any l (by omega) hB v w hR).mono fun _ _ ⟨v', h1, h2, h3⟩ => ⟨_, v', rfl, by unfold b2i; simp; omega, h1, h2, h3⟩
theorem u_Encrypt {s : Int} {l L L' : List Int} (h : L = encL s l) (h' : L' = encL s l) : L = L' := h.trans h'.symm
theorem s_Encrypt (s : Int) (v : Value) (l : List Int) (w : World) (_lo : -9223372036854775808 ≤ s) (_hi : s ≤ 9223372036854775807) (hR : Reads w.heap.size w v .u8 l) (hB : ∀ z ∈ l, 0 ≤ z ∧ z ≤ 255) (hl : l.length ≤ 1048576) :
    Calls Try.prog 30 #[.int .i64 s, v] w fun e w' => ∃ L v', L = encL s l ∧ L.length ≤ 16777216 ∧ e = .returned v' ∧ w'.ownsRow w.heap.size 5 1 v' L.length (L.map (Value.int .u8)) ∧ Below w.heap.size w w' :=
  (senc_any s l (by omega) hB v w hR).mono fun _ _ ⟨v', h1, h2, h3⟩ => ⟨_, v', rfl, by rw [encL_length]; omega, h1, by rw [encL_length]; exact h2, h3⟩
theorem u_Decrypt {s : Int} {l L L' : List Int} (h : L = decL s l) (h' : L' = decL s l) : L = L' := h.trans h'.symm
theorem s_Decrypt (s : Int) (v : Value) (l : List Int) (w : World) (_lo : -9223372036854775808 ≤ s) (_hi : s ≤ 9223372036854775807) (hR : Reads w.heap.size w v .u8 l) (hB : ∀ z ∈ l, 0 ≤ z ∧ z ≤ 255) (hl : l.length ≤ 1048576) :
    Calls Try.prog 32 #[.int .i64 s, v] w fun e w' => ∃ L v', L = decL s l ∧ L.length ≤ 16777216 ∧ e = .returned v' ∧ w'.ownsRow w.heap.size 5 1 v' L.length (L.map (Value.int .u8)) ∧ Below w.heap.size w w' :=
  (sdec_any s l (by omega) hB v w hR).mono fun _ _ ⟨v', h1, h2, h3⟩ => ⟨_, v', rfl, by rw [decL_length]; omega, h1, by rw [decL_length]; exact h2, h3⟩
theorem u_DeriveFromString {s : Int} {t : ByteArray} {r r' : Int} (h : r = derive s t) (h' : r' = derive s t) : r = r' := h.trans h'.symm
end Go.Proofs.Ytkofmllikneleaa
