/-
  The model's contracts of chapter 3 in the form that the exact laws' walks ask: s_F, and u_F: the relation fixes the answer.
-/
import Derived.Test.YtkofmllikneleaaDoorDerive
import Derived.Test.YtkofmllikneleaaDoorEqInts
namespace Go.Proofs.YtkofmllikneleaaDoor
open Go.RowKit

theorem u_Hash {l : List Int} {r r' : Int} (h : r = hash l) (h' : r' = hash l) : r = r' := h.trans h'.symm
theorem s_Hash (v : Value) (l : List Int) (w : World) (hR : Reads w.heap.size w v .i64 l) (_hB : ∀ z ∈ l, -9223372036854775808 ≤ z ∧ z ≤ 9223372036854775807) (hl : l.length ≤ 1048576) :
    Calls Tryd.prog 34 #[v] w fun e w' => ∃ r, r = hash l ∧ e = .returned (.int .i64 r) ∧ Below w.heap.size w w' :=
  (sh_any l (by omega) v w hR).mono fun _ _ ⟨h1, h2⟩ => ⟨_, rfl, h1, h2⟩
theorem u_KeyedHash {s : Int} {l : List Int} {r r' : Int} (h : r = khash s l) (h' : r' = khash s l) : r = r' := h.trans h'.symm
theorem s_KeyedHash (s : Int) (v : Value) (l : List Int) (w : World) (_lo : -9223372036854775808 ≤ s) (_hi : s ≤ 9223372036854775807) (hR : Reads w.heap.size w v .i64 l) (_hB : ∀ z ∈ l, -9223372036854775808 ≤ z ∧ z ≤ 9223372036854775807) (hl : l.length ≤ 1048576) :
    Calls Tryd.prog 26 #[.int .i64 s, v] w fun e w' => ∃ r, r = khash s l ∧ e = .returned (.int .i64 r) ∧ Below w.heap.size w w' :=
  (skh_any s l (by omega) v w hR).mono fun _ _ ⟨h1, h2⟩ => ⟨_, rfl, h1, h2⟩
theorem u_IsValidKey {s : Int} {r r' : Bool} (h : r = decide (1 ≤ s ∧ s ≤ 2147483646)) (h' : r' = decide (1 ≤ s ∧ s ≤ 2147483646)) : r = r' := h.trans h'.symm
theorem u_BytesToInts {l L L' : List Int} (h : L = b2i l) (h' : L' = b2i l) : L = L' := h.trans h'.symm
theorem s_BytesToInts (v : Value) (l : List Int) (w : World) (hR : Reads w.heap.size w v .u8 l) (hB : ∀ z ∈ l, 0 ≤ z ∧ z ≤ 255) (hl : l.length ≤ 1048576) :
    Calls Tryd.prog 27 #[v] w fun e w' => ∃ L v', L = b2i l ∧ L.length ≤ 16777216 ∧ e = .returned v' ∧ w'.ownsRow w.heap.size 3 1 v' L.length (L.map (Value.int .i64)) ∧ Below w.heap.size w w' :=
  (sb2i_any l (by omega) hB v w hR).mono fun _ _ ⟨v', h1, h2, h3⟩ => ⟨_, v', rfl, by unfold b2i; simp; omega, h1, h2, h3⟩
theorem u_Encrypt {s : Int} {l L L' : List Int} (h : L = encL s l) (h' : L' = encL s l) : L = L' := h.trans h'.symm
theorem u_Decrypt {s : Int} {l L L' : List Int} (h : L = decL s l) (h' : L' = decL s l) : L = L' := h.trans h'.symm
theorem u_DeriveFromString {s : Int} {t : ByteArray} {r r' : Int} (h : r = derive s t) (h' : r' = derive s t) : r = r' := h.trans h'.symm
theorem s_DeriveFromString (s : Int) (t : ByteArray) (w : World) (_lo : -9223372036854775808 ≤ s) (_hi : s ≤ 9223372036854775807) (ht : t.size ≤ 1048576) :
    Calls Tryd.prog 14 #[.int .i64 s, .string t] w fun e w' => ∃ r, r = derive s t ∧ e = .returned (.int .i64 r) ∧ Below w.heap.size w w' :=
  (sder_any s t ht w).mono fun _ _ ⟨h1, h2⟩ => ⟨_, rfl, h1, h2⟩
end Go.Proofs.YtkofmllikneleaaDoor
