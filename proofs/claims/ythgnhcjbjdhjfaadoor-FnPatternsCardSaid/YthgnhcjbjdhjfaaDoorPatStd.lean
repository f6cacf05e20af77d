/-
  The model's contracts of chapter 6 in the form that the exact laws' walks ask.
-/
import Derived.Test.YthgnhcjbjdhjfaaDoorPatB
namespace Go.Proofs.YthgnhcjbjdhjfaaDoor
open Go.RowKit

theorem u_IsPattern {x : ByteArray} {r r' : Bool} (h : r = isP x) (h' : r' = isP x) : r = r' := h.trans h'.symm
theorem s_IsPattern (x : ByteArray) (w : World) (_hx : x.size ≤ 1048576) :
    Calls Tryd.prog 104 #[.string x] w fun e w' => ∃ r, r = isP x ∧ e = .returned (.bool r) ∧ Below w.heap.size w w' :=
  (sip_same x w).mono fun _ _ ⟨h1, h2⟩ => ⟨_, rfl, h1, h2 ▸ Below.refl _ _⟩
theorem u_FitsPattern {x y : ByteArray} {r r' : Bool} (h : r = fitsP x y) (h' : r' = fitsP x y) : r = r' := h.trans h'.symm
theorem s_FitsPattern (x y : ByteArray) (w : World) (_hx : x.size ≤ 1048576) (_hy : y.size ≤ 1048576) :
    Calls Tryd.prog 82 #[.string x, .string y] w fun e w' => ∃ r, r = fitsP x y ∧ e = .returned (.bool r) ∧ Below w.heap.size w w' :=
  (sfits_any x y w).mono fun _ _ ⟨h1, h2⟩ => ⟨_, rfl, h1, h2⟩
theorem u_WordsFitting {ws : List ByteArray} {x : ByteArray} {L L' : List ByteArray} (h : L = fitW ws x) (h' : L' = fitW ws x) : L = L' := h.trans h'.symm
theorem s_WordsFitting (u : Value) (ws : List ByteArray) (x : ByteArray) (w : World) (hR' : ReadsS w.heap.size w u ws) (hl' : ws.length ≤ 1048576) (_hS' : ∀ z ∈ ws, z.size ≤ 1048576) (_hx : x.size ≤ 1048576) :
    Calls Tryd.prog 57 #[u, .string x] w fun e w' => ∃ L v', L = fitW ws x ∧ L.length ≤ 16777216 ∧ e = .returned v' ∧ w'.ownsRow w.heap.size 9 1 v' L.length (L.map Value.string) ∧ Below w.heap.size w w' :=
  (swf_any ws x (by omega) u w hR').mono fun _ _ ⟨v', h1, h2, h3⟩ => ⟨_, v', rfl, Nat.le_trans (fitW_length ws x) (by omega), h1, h2, h3⟩
theorem u_MeetPatterns {x y : ByteArray} {r r' : ByteArray} {b b' : Bool} (h : r = (meetP x y).1 ∧ b = (meetP x y).2) (h' : r' = (meetP x y).1 ∧ b' = (meetP x y).2) : r = r' ∧ b = b' := ⟨h.1.trans h'.1.symm, h.2.trans h'.2.symm⟩
theorem u_CountOpen {x : ByteArray} {r r' : Int} (h : r = openN x) (h' : r' = openN x) : r = r' := h.trans h'.symm
theorem u_LettersAt {ws : List ByteArray} {t : Int} {r r' : ByteArray} (h : r = lettersA ws t) (h' : r' = lettersA ws t) : r = r' := h.trans h'.symm
theorem s_LettersAt (u : Value) (ws : List ByteArray) (t : Int) (w : World) (hR' : ReadsS w.heap.size w u ws) (hl' : ws.length ≤ 1048576) (_hS' : ∀ z ∈ ws, z.size ≤ 1048576) (_lo : -9223372036854775808 ≤ t) (_hi : t ≤ 9223372036854775807) :
    Calls Tryd.prog 20 #[u, .int .i64 t] w fun e w' => ∃ r, r = lettersA ws t ∧ e = .returned (.string r) ∧ Below w.heap.size w w' :=
  (slet_any ws t (by omega) u w hR' _hS').mono fun _ _ ⟨h1, h2⟩ => ⟨_, rfl, h1, h2⟩
end Go.Proofs.YthgnhcjbjdhjfaaDoor
