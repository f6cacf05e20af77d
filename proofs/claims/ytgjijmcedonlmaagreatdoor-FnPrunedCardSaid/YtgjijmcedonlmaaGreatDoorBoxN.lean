/-
  Rows of rows of strings as the exact laws' walks take them: a row of rows with its bounds, marked, held, kept.
-/
import Derived.Test.YtgjijmcedonlmaaGreatDoorNest
namespace Go.Proofs.YtgjijmcedonlmaaGreatDoor
open Go.RowKit

theorem ReadsN.form {B : Nat} {W : World} {v : Value} {L : List (List ByteArray)} (h : ReadsN B W v L) : ∃ a0 cap, v = .slice a0 L.length cap := by
  obtain ⟨-, a0, cap, e, -⟩ := h.cells
  exact ⟨a0, cap, e⟩
theorem ReadsN.count {B : Nat} {W : World} {v : Value} {L : List (List ByteArray)} (h : ReadsN B W v L) : L.length ≤ 9223372036854775807 := h.cells.1
/-- A row of rows of the call's own, with bounds. -/
structure BoxN (W : World) (base top : Nat) (v : Value) (L : List (List ByteArray)) : Prop where
  own : OwnT W base top v L
  top_le : top ≤ W.heap.size
  few : L.length ≤ 1048576
  short : ∀ m ∈ L, m.length ≤ 1048576
theorem BoxN.later {W W' : World} {base top : Nat} {v : Value} {L : List (List ByteArray)} (h : BoxN W base top v L) (hb : Below W.heap.size W W') : BoxN W' base top v L :=
  ⟨h.own.later h.top_le hb, Nat.le_trans h.top_le hb.size, h.few, h.short⟩
theorem readsN_own {W : World} {base top : Nat} {v : Value} {L : List (List ByteArray)} (h : BoxN W base top v L) (_ : 0 = 0) (_ : 0 ≤ 1) : ReadsN W.heap.size W v L :=
  h.own.reads (by have := h.few; omega) (fun m hm => by have := h.short m hm; omega)
theorem BoxN.keptS {W W' : World} {base top : Nat} {v : Value} {L : List (List ByteArray)} {row : Option Nat} (h : BoxN W base top v L) (hg : W.grownBy W' row) (ap : ∀ k, row = some k → k < base ∨ top ≤ k) : BoxN W' base top v L :=
  ⟨h.own.kept fun k h1 h2 => hg.block k (by have := h.top_le; omega) (fun e => by have := ap k e.symm; omega), Nat.le_trans h.top_le hg.size, h.few, h.short⟩
theorem BoxN.keptN {W W' : World} {base top b t : Nat} {v : Value} {L : List (List ByteArray)} (h : BoxN W base top v L) (hg : KeptOut b t W W') (ap : t ≤ base ∨ top ≤ b) : BoxN W' base top v L :=
  ⟨h.own.kept fun k h1 h2 => hg.block k (by have := h.top_le; omega) (by omega), Nat.le_trans h.top_le hg.size, h.few, h.short⟩
theorem apNN {W W' : World} {base top t : Nat} {v u : Value} {L M : List (List ByteArray)} (h : BoxN W base top v L) (_ : BoxN W' W.heap.size t u M) : top ≤ W.heap.size := h.top_le
theorem apNS {W W' : World} {base top n s : Nat} {e : TypeId} {v u : Value} {L : List (List ByteArray)} {xs : List Value} (h : BoxN W base top v L) (o : W'.ownsRow W.heap.size e s u n xs) : ∀ k, u.ownBlock = some k → k < base ∨ top ≤ k :=
  fun k e => .inr (Nat.le_trans h.top_le (o.lt k e).1)
theorem apSN {W W' : World} {base top n s : Nat} {e : TypeId} {v u : Value} {L : List (List ByteArray)} {xs : List Value} (o : W.ownsRow base e s u n xs) (_ : BoxN W' W.heap.size top v L) : ∀ k, u.ownBlock = some k → k < W.heap.size ∨ top ≤ k :=
  fun k e => .inl (o.lt k e).2
theorem below_markN {B base top : Nat} {a w w' : World} {v : Value} {L : List (List ByteArray)} (h : Below B a w) (hg : KeptOut base top w w') (_ : BoxN w base top v L) (hB : B ≤ base) (hw : B ≤ w.heap.size) : Below B a w' := hg.below h hB hw
theorem szN_all {l : Int} {L : List (List ByteArray)} (h : ∀ m ∈ L, (m.length : Int) ≤ l ∧ ∀ z ∈ m, (z.size : Int) ≤ l) (hl : l ≤ 1048576) : ∀ m ∈ L, m.length ≤ 1048576 ∧ ∀ z ∈ m, z.size ≤ 1048576 :=
  fun m hm => ⟨by have := (h m hm).1; omega, fun z hz => by have := (h m hm).2 z hz; omega⟩
end Go.Proofs.YtgjijmcedonlmaaGreatDoor
