/-
  Contract of spec.l1Bytes: what is drawn is bytes, and only the cursor's own block and new memory are written.
-/
import Derived.Test.YtbickkphiofmlaaDrawTwo
import Derived.Test.YtbickkphiofmlaaBytes
import Derived.Test.YtbickkphiofmlaaKit
namespace Go.Proofs.Ytbickkphiofmlaa
open Go.RowKit

theorem Cur.lt {B c n cap : Nat} {w : World} {a0 : Option Addr} (hk : Cur B w c n cap a0) : c < w.heap.size := by
  obtain ⟨hB, hc, i, h, hk⟩ := hk
  exact (Array.getElem?_eq_some_iff.1 hk).1
theorem own_not {w : World} {base n c : Nat} {e : TypeId} {v : Value} {xs : List Value} (h : w.ownsRow base e 1 v n xs) (hc : c < base) : v.ownBlock = none ∨ v.ownBlock ≠ some c := by
  cases hv : v.ownBlock with
  | none => exact .inl rfl
  | some k =>
    right
    intro e
    have h1 := (h.lt k hv).1
    cases e
    omega
/-- The cursor stays where an owned row is written. -/
theorem Cur.kept_own {B c n cap base m : Nat} {w w' : World} {a0 : Option Addr} {e : TypeId} {v : Value} {xs : List Value} (hk : Cur B w c n cap a0) (hg : w.grownBy w' v.ownBlock) (ho : w.ownsRow base e 1 v m xs) (hc : c < base) (_hB : B ≤ base) : Cur B w' c n cap a0 := by
  have hlt := hk.lt
  obtain ⟨hBc, hco, i, h, hk⟩ := hk
  refine ⟨hBc, ⟨hco.1, fun j hj => ?_⟩, i, h, ?_⟩
  · obtain ⟨b, off, x, e1, e2, e3, e4⟩ := hco.2 j hj
    exact ⟨b, off, x, e1, e2, hg.cell e3 (fun e => by have := (ho.lt b e.symm).1; omega), e4⟩
  · exact (hg.block c hlt (fun e => by have := (ho.lt c e.symm).1; omega)).trans hk
theorem grown_own {a w w' : World} {c base m : Nat} {e : TypeId} {v : Value} {xs : List Value} (h : a.grownBy w (some c)) (hg : w.grownBy w' v.ownBlock) (ho : w.ownsRow base e 1 v m xs) (hB : a.heap.size ≤ base) : a.grownBy w' (some c) :=
  ⟨hg.os.trans h.os, hg.tape.trans h.tape, hg.output.trans h.output, Nat.le_trans h.size hg.size, fun j hj hn => (hg.block j (Nat.lt_of_lt_of_le hj h.size) (fun e => by have := (ho.lt j e.symm).1; omega)).trans (h.block j hj hn)⟩

/-- What a draw of bytes leaves. -/
def BytesDrawn (B lo hi : Nat) (w : World) (c n cap : Nat) (a0 : Option Addr) (e : Ending) (w' : World) : Prop :=
  ∃ (L : List Int) (v : Value), lo ≤ L.length ∧ L.length ≤ hi ∧ (∀ z ∈ L, 0 ≤ z ∧ z ≤ 255) ∧ e = .returned v ∧ w'.ownsRow w.heap.size 5 1 v L.length (L.map (Value.int .u8)) ∧ Cur B w' c n cap a0 ∧ w.grownBy w' (some c)

theorem below_grown2 {B c : Nat} {w w' : World} (h : w.grownBy w' (some c)) (hB : B ≤ c) (hw : B ≤ w.heap.size) : Below B w w' :=
  ⟨h.os, h.tape, h.output, h.size, fun k hk => h.block k (by omega) (by simp; omega)⟩

end Go.Proofs.Ytbickkphiofmlaa
