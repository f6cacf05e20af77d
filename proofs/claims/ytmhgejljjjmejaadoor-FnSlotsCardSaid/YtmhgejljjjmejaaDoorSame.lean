/-
  Contracts of the exact laws' helpers on slices of integers, as Bytes has them on byte slices: toIntS, eqIntS, markIntS, heldIntS.
  Contracts of the laws' own helpers sameBytes and sameInts at two slices that read the same, of big and at; and what a slice of bytes that came in gives the cursor.
-/
import Derived.Test.YtmhgejljjjmejaaDoorProg
import Derived.Test.YtmhgejljjjmejaaDoorKit
import Derived.Test.YtmhgejljjjmejaaDoorDraw
import Derived.WalkKit
import Derived.WalkLawsBesides
import Derived.WalkSpells
import Derived.WalkSmall
import Derived.OwnWalk
import Derived.Outline
import Derived.Lib.Hide
import Derived.Lib.SmallJoins
import Derived.Laws.AppendOwn
import Derived.Laws.OwnMore
import Derived.RegionTactic
import Derived.ChangeAlike
namespace Go.Proofs.YtmhgejljjjmejaaDoor
open Go.RowKit

theorem infoInt : (Tryd.prog.info? 3).map (fun i => (i.zero, i.size, i.bytes)) = some (some (.int .i64 0), 1, 8) := by kernel_rfl

/-- The numbers that markIntS writes. -/
def imarks (k0 : Int) (n : Nat) : List Int := (List.range n).map fun (i : Nat) => (k0 + (i : Int))
theorem imarks_length (k0 : Int) (n : Nat) : (imarks k0 n).length = n := by simp [imarks]
theorem imarks_getD (k0 : Int) (n j : Nat) (h : j < n) : (imarks k0 n).getD j 0 = (k0 + (j : Int)) := by simp [imarks, List.getD, h]
/-- What has been imarked after j rounds. -/
def imarked (k0 : Int) (xs : List Value) (j : Nat) : List Value := (imarks k0 j).map (Value.int .i64) ++ xs.drop j
theorem imarked_set (k0 : Int) (xs : List Value) (j : Nat) (h : j < xs.length) : (imarked k0 xs j).set j (.int .i64 ((k0 + (j : Int)))) = imarked k0 xs (j + 1) := by
  unfold imarked
  rw [List.set_append_right _ _ (by simp [imarks_length])]
  have e2 : j - ((imarks k0 j).map (Value.int .i64)).length = 0 := by simp [imarks_length]
  rw [e2, List.drop_eq_getElem_cons h, List.set_cons_zero]
  simp [imarks, List.range_succ]
theorem imarked_at (k0 : Int) (xs : List Value) (j : Nat) : (imarked k0 xs j)[j]? = xs[j]? := by
  unfold imarked
  rw [List.getElem?_append_right (by simp [imarks_length])]
  simp [imarks_length, List.getElem?_drop]
theorem imarked_full (k0 : Int) (xs : List Value) : imarked k0 xs xs.length = (imarks k0 xs.length).map (Value.int .i64) := by
  unfold imarked; simp

end Go.Proofs.YtmhgejljjjmejaaDoor
namespace Go.Proofs.YtmhgejljjjmejaaDoor
open Go.RowKit

theorem code_of_reads {B n cap : Nat} {W : World} {a0 : Option Addr} {l : List Int} (h : Reads B W (.slice a0 n cap) .u8 l) (hn : n = l.length) (hb : ∀ z ∈ l, 0 ≤ z ∧ z ≤ 255) : Code B W a0 n := by
  obtain ⟨h1, a1, c1, e, -, hc⟩ := h
  cases e
  refine ⟨by omega, fun j hj => ?_⟩
  obtain ⟨b, off, e1, e2, e3⟩ := hc j (by omega)
  have hz := hb (l.getD j 0) (by
    have : l.getD j 0 = l[j]'(by omega) := by simp [List.getD, show j < l.length by omega]
    rw [this]
    exact List.getElem_mem _)
  exact ⟨b, off, _, e1, e2, e3, hz.1, hz.2⟩
theorem code_later {n : Nat} {w w' : World} {a0 : Option Addr} (h : Code w.heap.size w a0 n) (hb : Below w.heap.size w w') : Code w'.heap.size w' a0 n :=
  ⟨h.1, fun j hj => by
    obtain ⟨b, off, x, e1, e2, e3, e4⟩ := h.2 j hj
    exact ⟨b, off, x, e1, Nat.lt_of_lt_of_le e2 hb.size, (hb.cell (p := ⟨b, off + j, none⟩) e2).trans e3, e4⟩⟩
theorem own_slice {w : World} {base n : Nat} {e : TypeId} {v : Value} {xs : List Value} (h : w.ownsRow base e 1 v n xs) : ∃ a cap, v = .slice a n cap := by
  rcases h.2 with ⟨rfl, rfl⟩ | ⟨g, cap, cur, rfl, _⟩
  · exact ⟨_, _, rfl⟩
  · exact ⟨_, _, rfl⟩
theorem big_yes (n cap : Nat) (a0 : Option Addr) (h : 1048576 < n) (w : World) :
    Calls Tryd.prog 4 #[.slice a0 n cap] w fun e w' => e = .returned (.bool true) ∧ w = w' := by
  have d : decide ((1048576 : Int) < n) = true := decide_eq_true (by omega)
  go_enter Tryd.func4, Tryd.ntmps4
  go_wp2
  go_ret
  exact ⟨rfl, rfl⟩
theorem big_no (n cap : Nat) (a0 : Option Addr) (h : n ≤ 1048576) (w : World) :
    Calls Tryd.prog 4 #[.slice a0 n cap] w fun e w' => e = .returned (.bool false) ∧ w = w' := by
  have d : decide ((1048576 : Int) < n) = false := decide_eq_false (by omega)
  go_enter Tryd.func4, Tryd.ntmps4
  go_wp2
  go_ret
  exact ⟨rfl, rfl⟩
/-- A part of a slice reads as the part of its list. -/
theorem reads_sub {B : Nat} {W : World} {b off n cap lo m : Nat} {k : IntKind} {l : List Int} (h : Reads B W (.slice (some ⟨b, off, none⟩) n cap) k l) (hm : lo + m ≤ l.length) : Reads B W (.slice (some ⟨b, off + lo, none⟩) m (cap - lo)) k ((l.drop lo).take m) := by
  obtain ⟨h1, a1, c1, e, hcap, hc⟩ := h
  cases e
  have hlen : ((l.drop lo).take m).length = m := by simp; omega
  have hc1 := hcap.2.1
  have hc2 := hcap.2.2
  refine ⟨by omega, some ⟨b, off + lo, none⟩, cap - lo, by rw [hlen], ⟨(fun e => by cases e), by omega, by omega⟩, fun j hj => ?_⟩
  rw [hlen] at hj
  obtain ⟨b', off', e1, e2, e3⟩ := hc (lo + j) (by omega)
  cases e1
  refine ⟨b, off + lo, rfl, e2, ?_⟩
  rw [Nat.add_assoc, e3]
  simp [List.getD, hj]
end Go.Proofs.YtmhgejljjjmejaaDoor
