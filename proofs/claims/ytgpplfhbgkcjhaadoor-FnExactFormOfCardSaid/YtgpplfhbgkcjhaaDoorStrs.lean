/-
  Contracts of the exact laws' helpers on slices of strings: markText, toStringS, eqStringS, szStringS, markStringS, heldStringS.
-/
import Derived.Test.YtgpplfhbgkcjhaaDoorProg
import Derived.Test.YtgpplfhbgkcjhaaDoorVals
import Derived.WalkKit
import Derived.WalkLawsBesides
import Derived.WalkSpells
import Derived.WalkSmall
import Derived.OwnWalk
import Derived.Outline
import Derived.Lib.Hide
import Derived.Lib.SmallJoins
import Derived.Laws.AppendOwn
import Derived.Laws.OwnMore
import Derived.Laws.BytesArg
import Derived.Deep.RegionHeld3
import Derived.RegionTactic
import Derived.ChangeAlike
namespace Go.Proofs.YtgpplfhbgkcjhaaDoor
open Go.RowKit

theorem infoStr : (Tryd.prog.info? 9).map (fun i => (i.zero, i.size, i.bytes)) = some (some (.string ⟨#[]⟩), 1, 16) := by kernel_rfl

/-- The slice v reads as the strings l. -/
def ReadsS (B : Nat) (W : World) (v : Value) (l : List ByteArray) : Prop := ReadsV B W v 1 l.length (l.map Value.string)
theorem ReadsS.cells {B : Nat} {W : World} {v : Value} {l : List ByteArray} (h : ReadsS B W v l) :
    l.length ≤ 9223372036854775807 ∧ ∃ a0 cap, v = .slice a0 l.length cap ∧ CapOk a0 l.length cap ∧ ∀ j, j < l.length → ∃ b off, a0 = some ⟨b, off, none⟩ ∧ b < B ∧ W.cell? ⟨b, off + j, none⟩ = some (.string (l.getD j ⟨#[]⟩)) := by
  obtain ⟨h0, -, a0, cap, rfl, hc, h⟩ := h
  refine ⟨h0, a0, cap, rfl, hc, fun j hj => ?_⟩
  obtain ⟨b, off, e1, e2, e3⟩ := h j (by omega)
  exact ⟨b, off, e1, e2, by rw [e3]; simp [List.getD, hj]⟩
theorem ReadsS.now {W W' : World} {v : Value} {l : List ByteArray} (h : ReadsS W.heap.size W v l) (hb : Below W.heap.size W W') : ReadsS W'.heap.size W' v l := ReadsV.now h hb
theorem readsS_own {W : World} {base n : Nat} {e : TypeId} {v : Value} {l : List ByteArray} (h : W.ownsRow base e 1 v n (l.map Value.string)) (hn : n = l.length) (hl : l.length ≤ 140737488355328) : ReadsS W.heap.size W v l := by
  subst hn
  exact readsV_own h hl

/-- What has been copied after k rounds. -/
def copiedS (l : List ByteArray) (k : Nat) : List Value := (l.take k).map Value.string ++ (List.replicate (l.length - k) (⟨#[]⟩ : ByteArray)).map Value.string
theorem copiedS_set (l : List ByteArray) (k : Nat) (h : k < l.length) : (copiedS l k).set k (.string (l.getD k ⟨#[]⟩)) = copiedS l (k + 1) := by
  unfold copiedS
  have e : l.length - k = (l.length - (k + 1)) + 1 := by omega
  rw [List.set_append_right _ _ (by simp; omega), e, List.replicate_succ, List.map_cons]
  have e2 : k - ((l.take k).map Value.string).length = 0 := by simp; omega
  rw [e2, List.set_cons_zero, List.take_succ_eq_append_getElem h, List.map_append]
  simp [List.getD, h]
theorem copiedS_full (l : List ByteArray) : copiedS l l.length = l.map Value.string := by
  unfold copiedS; simp
theorem copiedS_zero (l : List ByteArray) : (madeCells #[Value.string ⟨#[]⟩] (l.length * 1)).toList = copiedS l 0 := by
  refine List.ext_getElem (by simp [madeCells, copiedS]) fun i h1 h2 => ?_
  simp [madeCells, copiedS, Nat.mod_one]
theorem copiedS_at (l : List ByteArray) (k : Nat) (h : k < l.length) : (copiedS l k)[k]? = some (.string ⟨#[]⟩) := by
  unfold copiedS
  rw [List.getElem?_append_right (by simp; omega)]
  have e2 : k - ((l.take k).map Value.string).length = 0 := by simp; omega
  rw [e2]
  have e : l.length - k = (l.length - (k + 1)) + 1 := by omega
  rw [e, List.replicate_succ]
  simp

/-- What szStringS tells. -/
def SzS (l : List ByteArray) (left r : Int) : Prop := -1 ≤ r ∧ (0 ≤ r → r ≤ left ∧ (l.length : Int) ≤ left ∧ ∀ z ∈ l, (z.size : Int) ≤ left)
/-- A digit's byte. -/
def dig (k : Nat) : UInt8 := UInt8.ofNat (48 + k % 10)
theorem dig_nat (k : Nat) : ((dig k).toNat : Int) = 48 + (k : Int) % 10 := by
  have h : (dig k).toNat = 48 + k % 10 := by
    unfold dig
    rw [UInt8.toNat_ofNat']
    omega
  omega
/-- What markText writes for a number. -/
def mtail (k : Nat) : ByteArray := if k = 0 then ⟨#[]⟩ else mtail (k / 10) ++ ⟨#[dig k]⟩
  termination_by k
  decreasing_by omega
theorem mtail_pos {k : Nat} (h : 0 < k) : mtail k = mtail (k / 10) ++ ⟨#[dig k]⟩ := by
  rw [mtail, if_neg (by omega)]
theorem mtail_zero : mtail 0 = ⟨#[]⟩ := by rw [mtail, if_pos rfl]
def mtext (k : Nat) : ByteArray := (⟨#[109]⟩ : ByteArray) ++ mtail k
theorem conv_one (w : World) (x : Int) (c : UInt8) (h : x = (c.toNat : Int)) :
    (convert 22 9 (.slice (some ⟨w.heap.size, 0, none⟩) 1 1)).run Tryd.prog (w.alloc (.cells #[.int .u8 x] 5)) = .ok (.string ⟨#[c]⟩) (w.alloc (.cells #[.int .u8 x] 5)) := by
  subst h
  have h9 := run_convert_bytes_arg (P := Tryd.prog) (w.alloc (.cells #[.int .u8 (c.toNat : Int)] 5)) 22 5 Tryd.underlying22 Tryd.underlying5 w.heap.size 0 1 1 [(c.toNat : Int)] rfl (fun i hi => by
    obtain rfl : i = 0 := by omega
    rw [World.cell?_alloc_mark]
    rfl) 9 Tryd.underlying9
  rw [show strOfNums [(c.toNat : Int)] = ⟨#[c]⟩ by simp [strOfNums]] at h9
  exact h9
theorem str_nil (s : ByteArray) : s ++ (⟨#[]⟩ : ByteArray) = s := ByteArray.append_empty
theorem nil_str (s : ByteArray) : (⟨#[]⟩ : ByteArray) ++ s = s := ByteArray.empty_append
/-- The texts that markStringS writes. -/
def smarks (k0 n : Nat) : List ByteArray := (List.range n).map fun i => mtext (k0 + i)
theorem smarks_length (k0 n : Nat) : (smarks k0 n).length = n := by simp [smarks]
theorem smarks_getD (k0 n j : Nat) (h : j < n) : (smarks k0 n).getD j ⟨#[]⟩ = mtext (k0 + j) := by simp [smarks, List.getD, h]
/-- What has been marked after j rounds. -/
def smarked (k0 : Nat) (xs : List Value) (j : Nat) : List Value := (smarks k0 j).map Value.string ++ xs.drop j
theorem smarked_set (k0 : Nat) (xs : List Value) (j : Nat) (h : j < xs.length) : (smarked k0 xs j).set j (.string (mtext (k0 + j))) = smarked k0 xs (j + 1) := by
  unfold smarked
  rw [List.set_append_right _ _ (by simp [smarks_length])]
  have e2 : j - ((smarks k0 j).map Value.string).length = 0 := by simp [smarks_length]
  rw [e2, List.drop_eq_getElem_cons h, List.set_cons_zero]
  simp [smarks, List.range_succ]
theorem smarked_at (k0 : Nat) (xs : List Value) (j : Nat) : (smarked k0 xs j)[j]? = xs[j]? := by
  unfold smarked
  rw [List.getElem?_append_right (by simp [smarks_length])]
  simp [smarks_length, List.getElem?_drop]
theorem smarked_full (k0 : Nat) (xs : List Value) : smarked k0 xs xs.length = (smarks k0 xs.length).map Value.string := by
  unfold smarked; simp
theorem grown_of_below {w w' : World} (h : Below w.heap.size w w') (r : Option Nat) : w.grownBy w' r := ⟨h.os, h.tape, h.output, h.size, fun k hk _ => h.block k hk⟩

end Go.Proofs.YtgpplfhbgkcjhaaDoor
