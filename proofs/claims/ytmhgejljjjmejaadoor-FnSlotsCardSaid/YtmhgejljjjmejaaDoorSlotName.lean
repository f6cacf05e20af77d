/-
  Contracts: the name of a slot is its number in decimal digits and "a" or "d"; SlotName of the model and of the program return it.
-/
import Derived.Test.YtmhgejljjjmejaaDoorNums
import Derived.Test.YtmhgejljjjmejaaDoorSlotPure
import Derived.Stop.Joined
namespace Go.Proofs.YtmhgejljjjmejaaDoor
open Go.RowKit

/-- The table of powers of ten lies where the library laid it. -/
def PT (w : World) : Prop := Lib.TabIs Tryd.prog w "internal/strconv.uint64pow10" .u64 Lib.pow10Tab
theorem PT.later {w w' : World} (h : PT w) (b : Below w.heap.size w w') : PT w' := Joins.tab_stays gPow h b (Nat.le_refl _)

/-- The name of a slot. -/
def nameL (n : Int) (d : Bool) : List UInt8 := Lib.itoa n ++ [if d then 100 else 97]
def nameB (n : Int) (d : Bool) : ByteArray := ⟨(nameL n d).toArray⟩
theorem nameB_down (n : Int) : (⟨(Lib.itoa n).toArray⟩ : ByteArray) ++ ⟨#[100]⟩ = nameB n true := by
  unfold nameB nameL
  rw [ByteArray.mk_append_mk]; simp
theorem nameB_across (n : Int) : (⟨(Lib.itoa n).toArray⟩ : ByteArray) ++ ⟨#[97]⟩ = nameB n false := by
  unfold nameB nameL
  rw [ByteArray.mk_append_mk]; simp
theorem nameB_size (n : Int) (h0 : -9223372036854775808 ≤ n) (h1 : n ≤ 9223372036854775807) (d : Bool) : (nameB n d).size ≤ 22 := by
  have := Lib.itoa_length_le n h0 h1
  show (nameL n d).toArray.size ≤ 22
  unfold nameL
  simp
  omega
theorem itoa_size (n : Int) (h0 : -9223372036854775808 ≤ n) (h1 : n ≤ 9223372036854775807) : (⟨(Lib.itoa n).toArray⟩ : ByteArray).size ≤ 21 := by
  have := Lib.itoa_length_le n h0 h1
  show (Lib.itoa n).toArray.size ≤ 21
  simpa using this

set_option maxHeartbeats 400000 in
/-- The program's SlotName. -/
theorem iname_any (x0 : Int) (x1 : Bool) (x2 x3 : Int) (h0 : -9223372036854775808 ≤ x0) (h1 : x0 ≤ 9223372036854775807) (w : World) (hV : PT w) :
    Calls Tryd.prog 11 #[.agg #[.int .i64 x0, .bool x1, .int .i64 x2, .int .i64 x3]] w fun e w' => e = .returned (.string (nameB x0 x1)) ∧ Below w.heap.size w w' := by
  have hz := Lib.itoa_length_le x0 h0 h1
  cases x1 <;> (
    go_enter Tryd.func11, Tryd.ntmps11
    go_wp2_with (go_at_call 24; refine (impl_format x0 h0 h1 _ (hV.later ((Below.refl _ _).alloc (Nat.le_refl _) _))).mono ?_; rintro e w1 ⟨rfl, hb⟩)
    go_ret
    first | rw [nameB_down] | rw [nameB_across]
    exact ⟨rfl, ((Below.refl _ _).alloc (Nat.le_refl _) _).trans (hb.mono (by simp))⟩)

theorem u_SlotName {x : Int × Bool × Int × Int} {r r' : ByteArray} (h : r = nameB x.1 x.2.1) (h' : r' = nameB x.1 x.2.1) : r = r' := h.trans h'.symm
theorem i_SlotName (x0 : Int) (x1 : Bool) (x2 x3 : Int) (w : World) (hK : (-9223372036854775808 ≤ x0 ∧ x0 ≤ 9223372036854775807) ∧ True ∧ (-9223372036854775808 ≤ x2 ∧ x2 ≤ 9223372036854775807) ∧ (-9223372036854775808 ≤ x3 ∧ x3 ≤ 9223372036854775807)) (hV : PT w) :
    Calls Tryd.prog 11 #[.agg #[.int .i64 x0, .bool x1, .int .i64 x2, .int .i64 x3]] w fun e w' => ∃ q, q = nameB (x0, x1, x2, x3).1 (x0, x1, x2, x3).2.1 ∧ e = .returned (.string q) ∧ Below w.heap.size w w' :=
  (iname_any x0 x1 x2 x3 hK.1.1 hK.1.2 w hV).mono fun _ _ ⟨h1, h2⟩ => ⟨_, rfl, h1, h2⟩
end Go.Proofs.YtmhgejljjjmejaaDoor
