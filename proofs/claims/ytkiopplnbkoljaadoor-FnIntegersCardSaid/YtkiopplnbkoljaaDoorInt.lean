/-
  Contracts of what the law FnIntegers calls: the three draws, impl.ParseInt, impl.CeilDiv and impl.Mod at every argument.
-/
import Derived.Test.YtkiopplnbkoljaaDoorDrawTwo
import Derived.Test.YtkiopplnbkoljaaDoorParse
import Derived.Lib.ItoaLen
namespace Go.Proofs.YtkiopplnbkoljaaDoor
open Go.RowKit

theorem below_grown {B c : Nat} {w w' : World} (h : w.grownBy w' (some c)) (hB : B ≤ c) (hw : B ≤ w.heap.size) : Below B w w' :=
  ⟨h.os, h.tape, h.output, h.size, fun k hk => h.block k (by omega) (by simp; omega)⟩
theorem Code.later {n : Nat} {w w' : World} {a0 : Option Addr} (h : Code w.heap.size w a0 n) (hb : Below w.heap.size w w') : Code w'.heap.size w' a0 n :=
  ⟨h.1, fun j hj => by
    obtain ⟨b, off, x, e1, e2, e3, e4⟩ := h.2 j hj
    exact ⟨b, off, x, e1, Nat.lt_of_lt_of_le e2 hb.size, (hb.cell (p := ⟨b, off + j, none⟩) e2).trans e3, e4⟩⟩
theorem Gives.below {P : Value → Prop} {B c n cap : Nat} {w w' : World} {a0 : Option Addr} {e : Ending} (h : Gives P B w c n cap a0 e w') (hw : B ≤ w.heap.size) : Below B w w' := by
  obtain ⟨v, _, _, hk, hg⟩ := h
  exact below_grown hg hk.1 hw

/-- What a draw leaves. -/
def Drawn (P : Value → Prop) (w : World) (e : Ending) (w' : World) : Prop := ∃ v, P v ∧ e = .returned v ∧ Below w.heap.size w w'

theorem df_any (n cap : Nat) (a0 : Option Addr) (w : World) (hc : Code w.heap.size w a0 n) (hn : n ≤ 1048576) :
    Calls Tryd.prog 9 #[.slice a0 n cap] w (Drawn AnyInt w) := by
  go_enter Tryd.func9, Tryd.ntmps9
  go_wp2_with (first | (go_at_call 16; refine (new_any n cap a0 _ hc hn).mono ?_; rintro e w1 ⟨c, rfl, hk, hb⟩) | (go_at_call 22; refine (one_any _ _ c n cap a0 hk).mono ?_; rintro e w2 ⟨v, ⟨x, hx0, hx1, rfl⟩, rfl, hk2, hg2⟩))
  go_ret
  exact ⟨_, ⟨x, hx0, hx1, rfl⟩, rfl, hb.trans (below_grown hg2 hk2.1 hb.size)⟩

theorem dc_any (n cap : Nat) (a0 : Option Addr) (w : World) (hc : Code w.heap.size w a0 n) (hn : n ≤ 1048576) :
    Calls Tryd.prog 11 #[.slice a0 n cap] w (Drawn (fun v => ∃ x y : Int, LO ≤ x ∧ x ≤ HI ∧ LO ≤ y ∧ y ≤ HI ∧ v = .tuple #[.int .i64 x, .int .i64 y]) w) := by
  go_enter Tryd.func11, Tryd.ntmps11
  go_wp2_with (first | (go_at_call 16; refine (new_any n cap a0 _ hc hn).mono ?_; rintro e w1 ⟨c, rfl, hk, hb⟩) | (go_at_call 22; refine (one_any _ _ c n cap a0 hk).mono ?_; rintro e w2 ⟨v, ⟨x, hx0, hx1, rfl⟩, rfl, hk2, hg2⟩; clear hk))
  go_wp2_with (go_at_call 22; refine (one_any _ _ c n cap a0 hk2).mono ?_; rintro e w3 ⟨v, ⟨y, hy0, hy1, rfl⟩, rfl, hk3, hg3⟩)
  go_ret2
  exact ⟨_, ⟨x, y, hx0, hx1, hy0, hy1, rfl⟩, rfl, hb.trans (below_grown (gtrans hg2 hg3) hk3.1 hb.size)⟩

def texts : List ByteArray := [⟨#[]⟩, ⟨#[48]⟩, ⟨#[48, 48]⟩, ⟨#[45, 49]⟩, ⟨#[48, 49]⟩, ⟨#[55]⟩, ⟨#[49, 48, 48, 48, 48, 48, 48, 48, 48, 48, 48, 48, 48]⟩, ⟨#[49, 48, 48, 48, 48, 48, 48, 48, 48, 48, 48, 48, 49]⟩, ⟨#[57, 57, 57, 57, 57, 57, 57, 57, 57, 57, 57, 57, 57, 57]⟩, ⟨#[49, 120]⟩, ⟨#[32, 49]⟩]
def Short (z : ByteArray) : Prop := z.size ≤ 100
theorem texts_short : ∀ z ∈ texts, Short z := by
  intro z hz
  have h : texts.all (fun z => decide (z.size ≤ 100)) = true := by decide
  simpa [Short] using List.all_eq_true.1 h z hz
theorem dp_any (n cap : Nat) (a0 : Option Addr) (w : World) (hc : Code w.heap.size w a0 n) (hn : n ≤ 1048576) :
    Calls Tryd.prog 7 #[.slice a0 n cap] w (Drawn (fun v => ∃ z, Short z ∧ v = .string z) w) := by
  go_enter Tryd.func7, Tryd.ntmps7
  go_wp2_with (first | (go_at_call 16; refine (new_any n cap a0 _ hc hn).mono ?_; rintro e w1 ⟨c, rfl, hk, hb⟩) | (go_at_call 17; refine (once_any 2 (by decide) (by decide) _ _ c n cap a0 hk).mono ?_; rintro e w2 ⟨v, ⟨b, rfl⟩, rfl, hk2, hg2⟩; clear hk))
  · go_wp2_with (go_at_call 18; refine (str_any Short w2.heap.size 11 (by decide) (by decide) _ _ c n cap a0 (hk2.alloc _) hk2.ne (fun j hj => row_strs w2 texts 9 Short texts_short j hj)).mono ?_; rintro e w3 ⟨v, ⟨z, hz, rfl⟩, rfl, hk3, hg3⟩)
    go_ret
    exact ⟨_, ⟨z, hz, rfl⟩, rfl, hb.trans (below_grown (gtrans hg2 (gtrans (World.grownBy_alloc w2 _ _) hg3)) hk3.1 hb.size)⟩
  · go_wp2_with (first | (go_at_call 19; refine (num_any _ _ c n cap a0 hk2).mono ?_; rintro e w3 ⟨v, ⟨x, hx0, hx1, rfl⟩, rfl, hk3, hg3⟩) | (go_at_call 14; refine (format_any x (by omega) (by omega) _).mono ?_; rintro e w4 ⟨rfl, hb4⟩))
    go_ret
    have h5 := below_grown (gtrans hg2 hg3) hk3.1 hb.size
    have h6 := hb.trans h5
    exact ⟨_, ⟨_, by unfold Short; have := Lib.itoa_length_le x (by omega) (by omega); show (Lib.itoa x).toArray.size ≤ 100; rw [List.size_toArray]; omega, rfl⟩, rfl, h6.trans (Joins.below_le hb4 h6.size)⟩
end Go.Proofs.YtkiopplnbkoljaaDoor
