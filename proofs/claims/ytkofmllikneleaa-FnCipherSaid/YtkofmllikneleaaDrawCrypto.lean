/-
  Contracts of the draws of chapter 3 that the laws call.
-/
import Derived.Test.YtkofmllikneleaaDrawMem
import Derived.Test.YtkofmllikneleaaDrawStr
namespace Go.Proofs.Ytkofmllikneleaa
open Go.RowKit

def odd3 : List Int := [-1, 2147483647, 2147483648]
theorem odd3_in : ∀ z ∈ odd3, (-1 : Int) ≤ z ∧ z ≤ 2147483648 := by decide
def low3 : List Int := [0, 1, 2147483646]
theorem low3_in : ∀ z ∈ low3, (-1 : Int) ≤ z ∧ z ≤ 2147483648 := by decide
theorem mul3_in {y z : Int} (h0 : 0 ≤ y) (h1 : y ≤ 999999) (h2 : 0 ≤ z) (h3 : z ≤ 1999) : 0 ≤ y * z ∧ y * z ≤ 1998998001 :=
  ⟨Int.mul_nonneg h0 h2, Int.le_trans (Int.mul_le_mul h1 h3 h2 (by decide)) (by decide)⟩

set_option maxHeartbeats 800000 in
theorem w3_any (B : Nat) (w : World) (c n cap : Nat) (a0 : Option Addr) (hk : Cur B w c n cap a0) :
    Calls Try.prog 34 #[.pointer (some ⟨c, 0, none⟩)] w (Gives (IntIn (-1) 2147483648) B w c n cap a0) := by
  go_enter Try.func34, Try.ntmps34
  go_wp2_with (go_at_call 45; refine (once_any 10 (by decide) (by decide) B _ c n cap a0 hk).mono ?_; rintro e w1 ⟨v, ⟨b, rfl⟩, rfl, hk1, hg1⟩; clear hk)
  · go_wp2_with (go_at_call 46; refine (int_any (-1) 2147483648 w1.heap.size 3 (by decide) (by decide) B _ c n cap a0 (hk1.alloc _) hk1.ne (fun j hj => row_ints w1 odd3 3 (-1) 2147483648 odd3_in j hj)).mono ?_; rintro e w2 ⟨v, ⟨x, hx0, hx1, rfl⟩, rfl, hk2, hg2⟩; clear hk1)
    go_ret
    exact ⟨_, ⟨x, hx0, hx1, rfl⟩, rfl, hk2, gtrans hg1 (gtrans (World.grownBy_alloc w1 _ _) hg2)⟩
  · go_wp2_with (go_at_call 45; refine (once_any 4 (by decide) (by decide) B _ c n cap a0 hk1).mono ?_; rintro e w2 ⟨v, ⟨b, rfl⟩, rfl, hk2, hg2⟩; clear hk1)
    · go_wp2_with (go_at_call 46; refine (int_any (-1) 2147483648 w2.heap.size 3 (by decide) (by decide) B _ c n cap a0 (hk2.alloc _) hk2.ne (fun j hj => row_ints w2 low3 3 (-1) 2147483648 low3_in j hj)).mono ?_; rintro e w3 ⟨v, ⟨x, hx0, hx1, rfl⟩, rfl, hk3, hg3⟩; clear hk2)
      go_ret
      exact ⟨_, ⟨x, hx0, hx1, rfl⟩, rfl, hk3, gtrans (gtrans hg1 hg2) (gtrans (World.grownBy_alloc w2 _ _) hg3)⟩
    · go_wp2_with (go_at_call 36; refine (below_any 1000000 (by decide) (by decide) B _ c n cap a0 hk2).mono ?_; rintro e w3 ⟨v, ⟨y, hy0, hy1, rfl⟩, rfl, hk3, hg3⟩; clear hk2)
      go_wp2_with (go_at_call 36; refine (below_any 2000 (by decide) (by decide) B _ c n cap a0 hk3).mono ?_; rintro e w4 ⟨v, ⟨z, hz0, hz1, rfl⟩, rfl, hk4, hg4⟩; clear hk3; obtain ⟨hm0, hm1⟩ := mul3_in hy0 (by omega) hz0 (by omega))
      go_ret
      exact ⟨_, ⟨_, by omega, by omega, rfl⟩, rfl, hk4, gtrans (gtrans (gtrans hg1 hg2) hg3) hg4⟩

/-- What a draw of words leaves. -/
def WordsDrawn (B : Nat) (w : World) (c n cap : Nat) (a0 : Option Addr) (e : Ending) (w' : World) : Prop :=
  ∃ (L : List Int) (v : Value), L.length ≤ 4 ∧ (∀ z ∈ L, -1 ≤ z ∧ z ≤ 2147483648) ∧ e = .returned v ∧ w'.ownsRow w.heap.size 3 1 v L.length (L.map (Value.int .i64)) ∧ Cur B w' c n cap a0 ∧ w.grownBy w' (some c)
theorem infoI3 : (Try.prog.info? 3).map (fun i => (i.zero, i.size, i.bytes)) = some (some (.int .i64 0), 1, 8) := by kernel_rfl

/-- What DrawEncrypt leaves. -/
def DRE (w : World) (e : Ending) (w' : World) : Prop :=
  ∃ (x : Int) (D : List Int) (u : Value), -1 ≤ x ∧ x ≤ 2147483648 ∧ D.length ≤ 7 ∧ (∀ z ∈ D, 0 ≤ z ∧ z ≤ 255) ∧ e = .returned (.tuple #[.int .i64 x, u]) ∧ w'.ownsRow w.heap.size 5 1 u D.length (D.map (Value.int .u8)) ∧ Below w.heap.size w w'
set_option maxHeartbeats 800000 in
theorem dre_any (n cap : Nat) (a0 : Option Addr) (w : World) (hc : Code w.heap.size w a0 n) (hn : n ≤ 1048576) :
    Calls Try.prog 11 #[.slice a0 n cap] w (DRE w) := by
  go_enter Try.func11, Try.ntmps11
  go_wp2_with (first | (go_at_call 33; refine (new_any n cap a0 _ hc hn).mono ?_; rintro e w1 ⟨c, rfl, hk, hb⟩) | (go_at_call 34; refine (w3_any _ _ c n cap a0 hk).mono ?_; rintro e w2 ⟨v, ⟨x, hx0, hx1, rfl⟩, rfl, hk2, hg2⟩; clear hk) | (go_at_call 36; refine (below_any 8 (by decide) (by decide) _ _ c n cap a0 hk2).mono ?_; rintro e w3 ⟨v, ⟨y, hy0, hy1, rfl⟩, rfl, hk3, hg3⟩; obtain ⟨k, rfl⟩ : ∃ k : Nat, y = (k : Int) := ⟨y.toNat, by omega⟩; clear hk2) | (go_at_call 35; refine (bytes_any k (by omega) _ _ c n cap a0 hk3).mono ?_; rintro e w4 ⟨D, v4, hD0, hD1, hDB, rfl, ho4, hk4, hg4⟩; clear hk3))
  have hs := hb.size
  have hs2 := hg2.size
  have hs3 := hg3.size
  go_ret2
  exact ⟨x, D, v4, hx0, hx1, by omega, hDB, rfl, own_wide ho4 (by omega), hb.trans (below_grown2 (gtrans (gtrans hg2 hg3) hg4) hk4.1 hb.size)⟩

/-- What DrawKeyedHash leaves. -/
def DKH (w : World) (e : Ending) (w' : World) : Prop :=
  ∃ (x : Int) (L : List Int) (u : Value), -1 ≤ x ∧ x ≤ 2147483648 ∧ L.length ≤ 4 ∧ (∀ z ∈ L, -1 ≤ z ∧ z ≤ 2147483648) ∧ e = .returned (.tuple #[.int .i64 x, u]) ∧ w'.ownsRow w.heap.size 3 1 u L.length (L.map (Value.int .i64)) ∧ Below w.heap.size w w'
/-- What DrawDeriveFromString leaves. -/
def DDS (w : World) (e : Ending) (w' : World) : Prop :=
  ∃ (x : Int) (t : ByteArray), -1 ≤ x ∧ x ≤ 2147483648 ∧ t.size ≤ 4 ∧ e = .returned (.tuple #[.int .i64 x, .string t]) ∧ Below w.heap.size w w'
def texts3 : List ByteArray := [⟨#[]⟩, ⟨#[97]⟩, ⟨#[98]⟩, ⟨#[97, 98]⟩, ⟨#[110, 101, 119, 115]⟩, ⟨#[120]⟩]
theorem texts3_in : ∀ z ∈ texts3, z.size ≤ 4 := by decide
end Go.Proofs.Ytkofmllikneleaa
