/-
  Contract of DrawEndWord.
-/
import Derived.Test.YtcpojeiciaghmaaDrawList4
namespace Go.Proofs.Ytcpojeiciaghmaa
open Go.RowKit

def ends5 : List Int := [0, 3, 6, 12, 99, -1]
theorem ends5_in : ∀ z ∈ ends5, (-1 : Int) ≤ z ∧ z ≤ 99 := by decide
/-- What DrawEndWord leaves. -/
def DEW (w : World) (e : Ending) (w' : World) : Prop :=
  ∃ (L : List (ByteArray × Int × Int × Int)) (v : Value) (y : ByteArray) (x : Int), 1 ≤ L.length ∧ L.length ≤ 21 ∧ (∀ z ∈ L, Q5 z) ∧ y.size ≤ 10 ∧ -1 ≤ x ∧ x ≤ 99 ∧ e = .returned (.tuple #[v, .string y, .int .i64 x]) ∧ w'.ownsRow w.heap.size 32 4 v L.length (row_Listed L) ∧ Below w.heap.size w w'
set_option maxHeartbeats 1600000 in
theorem dew_any (n cap : Nat) (a0 : Option Addr) (w : World) (hc : Code w.heap.size w a0 n) (hn : n ≤ 1048576) :
    Calls Try.prog 17 #[.slice a0 n cap] w (DEW w) := by
  go_enter Try.func17, Try.ntmps17
  go_wp2_with (first | (go_at_call 39; refine (new_any n cap a0 _ hc hn).mono ?_; rintro e w1 ⟨c, rfl, hk, hb⟩) | (go_at_call 40; refine (any5_any _ _ c n cap a0 hk).mono ?_; rintro e w2 ⟨L, v, hL1, hL2, hQ, rfl, ho2, hk2, hg2⟩; obtain ⟨g, cg, hgw, rfl⟩ := own_formV ho2 hL1; have HQ := Lib.hid hQ; have hclt := hk.lt; have HO2 := Lib.hid ho2; have HK2 := Lib.hid hk2; clear hk hQ ho2 hk2) | (go_at_call 47; refine (below_any (L.length : Int) (by omega) (by omega) _ _ c n cap a0 HK2.out).mono ?_; rintro e w3 ⟨v3, ⟨x, hx0, hx1, rfl⟩, rfl, hk3, hg3⟩; obtain ⟨k, rfl⟩ : ∃ k : Nat, x = (k : Int) := ⟨x.toNat, by omega⟩; have HK3 := Lib.hid hk3; have HG3 := Lib.hid (gtrans hg2 hg3); have HO3 := Lib.hid (HO2.out.kept hg3 (own_notV HO2.out hclt)); obtain ⟨f0, f1, f2, f3, d0, d1, d2, d3⟩ := at_cells HO3.out (show k < L.length by omega); clear hk3 hg3) | (go_at_call 52; refine (once_any 4 (by decide) (by decide) _ _ c n cap a0 HK3.out).mono ?_; rintro e w4 ⟨v4, ⟨b, rfl⟩, rfl, hk4, hg4⟩; have HK4 := Lib.hid hk4; have HG4 := Lib.hid (gtrans HG3.out hg4); have HO4 := Lib.hid (HO3.out.kept hg4 (own_notV HO3.out hclt)); have hz := (HQ.out _ (List.getElem_mem (show k < L.length by omega))).1; clear hk4 hg4; cases b))
  · go_wp2_with (go_at_call 41; refine (int_any (-1) 99 w4.heap.size 6 (by decide) (by decide) _ _ c n cap a0 (HK4.out.alloc _) HK4.out.ne (fun j hj => row_ints w4 ends5 3 (-1) 99 ends5_in j hj)).mono ?_; rintro e w9 ⟨v9, ⟨x, hx0, hx1, rfl⟩, rfl, hk9, hg9⟩)
    have hs := hb.size
    have HO9 := (HO4.out.alloc _).kept hg9 (own_notV HO4.out hclt)
    go_ret3
    exact ⟨L, _, _, x, hL1, hL2, HQ.out, hz, hx0, hx1, rfl, own_mono HO9 hs, hb.trans (below_grown2 (gtrans HG4.out (gtrans (World.grownBy_alloc w4 _ _) hg9)) hk9.1 hb.size)⟩
  · go_wp2_with (go_at_call 46; refine (a4_any _ _ c n cap a0 HK4.out).mono ?_; rintro e w5 ⟨v5, ⟨y, hy, rfl⟩, rfl, hk5, hg5⟩; have HK5 := Lib.hid hk5; have HG5 := Lib.hid (gtrans HG4.out hg5); have HO5 := Lib.hid (HO4.out.kept hg5 (own_notV HO4.out hclt)); clear hk5 hg5)
    go_wp2_with (go_at_call 41; refine (int_any (-1) 99 w5.heap.size 6 (by decide) (by decide) _ _ c n cap a0 (HK5.out.alloc _) HK5.out.ne (fun j hj => row_ints w5 ends5 3 (-1) 99 ends5_in j hj)).mono ?_; rintro e w9 ⟨v9, ⟨x, hx0, hx1, rfl⟩, rfl, hk9, hg9⟩)
    have hs := hb.size
    have HO9 := (HO5.out.alloc _).kept hg9 (own_notV HO5.out hclt)
    go_ret3
    exact ⟨L, _, _, x, hL1, hL2, HQ.out, hy, hx0, hx1, rfl, own_mono HO9 hs, hb.trans (below_grown2 (gtrans HG5.out (gtrans (World.grownBy_alloc w5 _ _) hg9)) hk9.1 hb.size)⟩
end Go.Proofs.Ytcpojeiciaghmaa
