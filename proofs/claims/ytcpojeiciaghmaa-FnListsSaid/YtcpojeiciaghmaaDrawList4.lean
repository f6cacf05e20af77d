/-
  Contracts of DrawWordsAt and DrawScoreOf.
-/
import Derived.Test.YtcpojeiciaghmaaDrawList3
namespace Go.Proofs.Ytcpojeiciaghmaa
open Go.RowKit

def ticks5 : List Int := [0, 2, 5, 10, 20, 30, -1]
theorem ticks5_in : ∀ z ∈ ticks5, (-1 : Int) ≤ z ∧ z ≤ 30 := by decide
/-- What DrawWordsAt leaves. -/
def DWA (w : World) (e : Ending) (w' : World) : Prop :=
  ∃ (L : List (ByteArray × Int × Int × Int)) (v : Value) (x : Int), 1 ≤ L.length ∧ L.length ≤ 21 ∧ (∀ z ∈ L, Q5 z) ∧ -1 ≤ x ∧ x ≤ 30 ∧ e = .returned (.tuple #[v, .int .i64 x]) ∧ w'.ownsRow w.heap.size 32 4 v L.length (row_Listed L) ∧ Below w.heap.size w w'
set_option maxHeartbeats 800000 in
theorem dwa_any (n cap : Nat) (a0 : Option Addr) (w : World) (hc : Code w.heap.size w a0 n) (hn : n ≤ 1048576) :
    Calls Try.prog 11 #[.slice a0 n cap] w (DWA w) := by
  go_enter Try.func11, Try.ntmps11
  go_wp2_with (first | (go_at_call 39; refine (new_any n cap a0 _ hc hn).mono ?_; rintro e w1 ⟨c, rfl, hk, hb⟩) | (go_at_call 40; refine (any5_any _ _ c n cap a0 hk).mono ?_; rintro e w2 ⟨L, v, hL1, hL2, hQ, rfl, ho2, hk2, hg2⟩; have HQ := Lib.hid hQ; have hclt := hk.lt; have HO2 := Lib.hid ho2; clear hk hQ ho2) | (go_at_call 41; refine (int_any (-1) 30 w2.heap.size 7 (by decide) (by decide) _ _ c n cap a0 (hk2.alloc _) hk2.ne (fun j hj => row_ints w2 ticks5 3 (-1) 30 ticks5_in j hj)).mono ?_; rintro e w3 ⟨v3, ⟨x, hx0, hx1, rfl⟩, rfl, hk3, hg3⟩; clear hk2))
  have hs := hb.size
  have HO3 := (HO2.out.alloc _).kept hg3 (own_notV HO2.out hclt)
  go_ret2
  exact ⟨L, v, x, hL1, hL2, HQ.out, hx0, hx1, rfl, own_mono HO3 hs, hb.trans (below_grown2 (gtrans hg2 (gtrans (World.grownBy_alloc w2 _ _) hg3)) hk3.1 hb.size)⟩
/-- What DrawScoreOf leaves. -/
def DSO (w : World) (e : Ending) (w' : World) : Prop :=
  ∃ (L : List (ByteArray × Int × Int × Int)) (v : Value) (S : List ByteArray) (u : Value), 1 ≤ L.length ∧ L.length ≤ 21 ∧ (∀ z ∈ L, Q5 z) ∧ S.length ≤ 5 ∧ (∀ z ∈ S, z.size ≤ 10) ∧ e = .returned (.tuple #[v, u]) ∧ w'.ownsRow w.heap.size 32 4 v L.length (row_Listed L) ∧ w'.ownsRow w.heap.size 9 1 u S.length (S.map Value.string) ∧ Below w.heap.size w w'
set_option maxHeartbeats 800000 in
theorem dso_any (n cap : Nat) (a0 : Option Addr) (w : World) (hc : Code w.heap.size w a0 n) (hn : n ≤ 1048576) :
    Calls Try.prog 19 #[.slice a0 n cap] w (DSO w) := by
  go_enter Try.func19, Try.ntmps19
  go_wp2_with (first | (go_at_call 39; refine (new_any n cap a0 _ hc hn).mono ?_; rintro e w1 ⟨c, rfl, hk, hb⟩) | (go_at_call 40; refine (any5_any _ _ c n cap a0 hk).mono ?_; rintro e w2 ⟨L, v, hL1, hL2, hQ, rfl, ho2, hk2, hg2⟩; have HQ := Lib.hid hQ; have hclt := hk.lt; have HO2 := Lib.hid ho2; clear hk hQ ho2) | (go_at_call 53; refine (some5_any _ _ c n cap a0 hk2).mono ?_; rintro e w3 ⟨S, u, hS, hS2, rfl, ho3, hk3, hg3⟩; have HS := Lib.hid hS2; have HU := Lib.hid ho3; clear hk2 hS2 ho3))
  have hs := hb.size
  have hs2 := hg2.size
  have HO3 := HO2.out.kept hg3 (own_notV HO2.out hclt)
  go_ret2
  exact ⟨L, v, S, u, hL1, hL2, HQ.out, hS, HS.out, rfl, own_mono HO3 hs, own_mono HU.out (Nat.le_trans hs hs2), hb.trans (below_grown2 (gtrans hg2 hg3) hk3.1 hb.size)⟩
end Go.Proofs.Ytcpojeiciaghmaa
