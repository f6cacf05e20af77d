/-
  Contract of DrawAddWord.
-/
import Derived.Test.YtcpojeiciaghmaaDrawList5
namespace Go.Proofs.Ytcpojeiciaghmaa
open Go.RowKit

theorem Code.later5 {n : Nat} {w w' : World} {a0 : Option Addr} (h : Code w.heap.size w a0 n) (hb : Below w.heap.size w w') : Code w'.heap.size w' a0 n :=
  ⟨h.1, fun j hj => by
    obtain ⟨b, off, x, e1, e2, e3, e4⟩ := h.2 j hj
    exact ⟨b, off, x, e1, Nat.lt_of_lt_of_le e2 hb.size, (hb.cell (p := ⟨b, off + j, none⟩) e2).trans e3, e4⟩⟩
theorem new_block5 (w : World) (o : Obj) : (w.alloc o).heap[w.heap.size]? = some o := by
  show (w.heap.push o)[w.heap.size]? = some o
  simp
theorem cells4 {w : World} {b : Nat} {x y z u : Value} {t : TypeId} (h : w.heap[b]? = some (.cells #[x, y, z, u] t (0, 0))) :
    w.cell? ⟨b, 0, none⟩ = some x ∧ w.cell? ⟨b, 1, none⟩ = some y ∧ w.cell? ⟨b, 2, none⟩ = some z ∧ w.cell? ⟨b, 3, none⟩ = some u ∧ w.frozen? ⟨b, 0, none⟩ = false ∧ w.frozen? ⟨b, 1, none⟩ = false ∧ w.frozen? ⟨b, 2, none⟩ = false ∧ w.frozen? ⟨b, 3, none⟩ = false :=
  ⟨Joins.cell_of_block h 0, Joins.cell_of_block h 1, Joins.cell_of_block h 2, Joins.cell_of_block h 3, Joins.unfrozen_of_block h 0, Joins.unfrozen_of_block h 1, Joins.unfrozen_of_block h 2, Joins.unfrozen_of_block h 3⟩
/-- What DrawAddWord leaves. -/
def DAD (w : World) (e : Ending) (w' : World) : Prop :=
  ∃ (L : List (ByteArray × Int × Int × Int)) (v : Value) (y : ByteArray) (f u s : Int), 1 ≤ L.length ∧ L.length ≤ 21 ∧ (∀ z ∈ L, Q5 z) ∧ y.size ≤ 10 ∧ (0 ≤ f ∧ f ≤ 4) ∧ (3 ≤ u ∧ u ≤ 11) ∧ (0 ≤ s ∧ s ≤ 100) ∧ e = .returned (.tuple #[v, .agg #[.string y, .int .i64 f, .int .i64 u, .int .i64 s]]) ∧ w'.ownsRow w.heap.size 32 4 v L.length (row_Listed L) ∧ Below w.heap.size w w'
set_option maxHeartbeats 1600000 in
theorem dad_any (n cap : Nat) (a0 : Option Addr) (w : World) (hc : Code w.heap.size w a0 n) (hn : n ≤ 1048576) :
    Calls Try.prog 15 #[.slice a0 n cap] w (DAD w) := by
  have HC := Lib.hid hc
  clear hc
  go_enter Try.func15, Try.ntmps15
  have FA := Lib.hid trivial
  have FB := Lib.hid trivial
  go_wp2_with (first
    | (go_at_call 39; refine (new_any n cap a0 _ (Code.later5 HC.out ((Below.refl _ _).alloc (Nat.le_refl _) _)) hn).mono ?_; rintro e w1 ⟨c, rfl, hk, hb⟩; have HB1 := Lib.hid hb; have HK1 := Lib.hid hk; clear hk hb)
    | (go_at_call 40; refine (any5_any _ _ c n cap a0 HK1.out).mono ?_; rintro e w2 ⟨L, v, hL1, hL2, hQ, rfl, ho2, hk2, hg2⟩; have HQ := Lib.hid hQ; have hclt := HK1.out.lt; have HO2 := Lib.hid ho2; have HK2 := Lib.hid hk2; have HG2 := Lib.hid hg2; clear hQ ho2 hk2 hg2)
    | (go_at_call 46; refine (a4_any _ _ c n cap a0 HK2.out).mono ?_; rintro e w3 ⟨v3, ⟨y, hy, rfl⟩, rfl, hk3, hg3⟩; have HK3 := Lib.hid hk3; have HG3 := Lib.hid (gtrans HG2.out hg3); have HO3 := Lib.hid (HO2.out.kept hg3 (own_notV HO2.out hclt)); clear hk3 hg3)
    | (go_at_call 47; have FC := FA; refine (below_any 5 (by decide) (by decide) _ _ c n cap a0 HK3.out).mono ?_; rintro e w4 ⟨v4, ⟨f, hf0, hf1, rfl⟩, rfl, hk4, hg4⟩; have HK4 := Lib.hid hk4; have HG4 := Lib.hid (gtrans HG3.out hg4); have HO4 := Lib.hid (HO3.out.kept hg4 (own_notV HO3.out hclt)); clear FA FC hk4 hg4)
    | (go_at_call 47; have FC := FB; refine (below_any 9 (by decide) (by decide) _ _ c n cap a0 HK4.out).mono ?_; rintro e w5 ⟨v5, ⟨u, hu0, hu1, rfl⟩, rfl, hk5, hg5⟩; have HK5 := Lib.hid hk5; have HG5 := Lib.hid (gtrans HG4.out hg5); have HO5 := Lib.hid (HO4.out.kept hg5 (own_notV HO4.out hclt)); clear FB FC hk5 hg5)
    | (go_at_call 47; refine (below_any 101 (by decide) (by decide) _ _ c n cap a0 HK5.out).mono ?_; rintro e w6 ⟨v6, ⟨s, hs0, hs1, rfl⟩, rfl, hk6, hg6⟩; have HK6 := Lib.hid hk6; have HG6 := Lib.hid (gtrans HG5.out hg6); have HO6 := Lib.hid (HO5.out.kept hg6 (own_notV HO5.out hclt)); clear hk6 hg6))
  have hc1 : w.heap.size + 1 ≤ c := by have := HK1.out.1; simpa using this
  have hs1 : w.heap.size + 1 ≤ w1.heap.size := by have := HB1.out.size; simpa using this
  have hs6 := HG6.out.size
  have hZ6 : w6.heap[w.heap.size]? = some (.cells #[.string ⟨#[]⟩, .int .i64 0, .int .i64 0, .int .i64 0] 32) := by
    rw [HG6.out.block w.heap.size (by omega) (by simp; omega), HB1.out.block w.heap.size (by simp)]
    exact new_block5 w _
  obtain ⟨w7, hw7⟩ : ∃ w7, w7 = w6.alloc (.cells #[.string y, .int .i64 f, .int .i64 (3 + u), .int .i64 s] 32) := ⟨_, rfl⟩
  have hX7 : w7.heap[w6.heap.size]? = some (.cells #[.string y, .int .i64 f, .int .i64 (3 + u), .int .i64 s] 32) := by rw [hw7]; exact new_block5 w6 _
  have hZ7 : w7.heap[w.heap.size]? = some (.cells #[.string ⟨#[]⟩, .int .i64 0, .int .i64 0, .int .i64 0] 32) := by
    rw [hw7, (World.grownBy_alloc w6 _ none).block w.heap.size (by omega) (by simp)]
    exact hZ6
  have HO7 : Hid (w7.ownsRow w1.heap.size 32 4 v L.length (row_Listed L)) := Lib.hid (by rw [hw7]; exact HO6.out.alloc _)
  have HB7 : Hid (Below w.heap.size w w7) := Lib.hid (by
    rw [hw7]
    exact (((Below.refl _ _).alloc (Nat.le_refl _) _).trans (HB1.out.mono (by simp))).trans (below_grown2 (gtrans HG6.out (World.grownBy_alloc w6 _ _)) (by omega) (by omega)))
  rw [← hw7]
  clear hw7 hZ6
  obtain ⟨d0, d1, d2, d3, f0, f1, f2, f3⟩ := cells4 hX7
  obtain ⟨z0, z1, z2, z3, g0, g1, g2, g3⟩ := cells4 hZ7
  go_region
  have hn0 : w.heap.size < w1.heap.size := by omega
  have k0 := grown_setCell w7 ⟨w.heap.size, 0, none⟩ (.string y)
  have k1 := gtrans k0 (grown_setCell _ ⟨w.heap.size, 1, none⟩ (.int .i64 f))
  have k2 := gtrans k1 (grown_setCell _ ⟨w.heap.size, 2, none⟩ (.int .i64 (3 + u)))
  have k3 := gtrans k2 (grown_setCell _ ⟨w.heap.size, 3, none⟩ (.int .i64 s))
  have HO9 := HO7.out.kept k3 (own_notV HO7.out hn0)
  have HB9 := HB7.out.trans (below_grown2 (grown_drew k3) (Nat.le_refl _) HB7.out.size)
  go_wp2
  exact bodyPost_ret (v := .tuple #[v, .agg #[.string y, .int .i64 f, .int .i64 (3 + u), .int .i64 s]]) (by simp [results, Try.results15, go_sem, z0, z1, z2, z3]) rfl ⟨L, v, y, f, 3 + u, s, hL1, hL2, HQ.out, hy, ⟨hf0, by omega⟩, ⟨by omega, by omega⟩, ⟨hs0, by omega⟩, rfl, own_mono HO9 (by omega), HB9⟩
end Go.Proofs.Ytcpojeiciaghmaa
