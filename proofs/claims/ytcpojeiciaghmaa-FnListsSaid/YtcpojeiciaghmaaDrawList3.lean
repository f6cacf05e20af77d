/-
  Contract of l5Any: a drawn list, one field bent.
-/
import Derived.Test.YtcpojeiciaghmaaDrawList2
namespace Go.Proofs.Ytcpojeiciaghmaa
open Go.RowKit

theorem put_Listed (L : List (ByteArray × Int × Int × Int)) (k : Nat) (h : k < L.length) (r : Nat) (hr : r < 4) (v : Value) (x : ByteArray × Int × Int × Int) (e : cells_Listed x = (cells_Listed L[k]).set r v) : (row_Listed L).set (k * 4 + r) v = row_Listed (L.set k x) := by
  unfold row_Listed
  rw [row0_put cells_Listed 4 cells_Listed_length L k h r hr v, row0_mid cells_Listed L k h x, e]
/-- What an entry that may be bent keeps to. -/
def Q5 (z : ByteArray × Int × Int × Int) : Prop := z.1.size ≤ 10 ∧ (LO ≤ z.2.1 ∧ z.2.1 ≤ HI) ∧ (LO ≤ z.2.2.1 ∧ z.2.2.1 ≤ HI) ∧ (LO ≤ z.2.2.2 ∧ z.2.2.2 ≤ HI)
theorem q5_of {z : ByteArray × Int × Int × Int} (h : P5 z) : Q5 z := by
  obtain ⟨h1, ⟨h2, h3⟩, ⟨h4, h5⟩, h6, h7⟩ := h
  unfold Q5 LO HI
  exact ⟨by omega, ⟨by omega, by omega⟩, ⟨by omega, by omega⟩, by omega, by omega⟩
theorem q5_set {L : List (ByteArray × Int × Int × Int)} {k : Nat} {x : ByteArray × Int × Int × Int} (h : ∀ z ∈ L, Q5 z) (hx : Q5 x) : ∀ z ∈ L.set k x, Q5 z := fun z hz => by
  rcases List.mem_or_eq_of_mem_set hz with h9 | h9
  · exact h z h9
  · rw [h9]; exact hx
def AnyDrawn (B : Nat) (w : World) (c n cap : Nat) (a0 : Option Addr) (e : Ending) (w' : World) : Prop :=
  ∃ (L : List (ByteArray × Int × Int × Int)) (v : Value), 1 ≤ L.length ∧ L.length ≤ 21 ∧ (∀ z ∈ L, Q5 z) ∧ e = .returned v ∧ w'.ownsRow w.heap.size 32 4 v L.length (row_Listed L) ∧ Cur B w' c n cap a0 ∧ w.grownBy w' (some c)

theorem Cur.keptAt {B c n cap g : Nat} {w w' : World} {a0 : Option Addr} (hk : Cur B w c n cap a0) (hg : w.grownBy w' (some g)) (hc : c < g) : Cur B w' c n cap a0 := by
  have hlt := hk.lt
  obtain ⟨hBc, hco, i, h, hk⟩ := hk
  refine ⟨hBc, ⟨hco.1, fun j hj => ?_⟩, i, h, ?_⟩
  · obtain ⟨b, off, x, e1, e2, e3, e4⟩ := hco.2 j hj
    exact ⟨b, off, x, e1, e2, hg.cell e3 (fun e => by have e9 := Option.some.inj e; dsimp only at e9; omega), e4⟩
  · exact (hg.block c hlt (fun e => by have e9 := Option.some.inj e; omega)).trans hk
theorem grown_at {a w w' : World} {c g : Nat} (h : a.grownBy w (some c)) (hg : w.grownBy w' (some g)) (hB : a.heap.size ≤ g) : a.grownBy w' (some c) :=
  ⟨hg.os.trans h.os, hg.tape.trans h.tape, hg.output.trans h.output, Nat.le_trans h.size hg.size, fun j hj hn => (hg.block j (Nat.lt_of_lt_of_le hj h.size) (fun e => by have e9 := Option.some.inj e; omega)).trans (h.block j hj hn)⟩
theorem at_cells {w : World} {base g cg k : Nat} {e : TypeId} {L : List (ByteArray × Int × Int × Int)} (h : w.ownsRow base e 4 (.slice (some ⟨g, 0, none⟩) L.length cg) L.length (row_Listed L)) (hk : k < L.length) :
    w.frozen? ⟨g, k * 4, none⟩ = false ∧ w.frozen? ⟨g, k * 4 + 1, none⟩ = false ∧ w.frozen? ⟨g, k * 4 + 2, none⟩ = false ∧ w.frozen? ⟨g, k * 4 + 3, none⟩ = false ∧
    w.cell? ⟨g, k * 4, none⟩ = some (.string L[k].1) ∧ w.cell? ⟨g, k * 4 + 1, none⟩ = some (.int .i64 L[k].2.1) ∧ w.cell? ⟨g, k * 4 + 2, none⟩ = some (.int .i64 L[k].2.2.1) ∧ w.cell? ⟨g, k * 4 + 3, none⟩ = some (.int .i64 L[k].2.2.2) :=
  ⟨h.frozenAt _, h.frozenAt _, h.frozenAt _, h.frozenAt _, (h.cellAt (k * 4) (by omega)).trans (row_Listed_at L k hk 0 (by decide)), (h.cellAt (k * 4 + 1) (by omega)).trans (row_Listed_at L k hk 1 (by decide)), (h.cellAt (k * 4 + 2) (by omega)).trans (row_Listed_at L k hk 2 (by decide)), (h.cellAt (k * 4 + 3) (by omega)).trans (row_Listed_at L k hk 3 (by decide))⟩
theorem bent_ends {B c n cap g cg k r : Nat} {w w4 : World} {a0 : Option Addr} {L : List (ByteArray × Int × Int × Int)} {x : ByteArray × Int × Int × Int} {v : Value} (hL : 1 ≤ L.length) (hL2 : L.length ≤ 21) (hk : k < L.length) (hr : r < 4) (hcw : c < w.heap.size) (hgw : w.heap.size ≤ g)
    (HP : ∀ z ∈ L, Q5 z) (hx : Q5 x) (hv : cells_Listed x = (cells_Listed L[k]).set r v) (HO : w4.ownsRow w.heap.size 32 4 (.slice (some ⟨g, 0, none⟩) L.length cg) L.length (row_Listed L)) (HK : Cur B w4 c n cap a0) (HG : w.grownBy w4 (some c)) :
    AnyDrawn B w c n cap a0 (.returned (.slice (some ⟨g, 0, none⟩) L.length cg)) (w4.setCell ⟨g, k * 4 + r, none⟩ v) := by
  have h9 := (HO.stored (k * 4 + r) v).1
  rw [put_Listed L k hk r hr v x hv] at h9
  refine ⟨L.set k x, _, by rw [List.length_set]; exact hL, by rw [List.length_set]; exact hL2, q5_set HP hx, rfl, ?_, HK.keptAt (grown_setCell w4 ⟨g, k * 4 + r, none⟩ v) (show c < g by omega), grown_at HG (grown_setCell w4 ⟨g, k * 4 + r, none⟩ v) hgw⟩
  rw [List.length_set]
  exact h9

set_option maxHeartbeats 1600000 in
theorem any5_any (B : Nat) (w : World) (c n cap : Nat) (a0 : Option Addr) (hk : Cur B w c n cap a0) :
    Calls Try.prog 40 #[.pointer (some ⟨c, 0, none⟩)] w (AnyDrawn B w c n cap a0) := by
  have hclt := hk.lt
  have hBc := hk.1
  go_enter Try.func40, Try.ntmps40
  have FA := Lib.hid trivial
  go_wp2_with (first
    | (go_at_call 60; refine (draw5_any B _ c n cap a0 hk).mono ?_; rintro e w1 ⟨L, v, hL1, hL2, hP, rfl, ho1, hk1, hg1⟩; obtain ⟨g, cg, hgw, rfl⟩ := own_formV ho1 hL1; have HP := Lib.hid (fun z hz => q5_of (hP z hz)); have HK1 := Lib.hid hk1; have HG1 := Lib.hid hg1; have HO1 := Lib.hid ho1; clear hP ho1 hk1 hg1 hk)
    | (go_at_call 47; have FC := FA; refine (below_any (L.length : Int) (by omega) (by omega) B _ c n cap a0 HK1.out).mono ?_; rintro e w2 ⟨v, ⟨x, hx0, hx1, rfl⟩, rfl, hk2, hg2⟩; obtain ⟨k, rfl⟩ : ∃ k : Nat, x = (k : Int) := ⟨x.toNat, by omega⟩; have HK2 := Lib.hid hk2; have HG2 := Lib.hid (gtrans HG1.out hg2); have HO2 := Lib.hid (HO1.out.kept hg2 (own_notV HO1.out hclt)); clear FA FC hk2 hg2)
    | (go_at_call 47; refine (below_any 12 (by decide) (by decide) B _ c n cap a0 HK2.out).mono ?_; rintro e w3 ⟨v, ⟨q, hq0, hq1, rfl⟩, rfl, hk3, hg3⟩; have HK3 := Lib.hid hk3; have HG3 := Lib.hid (gtrans HG2.out hg3); have HO3 := Lib.hid (HO2.out.kept hg3 (own_notV HO2.out hclt)); clear hk3 hg3)
    | (go_at_call 46; refine (a4_any B _ c n cap a0 HK3.out).mono ?_; rintro e w4 ⟨v, ⟨y, hy, rfl⟩, rfl, hk4, hg4⟩; have HK4 := Lib.hid hk4; have HG4 := Lib.hid (gtrans HG3.out hg4); have HO4 := Lib.hid (HO3.out.kept hg4 (own_notV HO3.out hclt)); obtain ⟨f0, f1, f2, f3, d0, d1, d2, d3⟩ := at_cells HO4.out (show k < L.length by omega); clear hk4 hg4)
    | (go_at_call 61; refine (raw5_any B _ c n cap a0 HK3.out).mono ?_; rintro e w4 ⟨v, ⟨y, hy0, hy1, rfl⟩, rfl, hk4, hg4⟩; have HK4 := Lib.hid hk4; have HG4 := Lib.hid (gtrans HG3.out hg4); have HO4 := Lib.hid (HO3.out.kept hg4 (own_notV HO3.out hclt)); obtain ⟨f0, f1, f2, f3, d0, d1, d2, d3⟩ := at_cells HO4.out (show k < L.length by omega); clear hk4 hg4))
  · go_ret
    have hq := HP.out _ (List.getElem_mem (show k < L.length by omega))
    exact bent_ends (r := 0) (x := (y, (L[k]'(by omega)).2.1, (L[k]'(by omega)).2.2.1, (L[k]'(by omega)).2.2.2)) hL1 hL2 (by omega) (by decide) hclt hgw HP.out ⟨hy, hq.2.1, hq.2.2.1, hq.2.2.2⟩ rfl HO4.out HK4.out HG4.out
  · go_ret
    have hq := HP.out _ (List.getElem_mem (show k < L.length by omega))
    exact bent_ends (r := 1) (x := ((L[k]'(by omega)).1, y, (L[k]'(by omega)).2.2.1, (L[k]'(by omega)).2.2.2)) hL1 hL2 (by omega) (by decide) hclt hgw HP.out ⟨hq.1, ⟨hy0, hy1⟩, hq.2.2.1, hq.2.2.2⟩ rfl HO4.out HK4.out HG4.out
  · go_ret
    have hq := HP.out _ (List.getElem_mem (show k < L.length by omega))
    exact bent_ends (r := 2) (x := ((L[k]'(by omega)).1, (L[k]'(by omega)).2.1, y, (L[k]'(by omega)).2.2.2)) hL1 hL2 (by omega) (by decide) hclt hgw HP.out ⟨hq.1, hq.2.1, ⟨hy0, hy1⟩, hq.2.2.2⟩ rfl HO4.out HK4.out HG4.out
  · go_ret
    have hq := HP.out _ (List.getElem_mem (show k < L.length by omega))
    exact bent_ends (r := 3) (x := ((L[k]'(by omega)).1, (L[k]'(by omega)).2.1, (L[k]'(by omega)).2.2.1, y)) hL1 hL2 (by omega) (by decide) hclt hgw HP.out ⟨hq.1, hq.2.1, hq.2.2.1, ⟨hy0, hy1⟩⟩ rfl HO4.out HK4.out HG4.out
  · go_ret
    exact ⟨L, _, hL1, hL2, HP.out, rfl, HO3.out, HK3.out, HG3.out⟩
end Go.Proofs.Ytcpojeiciaghmaa
