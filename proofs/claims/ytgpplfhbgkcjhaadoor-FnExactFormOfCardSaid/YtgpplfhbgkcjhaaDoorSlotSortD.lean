/-
  The stable sort of slots, third part: insertion sort.
  The stable sort of slots, fourth part: symMerge where the left part, or the right one, has one element.
-/
import Derived.Test.YtgpplfhbgkcjhaaDoorSlotSortB
import Derived.Shelf.SlSortCmp.QuietGrown
import Derived.BigQuiet
namespace Go.Proofs.YtgpplfhbgkcjhaaDoor
open Go.RowKit Go.Sort

def ltS (x y : SlotV) : Bool := decide (x.2.2.1 < y.2.2.1)
def leS (x y : SlotV) : Prop := x.2.2.1 ≤ y.2.2.1
theorem ltS_iff {x y : SlotV} : ltS x y = true ↔ x.2.2.1 < y.2.2.1 := ⟨of_decide_eq_true, decide_eq_true⟩
theorem ltS_not {x y : SlotV} (h : ltS x y = false) : leS y x := by
  have := of_decide_eq_false h
  unfold leS
  omega
theorem cmpI_neg (a b : Int) : decide (cmpI a b < 0) = decide (a < b) := by
  unfold cmpI
  by_cases h1 : a < b
  · rw [if_pos h1]; simp [h1]
  · rw [if_neg h1]
    by_cases h2 : b < a
    · rw [if_pos h2]; simp [h1]
    · rw [if_neg h2]; simp [h1]
theorem exch_comm (l : List SlotV) {p q : Nat} (h : p ≠ q) : exch l p q = exch l q p := by
  unfold exch
  rw [List.set_comm _ _ h]
def InsInv (P M S : List SlotV) (i j : Nat) (L : List SlotV) : Prop :=
  ∃ (Q1 : List SlotV) (x : SlotV) (Q2 R : List SlotV), L = P ++ (Q1 ++ x :: Q2 ++ R) ++ S ∧ P.length + Q1.length = j ∧ P.length + Q1.length + Q2.length = i ∧ (Q1 ++ Q2).Pairwise leS ∧ (∀ y ∈ Q2, ltS x y = true) ∧ Bub ltS M (Q1 ++ x :: Q2 ++ R)
def OutInv (P M S : List SlotV) (i : Nat) (L : List SlotV) : Prop :=
  ∃ Q R : List SlotV, L = P ++ (Q ++ R) ++ S ∧ P.length + Q.length = i ∧ Q.Pairwise leS ∧ Bub ltS M (Q ++ R)
theorem out_start (P M S : List SlotV) (h : 1 ≤ M.length) : OutInv P M S (P.length + 1) (P ++ M ++ S) := by
  obtain ⟨x, M, rfl⟩ : ∃ x M', M = x :: M' := by
    cases M with
    | nil => simp at h
    | cons x M => exact ⟨x, M, rfl⟩
  exact ⟨[x], M, rfl, rfl, List.pairwise_singleton .., .refl _⟩
theorem out_in {P M S : List SlotV} {i : Nat} {L : List SlotV} (h : OutInv P M S i L) (hi : i < P.length + M.length) : InsInv P M S i i L := by
  obtain ⟨Q, R, h1, h2, h3, h4⟩ := h
  obtain ⟨x, R, rfl⟩ : ∃ x R', R = x :: R' := by
    cases R with
    | nil =>
      have := h4.length
      simp at this
      omega
    | cons x R => exact ⟨x, R, rfl⟩
  exact ⟨Q, x, [], R, by rw [h1]; simp, h2, by simpa using h2, by simpa using h3, by simp, by simpa using h4⟩
theorem in_stop0 {P M S : List SlotV} {i j : Nat} {L : List SlotV} (h : InsInv P M S i j L) (hj : j = P.length) : OutInv P M S (i + 1) L := by
  obtain ⟨Q1, x, Q2, R, h1, h2, h3, h4, h5, h6⟩ := h
  obtain rfl : Q1 = [] := List.length_eq_zero_iff.1 (by omega)
  refine ⟨x :: Q2, R, by rw [h1]; simp, by simp at h3 ⊢; omega, ?_, by simpa using h6⟩
  rw [List.pairwise_cons]
  refine ⟨fun y hy => ?_, by simpa using h4⟩
  have := ltS_iff.1 (h5 y hy)
  unfold leS
  omega
theorem in_get {P M S : List SlotV} {i j : Nat} {L : List SlotV} (h : InsInv P M S i j L) (hj : P.length < j) :
    ∃ (Q1 : List SlotV) (y x : SlotV) (Q2 R : List SlotV), L = (P ++ Q1) ++ y :: [] ++ x :: (Q2 ++ R ++ S) ∧ P.length + Q1.length + 1 = j ∧ P.length + Q1.length + 1 + Q2.length = i ∧ (Q1 ++ [y] ++ Q2).Pairwise leS ∧ (∀ y ∈ Q2, ltS x y = true) ∧ Bub ltS M (Q1 ++ [y] ++ x :: Q2 ++ R) ∧ L.getD j none_Slot = x ∧ L.getD (j - 1) none_Slot = y := by
  obtain ⟨Q1, x, Q2, R, h1, h2, h3, h4, h5, h6⟩ := h
  obtain ⟨Q, y, rfl⟩ : ∃ Q y, Q1 = Q ++ [y] := ⟨Q1.dropLast, Q1.getLast (by intro e; simp [e] at h2; omega), (List.dropLast_concat_getLast _).symm⟩
  simp only [List.length_append, List.length_singleton] at h2 h3
  have hL : L = (P ++ Q) ++ y :: [] ++ x :: (Q2 ++ R ++ S) := by rw [h1]; simp
  refine ⟨Q, y, x, Q2, R, hL, by omega, by omega, by simpa using h4, h5, by simpa using h6, ?_, ?_⟩
  · rw [hL, List.getD_eq_getElem?_getD, List.getElem?_append_right (by simp; omega), show j - (P ++ Q ++ y :: []).length = 0 by simp; omega]
    rfl
  · rw [hL, List.append_assoc, List.getD_eq_getElem?_getD, List.getElem?_append_right (by simp; omega), show j - 1 - (P ++ Q).length = 0 by simp; omega]
    rfl
theorem in_stop {P M S : List SlotV} {i j : Nat} {L : List SlotV} (h : InsInv P M S i j L) (hj : P.length < j) (hl : ltS (L.getD j none_Slot) (L.getD (j - 1) none_Slot) = false) : OutInv P M S (i + 1) L := by
  obtain ⟨Q1, y, x, Q2, R, h1, h2, h3, h4, h5, h6, h7, h8⟩ := in_get h hj
  rw [h7, h8] at hl
  have hyx := ltS_not hl
  refine ⟨Q1 ++ [y] ++ x :: Q2, R, by rw [h1]; simp, by simp; omega, ?_, by simpa using h6⟩
  rw [List.pairwise_append] at h4 ⊢
  obtain ⟨p1, p2, p3⟩ := h4
  refine ⟨p1, ?_, fun u hu v hv => ?_⟩
  · rw [List.pairwise_cons]
    refine ⟨fun v hv => ?_, p2⟩
    have := ltS_iff.1 (h5 v hv)
    unfold leS
    omega
  · rcases List.mem_cons.1 hv with rfl | hv
    · rcases List.mem_append.1 hu with hu | hu
      · rw [List.pairwise_append] at p1
        have := p1.2.2 u hu y (List.mem_singleton_self _)
        unfold leS at this hyx ⊢
        omega
      · rw [List.mem_singleton.1 hu]
        exact hyx
    · exact p3 u hu v hv
theorem in_step {P M S : List SlotV} {i j : Nat} {L : List SlotV} (h : InsInv P M S i j L) (hj : P.length < j) (hl : ltS (L.getD j none_Slot) (L.getD (j - 1) none_Slot) = true) : InsInv P M S i (j - 1) (exch L j (j - 1)) := by
  obtain ⟨Q1, y, x, Q2, R, h1, h2, h3, h4, h5, h6, h7, h8⟩ := in_get h hj
  rw [h7, h8] at hl
  have h9 := exch_mid (P ++ Q1) y [] x (Q2 ++ R ++ S)
  rw [← h1, List.length_append, List.length_nil, show P.length + Q1.length + 1 + 0 = j by omega, show P.length + Q1.length = j - 1 by omega] at h9
  rw [exch_comm L (by omega), h9]
  refine ⟨Q1, x, y :: Q2, R, by simp, by omega, by simp; omega, by simpa using h4, fun z hz => ?_, ?_⟩
  · rcases List.mem_cons.1 hz with rfl | hz
    · exact hl
    · exact h5 z hz
  · refine h6.trans ?_
    have h10 := Bub.one Q1 y x (Q2 ++ R) hl
    simpa using h10
theorem inv_length {P M S : List SlotV} {i j : Nat} {L : List SlotV} (h : InsInv P M S i j L) : j ≤ i ∧ i < L.length := by
  obtain ⟨Q1, x, Q2, R, h1, h2, h3, -⟩ := h
  rw [h1]
  simp
  omega
theorem out_end {P M S : List SlotV} {i : Nat} {L : List SlotV} (h : OutInv P M S i L) (hi : P.length + M.length ≤ i) : ∃ M', L = P ++ M' ++ S ∧ M'.Pairwise leS ∧ Bub ltS M M' := by
  obtain ⟨Q, R, h1, h2, h3, h4⟩ := h
  have := h4.length
  simp at this
  obtain rfl : R = [] := List.length_eq_zero_iff.1 (by omega)
  simp only [List.append_nil] at h1 h4
  exact ⟨Q, h1, h3, h4⟩
/-- The cells of element p of the row, and that they may be written. -/
theorem row_at {W : World} {base g m cap : Nat} {L : List SlotV} (h : SRow W base g m cap L) {p : Nat} (hp : p < m) (x : SlotV) (hx : x = L.getD p none_Slot) :
    W.cell? ⟨g, p * 4, none⟩ = some (.int .i64 x.1) ∧ W.cell? ⟨g, p * 4 + 1, none⟩ = some (.bool x.2.1) ∧ W.cell? ⟨g, p * 4 + 2, none⟩ = some (.int .i64 x.2.2.1) ∧ W.cell? ⟨g, p * 4 + 3, none⟩ = some (.int .i64 x.2.2.2) ∧
    W.frozen? ⟨g, p * 4, none⟩ = false ∧ W.frozen? ⟨g, p * 4 + 1, none⟩ = false ∧ W.frozen? ⟨g, p * 4 + 2, none⟩ = false ∧ W.frozen? ⟨g, p * 4 + 3, none⟩ = false := by
  obtain ⟨h1, h2⟩ := h
  have hat : ∀ r, r < 4 → W.cell? ⟨g, p * 4 + r, none⟩ = (cells_Slot x)[r]? := fun r hr => by
    rw [h1.cellAt (p * 4 + r) (by omega), hx]
    exact at_of (by omega) r hr
  exact ⟨hat 0 (by decide), hat 1 (by decide), hat 2 (by decide), hat 3 (by decide), h1.frozenAt _, h1.frozenAt _, h1.frozenAt _, h1.frozenAt _⟩
theorem alloc_two (W : World) (A B : Obj) : (W.alloc A).alloc B = grow (W.drewN 0) #[A, B] := by
  rw [← World.alloc_eq, ← World.alloc_eq]
  unfold grow
  have h : (W.heap.push A).push B = W.heap ++ #[A, B] := by apply Array.ext'; simp
  simp only [World.drewN, h, Nat.add_zero]
theorem closure_grown (x y : SlotV) (w : World) (n : Nat) (os : Array Obj) : Calls Tryd.prog 57 #[.agg #[.int .i64 x.1, .bool x.2.1, .int .i64 x.2.2.1, .int .i64 x.2.2.2], .agg #[.int .i64 y.1, .bool y.2.1, .int .i64 y.2.2.1, .int .i64 y.2.2.2]] (grow (w.drewN n) os) fun e w' => e = .returned (.int .i64 (cmpI x.2.2.1 y.2.2.1)) ∧ ∃ q os', w' = grow ((grow (w.drewN n) os).drewN q) os' :=
  (closure_any x y _).mono fun _ _ ⟨h1, h2⟩ => ⟨h1, 0, _, h2.trans (alloc_two ..)⟩
theorem srow_grown {W : World} {base g m cap : Nat} {L : List SlotV} (h : SRow W base g m cap L) (n : Nat) (os : Array Obj) : SRow (grow (W.drewN n) os) base g m cap L := by
  obtain ⟨⟨h1, h2⟩, h3⟩ := h
  refine ⟨⟨h1, ?_⟩, h3⟩
  rcases h2 with hn | ⟨g', cap', cur, e, hb, hg, rest⟩
  · exact .inl hn
  · refine .inr ⟨g', cap', cur, e, hb, ?_, rest⟩
    have hlt : g' < W.heap.size := (Array.getElem?_eq_some_iff.1 hg).1
    show (W.heap ++ os)[g']? = _
    rw [Array.getElem?_append_left hlt]
    exact hg
theorem grown_growN {w W : World} {r : Option Nat} (h : w.grownBy W r) (n : Nat) (os : Array Obj) : w.grownBy (grow (W.drewN n) os) r :=
  grown_trans h ⟨rfl, rfl, rfl, by show W.heap.size ≤ (W.heap ++ os).size; simp, fun k hk _ => by show (W.heap ++ os)[k]? = W.heap[k]?; rw [Array.getElem?_append_left hk]⟩
set_option maxRecDepth 100000 in
set_option maxHeartbeats 3200000 in
theorem insertion_any (base g m cap : Nat) (P M S : List SlotV) (a b : Nat) (ha : P.length = a) (hb : a + M.length = b) (hm : m ≤ 1000) (w : World) (hR : SRow w base g m cap (P ++ M ++ S)) :
    Calls Tryd.prog 103 #[.slice (some ⟨g, 0, none⟩) m cap, .int .i64 (a : Int), .int .i64 (b : Int), lessF] w fun e w' => (∃ r, e = .returned r) ∧ (∃ M', SRow w' base g m cap (P ++ M' ++ S) ∧ M'.Pairwise leS ∧ Bub ltS M M') ∧ w.grownBy w' (some g) := by
  have HR := Lib.hid hR
  have hbm : b ≤ m := by have := hR.2; simp at this; omega
  clear hR
  have hmix : Tryd.prog.follows .mixedOrders = true := by kernel_rfl
  unfold lessF
  go_enter Tryd.func103, Tryd.ntmps103
  by_cases hM : M.length = 0
  · have hd : decide ((a : Int) + 1 < (b : Int)) = false := decide_eq_false (by omega)
    obtain rfl := List.length_eq_zero_iff.1 hM
    clear hM
    go_wp2_with fail
    go_loopw [8] (fun v wr => v = .int .i64 ((a : Int) + 1) ∧ w = wr) (fun _ _ => 0)
    case atStart => exact ⟨rfl, rfl⟩
    case round =>
      obtain ⟨rfl, rfl⟩ := hrel
      go_wp2_with fail
      go_end0
      exact ⟨⟨_, rfl⟩, ⟨[], HR.out, List.Pairwise.nil, .refl _⟩, grown_refl _ _⟩
  · have HS0 := Lib.hid (out_start P M S (by omega))
    go_wp2_with fail
    go_loopw [8, 9] (fun v j9 wr => ∃ i : Nat, a + 1 ≤ i ∧ i ≤ b ∧ v = .int .i64 (i : Int) ∧ Hid (∃ L, OutInv P M S i L ∧ SRow wr base g m cap L) ∧ Hid (w.grownBy wr (some g))) (fun v _ _ => b - (intOf v).toNat)
    case atStart => exact ⟨a + 1, Nat.le_refl _, by omega, by go_num, Lib.hid ⟨_, by rw [← ha]; exact HS0.out, HR.out⟩, Lib.hid (grown_refl w _)⟩
    case round =>
      obtain ⟨i, hi1, hib, rfl, HX, HG⟩ := hrel
      by_cases hlt : i < b
      · have hd : decide ((i : Int) < (b : Int)) = true := decide_eq_true (by omega)
        have HIN : Hid (∃ L, InsInv P M S i i L ∧ SRow wr base g m cap L) := Lib.hid (by
          obtain ⟨L, h1, h2⟩ := HX.out
          exact ⟨L, out_in h1 (by omega), h2⟩)
        clear HX HR HS0
        go_wp2_with fail
        obtain ⟨wo, hwo⟩ : ∃ wo, wo = wr := ⟨_, rfl⟩
        rw [← hwo] at HIN HG ⊢
        clear hwo wr
        go_loopw [9] (fun v wr => ∃ j : Nat, a ≤ j ∧ j ≤ i ∧ v = .int .i64 (j : Int) ∧ Hid (∃ L, InsInv P M S i j L ∧ SRow wr base g m cap L) ∧ Hid (w.grownBy wr (some g))) (fun v _ => (intOf v).toNat)
        case atStart => exact ⟨i, by omega, Nat.le_refl _, rfl, HIN, HG⟩
        case round =>
          obtain ⟨j, hj1, hj2, rfl, HI, HG⟩ := hrel
          by_cases hja : a < j
          · obtain ⟨k, hk⟩ : ∃ k, j = k + 1 := ⟨j - 1, by omega⟩
            have hke : (j : Int) - 1 = (k : Int) := by omega
            have hg1 : decide ((a : Int) < (j : Int)) = true := decide_eq_true (by omega)
            obtain ⟨L, hI, hS⟩ := HI.out
            have HL := Lib.hid hS
            have hjm : j < m := by have h1 := inv_length hI; have h2 := hS.2; omega
            obtain ⟨x, hx⟩ : ∃ x, x = L.getD j none_Slot := ⟨_, rfl⟩
            obtain ⟨y, hy⟩ : ∃ y, y = L.getD k none_Slot := ⟨_, rfl⟩
            obtain ⟨b, hb9⟩ : ∃ b, b = ltS x y := ⟨_, rfl⟩
            have HNO : Hid (b = false → OutInv P M S (i + 1) L) := Lib.hid (fun h => in_stop hI (by omega) (by rw [show j - 1 = k by omega, ← hx, ← hy, ← hb9]; exact h))
            have HYES : Hid (b = true → InsInv P M S i k (exch L j k)) := Lib.hid (fun h => by
              have h9 := in_step hI (by omega) (by rw [show j - 1 = k by omega, ← hx, ← hy, ← hb9]; exact h)
              rw [show j - 1 = k by omega] at h9
              exact h9)
            have HX := Lib.hid hx
            have HY := Lib.hid hy
            obtain ⟨z, hz⟩ : ∃ z, z = cmpI x.2.2.1 y.2.2.1 := ⟨_, rfl⟩
            have hzb : decide (z < 0) = b := by rw [hz, hb9, cmpI_neg]; rfl
            have HCL := fun n os => closure_grown x y wr n os
            rw [← hz] at HCL
            obtain ⟨c0, c1, c2, c3, -, -, -, -⟩ := row_at hS (p := j) hjm x hx
            obtain ⟨e0, e1, e2, e3, -, -, -, -⟩ := row_at hS (p := k) (by omega) y hy
            have hgr : g < wr.heap.size := World.block_lt_of_cell? _ _ c0
            have c0 := cell_grown hgr c0
            have c1 := cell_grown hgr c1
            have c2 := cell_grown hgr c2
            have c3 := cell_grown hgr c3
            have e0 := cell_grown hgr e0
            have e1 := cell_grown hgr e1
            have e2 := cell_grown hgr e2
            have e3 := cell_grown hgr e3
            obtain ⟨x0, x1, x2, x3⟩ := x
            obtain ⟨y0, y1, y2, y3⟩ := y
            simp only at c0 c1 c2 c3 e0 e1 e2 e3 HCL
            clear hI hS HI hx hy hb9 hz hk
            have hkm : k < m := by omega
            have hwk : IntKind.i64.wrap (k : Int) = (k : Int) := by rw [IntKind.wrap_i64]; omega
            cases b with
            | true =>
              go_wp2_with fail
              go_quiet_grown (first | (go_at_call 57; refine Calls.grown_of (HCL _ _)))
              have HL2 := Lib.hid (srow_grown HL.out nq osq)
              have HG2 := Lib.hid (grown_growN HG.out nq osq)
              obtain ⟨W, hW⟩ : ∃ W, W = grow (wr.drewN nq) osq := ⟨_, rfl⟩
              simp only
              rw [← hW] at HL2 HG2 ⊢
              clear hW HL HG c0 c1 c2 c3 e0 e1 e2 e3 HCL hgr
              have HIN2 := Lib.hid (HYES.out (by trivial))
              obtain ⟨c0, c1, c2, c3, f0, f1, f2, f3⟩ := row_at HL2.out (p := j) hjm (x0, x1, x2, x3) HX.out
              obtain ⟨e0, e1, e2, e3, g0, g1, g2, g3⟩ := row_at HL2.out (p := k) hkm (y0, y1, y2, y3) HY.out
              simp only at c0 c1 c2 c3 e0 e1 e2 e3
              have n0 : ∀ u v, u < 4 → v < 4 → ¬ (k * 4 + u = j * 4 + v) := fun u v hu hv => by omega
              have n1 : ∀ u v, u < 4 → v < 4 → ¬ (j * 4 + u = k * 4 + v) := fun u v hu hv => by omega
              go_wp2_with fail
              go_region
              obtain ⟨hS, hG⟩ := exch_world HL2.out hjm hkm HX.out HY.out HG2.out
              simp only [put4] at hS hG
              have HS := Lib.hid hS
              have HG3 := Lib.hid hG
              clear hS hG c0 c1 c2 c3 e0 e1 e2 e3 f0 f1 f2 f3 g0 g1 g2 g3 n0 n1
              go_wp2_with fail
              go_roundw
              case rel => exact ⟨k, by omega, by omega, by first | rfl | go_num, Lib.hid ⟨_, HIN2.out, HS.out⟩, HG3⟩
              case measure => simp [intOf]; omega
            | false =>
              go_wp2_with fail
              go_quiet_grown (first | (go_at_call 57; refine Calls.grown_of (HCL _ _)))
              have HL2 := Lib.hid (srow_grown HL.out nq osq)
              have HG2 := Lib.hid (grown_growN HG.out nq osq)
              obtain ⟨W, hW⟩ : ∃ W, W = grow (wr.drewN nq) osq := ⟨_, rfl⟩
              simp only
              rw [← hW] at HL2 HG2 ⊢
              clear hW HL HG c0 c1 c2 c3 e0 e1 e2 e3 HCL hgr
              have HOUT := Lib.hid (HNO.out (by trivial))
              go_wp2_with fail
              go_roundw
              case rel => exact ⟨i + 1, by omega, by omega, by go_num, Lib.hid ⟨_, HOUT.out, HL2.out⟩, HG2⟩
              case measure => simp [intOf]; omega
          · have hja' : j = a := by omega
            have hg1 : decide ((a : Int) < (j : Int)) = false := decide_eq_false (by omega)
            have hg2 : decide (a < j) = false := decide_eq_false (by omega)
            have HOUT : Hid (∃ L, OutInv P M S (i + 1) L ∧ SRow wr base g m cap L) := Lib.hid (by
              obtain ⟨L, h1, h2⟩ := HI.out
              exact ⟨L, in_stop0 h1 (by omega), h2⟩)
            clear HI hja hja'
            go_wp2_with fail
            go_quiet (fail)
            have HOUT2 : Hid (∃ L, OutInv P M S (i + 1) L ∧ SRow (wr.drewN nq) base g m cap L) := Lib.hid (by
              obtain ⟨L, h1, h2⟩ := HOUT.out
              exact ⟨L, h1, h2⟩)
            have HG2 := Lib.hid (grown_trans HG.out (grown_drewN wr nq (some g)))
            obtain ⟨W, hW⟩ : ∃ W, W = wr.drewN nq := ⟨_, rfl⟩
            rw [← hW] at HOUT2 HG2 ⊢
            clear hW HOUT HG
            go_wp2_with fail
            go_roundw
            case rel => exact ⟨i + 1, by omega, by omega, by go_num, HOUT2, HG2⟩
            case measure => simp [intOf]; omega
      · have hd : decide ((i : Int) < (b : Int)) = false := decide_eq_false (by omega)
        have HF : Hid (∃ M', SRow wr base g m cap (P ++ M' ++ S) ∧ M'.Pairwise leS ∧ Bub ltS M M') := Lib.hid (by
          obtain ⟨L, h1, h2⟩ := HX.out
          obtain ⟨M', h3, h4, h5⟩ := out_end h1 (by omega)
          exact ⟨M', by rw [← h3]; exact h2, h4, h5⟩)
        go_wp2_with fail
        go_end0
        exact ⟨⟨_, rfl⟩, HF.out, HG.out⟩
end Go.Proofs.YtgpplfhbgkcjhaaDoor
namespace Go.Proofs.YtgpplfhbgkcjhaaDoor
open Go.RowKit Go.Sort

/-- What a binary search for the first place at which F holds knows. -/
def BinInv (F : Nat → Bool) (lo hi i j : Nat) : Prop := lo ≤ i ∧ i ≤ j ∧ j ≤ hi ∧ (∀ c, lo ≤ c → c < i → F c = false) ∧ (∀ c, j ≤ c → c < hi → F c = true)
def Mono (F : Nat → Bool) (lo hi : Nat) : Prop := ∀ c d, lo ≤ c → c ≤ d → d < hi → F c = true → F d = true
theorem bin_start (F : Nat → Bool) {lo hi : Nat} (h : lo ≤ hi) : BinInv F lo hi lo hi := ⟨Nat.le_refl _, h, Nat.le_refl _, fun c h1 h2 => by omega, fun c h1 h2 => by omega⟩
theorem bin_false {F : Nat → Bool} {lo hi i j c : Nat} (h : BinInv F lo hi i j) (hm : Mono F lo hi) (h1 : i ≤ c) (h2 : c < j) (hc : F c = false) : BinInv F lo hi (c + 1) j := by
  obtain ⟨a1, a2, a3, a4, a5⟩ := h
  refine ⟨by omega, by omega, a3, fun d hd1 hd2 => ?_, a5⟩
  rcases hd : F d with _ | _
  · rfl
  · have := hm d c hd1 (by omega) (by omega) hd
    rw [this] at hc
    cases hc
theorem bin_true {F : Nat → Bool} {lo hi i j c : Nat} (h : BinInv F lo hi i j) (hm : Mono F lo hi) (h1 : i ≤ c) (h2 : c < j) (hc : F c = true) : BinInv F lo hi i c := by
  obtain ⟨a1, a2, a3, a4, a5⟩ := h
  exact ⟨a1, h1, by omega, a4, fun d hd1 hd2 => hm c d (by omega) hd1 hd2 hc⟩
theorem getD_mid (P : List SlotV) (x : SlotV) (Z : List SlotV) : (P ++ x :: Z).getD P.length none_Slot = x := by
  rw [List.getD_eq_getElem?_getD, List.getElem?_append_right (Nat.le_refl _), Nat.sub_self]
  rfl
theorem getD_in2 (P B Z : List SlotV) {k c : Nat} (hk : P.length = k) (h1 : k ≤ c) (h2 : c < k + B.length) : (P ++ B ++ Z).getD c none_Slot = B.getD (c - k) none_Slot := by
  subst hk
  rw [List.append_assoc, List.getD_eq_getElem?_getD, List.getElem?_append_right h1, List.getElem?_append_left (by omega), List.getD_eq_getElem?_getD]
theorem sorted_getD {B : List SlotV} (h : B.Pairwise leS) {c d : Nat} (hc : c ≤ d) (hd : d < B.length) : leS (B.getD c none_Slot) (B.getD d none_Slot) := by
  rcases Nat.lt_or_ge c d with h1 | h1
  · rw [List.getD_eq_getElem?_getD, List.getD_eq_getElem?_getD, List.getElem?_eq_getElem hd, List.getElem?_eq_getElem (by omega)]
    exact (List.pairwise_iff_getElem.1 h) c d _ _ h1
  · rw [show c = d by omega]
    exact Int.le_refl _
theorem mem_take_getD {B : List SlotV} {q : Nat} {y : SlotV} (h : y ∈ B.take q) : ∃ c, c < q ∧ c < B.length ∧ B.getD c none_Slot = y := by
  obtain ⟨c, hc, rfl⟩ := List.mem_iff_getElem.1 h
  rw [List.length_take] at hc
  refine ⟨c, by omega, by omega, ?_⟩
  rw [List.getD_eq_getElem?_getD, List.getElem?_eq_getElem (by omega), List.getElem_take]
  rfl
theorem mem_drop_getD {B : List SlotV} {q : Nat} {y : SlotV} (h : y ∈ B.drop q) : ∃ c, q ≤ c ∧ c < B.length ∧ B.getD c none_Slot = y := by
  obtain ⟨c, hc, rfl⟩ := List.mem_iff_getElem.1 h
  rw [List.length_drop] at hc
  refine ⟨q + c, by omega, by omega, ?_⟩
  rw [List.getD_eq_getElem?_getD, List.getElem?_eq_getElem (by omega), List.getElem_drop]
  rfl
theorem pass_right (P : List SlotV) (x : SlotV) (B S : List SlotV) {t : Nat} (ht : t < B.length) : exch (P ++ B.take t ++ x :: B.drop t ++ S) (P.length + t) (P.length + t + 1) = P ++ B.take (t + 1) ++ x :: B.drop (t + 1) ++ S := by
  have h1 : B.drop t = B.getD t none_Slot :: B.drop (t + 1) := by
    rw [List.drop_eq_getElem_cons ht, List.getD_eq_getElem?_getD, List.getElem?_eq_getElem ht]
    rfl
  have h2 := exch_mid (P ++ B.take t) x [] (B.getD t none_Slot) (B.drop (t + 1) ++ S)
  rw [List.length_append, List.length_take, List.length_nil, Nat.min_eq_left (by omega), Nat.add_zero] at h2
  rw [take_getD ht, h1]
  simpa using h2
theorem pass_left (P : List SlotV) (y : SlotV) (A S : List SlotV) {t : Nat} (ht : t < A.length) : exch (P ++ A.take (t + 1) ++ y :: A.drop (t + 1) ++ S) (P.length + t + 1) (P.length + t) = P ++ A.take t ++ y :: A.drop t ++ S := by
  have h1 : A.drop t = A.getD t none_Slot :: A.drop (t + 1) := by
    rw [List.drop_eq_getElem_cons ht, List.getD_eq_getElem?_getD, List.getElem?_eq_getElem ht]
    rfl
  have h2 := exch_mid (P ++ A.take t) (A.getD t none_Slot) [] y (A.drop (t + 1) ++ S)
  rw [List.length_append, List.length_take, List.length_nil, Nat.min_eq_left (by omega), Nat.add_zero] at h2
  rw [take_getD ht, h1, exch_comm _ (by omega)]
  simpa using h2
theorem sorted_mid {B : List SlotV} (hB : B.Pairwise leS) {x : SlotV} {q : Nat} (h1 : ∀ y ∈ B.take q, leS y x) (h2 : ∀ y ∈ B.drop q, leS x y) : (B.take q ++ x :: B.drop q).Pairwise leS := by
  rw [← List.take_append_drop q B, List.pairwise_append] at hB
  obtain ⟨p1, p2, p3⟩ := hB
  rw [List.pairwise_append, List.pairwise_cons]
  refine ⟨p1, ⟨h2, p2⟩, fun u hu v hv => ?_⟩
  rcases List.mem_cons.1 hv with rfl | hv
  · exact h1 u hu
  · exact p3 u hu v hv
/-- What the search of the first case finds. -/
theorem sym1_found {P S : List SlotV} {x : SlotV} {B : List SlotV} {a k b : Nat} (ha : P.length = a) (hk : k = a + 1) (hb : k + B.length = b) :
    (∀ c, k ≤ c → c < b → (P ++ x :: B ++ S).getD c none_Slot = B.getD (c - k) none_Slot) ∧ (P ++ x :: B ++ S).getD a none_Slot = x := by
  refine ⟨fun c h1 h2 => ?_, by rw [List.append_assoc, ← ha]; exact getD_mid P x _⟩
  have h3 := getD_in2 (P ++ [x]) B S (k := k) (c := c) (by simp; omega) h1 (by omega)
  simpa using h3
theorem sym1_mono {P S : List SlotV} {x : SlotV} {B : List SlotV} {a k b : Nat} (ha : P.length = a) (hk : k = a + 1) (hb : k + B.length = b) (hB : B.Pairwise leS) :
    Mono (fun h => !(ltS ((P ++ x :: B ++ S).getD h none_Slot) ((P ++ x :: B ++ S).getD a none_Slot))) k b := by
  obtain ⟨h1, h2⟩ := sym1_found (S := S) (x := x) ha hk hb
  intro c d hc hcd hd h
  simp only [h1 c hc (by omega), h1 d (by omega) hd, h2, Bool.not_eq_true', ltS, decide_eq_false_iff_not] at h ⊢
  have := sorted_getD hB (show c - k ≤ d - k by omega) (by omega)
  unfold leS at this
  omega
theorem sym1_done {P S : List SlotV} {x : SlotV} {B : List SlotV} {a k b i : Nat} (ha : P.length = a) (hk : k = a + 1) (hb : k + B.length = b) (hB : B.Pairwise leS) (h : BinInv (fun h => !(ltS ((P ++ x :: B ++ S).getD h none_Slot) ((P ++ x :: B ++ S).getD a none_Slot))) k b i i) :
    (B.take (i - k) ++ x :: B.drop (i - k)).Pairwise leS ∧ Bub ltS (x :: B) (B.take (i - k) ++ x :: B.drop (i - k)) := by
  obtain ⟨h1, h2⟩ := sym1_found (S := S) (x := x) ha hk hb
  obtain ⟨a1, -, a3, a4, a5⟩ := h
  have h3 : ∀ y ∈ B.take (i - k), ltS y x = true := fun y hy => by
    obtain ⟨c, hc1, hc2, rfl⟩ := mem_take_getD hy
    have h9 := a4 (k + c) (by omega) (by omega)
    simp only [h1 (k + c) (by omega) (by omega), h2, Bool.not_eq_false', show k + c - k = c by omega] at h9
    exact h9
  have h4 : ∀ y ∈ B.drop (i - k), ltS y x = false := fun y hy => by
    obtain ⟨c, hc1, hc2, rfl⟩ := mem_drop_getD hy
    have h9 := a5 (k + c) (by omega) (by omega)
    simp only [h1 (k + c) (by omega) (by omega), h2, Bool.not_eq_true', show k + c - k = c by omega] at h9
    exact h9
  refine ⟨sorted_mid hB (fun y hy => ?_) (fun y hy => ltS_not (h4 y hy)), ?_⟩
  · have := ltS_iff.1 (h3 y hy)
    unfold leS
    omega
  · have h5 := (Bub.block (lt := ltS) [x] (B.take (i - k)) (fun u hu y hy => by rw [List.mem_singleton.1 hu]; exact h3 y hy)).ctx [] (B.drop (i - k))
    simpa using h5
set_option maxRecDepth 100000 in
set_option maxHeartbeats 3200000 in
theorem sym1_any (base g m cap : Nat) (P S : List SlotV) (x : SlotV) (B : List SlotV) (a k b : Nat) (ha : P.length = a) (hk : k = a + 1) (hb : k + B.length = b) (hm : m ≤ 1000) (hsB : B.Pairwise leS) (w : World) (hR : SRow w base g m cap (P ++ x :: B ++ S)) :
    Calls Tryd.prog 104 #[.slice (some ⟨g, 0, none⟩) m cap, .int .i64 (a : Int), .int .i64 (k : Int), .int .i64 (b : Int), lessF] w fun e w' => (∃ r, e = .returned r) ∧ (∃ M', SRow w' base g m cap (P ++ M' ++ S) ∧ M'.Pairwise leS ∧ Bub ltS (x :: B) M') ∧ w.grownBy w' (some g) := by
  have HR := Lib.hid hR
  have hbm : b ≤ m := by have := hR.2; simp at this; omega
  have hka : (k : Int) - (a : Int) = 1 := by omega
  have hmix : Tryd.prog.follows .mixedOrders = true := by kernel_rfl
  have HMO := Lib.hid (sym1_mono (S := S) (x := x) ha hk hb hsB)
  have HDN := Lib.hid (fun i h => sym1_done (S := S) (x := x) (i := i) ha hk hb hsB h)
  obtain ⟨L, hL⟩ : ∃ L, L = P ++ x :: B ++ S := ⟨_, rfl⟩
  rw [← hL] at HR HMO HDN
  have HL := Lib.hid hL
  have hak : a < k := by omega
  have hkb : k ≤ b := by omega
  have HK := Lib.hid (And.intro hk (And.intro ha hb))
  clear hR hL hk ha hb
  unfold lessF
  go_enter Tryd.func104, Tryd.ntmps104
  go_wp2_with fail
  go_loopw [10, 11, 12] (fun u v h9 wr => ∃ i j : Nat, u = .int .i64 (i : Int) ∧ v = .int .i64 (j : Int) ∧ k ≤ i ∧ i ≤ j ∧ j ≤ b ∧ Hid (BinInv (fun h => !(ltS (L.getD h none_Slot) (L.getD a none_Slot))) k b i j) ∧ Hid (SRow wr base g m cap L) ∧ Hid (w.grownBy wr (some g))) (fun u v _ _ => (intOf v).toNat - (intOf u).toNat)
  case atStart => exact ⟨k, b, rfl, rfl, Nat.le_refl _, hkb, Nat.le_refl _, Lib.hid (bin_start _ hkb), HR, Lib.hid (grown_refl w _)⟩
  case round =>
    obtain ⟨i, j, rfl, rfl, hi1, hij, hjb, HI, HS, HG⟩ := hrel
    by_cases hlt : i < j
    · have hd : decide ((i : Int) < (j : Int)) = true := decide_eq_true (by omega)
      obtain ⟨h, hh⟩ : ∃ h, h = (i + j) / 2 := ⟨_, rfl⟩
      have hhe : ((i : Int) + (j : Int)) / 2 = (h : Int) := by omega
      have hh1 : i ≤ h := by omega
      have hh2 : h < j := by omega
      have hhm : h < m := by omega
      have ham : a < m := by omega
      clear hh HR
      obtain ⟨x9, hx9⟩ : ∃ x9, x9 = L.getD h none_Slot := ⟨_, rfl⟩
      obtain ⟨y9, hy9⟩ : ∃ y9, y9 = L.getD a none_Slot := ⟨_, rfl⟩
      obtain ⟨b9, hb9⟩ : ∃ b9, b9 = ltS x9 y9 := ⟨_, rfl⟩
      have HB9 : Hid (ltS (L.getD h none_Slot) (L.getD a none_Slot) = b9) := Lib.hid (by rw [hb9, hx9, hy9])
      obtain ⟨z9, hz9⟩ : ∃ z9, z9 = cmpI x9.2.2.1 y9.2.2.1 := ⟨_, rfl⟩
      have hzb : decide (z9 < 0) = b9 := by rw [hz9, hb9, cmpI_neg]; rfl
      have HCL := fun n os => closure_grown x9 y9 wr n os
      rw [← hz9] at HCL
      obtain ⟨c0, c1, c2, c3, -, -, -, -⟩ := row_at HS.out (p := h) hhm x9 hx9
      obtain ⟨e0, e1, e2, e3, -, -, -, -⟩ := row_at HS.out (p := a) ham y9 hy9
      have hgr : g < wr.heap.size := World.block_lt_of_cell? _ _ c0
      have c0 := cell_grown hgr c0
      have c1 := cell_grown hgr c1
      have c2 := cell_grown hgr c2
      have c3 := cell_grown hgr c3
      have e0 := cell_grown hgr e0
      have e1 := cell_grown hgr e1
      have e2 := cell_grown hgr e2
      have e3 := cell_grown hgr e3
      obtain ⟨x0, x1, x2, x3⟩ := x9
      obtain ⟨y0, y1, y2, y3⟩ := y9
      simp only at c0 c1 c2 c3 e0 e1 e2 e3 HCL
      clear hx9 hy9 hb9 hz9
      cases b9 with
      | true =>
        go_wp2_with fail
        go_quiet_grown (first | (go_at_call 57; refine Calls.grown_of (HCL _ _)))
        have HS2 := Lib.hid (srow_grown HS.out nq osq)
        have HG2 := Lib.hid (grown_growN HG.out nq osq)
        obtain ⟨W, hW⟩ : ∃ W, W = grow (wr.drewN nq) osq := ⟨_, rfl⟩
        simp only
        rw [← hW] at HS2 HG2 ⊢
        clear hW HS HG c0 c1 c2 c3 e0 e1 e2 e3 HCL hgr

        have HBI : Hid (BinInv (fun h => !(ltS (L.getD h none_Slot) (L.getD a none_Slot))) k b (h + 1) j) := Lib.hid (bin_false HI.out HMO.out (by omega) (by omega) (by simp only [HB9.out]; rfl))
        go_wp2_with fail
        go_roundw
        case rel => exact ⟨h + 1, j, by go_num, rfl, by omega, by omega, hjb, HBI, HS2, HG2⟩
        case measure => simp [intOf]; omega
      | false =>
        go_wp2_with fail
        go_quiet_grown (first | (go_at_call 57; refine Calls.grown_of (HCL _ _)))
        have HS2 := Lib.hid (srow_grown HS.out nq osq)
        have HG2 := Lib.hid (grown_growN HG.out nq osq)
        obtain ⟨W, hW⟩ : ∃ W, W = grow (wr.drewN nq) osq := ⟨_, rfl⟩
        simp only
        rw [← hW] at HS2 HG2 ⊢
        clear hW HS HG c0 c1 c2 c3 e0 e1 e2 e3 HCL hgr

        have HBI : Hid (BinInv (fun h => !(ltS (L.getD h none_Slot) (L.getD a none_Slot))) k b i h) := Lib.hid (bin_true HI.out HMO.out (by omega) (by omega) (by simp only [HB9.out]; rfl))
        go_wp2_with fail
        go_roundw
        case rel => exact ⟨i, h, rfl, by first | rfl | go_num, hi1, by omega, by omega, HBI, HS2, HG2⟩
        case measure => simp [intOf]; omega
    · have hd : decide ((i : Int) < (j : Int)) = false := decide_eq_false (by omega)
      have hd2 : decide (i < j) = false := decide_eq_false (by omega)
      obtain rfl : i = j := by omega
      obtain ⟨hso, hbu⟩ := HDN.out i HI.out
      have HFIN := Lib.hid (And.intro hso hbu)
      clear hso hbu HI HMO HDN
      obtain ⟨n, hn⟩ : ∃ n, n = i - k := ⟨_, rfl⟩
      rw [← hn] at HFIN
      have hnB : n ≤ B.length := by have := HK.out.2.2; omega
      obtain ⟨e, he⟩ : ∃ e, e = a + n := ⟨_, rfl⟩
      have hine : (i : Int) - 1 = (e : Int) := by have := HK.out.1; omega
      have HE := Lib.hid he
      clear he
      obtain ⟨wo, hwo⟩ : ∃ wo, wo = wr := ⟨_, rfl⟩
      have HS0 : Hid (SRow wo base g m cap (P ++ B.take 0 ++ x :: B.drop 0 ++ S)) := Lib.hid (by rw [hwo]; have h9 := HS.out; rw [HL.out] at h9; simpa using h9)
      rw [← hwo] at HG ⊢
      clear HS hn HR hwo wr
      have HX := Lib.hid hine
      clear hine
      go_wp2_with fail
      go_loopw [13] (fun v wr => ∃ t p : Nat, t ≤ n ∧ Hid (p = a + t) ∧ v = .int .i64 (p : Int) ∧ Hid (SRow wr base g m cap (P ++ B.take t ++ x :: B.drop t ++ S)) ∧ Hid (w.grownBy wr (some g))) (fun v _ => a + n - (intOf v).toNat)
      case atStart => exact ⟨0, a, Nat.zero_le _, Lib.hid rfl, rfl, HS0, HG⟩
      case round =>
        obtain ⟨t, p, ht, HPT, rfl, HS, HG⟩ := hrel
        have hp := HPT.out
        have hie := HX.out
        have h8 := HK.out
        have he9 := HE.out
        by_cases htn : t < n
        · have hd : decide ((p : Int) < (e : Int)) = true := decide_eq_true (by omega)
          have hd9 : decide (p < e) = true := decide_eq_true (by omega)
          clear he9
          obtain ⟨q, hq⟩ : ∃ q, q = p + 1 := ⟨_, rfl⟩
          have hqe : (p : Int) + 1 = (q : Int) := by omega
          have hqm : q < m := by omega
          have hpm : p < m := by omega
          have HEX : Hid (exch (P ++ B.take t ++ x :: B.drop t ++ S) p q = P ++ B.take (t + 1) ++ x :: B.drop (t + 1) ++ S) := Lib.hid (by
            have h9 := pass_right P x B S (t := t) (by omega)
            rw [h8.2.1, ← hp, ← hq] at h9
            exact h9)
          obtain ⟨L2, hL2⟩ : ∃ L2, L2 = P ++ B.take t ++ x :: B.drop t ++ S := ⟨_, rfl⟩
          rw [← hL2] at HS HEX
          have HPT2 : Hid (q = a + (t + 1)) := Lib.hid (by omega)
          have hpn : p < a + n := by omega
          clear hL2 hq h8 hp HPT
          obtain ⟨x9, hx9⟩ : ∃ x9, x9 = L2.getD p none_Slot := ⟨_, rfl⟩
          obtain ⟨y9, hy9⟩ : ∃ y9, y9 = L2.getD q none_Slot := ⟨_, rfl⟩
          have HX9 := Lib.hid hx9
          have HY9 := Lib.hid hy9
          obtain ⟨c0, c1, c2, c3, f0, f1, f2, f3⟩ := row_at HS.out (p := p) hpm x9 hx9
          obtain ⟨e0, e1, e2, e3, g0, g1, g2, g3⟩ := row_at HS.out (p := q) hqm y9 hy9
          obtain ⟨x0, x1, x2, x3⟩ := x9
          obtain ⟨y0, y1, y2, y3⟩ := y9
          simp only at c0 c1 c2 c3 e0 e1 e2 e3
          clear hx9 hy9
          have n0 : ∀ u v, u < 4 → v < 4 → ¬ (q * 4 + u = p * 4 + v) := fun u v hu hv => by omega
          have n1 : ∀ u v, u < 4 → v < 4 → ¬ (p * 4 + u = q * 4 + v) := fun u v hu hv => by omega
          go_wp2_with fail
          go_region
          obtain ⟨hS, hG⟩ := exch_world HS.out hpm hqm HX9.out HY9.out HG.out
          simp only [put4] at hS hG
          have HS3 := Lib.hid hS
          have HG3 := Lib.hid hG
          clear hS hG c0 c1 c2 c3 e0 e1 e2 e3 f0 f1 f2 f3 g0 g1 g2 g3 n0 n1
          go_wp2_with fail
          rw [HEX.out] at HS3
          go_roundw
          case rel => exact ⟨t + 1, q, by omega, HPT2, by first | rfl | (congr 1; omega), HS3, HG3⟩
          case measure => simp [intOf]; omega
        · have hd : decide ((p : Int) < (e : Int)) = false := decide_eq_false (by omega)
          have hd9 : decide (p < e) = false := decide_eq_false (by omega)
          clear he9 h8
          have htn' : t = n := by omega
          have HF : Hid (SRow wr base g m cap (P ++ (B.take n ++ x :: B.drop n) ++ S)) := Lib.hid (by have h9 := HS.out; rw [htn'] at h9; simpa using h9)
          clear HS htn' hp HPT
          go_wp2_with fail
          refine bodyPost_ret (results_none rfl _ _ _) rfl ?_
          exact ⟨⟨_, rfl⟩, ⟨_, HF.out, HFIN.out.1, HFIN.out.2⟩, HG.out⟩
end Go.Proofs.YtgpplfhbgkcjhaaDoor
