/-
  The stable sort of slots, third part: insertion sort.
-/
import Derived.Test.YtdhjgaadfofkkaaDoorSlotSortB
import Derived.Shelf.SlSortCmp.QuietGrown
import Derived.BigQuiet
namespace Go.Proofs.YtdhjgaadfofkkaaDoor
open Go.RowKit Go.Sort

def ltS (x y : SlotV) : Bool := decide (x.2.2.1 < y.2.2.1)
def leS (x y : SlotV) : Prop := x.2.2.1 ≤ y.2.2.1
theorem ltS_iff {x y : SlotV} : ltS x y = true ↔ x.2.2.1 < y.2.2.1 := ⟨of_decide_eq_true, decide_eq_true⟩
theorem ltS_not {x y : SlotV} (h : ltS x y = false) : leS y x := by
  have := of_decide_eq_false h
  unfold leS
  omega
theorem cmpI_neg (a b : Int) : decide (cmpI a b < 0) = decide (a < b) := by
  unfold cmpI
  by_cases h1 : a < b
  · rw [if_pos h1]; simp [h1]
  · rw [if_neg h1]
    by_cases h2 : b < a
    · rw [if_pos h2]; simp [h1]
    · rw [if_neg h2]; simp [h1]
theorem exch_comm (l : List SlotV) {p q : Nat} (h : p ≠ q) : exch l p q = exch l q p := by
  unfold exch
  rw [List.set_comm _ _ h]
def InsInv (P M S : List SlotV) (i j : Nat) (L : List SlotV) : Prop :=
  ∃ (Q1 : List SlotV) (x : SlotV) (Q2 R : List SlotV), L = P ++ (Q1 ++ x :: Q2 ++ R) ++ S ∧ P.length + Q1.length = j ∧ P.length + Q1.length + Q2.length = i ∧ (Q1 ++ Q2).Pairwise leS ∧ (∀ y ∈ Q2, ltS x y = true) ∧ Bub ltS M (Q1 ++ x :: Q2 ++ R)
def OutInv (P M S : List SlotV) (i : Nat) (L : List SlotV) : Prop :=
  ∃ Q R : List SlotV, L = P ++ (Q ++ R) ++ S ∧ P.length + Q.length = i ∧ Q.Pairwise leS ∧ Bub ltS M (Q ++ R)
theorem out_start (P M S : List SlotV) (h : 1 ≤ M.length) : OutInv P M S (P.length + 1) (P ++ M ++ S) := by
  obtain ⟨x, M, rfl⟩ : ∃ x M', M = x :: M' := by
    cases M with
    | nil => simp at h
    | cons x M => exact ⟨x, M, rfl⟩
  exact ⟨[x], M, rfl, rfl, List.pairwise_singleton .., .refl _⟩
theorem out_in {P M S : List SlotV} {i : Nat} {L : List SlotV} (h : OutInv P M S i L) (hi : i < P.length + M.length) : InsInv P M S i i L := by
  obtain ⟨Q, R, h1, h2, h3, h4⟩ := h
  obtain ⟨x, R, rfl⟩ : ∃ x R', R = x :: R' := by
    cases R with
    | nil =>
      have := h4.length
      simp at this
      omega
    | cons x R => exact ⟨x, R, rfl⟩
  exact ⟨Q, x, [], R, by rw [h1]; simp, h2, by simpa using h2, by simpa using h3, by simp, by simpa using h4⟩
theorem in_stop0 {P M S : List SlotV} {i j : Nat} {L : List SlotV} (h : InsInv P M S i j L) (hj : j = P.length) : OutInv P M S (i + 1) L := by
  obtain ⟨Q1, x, Q2, R, h1, h2, h3, h4, h5, h6⟩ := h
  obtain rfl : Q1 = [] := List.length_eq_zero_iff.1 (by omega)
  refine ⟨x :: Q2, R, by rw [h1]; simp, by simp at h3 ⊢; omega, ?_, by simpa using h6⟩
  rw [List.pairwise_cons]
  refine ⟨fun y hy => ?_, by simpa using h4⟩
  have := ltS_iff.1 (h5 y hy)
  unfold leS
  omega
theorem in_get {P M S : List SlotV} {i j : Nat} {L : List SlotV} (h : InsInv P M S i j L) (hj : P.length < j) :
    ∃ (Q1 : List SlotV) (y x : SlotV) (Q2 R : List SlotV), L = (P ++ Q1) ++ y :: [] ++ x :: (Q2 ++ R ++ S) ∧ P.length + Q1.length + 1 = j ∧ P.length + Q1.length + 1 + Q2.length = i ∧ (Q1 ++ [y] ++ Q2).Pairwise leS ∧ (∀ y ∈ Q2, ltS x y = true) ∧ Bub ltS M (Q1 ++ [y] ++ x :: Q2 ++ R) ∧ L.getD j none_Slot = x ∧ L.getD (j - 1) none_Slot = y := by
  obtain ⟨Q1, x, Q2, R, h1, h2, h3, h4, h5, h6⟩ := h
  obtain ⟨Q, y, rfl⟩ : ∃ Q y, Q1 = Q ++ [y] := ⟨Q1.dropLast, Q1.getLast (by intro e; simp [e] at h2; omega), (List.dropLast_concat_getLast _).symm⟩
  simp only [List.length_append, List.length_singleton] at h2 h3
  have hL : L = (P ++ Q) ++ y :: [] ++ x :: (Q2 ++ R ++ S) := by rw [h1]; simp
  refine ⟨Q, y, x, Q2, R, hL, by omega, by omega, by simpa using h4, h5, by simpa using h6, ?_, ?_⟩
  · rw [hL, List.getD_eq_getElem?_getD, List.getElem?_append_right (by simp; omega), show j - (P ++ Q ++ y :: []).length = 0 by simp; omega]
    rfl
  · rw [hL, List.append_assoc, List.getD_eq_getElem?_getD, List.getElem?_append_right (by simp; omega), show j - 1 - (P ++ Q).length = 0 by simp; omega]
    rfl
theorem in_stop {P M S : List SlotV} {i j : Nat} {L : List SlotV} (h : InsInv P M S i j L) (hj : P.length < j) (hl : ltS (L.getD j none_Slot) (L.getD (j - 1) none_Slot) = false) : OutInv P M S (i + 1) L := by
  obtain ⟨Q1, y, x, Q2, R, h1, h2, h3, h4, h5, h6, h7, h8⟩ := in_get h hj
  rw [h7, h8] at hl
  have hyx := ltS_not hl
  refine ⟨Q1 ++ [y] ++ x :: Q2, R, by rw [h1]; simp, by simp; omega, ?_, by simpa using h6⟩
  rw [List.pairwise_append] at h4 ⊢
  obtain ⟨p1, p2, p3⟩ := h4
  refine ⟨p1, ?_, fun u hu v hv => ?_⟩
  · rw [List.pairwise_cons]
    refine ⟨fun v hv => ?_, p2⟩
    have := ltS_iff.1 (h5 v hv)
    unfold leS
    omega
  · rcases List.mem_cons.1 hv with rfl | hv
    · rcases List.mem_append.1 hu with hu | hu
      · rw [List.pairwise_append] at p1
        have := p1.2.2 u hu y (List.mem_singleton_self _)
        unfold leS at this hyx ⊢
        omega
      · rw [List.mem_singleton.1 hu]
        exact hyx
    · exact p3 u hu v hv
theorem in_step {P M S : List SlotV} {i j : Nat} {L : List SlotV} (h : InsInv P M S i j L) (hj : P.length < j) (hl : ltS (L.getD j none_Slot) (L.getD (j - 1) none_Slot) = true) : InsInv P M S i (j - 1) (exch L j (j - 1)) := by
  obtain ⟨Q1, y, x, Q2, R, h1, h2, h3, h4, h5, h6, h7, h8⟩ := in_get h hj
  rw [h7, h8] at hl
  have h9 := exch_mid (P ++ Q1) y [] x (Q2 ++ R ++ S)
  rw [← h1, List.length_append, List.length_nil, show P.length + Q1.length + 1 + 0 = j by omega, show P.length + Q1.length = j - 1 by omega] at h9
  rw [exch_comm L (by omega), h9]
  refine ⟨Q1, x, y :: Q2, R, by simp, by omega, by simp; omega, by simpa using h4, fun z hz => ?_, ?_⟩
  · rcases List.mem_cons.1 hz with rfl | hz
    · exact hl
    · exact h5 z hz
  · refine h6.trans ?_
    have h10 := Bub.one Q1 y x (Q2 ++ R) hl
    simpa using h10
theorem inv_length {P M S : List SlotV} {i j : Nat} {L : List SlotV} (h : InsInv P M S i j L) : j ≤ i ∧ i < L.length := by
  obtain ⟨Q1, x, Q2, R, h1, h2, h3, -⟩ := h
  rw [h1]
  simp
  omega
theorem out_end {P M S : List SlotV} {i : Nat} {L : List SlotV} (h : OutInv P M S i L) (hi : P.length + M.length ≤ i) : ∃ M', L = P ++ M' ++ S ∧ M'.Pairwise leS ∧ Bub ltS M M' := by
  obtain ⟨Q, R, h1, h2, h3, h4⟩ := h
  have := h4.length
  simp at this
  obtain rfl : R = [] := List.length_eq_zero_iff.1 (by omega)
  simp only [List.append_nil] at h1 h4
  exact ⟨Q, h1, h3, h4⟩
/-- The cells of element p of the row, and that they may be written. -/
theorem row_at {W : World} {base g m cap : Nat} {L : List SlotV} (h : SRow W base g m cap L) {p : Nat} (hp : p < m) (x : SlotV) (hx : x = L.getD p none_Slot) :
    W.cell? ⟨g, p * 4, none⟩ = some (.int .i64 x.1) ∧ W.cell? ⟨g, p * 4 + 1, none⟩ = some (.bool x.2.1) ∧ W.cell? ⟨g, p * 4 + 2, none⟩ = some (.int .i64 x.2.2.1) ∧ W.cell? ⟨g, p * 4 + 3, none⟩ = some (.int .i64 x.2.2.2) ∧
    W.frozen? ⟨g, p * 4, none⟩ = false ∧ W.frozen? ⟨g, p * 4 + 1, none⟩ = false ∧ W.frozen? ⟨g, p * 4 + 2, none⟩ = false ∧ W.frozen? ⟨g, p * 4 + 3, none⟩ = false := by
  obtain ⟨h1, h2⟩ := h
  have hat : ∀ r, r < 4 → W.cell? ⟨g, p * 4 + r, none⟩ = (cells_Slot x)[r]? := fun r hr => by
    rw [h1.cellAt (p * 4 + r) (by omega), hx]
    exact at_of (by omega) r hr
  exact ⟨hat 0 (by decide), hat 1 (by decide), hat 2 (by decide), hat 3 (by decide), h1.frozenAt _, h1.frozenAt _, h1.frozenAt _, h1.frozenAt _⟩
theorem alloc_two (W : World) (A B : Obj) : (W.alloc A).alloc B = grow (W.drewN 0) #[A, B] := by
  rw [← World.alloc_eq, ← World.alloc_eq]
  unfold grow
  have h : (W.heap.push A).push B = W.heap ++ #[A, B] := by apply Array.ext'; simp
  simp only [World.drewN, h, Nat.add_zero]
theorem closure_grown (x y : SlotV) (w : World) (n : Nat) (os : Array Obj) : Calls Tryd.prog 46 #[.agg #[.int .i64 x.1, .bool x.2.1, .int .i64 x.2.2.1, .int .i64 x.2.2.2], .agg #[.int .i64 y.1, .bool y.2.1, .int .i64 y.2.2.1, .int .i64 y.2.2.2]] (grow (w.drewN n) os) fun e w' => e = .returned (.int .i64 (cmpI x.2.2.1 y.2.2.1)) ∧ ∃ q os', w' = grow ((grow (w.drewN n) os).drewN q) os' :=
  (closure_any x y _).mono fun _ _ ⟨h1, h2⟩ => ⟨h1, 0, _, h2.trans (alloc_two ..)⟩
theorem srow_grown {W : World} {base g m cap : Nat} {L : List SlotV} (h : SRow W base g m cap L) (n : Nat) (os : Array Obj) : SRow (grow (W.drewN n) os) base g m cap L := by
  obtain ⟨⟨h1, h2⟩, h3⟩ := h
  refine ⟨⟨h1, ?_⟩, h3⟩
  rcases h2 with hn | ⟨g', cap', cur, e, hb, hg, rest⟩
  · exact .inl hn
  · refine .inr ⟨g', cap', cur, e, hb, ?_, rest⟩
    have hlt : g' < W.heap.size := (Array.getElem?_eq_some_iff.1 hg).1
    show (W.heap ++ os)[g']? = _
    rw [Array.getElem?_append_left hlt]
    exact hg
theorem grown_growN {w W : World} {r : Option Nat} (h : w.grownBy W r) (n : Nat) (os : Array Obj) : w.grownBy (grow (W.drewN n) os) r :=
  grown_trans h ⟨rfl, rfl, rfl, by show W.heap.size ≤ (W.heap ++ os).size; simp, fun k hk _ => by show (W.heap ++ os)[k]? = W.heap[k]?; rw [Array.getElem?_append_left hk]⟩
set_option maxRecDepth 100000 in
set_option maxHeartbeats 3200000 in
theorem insertion_any (base g m cap : Nat) (P M S : List SlotV) (a b : Nat) (ha : P.length = a) (hb : a + M.length = b) (hm : m ≤ 1000) (w : World) (hR : SRow w base g m cap (P ++ M ++ S)) :
    Calls Tryd.prog 73 #[.slice (some ⟨g, 0, none⟩) m cap, .int .i64 (a : Int), .int .i64 (b : Int), lessF] w fun e w' => (∃ r, e = .returned r) ∧ (∃ M', SRow w' base g m cap (P ++ M' ++ S) ∧ M'.Pairwise leS ∧ Bub ltS M M') ∧ w.grownBy w' (some g) := by
  have HR := Lib.hid hR
  have hbm : b ≤ m := by have := hR.2; simp at this; omega
  clear hR
  have hmix : Tryd.prog.follows .mixedOrders = true := by kernel_rfl
  unfold lessF
  go_enter Tryd.func73, Tryd.ntmps73
  by_cases hM : M.length = 0
  · have hd : decide ((a : Int) + 1 < (b : Int)) = false := decide_eq_false (by omega)
    obtain rfl := List.length_eq_zero_iff.1 hM
    clear hM
    go_wp2_with fail
    go_loopw [8] (fun v wr => v = .int .i64 ((a : Int) + 1) ∧ w = wr) (fun _ _ => 0)
    case atStart => exact ⟨rfl, rfl⟩
    case round =>
      obtain ⟨rfl, rfl⟩ := hrel
      go_wp2_with fail
      go_end0
      exact ⟨⟨_, rfl⟩, ⟨[], HR.out, List.Pairwise.nil, .refl _⟩, grown_refl _ _⟩
  · have HS0 := Lib.hid (out_start P M S (by omega))
    go_wp2_with fail
    go_loopw [8, 9] (fun v j9 wr => ∃ i : Nat, a + 1 ≤ i ∧ i ≤ b ∧ v = .int .i64 (i : Int) ∧ Hid (∃ L, OutInv P M S i L ∧ SRow wr base g m cap L) ∧ Hid (w.grownBy wr (some g))) (fun v _ _ => b - (intOf v).toNat)
    case atStart => exact ⟨a + 1, Nat.le_refl _, by omega, by go_num, Lib.hid ⟨_, by rw [← ha]; exact HS0.out, HR.out⟩, Lib.hid (grown_refl w _)⟩
    case round =>
      obtain ⟨i, hi1, hib, rfl, HX, HG⟩ := hrel
      by_cases hlt : i < b
      · have hd : decide ((i : Int) < (b : Int)) = true := decide_eq_true (by omega)
        have HIN : Hid (∃ L, InsInv P M S i i L ∧ SRow wr base g m cap L) := Lib.hid (by
          obtain ⟨L, h1, h2⟩ := HX.out
          exact ⟨L, out_in h1 (by omega), h2⟩)
        clear HX HR HS0
        go_wp2_with fail
        obtain ⟨wo, hwo⟩ : ∃ wo, wo = wr := ⟨_, rfl⟩
        rw [← hwo] at HIN HG ⊢
        clear hwo wr
        go_loopw [9] (fun v wr => ∃ j : Nat, a ≤ j ∧ j ≤ i ∧ v = .int .i64 (j : Int) ∧ Hid (∃ L, InsInv P M S i j L ∧ SRow wr base g m cap L) ∧ Hid (w.grownBy wr (some g))) (fun v _ => (intOf v).toNat)
        case atStart => exact ⟨i, by omega, Nat.le_refl _, rfl, HIN, HG⟩
        case round =>
          obtain ⟨j, hj1, hj2, rfl, HI, HG⟩ := hrel
          by_cases hja : a < j
          · obtain ⟨k, hk⟩ : ∃ k, j = k + 1 := ⟨j - 1, by omega⟩
            have hke : (j : Int) - 1 = (k : Int) := by omega
            have hg1 : decide ((a : Int) < (j : Int)) = true := decide_eq_true (by omega)
            obtain ⟨L, hI, hS⟩ := HI.out
            have HL := Lib.hid hS
            have hjm : j < m := by have h1 := inv_length hI; have h2 := hS.2; omega
            obtain ⟨x, hx⟩ : ∃ x, x = L.getD j none_Slot := ⟨_, rfl⟩
            obtain ⟨y, hy⟩ : ∃ y, y = L.getD k none_Slot := ⟨_, rfl⟩
            obtain ⟨b, hb9⟩ : ∃ b, b = ltS x y := ⟨_, rfl⟩
            have HNO : Hid (b = false → OutInv P M S (i + 1) L) := Lib.hid (fun h => in_stop hI (by omega) (by rw [show j - 1 = k by omega, ← hx, ← hy, ← hb9]; exact h))
            have HYES : Hid (b = true → InsInv P M S i k (exch L j k)) := Lib.hid (fun h => by
              have h9 := in_step hI (by omega) (by rw [show j - 1 = k by omega, ← hx, ← hy, ← hb9]; exact h)
              rw [show j - 1 = k by omega] at h9
              exact h9)
            have HX := Lib.hid hx
            have HY := Lib.hid hy
            obtain ⟨z, hz⟩ : ∃ z, z = cmpI x.2.2.1 y.2.2.1 := ⟨_, rfl⟩
            have hzb : decide (z < 0) = b := by rw [hz, hb9, cmpI_neg]; rfl
            have HCL := fun n os => closure_grown x y wr n os
            rw [← hz] at HCL
            obtain ⟨c0, c1, c2, c3, -, -, -, -⟩ := row_at hS (p := j) hjm x hx
            obtain ⟨e0, e1, e2, e3, -, -, -, -⟩ := row_at hS (p := k) (by omega) y hy
            have hgr : g < wr.heap.size := World.block_lt_of_cell? _ _ c0
            have c0 := cell_grown hgr c0
            have c1 := cell_grown hgr c1
            have c2 := cell_grown hgr c2
            have c3 := cell_grown hgr c3
            have e0 := cell_grown hgr e0
            have e1 := cell_grown hgr e1
            have e2 := cell_grown hgr e2
            have e3 := cell_grown hgr e3
            obtain ⟨x0, x1, x2, x3⟩ := x
            obtain ⟨y0, y1, y2, y3⟩ := y
            simp only at c0 c1 c2 c3 e0 e1 e2 e3 HCL
            clear hI hS HI hx hy hb9 hz hk
            have hkm : k < m := by omega
            have hwk : IntKind.i64.wrap (k : Int) = (k : Int) := by rw [IntKind.wrap_i64]; omega
            cases b with
            | true =>
              go_wp2_with fail
              go_quiet_grown (first | (go_at_call 46; refine Calls.grown_of (HCL _ _)))
              have HL2 := Lib.hid (srow_grown HL.out nq osq)
              have HG2 := Lib.hid (grown_growN HG.out nq osq)
              obtain ⟨W, hW⟩ : ∃ W, W = grow (wr.drewN nq) osq := ⟨_, rfl⟩
              simp only
              rw [← hW] at HL2 HG2 ⊢
              clear hW HL HG c0 c1 c2 c3 e0 e1 e2 e3 HCL hgr
              have HIN2 := Lib.hid (HYES.out (by trivial))
              obtain ⟨c0, c1, c2, c3, f0, f1, f2, f3⟩ := row_at HL2.out (p := j) hjm (x0, x1, x2, x3) HX.out
              obtain ⟨e0, e1, e2, e3, g0, g1, g2, g3⟩ := row_at HL2.out (p := k) hkm (y0, y1, y2, y3) HY.out
              simp only at c0 c1 c2 c3 e0 e1 e2 e3
              have n0 : ∀ u v, u < 4 → v < 4 → ¬ (k * 4 + u = j * 4 + v) := fun u v hu hv => by omega
              have n1 : ∀ u v, u < 4 → v < 4 → ¬ (j * 4 + u = k * 4 + v) := fun u v hu hv => by omega
              go_wp2_with fail
              go_region
              obtain ⟨hS, hG⟩ := exch_world HL2.out hjm hkm HX.out HY.out HG2.out
              simp only [put4] at hS hG
              have HS := Lib.hid hS
              have HG3 := Lib.hid hG
              clear hS hG c0 c1 c2 c3 e0 e1 e2 e3 f0 f1 f2 f3 g0 g1 g2 g3 n0 n1
              go_wp2_with fail
              go_roundw
              case rel => exact ⟨k, by omega, by omega, by first | rfl | go_num, Lib.hid ⟨_, HIN2.out, HS.out⟩, HG3⟩
              case measure => simp [intOf]; omega
            | false =>
              go_wp2_with fail
              go_quiet_grown (first | (go_at_call 46; refine Calls.grown_of (HCL _ _)))
              have HL2 := Lib.hid (srow_grown HL.out nq osq)
              have HG2 := Lib.hid (grown_growN HG.out nq osq)
              obtain ⟨W, hW⟩ : ∃ W, W = grow (wr.drewN nq) osq := ⟨_, rfl⟩
              simp only
              rw [← hW] at HL2 HG2 ⊢
              clear hW HL HG c0 c1 c2 c3 e0 e1 e2 e3 HCL hgr
              have HOUT := Lib.hid (HNO.out (by trivial))
              go_wp2_with fail
              go_roundw
              case rel => exact ⟨i + 1, by omega, by omega, by go_num, Lib.hid ⟨_, HOUT.out, HL2.out⟩, HG2⟩
              case measure => simp [intOf]; omega
          · have hja' : j = a := by omega
            have hg1 : decide ((a : Int) < (j : Int)) = false := decide_eq_false (by omega)
            have hg2 : decide (a < j) = false := decide_eq_false (by omega)
            have HOUT : Hid (∃ L, OutInv P M S (i + 1) L ∧ SRow wr base g m cap L) := Lib.hid (by
              obtain ⟨L, h1, h2⟩ := HI.out
              exact ⟨L, in_stop0 h1 (by omega), h2⟩)
            clear HI hja hja'
            go_wp2_with fail
            go_quiet (fail)
            have HOUT2 : Hid (∃ L, OutInv P M S (i + 1) L ∧ SRow (wr.drewN nq) base g m cap L) := Lib.hid (by
              obtain ⟨L, h1, h2⟩ := HOUT.out
              exact ⟨L, h1, h2⟩)
            have HG2 := Lib.hid (grown_trans HG.out (grown_drewN wr nq (some g)))
            obtain ⟨W, hW⟩ : ∃ W, W = wr.drewN nq := ⟨_, rfl⟩
            rw [← hW] at HOUT2 HG2 ⊢
            clear hW HOUT HG
            go_wp2_with fail
            go_roundw
            case rel => exact ⟨i + 1, by omega, by omega, by go_num, HOUT2, HG2⟩
            case measure => simp [intOf]; omega
      · have hd : decide ((i : Int) < (b : Int)) = false := decide_eq_false (by omega)
        have HF : Hid (∃ M', SRow wr base g m cap (P ++ M' ++ S) ∧ M'.Pairwise leS ∧ Bub ltS M M') := Lib.hid (by
          obtain ⟨L, h1, h2⟩ := HX.out
          obtain ⟨M', h3, h4, h5⟩ := out_end h1 (by omega)
          exact ⟨M', by rw [← h3]; exact h2, h4, h5⟩)
        go_wp2_with fail
        go_end0
        exact ⟨⟨_, rfl⟩, HF.out, HG.out⟩
end Go.Proofs.YtdhjgaadfofkkaaDoor
