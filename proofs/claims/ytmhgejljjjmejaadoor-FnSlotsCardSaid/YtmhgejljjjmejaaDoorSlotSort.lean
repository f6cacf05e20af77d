/-
  The stable sort of slots, first part: what the closure answers; two elements exchanged.   The stable sort of slots, second part: rotate.
  The stable sort of slots, third part: insertion sort.   The stable sort of slots, fourth part: symMerge where the left part, or the right one, has one element.
  The stable sort of slots, fifth part: symMerge where the right part has one element.   The stable sort of slots, sixth part: what symMerge's search finds.
  The stable sort of slots, seventh part: symMerge.   The stable sort of slots, eighth part: stableCmpFunc, SortStableFunc, at fewer than 40 slots.
-/
import Derived.Test.YtmhgejljjjmejaaDoorSlotSpecE
import Derived.RegionTactic
import Derived.BigRegion
import Derived.ChangeAlike
import Derived.Shelf.SlSortCmp.QuietGrown
import Derived.BigQuiet
import Derived.Deep.Cut
import Derived.Deep.DeepCutAuto
namespace Go.Proofs.YtmhgejljjjmejaaDoor
open Go.RowKit

/-- cmp.Compare of two ints. -/
def cmpI (a b : Int) : Int := if a < b then -1 else if b < a then 1 else 0
theorem isNaN_any (a : Int) (w : World) : Calls Tryd.prog 55 #[.int .i64 a] w fun e w' => e = .returned (.bool false) ∧ w = w' := by
  go_enter Tryd.func55, Tryd.ntmps55
  go_wp2
  go_ret
  exact ⟨by simp, rfl⟩
theorem compare_any (a b : Int) (w : World) : Calls Tryd.prog 38 #[.int .i64 a, .int .i64 b] w fun e w' => e = .returned (.int .i64 (cmpI a b)) ∧ w = w' := by
  have FL := Lib.hid trivial
  by_cases h1 : a < b
  · have hd1 : decide (a < b) = true := decide_eq_true h1
    have HF : Hid (cmpI a b = -1) := Lib.hid (if_pos h1)
    clear h1
    go_enter Tryd.func38, Tryd.ntmps38
    go_wp2_with (first | (go_at_call 55; have FG := FL; refine (isNaN_any a _).mono ?_; rintro e w1 ⟨rfl, rfl⟩; clear FL FG) | (go_at_call 55; refine (isNaN_any b _).mono ?_; rintro e w1 ⟨rfl, rfl⟩))
    go_ret
    exact ⟨by rw [HF.out]; rfl, rfl⟩
  · have hd1 : decide (a < b) = false := decide_eq_false h1
    by_cases h2 : b < a
    · have hd2 : decide (b < a) = true := decide_eq_true h2
      have HF : Hid (cmpI a b = 1) := Lib.hid (by unfold cmpI; rw [if_neg h1, if_pos h2])
      clear h1 h2
      go_enter Tryd.func38, Tryd.ntmps38
      go_wp2_with (first | (go_at_call 55; have FG := FL; refine (isNaN_any a _).mono ?_; rintro e w1 ⟨rfl, rfl⟩; clear FL FG) | (go_at_call 55; refine (isNaN_any b _).mono ?_; rintro e w1 ⟨rfl, rfl⟩))
      go_ret
      exact ⟨by rw [HF.out]; rfl, rfl⟩
    · have hd2 : decide (b < a) = false := decide_eq_false h2
      have HF : Hid (cmpI a b = 0) := Lib.hid (by unfold cmpI; rw [if_neg h1, if_neg h2])
      clear h1 h2
      go_enter Tryd.func38, Tryd.ntmps38
      go_wp2_with (first | (go_at_call 55; have FG := FL; refine (isNaN_any a _).mono ?_; rintro e w1 ⟨rfl, rfl⟩; clear FL FG) | (go_at_call 55; refine (isNaN_any b _).mono ?_; rintro e w1 ⟨rfl, rfl⟩))
      go_ret
      exact ⟨by rw [HF.out]; rfl, rfl⟩
/-- The closure that the sort is given. -/
def lessF : Value := .func (.func 37) #[] #[]
theorem closure_any (x y : SlotV) (w : World) : Calls Tryd.prog 37 #[.agg #[.int .i64 x.1, .bool x.2.1, .int .i64 x.2.2.1, .int .i64 x.2.2.2], .agg #[.int .i64 y.1, .bool y.2.1, .int .i64 y.2.2.1, .int .i64 y.2.2.2]] w fun e w' => e = .returned (.int .i64 (cmpI x.2.2.1 y.2.2.1)) ∧ w' = (w.alloc (.cells #[.int .i64 x.1, .bool x.2.1, .int .i64 x.2.2.1, .int .i64 x.2.2.2] 33)).alloc (.cells #[.int .i64 y.1, .bool y.2.1, .int .i64 y.2.2.1, .int .i64 y.2.2.2] 33) := by
  obtain ⟨x0, x1, x2, x3⟩ := x
  obtain ⟨y0, y1, y2, y3⟩ := y
  simp only
  go_enter Tryd.func37, Tryd.ntmps37
  go_wp2_with (go_at_call 38; refine (compare_any _ _ _).mono ?_; rintro e w1 ⟨rfl, rfl⟩)
  go_ret
  exact ⟨rfl, rfl⟩
/-- The row after the exchange of the elements p and q. -/
def exch (l : List SlotV) (p q : Nat) : List SlotV := (l.set p (l.getD q none_Slot)).set q (l.getD p none_Slot)
theorem exch_length (l : List SlotV) (p q : Nat) : (exch l p q).length = l.length := by
  unfold exch
  rw [List.length_set, List.length_set]
/-- The row that the sort sorts. -/
def SRow (W : World) (base g m cap : Nat) (l : List SlotV) : Prop := W.ownsRow base 33 4 (.slice (some ⟨g, 0, none⟩) m cap) m (row_Slot l) ∧ m = l.length
def swL (l : List SlotV) (a b : Nat) : Nat → List SlotV
  | 0 => l
  | n + 1 => exch (swL l a b n) (a + n) (b + n)
theorem swL_length (l : List SlotV) (a b : Nat) : ∀ n, (swL l a b n).length = l.length
  | 0 => rfl
  | n + 1 => by rw [swL, exch_length, swL_length l a b n]
theorem at_of {l : List SlotV} {k : Nat} (h : k < l.length) (r : Nat) (hr : r < 4) : (row_Slot l)[k * 4 + r]? = (cells_Slot (l.getD k none_Slot))[r]? := by
  rw [row_Slot_at l k h r hr]
  simp [List.getD, h]
/-- The four cells of element p written. -/
def put4 (W : World) (g p : Nat) (y : SlotV) : World := (((W.setCell ⟨g, p * 4, none⟩ (.int .i64 y.1)).setCell ⟨g, p * 4 + 1, none⟩ (.bool y.2.1)).setCell ⟨g, p * 4 + 2, none⟩ (.int .i64 y.2.2.1)).setCell ⟨g, p * 4 + 3, none⟩ (.int .i64 y.2.2.2)
theorem put4_row {W : World} {base g m cap : Nat} {L : List SlotV} (h : W.ownsRow base 33 4 (.slice (some ⟨g, 0, none⟩) m cap) m (row_Slot L)) {p : Nat} (hp : p < L.length) (y : SlotV) : (put4 W g p y).ownsRow base 33 4 (.slice (some ⟨g, 0, none⟩) m cap) m (row_Slot (L.set p y)) :=
  stored_Slot h p hp y.1 y.2.1 y.2.2.1 y.2.2.2
theorem put4_grown {w W : World} {g : Nat} (h : w.grownBy W (some g)) (p : Nat) (y : SlotV) : w.grownBy (put4 W g p y) (some g) :=
  grown_cell0 (grown_cell0 (grown_cell0 (grown_cell0 h _ _) _ _) _ _) _ _
theorem own_drew {W : World} {base n s : Nat} {e : TypeId} {v : Value} {xs : List Value} (h : W.ownsRow base e s v n xs) : W.drew.ownsRow base e s v n xs := h
theorem grown_drw8 {w W : World} {r : Option Nat} (h : w.grownBy W r) : w.grownBy W.drew r := grown_trans h ⟨rfl, rfl, rfl, Nat.le_refl _, fun _ _ _ => rfl⟩
theorem exch_world {W w : World} {base g m cap : Nat} {L : List SlotV} (h : SRow W base g m cap L) {p q : Nat} (hp : p < m) (hq : q < m) {x y : SlotV} (hx : x = L.getD p none_Slot) (hy : y = L.getD q none_Slot) (hg : w.grownBy W (some g)) :
    SRow (put4 (put4 W g p y) g q x).drew base g m cap (exch L p q) ∧ w.grownBy (put4 (put4 W g p y) g q x).drew (some g) := by
  obtain ⟨h1, h2⟩ := h
  have h3 := put4_row h1 (p := p) (by omega) y
  have h4 := put4_row h3 (p := q) (by rw [List.length_set]; omega) x
  have e : (L.set p y).set q x = exch L p q := by rw [hx, hy]; rfl
  rw [e] at h4
  exact ⟨⟨own_drew h4, by rw [exch_length]; exact h2⟩, grown_drw8 (put4_grown (put4_grown hg p y) q x)⟩
set_option maxRecDepth 100000 in
set_option maxHeartbeats 3200000 in
theorem swapRange_any (base g m cap : Nat) (l : List SlotV) (a b n : Nat) (hab : a + n ≤ b) (hbn : b + n ≤ m) (hm : m ≤ 1000) (fv : Value) (w : World) (hR : SRow w base g m cap l) :
    Calls Tryd.prog 72 #[.slice (some ⟨g, 0, none⟩) m cap, .int .i64 (a : Int), .int .i64 (b : Int), .int .i64 (n : Int), fv] w fun e w' => (∃ r, e = .returned r) ∧ SRow w' base g m cap (swL l a b n) ∧ w.grownBy w' (some g) := by
  have HR := Lib.hid hR
  clear hR
  go_enter Tryd.func72, Tryd.ntmps72
  go_wp2
  go_loopw [10] (fun v wr => ∃ i : Nat, i ≤ n ∧ v = .int .i64 i ∧ Hid (SRow wr base g m cap (swL l a b i)) ∧ Hid (w.grownBy wr (some g))) (fun v _ => n - (intOf v).toNat)
  case atStart => exact ⟨0, Nat.zero_le _, rfl, HR, Lib.hid (grown_refl w _)⟩
  case round =>
    obtain ⟨i, hi, rfl, HRr, HG⟩ := hrel
    by_cases hlt : i < n
    · have hd : decide ((i : Int) < (n : Int)) = true := decide_eq_true (by omega)
      obtain ⟨L, hL⟩ : ∃ L, L = swL l a b i := ⟨_, rfl⟩
      have HNX : Hid (swL l a b (i + 1) = exch L (a + i) (b + i)) := Lib.hid (by rw [hL]; rfl)
      rw [← hL] at HRr
      clear hL
      have hml : m = L.length := HRr.out.2
      obtain ⟨p, hp⟩ : ∃ p, p = a + i := ⟨_, rfl⟩
      obtain ⟨q, hq⟩ : ∃ q, q = b + i := ⟨_, rfl⟩
      have hpe : (a : Int) + (i : Int) = (p : Int) := by omega
      have hqe : (b : Int) + (i : Int) = (q : Int) := by omega
      have hpq : p < q := by omega
      have hqm : q < m := by omega
      rw [← hp, ← hq] at HNX
      clear hp hq
      obtain ⟨x, hx⟩ : ∃ x, x = L.getD p none_Slot := ⟨_, rfl⟩
      obtain ⟨y, hy⟩ : ∃ y, y = L.getD q none_Slot := ⟨_, rfl⟩
      have HAp := Lib.hid (fun r hr => at_of (l := L) (k := p) (by omega) r hr)
      have HAq := Lib.hid (fun r hr => at_of (l := L) (k := q) (by omega) r hr)
      rw [← hx] at HAp
      rw [← hy] at HAq
      have HX := Lib.hid hx
      have HY := Lib.hid hy
      clear hx hy
      have HO := Lib.hid HRr.out.1
      have c0 := (HO.out.cellAt (p * 4) (by omega)).trans (HAp.out 0 (by decide))
      have c1 := (HO.out.cellAt (p * 4 + 1) (by omega)).trans (HAp.out 1 (by decide))
      have c2 := (HO.out.cellAt (p * 4 + 2) (by omega)).trans (HAp.out 2 (by decide))
      have c3 := (HO.out.cellAt (p * 4 + 3) (by omega)).trans (HAp.out 3 (by decide))
      have e0 := (HO.out.cellAt (q * 4) (by omega)).trans (HAq.out 0 (by decide))
      have e1 := (HO.out.cellAt (q * 4 + 1) (by omega)).trans (HAq.out 1 (by decide))
      have e2 := (HO.out.cellAt (q * 4 + 2) (by omega)).trans (HAq.out 2 (by decide))
      have e3 := (HO.out.cellAt (q * 4 + 3) (by omega)).trans (HAq.out 3 (by decide))
      have f0 := HO.out.frozenAt (p * 4)
      have f1 := HO.out.frozenAt (p * 4 + 1)
      have f2 := HO.out.frozenAt (p * 4 + 2)
      have f3 := HO.out.frozenAt (p * 4 + 3)
      have g0 := HO.out.frozenAt (q * 4)
      have g1 := HO.out.frozenAt (q * 4 + 1)
      have g2 := HO.out.frozenAt (q * 4 + 2)
      have g3 := HO.out.frozenAt (q * 4 + 3)
      obtain ⟨x0, x1, x2, x3⟩ := x
      obtain ⟨y0, y1, y2, y3⟩ := y
      simp only [cells_Slot, List.getElem?_cons_zero, List.getElem?_cons_succ] at c0 c1 c2 c3 e0 e1 e2 e3
      have n0 : ∀ u v, u < 4 → v < 4 → ¬ (q * 4 + u = p * 4 + v) := fun u v hu hv => by omega
      go_wp2
      go_region
      obtain ⟨hS, hG⟩ := exch_world HRr.out (show p < m by omega) hqm HX.out HY.out HG.out
      rw [← HNX.out] at hS
      simp only [put4] at hS hG
      have HS := Lib.hid hS
      have HG2 := Lib.hid hG
      clear hS hG c0 c1 c2 c3 e0 e1 e2 e3 f0 f1 f2 f3 g0 g1 g2 g3 n0
      go_wp2
      go_roundw
      case rel => exact ⟨i + 1, by omega, by go_num, HS, HG2⟩
      case measure => simp [intOf]; omega
    · have hd : decide ((i : Int) < (n : Int)) = false := decide_eq_false (by omega)
      have HF : Hid (SRow wr base g m cap (swL l a b n)) := Lib.hid (by have h9 := HRr.out; rw [show i = n by omega] at h9; exact h9)
      go_wp2
      go_end0
      exact ⟨⟨_, rfl⟩, HF.out, HG.out⟩
end Go.Proofs.YtmhgejljjjmejaaDoor
namespace Go.Proofs.YtmhgejljjjmejaaDoor
open Go.RowKit

theorem exch_mid (X : List SlotV) (x : SlotV) (Y : List SlotV) (y : SlotV) (Z : List SlotV) : exch (X ++ x :: Y ++ y :: Z) X.length (X.length + 1 + Y.length) = X ++ y :: Y ++ x :: Z := by
  have h1 : (X ++ x :: Y ++ y :: Z).getD X.length none_Slot = x := by
    rw [List.append_assoc, List.getD_eq_getElem?_getD, List.getElem?_append_right (Nat.le_refl _), Nat.sub_self]
    rfl
  have h2 : (X ++ x :: Y ++ y :: Z).getD (X.length + 1 + Y.length) none_Slot = y := by
    rw [List.getD_eq_getElem?_getD, List.getElem?_append_right (by simp; omega), show X.length + 1 + Y.length - (X ++ x :: Y).length = 0 by simp; omega]
    rfl
  unfold exch
  rw [h1, h2]
  have h3 : (X ++ x :: Y ++ y :: Z).set X.length y = X ++ y :: Y ++ y :: Z := by
    rw [List.append_assoc, List.set_append_right _ _ (Nat.le_refl _), Nat.sub_self, List.append_assoc]
    rfl
  rw [h3, List.set_append_right _ _ (by simp; omega), show X.length + 1 + Y.length - (X ++ y :: Y).length = 0 by simp; omega]
  rfl
theorem swL_blocks : ∀ (n : Nat) (P A M B S : List SlotV), A.length = n → B.length = n → swL (P ++ A ++ M ++ B ++ S) P.length (P.length + n + M.length) n = P ++ B ++ M ++ A ++ S
  | 0, P, A, M, B, S, ha, hb => by
    obtain rfl := List.length_eq_zero_iff.1 ha
    obtain rfl := List.length_eq_zero_iff.1 hb
    simp [swL]
  | n + 1, P, A, M, B, S, ha, hb => by
    obtain ⟨A', x, rfl⟩ : ∃ A' x, A = A' ++ [x] := ⟨A.dropLast, A.getLast (by intro e; simp [e] at ha), (List.dropLast_concat_getLast _).symm⟩
    obtain ⟨B', y, rfl⟩ : ∃ B' y, B = B' ++ [y] := ⟨B.dropLast, B.getLast (by intro e; simp [e] at hb), (List.dropLast_concat_getLast _).symm⟩
    have ha' : A'.length = n := by simpa using ha
    have hb' : B'.length = n := by simpa using hb
    have ih := swL_blocks n P A' (x :: M) B' (y :: S) ha' hb'
    rw [List.length_cons, show P.length + n + (M.length + 1) = P.length + (n + 1) + M.length by omega] at ih
    rw [swL]
    rw [show P ++ (A' ++ [x]) ++ M ++ (B' ++ [y]) ++ S = P ++ A' ++ x :: M ++ B' ++ y :: S by simp, ih]
    have h9 := exch_mid (P ++ B') x (M ++ A') y S
    rw [List.length_append, List.length_append, hb', ha', show P.length + n + 1 + (M.length + n) = P.length + (n + 1) + M.length + n by omega] at h9
    rw [show P ++ B' ++ x :: M ++ A' ++ y :: S = P ++ B' ++ x :: (M ++ A') ++ y :: S by simp, h9]
    simp
theorem split_l8 (l : List SlotV) (k : Nat) (h : k ≤ l.length) : ∃ A B, l = A ++ B ∧ A.length = k := ⟨l.take k, l.drop k, (List.take_append_drop k l).symm, by rw [List.length_take]; omega⟩
set_option maxRecDepth 100000 in
set_option maxHeartbeats 3200000 in
theorem rotate_any (base g m cap : Nat) (P A B S : List SlotV) (a k b : Nat) (ha : P.length = a) (hk : a + A.length = k) (hb : k + B.length = b) (hA : 1 ≤ A.length) (hB : 1 ≤ B.length) (hm : m ≤ 1000) (fv : Value) (w : World) (hR : SRow w base g m cap (P ++ A ++ B ++ S)) :
    Calls Tryd.prog 67 #[.slice (some ⟨g, 0, none⟩) m cap, .int .i64 (a : Int), .int .i64 (k : Int), .int .i64 (b : Int), fv] w fun e w' => (∃ r, e = .returned r) ∧ SRow w' base g m cap (P ++ B ++ A ++ S) ∧ w.grownBy w' (some g) := by
  have HR := Lib.hid hR
  have hbm : b ≤ m := by have := hR.2; simp at this; omega
  obtain ⟨T, hT⟩ : ∃ T, T = P ++ B ++ A ++ S := ⟨_, rfl⟩
  rw [← hT]
  have HT := Lib.hid hT
  clear hR hT
  have hia : (k : Int) - (a : Int) = ((A.length : Nat) : Int) := by omega
  have hjb : (b : Int) - (k : Int) = ((B.length : Nat) : Int) := by omega
  go_enter Tryd.func67, Tryd.ntmps67
  go_wp2_with fail
  go_loopw [10, 11] (fun u v wr => ∃ i j : Nat, u = .int .i64 i ∧ v = .int .i64 j ∧ 1 ≤ i ∧ 1 ≤ j ∧ i ≤ k ∧ k + j ≤ m ∧ Hid (∃ P' X Y S', P'.length + i = k ∧ X.length = i ∧ Y.length = j ∧ T = P' ++ Y ++ X ++ S' ∧ SRow wr base g m cap (P' ++ X ++ Y ++ S')) ∧ Hid (w.grownBy wr (some g))) (fun u v _ => (intOf u).toNat + (intOf v).toNat)
  case atStart => exact ⟨A.length, B.length, by first | rfl | rw [hia], by first | rfl | rw [hjb], hA, hB, by omega, by omega, Lib.hid ⟨P, A, B, S, by omega, rfl, rfl, HT.out, HR.out⟩, Lib.hid (grown_refl w _)⟩
  case round =>
    obtain ⟨i, j, rfl, rfl, hi1, hj1, hik, hkj, HX, HG⟩ := hrel
    obtain ⟨p, hp⟩ : ∃ p, p + i = k := ⟨k - i, by omega⟩
    have hpe : (k : Int) - (i : Int) = (p : Int) := by omega
    rcases Nat.lt_trichotomy i j with hij | hij | hij
    · have hd1 : ((i : Int) != (j : Int)) = true := by simp; omega
      have hd2 : decide ((j : Int) < (i : Int)) = false := decide_eq_false (by omega)
      obtain ⟨q, hq⟩ : ∃ q, q + i = k + j := ⟨k + j - i, by omega⟩
      have hqe : (k : Int) + (j : Int) - (i : Int) = (q : Int) := by omega
      obtain ⟨j2, hj2⟩ : ∃ j2, j2 + i = j := ⟨j - i, by omega⟩
      have hje : (j : Int) - (i : Int) = (j2 : Int) := by omega
      have HX2 : Hid (∃ L, SRow wr base g m cap L ∧ (∃ P' X Y S', P'.length + i = k ∧ X.length = i ∧ Y.length = j2 ∧ T = P' ++ Y ++ X ++ S' ∧ swL L p q i = P' ++ X ++ Y ++ S')) := Lib.hid (by
        obtain ⟨P', X, Y, S', h1, h2, h3, h4, h5⟩ := HX.out
        obtain ⟨Y1, Y2, rfl, h6⟩ := split_l8 Y j2 (by omega)
        have h7 : Y2.length = i := by simp at h3; omega
        refine ⟨_, h5, P', Y2, Y1, X ++ S', h1, h7, h6, by rw [h4]; simp, ?_⟩
        have h8 := swL_blocks i P' X Y1 Y2 S' h2 h7
        rw [h6, show P'.length = p by omega, show p + i + j2 = q by omega] at h8
        rw [show P' ++ X ++ (Y1 ++ Y2) ++ S' = P' ++ X ++ Y1 ++ Y2 ++ S' by simp, h8]
        simp)
      obtain ⟨L, hL, hX⟩ := HX2.out
      have HL := Lib.hid hL
      have HXX := Lib.hid hX
      clear hL hX HX HX2
      go_wp2_with (go_at_call 72; refine (swapRange_any base g m cap L p q i (by omega) (by omega) hm fv _ HL.out).mono ?_; rintro e w2 ⟨⟨r, rfl⟩, hr2, hg2⟩; have HR2 := Lib.hid hr2; have HG2 := Lib.hid (grown_trans HG.out hg2); clear hr2 hg2)
      have HX3 : Hid (∃ P' X Y S', P'.length + i = k ∧ X.length = i ∧ Y.length = j2 ∧ T = P' ++ Y ++ X ++ S' ∧ SRow w2 base g m cap (P' ++ X ++ Y ++ S')) := Lib.hid (by
        obtain ⟨P', X, Y, S', h1, h2, h3, h4, h5⟩ := HXX.out
        exact ⟨P', X, Y, S', h1, h2, h3, h4, by rw [← h5]; exact HR2.out⟩)
      go_roundw
      case rel => exact ⟨i, j2, by go_num, by go_num, hi1, by omega, hik, by omega, HX3, HG2⟩
      case measure => simp [intOf]; omega
    · subst hij
      have hd1 : ((i : Int) != (i : Int)) = false := by simp
      have HX2 : Hid (∃ L, SRow wr base g m cap L ∧ swL L p k i = T) := Lib.hid (by
        obtain ⟨P', X, Y, S', h1, h2, h3, h4, h5⟩ := HX.out
        refine ⟨_, h5, ?_⟩
        have h8 := swL_blocks i P' X [] Y S' h2 h3
        rw [List.length_nil, show P'.length = p by omega, show p + i + 0 = k by omega] at h8
        rw [h4]
        simpa using h8)
      obtain ⟨L, hL, hX⟩ := HX2.out
      have HL := Lib.hid hL
      have HXX := Lib.hid hX
      clear hL hX HX HX2
      go_wp2_with (go_at_call 72; refine (swapRange_any base g m cap L p k i (by omega) (by omega) hm fv _ HL.out).mono ?_; rintro e w2 ⟨⟨r, rfl⟩, hr2, hg2⟩; have HR2 := Lib.hid hr2; have HG2 := Lib.hid (grown_trans HG.out hg2); clear hr2 hg2)
      go_end0
      exact ⟨⟨_, rfl⟩, by rw [← HXX.out]; exact HR2.out, HG2.out⟩
    · have hd1 : ((i : Int) != (j : Int)) = true := by simp; omega
      have hd2 : decide ((j : Int) < (i : Int)) = true := decide_eq_true (by omega)
      obtain ⟨i2, hi2⟩ : ∃ i2, i2 + j = i := ⟨i - j, by omega⟩
      have hie : (i : Int) - (j : Int) = (i2 : Int) := by omega
      have HX2 : Hid (∃ L, SRow wr base g m cap L ∧ (∃ P' X Y S', P'.length + i2 = k ∧ X.length = i2 ∧ Y.length = j ∧ T = P' ++ Y ++ X ++ S' ∧ swL L p k j = P' ++ X ++ Y ++ S')) := Lib.hid (by
        obtain ⟨P', X, Y, S', h1, h2, h3, h4, h5⟩ := HX.out
        obtain ⟨X1, X2, rfl, h6⟩ := split_l8 X j (by omega)
        have h7 : X2.length = i2 := by simp at h2; omega
        refine ⟨_, h5, P' ++ Y, X2, X1, S', by simp; omega, h7, h6, by rw [h4]; simp, ?_⟩
        have h8 := swL_blocks j P' X1 X2 Y S' h6 h3
        rw [h7, show P'.length = p by omega, show p + j + i2 = k by omega] at h8
        rw [show P' ++ (X1 ++ X2) ++ Y ++ S' = P' ++ X1 ++ X2 ++ Y ++ S' by simp, h8])
      obtain ⟨L, hL, hX⟩ := HX2.out
      have HL := Lib.hid hL
      have HXX := Lib.hid hX
      clear hL hX HX HX2
      go_wp2_with (go_at_call 72; refine (swapRange_any base g m cap L p k j (by omega) (by omega) hm fv _ HL.out).mono ?_; rintro e w2 ⟨⟨r, rfl⟩, hr2, hg2⟩; have HR2 := Lib.hid hr2; have HG2 := Lib.hid (grown_trans HG.out hg2); clear hr2 hg2)
      have HX3 : Hid (∃ P' X Y S', P'.length + i2 = k ∧ X.length = i2 ∧ Y.length = j ∧ T = P' ++ Y ++ X ++ S' ∧ SRow w2 base g m cap (P' ++ X ++ Y ++ S')) := Lib.hid (by
        obtain ⟨P', X, Y, S', h1, h2, h3, h4, h5⟩ := HXX.out
        exact ⟨P', X, Y, S', h1, h2, h3, h4, by rw [← h5]; exact HR2.out⟩)
      go_roundw
      case rel => exact ⟨i2, j, by go_num, by go_num, by omega, hj1, by omega, hkj, HX3, HG2⟩
      case measure => simp [intOf]; omega
end Go.Proofs.YtmhgejljjjmejaaDoor
namespace Go.Proofs.YtmhgejljjjmejaaDoor
open Go.RowKit Go.Sort

def ltS (x y : SlotV) : Bool := decide (x.2.2.1 < y.2.2.1)
def leS (x y : SlotV) : Prop := x.2.2.1 ≤ y.2.2.1
theorem ltS_iff {x y : SlotV} : ltS x y = true ↔ x.2.2.1 < y.2.2.1 := ⟨of_decide_eq_true, decide_eq_true⟩
theorem ltS_not {x y : SlotV} (h : ltS x y = false) : leS y x := by
  have := of_decide_eq_false h
  unfold leS
  omega
theorem cmpI_neg (a b : Int) : decide (cmpI a b < 0) = decide (a < b) := by
  unfold cmpI
  by_cases h1 : a < b
  · rw [if_pos h1]; simp [h1]
  · rw [if_neg h1]
    by_cases h2 : b < a
    · rw [if_pos h2]; simp [h1]
    · rw [if_neg h2]; simp [h1]
theorem exch_comm (l : List SlotV) {p q : Nat} (h : p ≠ q) : exch l p q = exch l q p := by
  unfold exch
  rw [List.set_comm _ _ h]
def InsInv (P M S : List SlotV) (i j : Nat) (L : List SlotV) : Prop :=
  ∃ (Q1 : List SlotV) (x : SlotV) (Q2 R : List SlotV), L = P ++ (Q1 ++ x :: Q2 ++ R) ++ S ∧ P.length + Q1.length = j ∧ P.length + Q1.length + Q2.length = i ∧ (Q1 ++ Q2).Pairwise leS ∧ (∀ y ∈ Q2, ltS x y = true) ∧ Bub ltS M (Q1 ++ x :: Q2 ++ R)
def OutInv (P M S : List SlotV) (i : Nat) (L : List SlotV) : Prop :=
  ∃ Q R : List SlotV, L = P ++ (Q ++ R) ++ S ∧ P.length + Q.length = i ∧ Q.Pairwise leS ∧ Bub ltS M (Q ++ R)
theorem out_start (P M S : List SlotV) (h : 1 ≤ M.length) : OutInv P M S (P.length + 1) (P ++ M ++ S) := by
  obtain ⟨x, M, rfl⟩ : ∃ x M', M = x :: M' := by
    cases M with
    | nil => simp at h
    | cons x M => exact ⟨x, M, rfl⟩
  exact ⟨[x], M, rfl, rfl, List.pairwise_singleton .., .refl _⟩
theorem out_in {P M S : List SlotV} {i : Nat} {L : List SlotV} (h : OutInv P M S i L) (hi : i < P.length + M.length) : InsInv P M S i i L := by
  obtain ⟨Q, R, h1, h2, h3, h4⟩ := h
  obtain ⟨x, R, rfl⟩ : ∃ x R', R = x :: R' := by
    cases R with
    | nil =>
      have := h4.length
      simp at this
      omega
    | cons x R => exact ⟨x, R, rfl⟩
  exact ⟨Q, x, [], R, by rw [h1]; simp, h2, by simpa using h2, by simpa using h3, by simp, by simpa using h4⟩
theorem in_stop0 {P M S : List SlotV} {i j : Nat} {L : List SlotV} (h : InsInv P M S i j L) (hj : j = P.length) : OutInv P M S (i + 1) L := by
  obtain ⟨Q1, x, Q2, R, h1, h2, h3, h4, h5, h6⟩ := h
  obtain rfl : Q1 = [] := List.length_eq_zero_iff.1 (by omega)
  refine ⟨x :: Q2, R, by rw [h1]; simp, by simp at h3 ⊢; omega, ?_, by simpa using h6⟩
  rw [List.pairwise_cons]
  refine ⟨fun y hy => ?_, by simpa using h4⟩
  have := ltS_iff.1 (h5 y hy)
  unfold leS
  omega
theorem in_get {P M S : List SlotV} {i j : Nat} {L : List SlotV} (h : InsInv P M S i j L) (hj : P.length < j) :
    ∃ (Q1 : List SlotV) (y x : SlotV) (Q2 R : List SlotV), L = (P ++ Q1) ++ y :: [] ++ x :: (Q2 ++ R ++ S) ∧ P.length + Q1.length + 1 = j ∧ P.length + Q1.length + 1 + Q2.length = i ∧ (Q1 ++ [y] ++ Q2).Pairwise leS ∧ (∀ y ∈ Q2, ltS x y = true) ∧ Bub ltS M (Q1 ++ [y] ++ x :: Q2 ++ R) ∧ L.getD j none_Slot = x ∧ L.getD (j - 1) none_Slot = y := by
  obtain ⟨Q1, x, Q2, R, h1, h2, h3, h4, h5, h6⟩ := h
  obtain ⟨Q, y, rfl⟩ : ∃ Q y, Q1 = Q ++ [y] := ⟨Q1.dropLast, Q1.getLast (by intro e; simp [e] at h2; omega), (List.dropLast_concat_getLast _).symm⟩
  simp only [List.length_append, List.length_singleton] at h2 h3
  have hL : L = (P ++ Q) ++ y :: [] ++ x :: (Q2 ++ R ++ S) := by rw [h1]; simp
  refine ⟨Q, y, x, Q2, R, hL, by omega, by omega, by simpa using h4, h5, by simpa using h6, ?_, ?_⟩
  · rw [hL, List.getD_eq_getElem?_getD, List.getElem?_append_right (by simp; omega), show j - (P ++ Q ++ y :: []).length = 0 by simp; omega]
    rfl
  · rw [hL, List.append_assoc, List.getD_eq_getElem?_getD, List.getElem?_append_right (by simp; omega), show j - 1 - (P ++ Q).length = 0 by simp; omega]
    rfl
theorem in_stop {P M S : List SlotV} {i j : Nat} {L : List SlotV} (h : InsInv P M S i j L) (hj : P.length < j) (hl : ltS (L.getD j none_Slot) (L.getD (j - 1) none_Slot) = false) : OutInv P M S (i + 1) L := by
  obtain ⟨Q1, y, x, Q2, R, h1, h2, h3, h4, h5, h6, h7, h8⟩ := in_get h hj
  rw [h7, h8] at hl
  have hyx := ltS_not hl
  refine ⟨Q1 ++ [y] ++ x :: Q2, R, by rw [h1]; simp, by simp; omega, ?_, by simpa using h6⟩
  rw [List.pairwise_append] at h4 ⊢
  obtain ⟨p1, p2, p3⟩ := h4
  refine ⟨p1, ?_, fun u hu v hv => ?_⟩
  · rw [List.pairwise_cons]
    refine ⟨fun v hv => ?_, p2⟩
    have := ltS_iff.1 (h5 v hv)
    unfold leS
    omega
  · rcases List.mem_cons.1 hv with rfl | hv
    · rcases List.mem_append.1 hu with hu | hu
      · rw [List.pairwise_append] at p1
        have := p1.2.2 u hu y (List.mem_singleton_self _)
        unfold leS at this hyx ⊢
        omega
      · rw [List.mem_singleton.1 hu]
        exact hyx
    · exact p3 u hu v hv
theorem in_step {P M S : List SlotV} {i j : Nat} {L : List SlotV} (h : InsInv P M S i j L) (hj : P.length < j) (hl : ltS (L.getD j none_Slot) (L.getD (j - 1) none_Slot) = true) : InsInv P M S i (j - 1) (exch L j (j - 1)) := by
  obtain ⟨Q1, y, x, Q2, R, h1, h2, h3, h4, h5, h6, h7, h8⟩ := in_get h hj
  rw [h7, h8] at hl
  have h9 := exch_mid (P ++ Q1) y [] x (Q2 ++ R ++ S)
  rw [← h1, List.length_append, List.length_nil, show P.length + Q1.length + 1 + 0 = j by omega, show P.length + Q1.length = j - 1 by omega] at h9
  rw [exch_comm L (by omega), h9]
  refine ⟨Q1, x, y :: Q2, R, by simp, by omega, by simp; omega, by simpa using h4, fun z hz => ?_, ?_⟩
  · rcases List.mem_cons.1 hz with rfl | hz
    · exact hl
    · exact h5 z hz
  · refine h6.trans ?_
    have h10 := Bub.one Q1 y x (Q2 ++ R) hl
    simpa using h10
theorem inv_length {P M S : List SlotV} {i j : Nat} {L : List SlotV} (h : InsInv P M S i j L) : j ≤ i ∧ i < L.length := by
  obtain ⟨Q1, x, Q2, R, h1, h2, h3, -⟩ := h
  rw [h1]
  simp
  omega
theorem out_end {P M S : List SlotV} {i : Nat} {L : List SlotV} (h : OutInv P M S i L) (hi : P.length + M.length ≤ i) : ∃ M', L = P ++ M' ++ S ∧ M'.Pairwise leS ∧ Bub ltS M M' := by
  obtain ⟨Q, R, h1, h2, h3, h4⟩ := h
  have := h4.length
  simp at this
  obtain rfl : R = [] := List.length_eq_zero_iff.1 (by omega)
  simp only [List.append_nil] at h1 h4
  exact ⟨Q, h1, h3, h4⟩
/-- The cells of element p of the row, and that they may be written. -/
theorem row_at {W : World} {base g m cap : Nat} {L : List SlotV} (h : SRow W base g m cap L) {p : Nat} (hp : p < m) (x : SlotV) (hx : x = L.getD p none_Slot) :
    W.cell? ⟨g, p * 4, none⟩ = some (.int .i64 x.1) ∧ W.cell? ⟨g, p * 4 + 1, none⟩ = some (.bool x.2.1) ∧ W.cell? ⟨g, p * 4 + 2, none⟩ = some (.int .i64 x.2.2.1) ∧ W.cell? ⟨g, p * 4 + 3, none⟩ = some (.int .i64 x.2.2.2) ∧
    W.frozen? ⟨g, p * 4, none⟩ = false ∧ W.frozen? ⟨g, p * 4 + 1, none⟩ = false ∧ W.frozen? ⟨g, p * 4 + 2, none⟩ = false ∧ W.frozen? ⟨g, p * 4 + 3, none⟩ = false := by
  obtain ⟨h1, h2⟩ := h
  have hat : ∀ r, r < 4 → W.cell? ⟨g, p * 4 + r, none⟩ = (cells_Slot x)[r]? := fun r hr => by
    rw [h1.cellAt (p * 4 + r) (by omega), hx]
    exact at_of (by omega) r hr
  exact ⟨hat 0 (by decide), hat 1 (by decide), hat 2 (by decide), hat 3 (by decide), h1.frozenAt _, h1.frozenAt _, h1.frozenAt _, h1.frozenAt _⟩
theorem alloc_two (W : World) (A B : Obj) : (W.alloc A).alloc B = grow (W.drewN 0) #[A, B] := by
  rw [← World.alloc_eq, ← World.alloc_eq]
  unfold grow
  have h : (W.heap.push A).push B = W.heap ++ #[A, B] := by apply Array.ext'; simp
  simp only [World.drewN, h, Nat.add_zero]
theorem closure_grown (x y : SlotV) (w : World) (n : Nat) (os : Array Obj) : Calls Tryd.prog 37 #[.agg #[.int .i64 x.1, .bool x.2.1, .int .i64 x.2.2.1, .int .i64 x.2.2.2], .agg #[.int .i64 y.1, .bool y.2.1, .int .i64 y.2.2.1, .int .i64 y.2.2.2]] (grow (w.drewN n) os) fun e w' => e = .returned (.int .i64 (cmpI x.2.2.1 y.2.2.1)) ∧ ∃ q os', w' = grow ((grow (w.drewN n) os).drewN q) os' :=
  (closure_any x y _).mono fun _ _ ⟨h1, h2⟩ => ⟨h1, 0, _, h2.trans (alloc_two ..)⟩
theorem srow_grown {W : World} {base g m cap : Nat} {L : List SlotV} (h : SRow W base g m cap L) (n : Nat) (os : Array Obj) : SRow (grow (W.drewN n) os) base g m cap L := by
  obtain ⟨⟨h1, h2⟩, h3⟩ := h
  refine ⟨⟨h1, ?_⟩, h3⟩
  rcases h2 with hn | ⟨g', cap', cur, e, hb, hg, rest⟩
  · exact .inl hn
  · refine .inr ⟨g', cap', cur, e, hb, ?_, rest⟩
    have hlt : g' < W.heap.size := (Array.getElem?_eq_some_iff.1 hg).1
    show (W.heap ++ os)[g']? = _
    rw [Array.getElem?_append_left hlt]
    exact hg
theorem grown_growN {w W : World} {r : Option Nat} (h : w.grownBy W r) (n : Nat) (os : Array Obj) : w.grownBy (grow (W.drewN n) os) r :=
  grown_trans h ⟨rfl, rfl, rfl, by show W.heap.size ≤ (W.heap ++ os).size; simp, fun k hk _ => by show (W.heap ++ os)[k]? = W.heap[k]?; rw [Array.getElem?_append_left hk]⟩
set_option maxRecDepth 100000 in
set_option maxHeartbeats 3200000 in
theorem insertion_any (base g m cap : Nat) (P M S : List SlotV) (a b : Nat) (ha : P.length = a) (hb : a + M.length = b) (hm : m ≤ 1000) (w : World) (hR : SRow w base g m cap (P ++ M ++ S)) :
    Calls Tryd.prog 63 #[.slice (some ⟨g, 0, none⟩) m cap, .int .i64 (a : Int), .int .i64 (b : Int), lessF] w fun e w' => (∃ r, e = .returned r) ∧ (∃ M', SRow w' base g m cap (P ++ M' ++ S) ∧ M'.Pairwise leS ∧ Bub ltS M M') ∧ w.grownBy w' (some g) := by
  have HR := Lib.hid hR
  have hbm : b ≤ m := by have := hR.2; simp at this; omega
  clear hR
  have hmix : Tryd.prog.follows .mixedOrders = true := by kernel_rfl
  unfold lessF
  go_enter Tryd.func63, Tryd.ntmps63
  by_cases hM : M.length = 0
  · have hd : decide ((a : Int) + 1 < (b : Int)) = false := decide_eq_false (by omega)
    obtain rfl := List.length_eq_zero_iff.1 hM
    clear hM
    go_wp2_with fail
    go_loopw [8] (fun v wr => v = .int .i64 ((a : Int) + 1) ∧ w = wr) (fun _ _ => 0)
    case atStart => exact ⟨rfl, rfl⟩
    case round =>
      obtain ⟨rfl, rfl⟩ := hrel
      go_wp2_with fail
      go_end0
      exact ⟨⟨_, rfl⟩, ⟨[], HR.out, List.Pairwise.nil, .refl _⟩, grown_refl _ _⟩
  · have HS0 := Lib.hid (out_start P M S (by omega))
    go_wp2_with fail
    go_loopw [8, 9] (fun v j9 wr => ∃ i : Nat, a + 1 ≤ i ∧ i ≤ b ∧ v = .int .i64 (i : Int) ∧ Hid (∃ L, OutInv P M S i L ∧ SRow wr base g m cap L) ∧ Hid (w.grownBy wr (some g))) (fun v _ _ => b - (intOf v).toNat)
    case atStart => exact ⟨a + 1, Nat.le_refl _, by omega, by go_num, Lib.hid ⟨_, by rw [← ha]; exact HS0.out, HR.out⟩, Lib.hid (grown_refl w _)⟩
    case round =>
      obtain ⟨i, hi1, hib, rfl, HX, HG⟩ := hrel
      by_cases hlt : i < b
      · have hd : decide ((i : Int) < (b : Int)) = true := decide_eq_true (by omega)
        have HIN : Hid (∃ L, InsInv P M S i i L ∧ SRow wr base g m cap L) := Lib.hid (by
          obtain ⟨L, h1, h2⟩ := HX.out
          exact ⟨L, out_in h1 (by omega), h2⟩)
        clear HX HR HS0
        go_wp2_with fail
        obtain ⟨wo, hwo⟩ : ∃ wo, wo = wr := ⟨_, rfl⟩
        rw [← hwo] at HIN HG ⊢
        clear hwo wr
        go_loopw [9] (fun v wr => ∃ j : Nat, a ≤ j ∧ j ≤ i ∧ v = .int .i64 (j : Int) ∧ Hid (∃ L, InsInv P M S i j L ∧ SRow wr base g m cap L) ∧ Hid (w.grownBy wr (some g))) (fun v _ => (intOf v).toNat)
        case atStart => exact ⟨i, by omega, Nat.le_refl _, rfl, HIN, HG⟩
        case round =>
          obtain ⟨j, hj1, hj2, rfl, HI, HG⟩ := hrel
          by_cases hja : a < j
          · obtain ⟨k, hk⟩ : ∃ k, j = k + 1 := ⟨j - 1, by omega⟩
            have hke : (j : Int) - 1 = (k : Int) := by omega
            have hg1 : decide ((a : Int) < (j : Int)) = true := decide_eq_true (by omega)
            obtain ⟨L, hI, hS⟩ := HI.out
            have HL := Lib.hid hS
            have hjm : j < m := by have h1 := inv_length hI; have h2 := hS.2; omega
            obtain ⟨x, hx⟩ : ∃ x, x = L.getD j none_Slot := ⟨_, rfl⟩
            obtain ⟨y, hy⟩ : ∃ y, y = L.getD k none_Slot := ⟨_, rfl⟩
            obtain ⟨b, hb9⟩ : ∃ b, b = ltS x y := ⟨_, rfl⟩
            have HNO : Hid (b = false → OutInv P M S (i + 1) L) := Lib.hid (fun h => in_stop hI (by omega) (by rw [show j - 1 = k by omega, ← hx, ← hy, ← hb9]; exact h))
            have HYES : Hid (b = true → InsInv P M S i k (exch L j k)) := Lib.hid (fun h => by
              have h9 := in_step hI (by omega) (by rw [show j - 1 = k by omega, ← hx, ← hy, ← hb9]; exact h)
              rw [show j - 1 = k by omega] at h9
              exact h9)
            have HX := Lib.hid hx
            have HY := Lib.hid hy
            obtain ⟨z, hz⟩ : ∃ z, z = cmpI x.2.2.1 y.2.2.1 := ⟨_, rfl⟩
            have hzb : decide (z < 0) = b := by rw [hz, hb9, cmpI_neg]; rfl
            have HCL := fun n os => closure_grown x y wr n os
            rw [← hz] at HCL
            obtain ⟨c0, c1, c2, c3, -, -, -, -⟩ := row_at hS (p := j) hjm x hx
            obtain ⟨e0, e1, e2, e3, -, -, -, -⟩ := row_at hS (p := k) (by omega) y hy
            have hgr : g < wr.heap.size := World.block_lt_of_cell? _ _ c0
            have c0 := cell_grown hgr c0
            have c1 := cell_grown hgr c1
            have c2 := cell_grown hgr c2
            have c3 := cell_grown hgr c3
            have e0 := cell_grown hgr e0
            have e1 := cell_grown hgr e1
            have e2 := cell_grown hgr e2
            have e3 := cell_grown hgr e3
            obtain ⟨x0, x1, x2, x3⟩ := x
            obtain ⟨y0, y1, y2, y3⟩ := y
            simp only at c0 c1 c2 c3 e0 e1 e2 e3 HCL
            clear hI hS HI hx hy hb9 hz hk
            have hkm : k < m := by omega
            have hwk : IntKind.i64.wrap (k : Int) = (k : Int) := by rw [IntKind.wrap_i64]; omega
            cases b with
            | true =>
              go_wp2_with fail
              go_quiet_grown (first | (go_at_call 37; refine Calls.grown_of (HCL _ _)))
              have HL2 := Lib.hid (srow_grown HL.out nq osq)
              have HG2 := Lib.hid (grown_growN HG.out nq osq)
              obtain ⟨W, hW⟩ : ∃ W, W = grow (wr.drewN nq) osq := ⟨_, rfl⟩
              simp only
              rw [← hW] at HL2 HG2 ⊢
              clear hW HL HG c0 c1 c2 c3 e0 e1 e2 e3 HCL hgr
              have HIN2 := Lib.hid (HYES.out (by trivial))
              obtain ⟨c0, c1, c2, c3, f0, f1, f2, f3⟩ := row_at HL2.out (p := j) hjm (x0, x1, x2, x3) HX.out
              obtain ⟨e0, e1, e2, e3, g0, g1, g2, g3⟩ := row_at HL2.out (p := k) hkm (y0, y1, y2, y3) HY.out
              simp only at c0 c1 c2 c3 e0 e1 e2 e3
              have n0 : ∀ u v, u < 4 → v < 4 → ¬ (k * 4 + u = j * 4 + v) := fun u v hu hv => by omega
              have n1 : ∀ u v, u < 4 → v < 4 → ¬ (j * 4 + u = k * 4 + v) := fun u v hu hv => by omega
              go_wp2_with fail
              go_region
              obtain ⟨hS, hG⟩ := exch_world HL2.out hjm hkm HX.out HY.out HG2.out
              simp only [put4] at hS hG
              have HS := Lib.hid hS
              have HG3 := Lib.hid hG
              clear hS hG c0 c1 c2 c3 e0 e1 e2 e3 f0 f1 f2 f3 g0 g1 g2 g3 n0 n1
              go_wp2_with fail
              go_roundw
              case rel => exact ⟨k, by omega, by omega, by first | rfl | go_num, Lib.hid ⟨_, HIN2.out, HS.out⟩, HG3⟩
              case measure => simp [intOf]; omega
            | false =>
              go_wp2_with fail
              go_quiet_grown (first | (go_at_call 37; refine Calls.grown_of (HCL _ _)))
              have HL2 := Lib.hid (srow_grown HL.out nq osq)
              have HG2 := Lib.hid (grown_growN HG.out nq osq)
              obtain ⟨W, hW⟩ : ∃ W, W = grow (wr.drewN nq) osq := ⟨_, rfl⟩
              simp only
              rw [← hW] at HL2 HG2 ⊢
              clear hW HL HG c0 c1 c2 c3 e0 e1 e2 e3 HCL hgr
              have HOUT := Lib.hid (HNO.out (by trivial))
              go_wp2_with fail
              go_roundw
              case rel => exact ⟨i + 1, by omega, by omega, by go_num, Lib.hid ⟨_, HOUT.out, HL2.out⟩, HG2⟩
              case measure => simp [intOf]; omega
          · have hja' : j = a := by omega
            have hg1 : decide ((a : Int) < (j : Int)) = false := decide_eq_false (by omega)
            have hg2 : decide (a < j) = false := decide_eq_false (by omega)
            have HOUT : Hid (∃ L, OutInv P M S (i + 1) L ∧ SRow wr base g m cap L) := Lib.hid (by
              obtain ⟨L, h1, h2⟩ := HI.out
              exact ⟨L, in_stop0 h1 (by omega), h2⟩)
            clear HI hja hja'
            go_wp2_with fail
            go_quiet (fail)
            have HOUT2 : Hid (∃ L, OutInv P M S (i + 1) L ∧ SRow (wr.drewN nq) base g m cap L) := Lib.hid (by
              obtain ⟨L, h1, h2⟩ := HOUT.out
              exact ⟨L, h1, h2⟩)
            have HG2 := Lib.hid (grown_trans HG.out (grown_drewN wr nq (some g)))
            obtain ⟨W, hW⟩ : ∃ W, W = wr.drewN nq := ⟨_, rfl⟩
            rw [← hW] at HOUT2 HG2 ⊢
            clear hW HOUT HG
            go_wp2_with fail
            go_roundw
            case rel => exact ⟨i + 1, by omega, by omega, by go_num, HOUT2, HG2⟩
            case measure => simp [intOf]; omega
      · have hd : decide ((i : Int) < (b : Int)) = false := decide_eq_false (by omega)
        have HF : Hid (∃ M', SRow wr base g m cap (P ++ M' ++ S) ∧ M'.Pairwise leS ∧ Bub ltS M M') := Lib.hid (by
          obtain ⟨L, h1, h2⟩ := HX.out
          obtain ⟨M', h3, h4, h5⟩ := out_end h1 (by omega)
          exact ⟨M', by rw [← h3]; exact h2, h4, h5⟩)
        go_wp2_with fail
        go_end0
        exact ⟨⟨_, rfl⟩, HF.out, HG.out⟩
end Go.Proofs.YtmhgejljjjmejaaDoor
namespace Go.Proofs.YtmhgejljjjmejaaDoor
open Go.RowKit Go.Sort

/-- What a binary search for the first place at which F holds knows. -/
def BinInv (F : Nat → Bool) (lo hi i j : Nat) : Prop := lo ≤ i ∧ i ≤ j ∧ j ≤ hi ∧ (∀ c, lo ≤ c → c < i → F c = false) ∧ (∀ c, j ≤ c → c < hi → F c = true)
def Mono (F : Nat → Bool) (lo hi : Nat) : Prop := ∀ c d, lo ≤ c → c ≤ d → d < hi → F c = true → F d = true
theorem bin_start (F : Nat → Bool) {lo hi : Nat} (h : lo ≤ hi) : BinInv F lo hi lo hi := ⟨Nat.le_refl _, h, Nat.le_refl _, fun c h1 h2 => by omega, fun c h1 h2 => by omega⟩
theorem bin_false {F : Nat → Bool} {lo hi i j c : Nat} (h : BinInv F lo hi i j) (hm : Mono F lo hi) (h1 : i ≤ c) (h2 : c < j) (hc : F c = false) : BinInv F lo hi (c + 1) j := by
  obtain ⟨a1, a2, a3, a4, a5⟩ := h
  refine ⟨by omega, by omega, a3, fun d hd1 hd2 => ?_, a5⟩
  rcases hd : F d with _ | _
  · rfl
  · have := hm d c hd1 (by omega) (by omega) hd
    rw [this] at hc
    cases hc
theorem bin_true {F : Nat → Bool} {lo hi i j c : Nat} (h : BinInv F lo hi i j) (hm : Mono F lo hi) (h1 : i ≤ c) (h2 : c < j) (hc : F c = true) : BinInv F lo hi i c := by
  obtain ⟨a1, a2, a3, a4, a5⟩ := h
  exact ⟨a1, h1, by omega, a4, fun d hd1 hd2 => hm c d (by omega) hd1 hd2 hc⟩
theorem getD_mid (P : List SlotV) (x : SlotV) (Z : List SlotV) : (P ++ x :: Z).getD P.length none_Slot = x := by
  rw [List.getD_eq_getElem?_getD, List.getElem?_append_right (Nat.le_refl _), Nat.sub_self]
  rfl
theorem getD_in2 (P B Z : List SlotV) {k c : Nat} (hk : P.length = k) (h1 : k ≤ c) (h2 : c < k + B.length) : (P ++ B ++ Z).getD c none_Slot = B.getD (c - k) none_Slot := by
  subst hk
  rw [List.append_assoc, List.getD_eq_getElem?_getD, List.getElem?_append_right h1, List.getElem?_append_left (by omega), List.getD_eq_getElem?_getD]
theorem sorted_getD {B : List SlotV} (h : B.Pairwise leS) {c d : Nat} (hc : c ≤ d) (hd : d < B.length) : leS (B.getD c none_Slot) (B.getD d none_Slot) := by
  rcases Nat.lt_or_ge c d with h1 | h1
  · rw [List.getD_eq_getElem?_getD, List.getD_eq_getElem?_getD, List.getElem?_eq_getElem hd, List.getElem?_eq_getElem (by omega)]
    exact (List.pairwise_iff_getElem.1 h) c d _ _ h1
  · rw [show c = d by omega]
    exact Int.le_refl _
theorem mem_take_getD {B : List SlotV} {q : Nat} {y : SlotV} (h : y ∈ B.take q) : ∃ c, c < q ∧ c < B.length ∧ B.getD c none_Slot = y := by
  obtain ⟨c, hc, rfl⟩ := List.mem_iff_getElem.1 h
  rw [List.length_take] at hc
  refine ⟨c, by omega, by omega, ?_⟩
  rw [List.getD_eq_getElem?_getD, List.getElem?_eq_getElem (by omega), List.getElem_take]
  rfl
theorem mem_drop_getD {B : List SlotV} {q : Nat} {y : SlotV} (h : y ∈ B.drop q) : ∃ c, q ≤ c ∧ c < B.length ∧ B.getD c none_Slot = y := by
  obtain ⟨c, hc, rfl⟩ := List.mem_iff_getElem.1 h
  rw [List.length_drop] at hc
  refine ⟨q + c, by omega, by omega, ?_⟩
  rw [List.getD_eq_getElem?_getD, List.getElem?_eq_getElem (by omega), List.getElem_drop]
  rfl
theorem pass_right (P : List SlotV) (x : SlotV) (B S : List SlotV) {t : Nat} (ht : t < B.length) : exch (P ++ B.take t ++ x :: B.drop t ++ S) (P.length + t) (P.length + t + 1) = P ++ B.take (t + 1) ++ x :: B.drop (t + 1) ++ S := by
  have h1 : B.drop t = B.getD t none_Slot :: B.drop (t + 1) := by
    rw [List.drop_eq_getElem_cons ht, List.getD_eq_getElem?_getD, List.getElem?_eq_getElem ht]
    rfl
  have h2 := exch_mid (P ++ B.take t) x [] (B.getD t none_Slot) (B.drop (t + 1) ++ S)
  rw [List.length_append, List.length_take, List.length_nil, Nat.min_eq_left (by omega), Nat.add_zero] at h2
  rw [take_getD ht, h1]
  simpa using h2
theorem pass_left (P : List SlotV) (y : SlotV) (A S : List SlotV) {t : Nat} (ht : t < A.length) : exch (P ++ A.take (t + 1) ++ y :: A.drop (t + 1) ++ S) (P.length + t + 1) (P.length + t) = P ++ A.take t ++ y :: A.drop t ++ S := by
  have h1 : A.drop t = A.getD t none_Slot :: A.drop (t + 1) := by
    rw [List.drop_eq_getElem_cons ht, List.getD_eq_getElem?_getD, List.getElem?_eq_getElem ht]
    rfl
  have h2 := exch_mid (P ++ A.take t) (A.getD t none_Slot) [] y (A.drop (t + 1) ++ S)
  rw [List.length_append, List.length_take, List.length_nil, Nat.min_eq_left (by omega), Nat.add_zero] at h2
  rw [take_getD ht, h1, exch_comm _ (by omega)]
  simpa using h2
theorem sorted_mid {B : List SlotV} (hB : B.Pairwise leS) {x : SlotV} {q : Nat} (h1 : ∀ y ∈ B.take q, leS y x) (h2 : ∀ y ∈ B.drop q, leS x y) : (B.take q ++ x :: B.drop q).Pairwise leS := by
  rw [← List.take_append_drop q B, List.pairwise_append] at hB
  obtain ⟨p1, p2, p3⟩ := hB
  rw [List.pairwise_append, List.pairwise_cons]
  refine ⟨p1, ⟨h2, p2⟩, fun u hu v hv => ?_⟩
  rcases List.mem_cons.1 hv with rfl | hv
  · exact h1 u hu
  · exact p3 u hu v hv
/-- What the search of the first case finds. -/
theorem sym1_found {P S : List SlotV} {x : SlotV} {B : List SlotV} {a k b : Nat} (ha : P.length = a) (hk : k = a + 1) (hb : k + B.length = b) :
    (∀ c, k ≤ c → c < b → (P ++ x :: B ++ S).getD c none_Slot = B.getD (c - k) none_Slot) ∧ (P ++ x :: B ++ S).getD a none_Slot = x := by
  refine ⟨fun c h1 h2 => ?_, by rw [List.append_assoc, ← ha]; exact getD_mid P x _⟩
  have h3 := getD_in2 (P ++ [x]) B S (k := k) (c := c) (by simp; omega) h1 (by omega)
  simpa using h3
theorem sym1_mono {P S : List SlotV} {x : SlotV} {B : List SlotV} {a k b : Nat} (ha : P.length = a) (hk : k = a + 1) (hb : k + B.length = b) (hB : B.Pairwise leS) :
    Mono (fun h => !(ltS ((P ++ x :: B ++ S).getD h none_Slot) ((P ++ x :: B ++ S).getD a none_Slot))) k b := by
  obtain ⟨h1, h2⟩ := sym1_found (S := S) (x := x) ha hk hb
  intro c d hc hcd hd h
  simp only [h1 c hc (by omega), h1 d (by omega) hd, h2, Bool.not_eq_true', ltS, decide_eq_false_iff_not] at h ⊢
  have := sorted_getD hB (show c - k ≤ d - k by omega) (by omega)
  unfold leS at this
  omega
theorem sym1_done {P S : List SlotV} {x : SlotV} {B : List SlotV} {a k b i : Nat} (ha : P.length = a) (hk : k = a + 1) (hb : k + B.length = b) (hB : B.Pairwise leS) (h : BinInv (fun h => !(ltS ((P ++ x :: B ++ S).getD h none_Slot) ((P ++ x :: B ++ S).getD a none_Slot))) k b i i) :
    (B.take (i - k) ++ x :: B.drop (i - k)).Pairwise leS ∧ Bub ltS (x :: B) (B.take (i - k) ++ x :: B.drop (i - k)) := by
  obtain ⟨h1, h2⟩ := sym1_found (S := S) (x := x) ha hk hb
  obtain ⟨a1, -, a3, a4, a5⟩ := h
  have h3 : ∀ y ∈ B.take (i - k), ltS y x = true := fun y hy => by
    obtain ⟨c, hc1, hc2, rfl⟩ := mem_take_getD hy
    have h9 := a4 (k + c) (by omega) (by omega)
    simp only [h1 (k + c) (by omega) (by omega), h2, Bool.not_eq_false', show k + c - k = c by omega] at h9
    exact h9
  have h4 : ∀ y ∈ B.drop (i - k), ltS y x = false := fun y hy => by
    obtain ⟨c, hc1, hc2, rfl⟩ := mem_drop_getD hy
    have h9 := a5 (k + c) (by omega) (by omega)
    simp only [h1 (k + c) (by omega) (by omega), h2, Bool.not_eq_true', show k + c - k = c by omega] at h9
    exact h9
  refine ⟨sorted_mid hB (fun y hy => ?_) (fun y hy => ltS_not (h4 y hy)), ?_⟩
  · have := ltS_iff.1 (h3 y hy)
    unfold leS
    omega
  · have h5 := (Bub.block (lt := ltS) [x] (B.take (i - k)) (fun u hu y hy => by rw [List.mem_singleton.1 hu]; exact h3 y hy)).ctx [] (B.drop (i - k))
    simpa using h5
set_option maxRecDepth 100000 in
set_option maxHeartbeats 3200000 in
theorem sym1_any (base g m cap : Nat) (P S : List SlotV) (x : SlotV) (B : List SlotV) (a k b : Nat) (ha : P.length = a) (hk : k = a + 1) (hb : k + B.length = b) (hm : m ≤ 1000) (hsB : B.Pairwise leS) (w : World) (hR : SRow w base g m cap (P ++ x :: B ++ S)) :
    Calls Tryd.prog 64 #[.slice (some ⟨g, 0, none⟩) m cap, .int .i64 (a : Int), .int .i64 (k : Int), .int .i64 (b : Int), lessF] w fun e w' => (∃ r, e = .returned r) ∧ (∃ M', SRow w' base g m cap (P ++ M' ++ S) ∧ M'.Pairwise leS ∧ Bub ltS (x :: B) M') ∧ w.grownBy w' (some g) := by
  have HR := Lib.hid hR
  have hbm : b ≤ m := by have := hR.2; simp at this; omega
  have hka : (k : Int) - (a : Int) = 1 := by omega
  have hmix : Tryd.prog.follows .mixedOrders = true := by kernel_rfl
  have HMO := Lib.hid (sym1_mono (S := S) (x := x) ha hk hb hsB)
  have HDN := Lib.hid (fun i h => sym1_done (S := S) (x := x) (i := i) ha hk hb hsB h)
  obtain ⟨L, hL⟩ : ∃ L, L = P ++ x :: B ++ S := ⟨_, rfl⟩
  rw [← hL] at HR HMO HDN
  have HL := Lib.hid hL
  have hak : a < k := by omega
  have hkb : k ≤ b := by omega
  have HK := Lib.hid (And.intro hk (And.intro ha hb))
  clear hR hL hk ha hb
  unfold lessF
  go_enter Tryd.func64, Tryd.ntmps64
  go_wp2_with fail
  go_loopw [10, 11, 12] (fun u v h9 wr => ∃ i j : Nat, u = .int .i64 (i : Int) ∧ v = .int .i64 (j : Int) ∧ k ≤ i ∧ i ≤ j ∧ j ≤ b ∧ Hid (BinInv (fun h => !(ltS (L.getD h none_Slot) (L.getD a none_Slot))) k b i j) ∧ Hid (SRow wr base g m cap L) ∧ Hid (w.grownBy wr (some g))) (fun u v _ _ => (intOf v).toNat - (intOf u).toNat)
  case atStart => exact ⟨k, b, rfl, rfl, Nat.le_refl _, hkb, Nat.le_refl _, Lib.hid (bin_start _ hkb), HR, Lib.hid (grown_refl w _)⟩
  case round =>
    obtain ⟨i, j, rfl, rfl, hi1, hij, hjb, HI, HS, HG⟩ := hrel
    by_cases hlt : i < j
    · have hd : decide ((i : Int) < (j : Int)) = true := decide_eq_true (by omega)
      obtain ⟨h, hh⟩ : ∃ h, h = (i + j) / 2 := ⟨_, rfl⟩
      have hhe : ((i : Int) + (j : Int)) / 2 = (h : Int) := by omega
      have hh1 : i ≤ h := by omega
      have hh2 : h < j := by omega
      have hhm : h < m := by omega
      have ham : a < m := by omega
      clear hh HR
      obtain ⟨x9, hx9⟩ : ∃ x9, x9 = L.getD h none_Slot := ⟨_, rfl⟩
      obtain ⟨y9, hy9⟩ : ∃ y9, y9 = L.getD a none_Slot := ⟨_, rfl⟩
      obtain ⟨b9, hb9⟩ : ∃ b9, b9 = ltS x9 y9 := ⟨_, rfl⟩
      have HB9 : Hid (ltS (L.getD h none_Slot) (L.getD a none_Slot) = b9) := Lib.hid (by rw [hb9, hx9, hy9])
      obtain ⟨z9, hz9⟩ : ∃ z9, z9 = cmpI x9.2.2.1 y9.2.2.1 := ⟨_, rfl⟩
      have hzb : decide (z9 < 0) = b9 := by rw [hz9, hb9, cmpI_neg]; rfl
      have HCL := fun n os => closure_grown x9 y9 wr n os
      rw [← hz9] at HCL
      obtain ⟨c0, c1, c2, c3, -, -, -, -⟩ := row_at HS.out (p := h) hhm x9 hx9
      obtain ⟨e0, e1, e2, e3, -, -, -, -⟩ := row_at HS.out (p := a) ham y9 hy9
      have hgr : g < wr.heap.size := World.block_lt_of_cell? _ _ c0
      have c0 := cell_grown hgr c0
      have c1 := cell_grown hgr c1
      have c2 := cell_grown hgr c2
      have c3 := cell_grown hgr c3
      have e0 := cell_grown hgr e0
      have e1 := cell_grown hgr e1
      have e2 := cell_grown hgr e2
      have e3 := cell_grown hgr e3
      obtain ⟨x0, x1, x2, x3⟩ := x9
      obtain ⟨y0, y1, y2, y3⟩ := y9
      simp only at c0 c1 c2 c3 e0 e1 e2 e3 HCL
      clear hx9 hy9 hb9 hz9
      cases b9 with
      | true =>
        go_wp2_with fail
        go_quiet_grown (first | (go_at_call 37; refine Calls.grown_of (HCL _ _)))
        have HS2 := Lib.hid (srow_grown HS.out nq osq)
        have HG2 := Lib.hid (grown_growN HG.out nq osq)
        obtain ⟨W, hW⟩ : ∃ W, W = grow (wr.drewN nq) osq := ⟨_, rfl⟩
        simp only
        rw [← hW] at HS2 HG2 ⊢
        clear hW HS HG c0 c1 c2 c3 e0 e1 e2 e3 HCL hgr

        have HBI : Hid (BinInv (fun h => !(ltS (L.getD h none_Slot) (L.getD a none_Slot))) k b (h + 1) j) := Lib.hid (bin_false HI.out HMO.out (by omega) (by omega) (by simp only [HB9.out]; rfl))
        go_wp2_with fail
        go_roundw
        case rel => exact ⟨h + 1, j, by go_num, rfl, by omega, by omega, hjb, HBI, HS2, HG2⟩
        case measure => simp [intOf]; omega
      | false =>
        go_wp2_with fail
        go_quiet_grown (first | (go_at_call 37; refine Calls.grown_of (HCL _ _)))
        have HS2 := Lib.hid (srow_grown HS.out nq osq)
        have HG2 := Lib.hid (grown_growN HG.out nq osq)
        obtain ⟨W, hW⟩ : ∃ W, W = grow (wr.drewN nq) osq := ⟨_, rfl⟩
        simp only
        rw [← hW] at HS2 HG2 ⊢
        clear hW HS HG c0 c1 c2 c3 e0 e1 e2 e3 HCL hgr

        have HBI : Hid (BinInv (fun h => !(ltS (L.getD h none_Slot) (L.getD a none_Slot))) k b i h) := Lib.hid (bin_true HI.out HMO.out (by omega) (by omega) (by simp only [HB9.out]; rfl))
        go_wp2_with fail
        go_roundw
        case rel => exact ⟨i, h, rfl, by first | rfl | go_num, hi1, by omega, by omega, HBI, HS2, HG2⟩
        case measure => simp [intOf]; omega
    · have hd : decide ((i : Int) < (j : Int)) = false := decide_eq_false (by omega)
      have hd2 : decide (i < j) = false := decide_eq_false (by omega)
      obtain rfl : i = j := by omega
      obtain ⟨hso, hbu⟩ := HDN.out i HI.out
      have HFIN := Lib.hid (And.intro hso hbu)
      clear hso hbu HI HMO HDN
      obtain ⟨n, hn⟩ : ∃ n, n = i - k := ⟨_, rfl⟩
      rw [← hn] at HFIN
      have hnB : n ≤ B.length := by have := HK.out.2.2; omega
      obtain ⟨e, he⟩ : ∃ e, e = a + n := ⟨_, rfl⟩
      have hine : (i : Int) - 1 = (e : Int) := by have := HK.out.1; omega
      have HE := Lib.hid he
      clear he
      obtain ⟨wo, hwo⟩ : ∃ wo, wo = wr := ⟨_, rfl⟩
      have HS0 : Hid (SRow wo base g m cap (P ++ B.take 0 ++ x :: B.drop 0 ++ S)) := Lib.hid (by rw [hwo]; have h9 := HS.out; rw [HL.out] at h9; simpa using h9)
      rw [← hwo] at HG ⊢
      clear HS hn HR hwo wr
      have HX := Lib.hid hine
      clear hine
      go_wp2_with fail
      go_loopw [13] (fun v wr => ∃ t p : Nat, t ≤ n ∧ Hid (p = a + t) ∧ v = .int .i64 (p : Int) ∧ Hid (SRow wr base g m cap (P ++ B.take t ++ x :: B.drop t ++ S)) ∧ Hid (w.grownBy wr (some g))) (fun v _ => a + n - (intOf v).toNat)
      case atStart => exact ⟨0, a, Nat.zero_le _, Lib.hid rfl, rfl, HS0, HG⟩
      case round =>
        obtain ⟨t, p, ht, HPT, rfl, HS, HG⟩ := hrel
        have hp := HPT.out
        have hie := HX.out
        have h8 := HK.out
        have he9 := HE.out
        by_cases htn : t < n
        · have hd : decide ((p : Int) < (e : Int)) = true := decide_eq_true (by omega)
          have hd9 : decide (p < e) = true := decide_eq_true (by omega)
          clear he9
          obtain ⟨q, hq⟩ : ∃ q, q = p + 1 := ⟨_, rfl⟩
          have hqe : (p : Int) + 1 = (q : Int) := by omega
          have hqm : q < m := by omega
          have hpm : p < m := by omega
          have HEX : Hid (exch (P ++ B.take t ++ x :: B.drop t ++ S) p q = P ++ B.take (t + 1) ++ x :: B.drop (t + 1) ++ S) := Lib.hid (by
            have h9 := pass_right P x B S (t := t) (by omega)
            rw [h8.2.1, ← hp, ← hq] at h9
            exact h9)
          obtain ⟨L2, hL2⟩ : ∃ L2, L2 = P ++ B.take t ++ x :: B.drop t ++ S := ⟨_, rfl⟩
          rw [← hL2] at HS HEX
          have HPT2 : Hid (q = a + (t + 1)) := Lib.hid (by omega)
          have hpn : p < a + n := by omega
          clear hL2 hq h8 hp HPT
          obtain ⟨x9, hx9⟩ : ∃ x9, x9 = L2.getD p none_Slot := ⟨_, rfl⟩
          obtain ⟨y9, hy9⟩ : ∃ y9, y9 = L2.getD q none_Slot := ⟨_, rfl⟩
          have HX9 := Lib.hid hx9
          have HY9 := Lib.hid hy9
          obtain ⟨c0, c1, c2, c3, f0, f1, f2, f3⟩ := row_at HS.out (p := p) hpm x9 hx9
          obtain ⟨e0, e1, e2, e3, g0, g1, g2, g3⟩ := row_at HS.out (p := q) hqm y9 hy9
          obtain ⟨x0, x1, x2, x3⟩ := x9
          obtain ⟨y0, y1, y2, y3⟩ := y9
          simp only at c0 c1 c2 c3 e0 e1 e2 e3
          clear hx9 hy9
          have n0 : ∀ u v, u < 4 → v < 4 → ¬ (q * 4 + u = p * 4 + v) := fun u v hu hv => by omega
          have n1 : ∀ u v, u < 4 → v < 4 → ¬ (p * 4 + u = q * 4 + v) := fun u v hu hv => by omega
          go_wp2_with fail
          go_region
          obtain ⟨hS, hG⟩ := exch_world HS.out hpm hqm HX9.out HY9.out HG.out
          simp only [put4] at hS hG
          have HS3 := Lib.hid hS
          have HG3 := Lib.hid hG
          clear hS hG c0 c1 c2 c3 e0 e1 e2 e3 f0 f1 f2 f3 g0 g1 g2 g3 n0 n1
          go_wp2_with fail
          rw [HEX.out] at HS3
          go_roundw
          case rel => exact ⟨t + 1, q, by omega, HPT2, by first | rfl | (congr 1; omega), HS3, HG3⟩
          case measure => simp [intOf]; omega
        · have hd : decide ((p : Int) < (e : Int)) = false := decide_eq_false (by omega)
          have hd9 : decide (p < e) = false := decide_eq_false (by omega)
          clear he9 h8
          have htn' : t = n := by omega
          have HF : Hid (SRow wr base g m cap (P ++ (B.take n ++ x :: B.drop n) ++ S)) := Lib.hid (by have h9 := HS.out; rw [htn'] at h9; simpa using h9)
          clear HS htn' hp HPT
          go_wp2_with fail
          refine bodyPost_ret (results_none rfl _ _ _) rfl ?_
          exact ⟨⟨_, rfl⟩, ⟨_, HF.out, HFIN.out.1, HFIN.out.2⟩, HG.out⟩
end Go.Proofs.YtmhgejljjjmejaaDoor
namespace Go.Proofs.YtmhgejljjjmejaaDoor
open Go.RowKit Go.Sort

theorem sym2_found {P S : List SlotV} {y : SlotV} {A : List SlotV} {a k : Nat} (ha : P.length = a) (hk : a + A.length = k) :
    (∀ c, a ≤ c → c < k → (P ++ A ++ y :: S).getD c none_Slot = A.getD (c - a) none_Slot) ∧ (P ++ A ++ y :: S).getD k none_Slot = y :=
  ⟨fun c h1 h2 => getD_in2 P A (y :: S) ha h1 (by omega), by rw [← hk, ← ha, ← List.length_append]; exact getD_mid (P ++ A) y S⟩
theorem sym2_mono {P S : List SlotV} {y : SlotV} {A : List SlotV} {a k : Nat} (ha : P.length = a) (hk : a + A.length = k) (hA : A.Pairwise leS) : Mono (fun h => ltS ((P ++ A ++ y :: S).getD k none_Slot) ((P ++ A ++ y :: S).getD h none_Slot)) a k := by
  obtain ⟨h1, h2⟩ := sym2_found (S := S) (y := y) ha hk
  intro c d hc hcd hd h
  simp only [h1 c hc (by omega), h1 d (by omega) hd, h2, ltS, decide_eq_true_eq] at h ⊢
  have := sorted_getD hA (show c - a ≤ d - a by omega) (by omega)
  unfold leS at this
  omega
theorem sym2_done {P S : List SlotV} {y : SlotV} {A : List SlotV} {a k i : Nat} (ha : P.length = a) (hk : a + A.length = k) (hA : A.Pairwise leS) (h : BinInv (fun h => ltS ((P ++ A ++ y :: S).getD k none_Slot) ((P ++ A ++ y :: S).getD h none_Slot)) a k i i) :
    (A.take (i - a) ++ y :: A.drop (i - a)).Pairwise leS ∧ Bub ltS (A ++ [y]) (A.take (i - a) ++ y :: A.drop (i - a)) := by
  obtain ⟨h1, h2⟩ := sym2_found (S := S) (y := y) ha hk
  obtain ⟨a1, -, a3, a4, a5⟩ := h
  have h3 : ∀ u ∈ A.take (i - a), ltS y u = false := fun u hu => by
    obtain ⟨c, hc1, hc2, rfl⟩ := mem_take_getD hu
    have h9 := a4 (a + c) (by omega) (by omega)
    simp only [h1 (a + c) (by omega) (by omega), h2, show a + c - a = c by omega] at h9
    exact h9
  have h4 : ∀ u ∈ A.drop (i - a), ltS y u = true := fun u hu => by
    obtain ⟨c, hc1, hc2, rfl⟩ := mem_drop_getD hu
    have h9 := a5 (a + c) (by omega) (by omega)
    simp only [h1 (a + c) (by omega) (by omega), h2, show a + c - a = c by omega] at h9
    exact h9
  refine ⟨sorted_mid hA (fun u hu => ltS_not (h3 u hu)) (fun u hu => ?_), ?_⟩
  · have := ltS_iff.1 (h4 u hu)
    unfold leS
    omega
  · have h5 := (Bub.pass (lt := ltS) (A.drop (i - a)) y h4).ctx (A.take (i - a)) []
    simp only [List.append_nil] at h5
    rw [← List.append_assoc, List.take_append_drop] at h5
    exact h5
set_option maxRecDepth 100000 in
set_option maxHeartbeats 3200000 in
theorem sym2_any (base g m cap : Nat) (P S : List SlotV) (y : SlotV) (A : List SlotV) (a k b : Nat) (ha : P.length = a) (hk : a + A.length = k) (hb : b = k + 1) (hA1 : 2 ≤ A.length) (hm : m ≤ 1000) (hsA : A.Pairwise leS) (w : World) (hR : SRow w base g m cap (P ++ A ++ y :: S)) :
    Calls Tryd.prog 64 #[.slice (some ⟨g, 0, none⟩) m cap, .int .i64 (a : Int), .int .i64 (k : Int), .int .i64 (b : Int), lessF] w fun e w' => (∃ r, e = .returned r) ∧ (∃ M', SRow w' base g m cap (P ++ M' ++ S) ∧ M'.Pairwise leS ∧ Bub ltS (A ++ [y]) M') ∧ w.grownBy w' (some g) := by
  have HR := Lib.hid hR
  have hbm : b ≤ m := by have := hR.2; simp at this; omega
  have hka : (((k : Int) - (a : Int)) == 1) = false := by simp; omega
  have hbk : (b : Int) - (k : Int) = 1 := by omega
  have hmix : Tryd.prog.follows .mixedOrders = true := by kernel_rfl
  have HMO := Lib.hid (sym2_mono (S := S) (y := y) ha hk hsA)
  have HDN := Lib.hid (fun i h => sym2_done (S := S) (y := y) (i := i) ha hk hsA h)
  obtain ⟨L, hL⟩ : ∃ L, L = P ++ A ++ y :: S := ⟨_, rfl⟩
  rw [← hL] at HR HMO HDN
  have HL := Lib.hid hL
  have hak : a ≤ k := by omega
  have hkb : k < b := by omega
  have HK := Lib.hid (And.intro hb (And.intro ha hk))
  clear hR hL hk ha hb
  unfold lessF
  go_enter Tryd.func64, Tryd.ntmps64
  go_wp2_with fail
  go_loopw [14, 15, 16] (fun u v h9 wr => ∃ i j : Nat, u = .int .i64 (i : Int) ∧ v = .int .i64 (j : Int) ∧ a ≤ i ∧ i ≤ j ∧ j ≤ k ∧ Hid (BinInv (fun h => ltS (L.getD k none_Slot) (L.getD h none_Slot)) a k i j) ∧ Hid (SRow wr base g m cap L) ∧ Hid (w.grownBy wr (some g))) (fun u v _ _ => (intOf v).toNat - (intOf u).toNat)
  case atStart => exact ⟨a, k, rfl, rfl, Nat.le_refl _, hak, Nat.le_refl _, Lib.hid (bin_start _ hak), HR, Lib.hid (grown_refl w _)⟩
  case round =>
    obtain ⟨i, j, rfl, rfl, hi1, hij, hjb, HI, HS, HG⟩ := hrel
    by_cases hlt : i < j
    · have hd : decide ((i : Int) < (j : Int)) = true := decide_eq_true (by omega)
      obtain ⟨h, hh⟩ : ∃ h, h = (i + j) / 2 := ⟨_, rfl⟩
      have hhe : ((i : Int) + (j : Int)) / 2 = (h : Int) := by omega
      have hh1 : i ≤ h := by omega
      have hh2 : h < j := by omega
      have hhm : h < m := by omega
      have hkm : k < m := by omega
      clear hh HR
      obtain ⟨x9, hx9⟩ : ∃ x9, x9 = L.getD k none_Slot := ⟨_, rfl⟩
      obtain ⟨y9, hy9⟩ : ∃ y9, y9 = L.getD h none_Slot := ⟨_, rfl⟩
      obtain ⟨b9, hb9⟩ : ∃ b9, b9 = ltS x9 y9 := ⟨_, rfl⟩
      have HB9 : Hid (ltS (L.getD k none_Slot) (L.getD h none_Slot) = b9) := Lib.hid (by rw [hb9, hx9, hy9])
      obtain ⟨z9, hz9⟩ : ∃ z9, z9 = cmpI x9.2.2.1 y9.2.2.1 := ⟨_, rfl⟩
      have hzb : decide (z9 < 0) = b9 := by rw [hz9, hb9, cmpI_neg]; rfl
      have HCL := fun n os => closure_grown x9 y9 wr n os
      rw [← hz9] at HCL
      obtain ⟨c0, c1, c2, c3, -, -, -, -⟩ := row_at HS.out (p := k) hkm x9 hx9
      obtain ⟨e0, e1, e2, e3, -, -, -, -⟩ := row_at HS.out (p := h) hhm y9 hy9
      have hgr : g < wr.heap.size := World.block_lt_of_cell? _ _ c0
      have c0 := cell_grown hgr c0
      have c1 := cell_grown hgr c1
      have c2 := cell_grown hgr c2
      have c3 := cell_grown hgr c3
      have e0 := cell_grown hgr e0
      have e1 := cell_grown hgr e1
      have e2 := cell_grown hgr e2
      have e3 := cell_grown hgr e3
      obtain ⟨x0, x1, x2, x3⟩ := x9
      obtain ⟨y0, y1, y2, y3⟩ := y9
      simp only at c0 c1 c2 c3 e0 e1 e2 e3 HCL
      clear hx9 hy9 hb9 hz9
      cases b9 with
      | true =>
        go_wp2_with fail
        go_quiet_grown (first | (go_at_call 37; refine Calls.grown_of (HCL _ _)))
        have HS2 := Lib.hid (srow_grown HS.out nq osq)
        have HG2 := Lib.hid (grown_growN HG.out nq osq)
        obtain ⟨W, hW⟩ : ∃ W, W = grow (wr.drewN nq) osq := ⟨_, rfl⟩
        simp only
        rw [← hW] at HS2 HG2 ⊢
        clear hW HS HG c0 c1 c2 c3 e0 e1 e2 e3 HCL hgr

        have HBI : Hid (BinInv (fun h => ltS (L.getD k none_Slot) (L.getD h none_Slot)) a k i h) := Lib.hid (bin_true HI.out HMO.out (by omega) (by omega) HB9.out)
        go_wp2_with fail
        go_roundw
        case rel => exact ⟨i, h, rfl, by first | rfl | go_num, hi1, by omega, by omega, HBI, HS2, HG2⟩
        case measure => simp [intOf]; omega
      | false =>
        go_wp2_with fail
        go_quiet_grown (first | (go_at_call 37; refine Calls.grown_of (HCL _ _)))
        have HS2 := Lib.hid (srow_grown HS.out nq osq)
        have HG2 := Lib.hid (grown_growN HG.out nq osq)
        obtain ⟨W, hW⟩ : ∃ W, W = grow (wr.drewN nq) osq := ⟨_, rfl⟩
        simp only
        rw [← hW] at HS2 HG2 ⊢
        clear hW HS HG c0 c1 c2 c3 e0 e1 e2 e3 HCL hgr

        have HBI : Hid (BinInv (fun h => ltS (L.getD k none_Slot) (L.getD h none_Slot)) a k (h + 1) j) := Lib.hid (bin_false HI.out HMO.out (by omega) (by omega) HB9.out)
        go_wp2_with fail
        go_roundw
        case rel => exact ⟨h + 1, j, by go_num, rfl, by omega, by omega, hjb, HBI, HS2, HG2⟩
        case measure => simp [intOf]; omega
    · have hd : decide ((i : Int) < (j : Int)) = false := decide_eq_false (by omega)
      have hd2 : decide (i < j) = false := decide_eq_false (by omega)
      obtain rfl : i = j := by omega
      obtain ⟨hso, hbu⟩ := HDN.out i HI.out
      have HFIN := Lib.hid (And.intro hso hbu)
      clear hso hbu HI HMO HDN
      obtain ⟨n, hn⟩ : ∃ n, n = i - a := ⟨_, rfl⟩
      rw [← hn] at HFIN
      have HIN : Hid (i = a + n) := Lib.hid (by omega)
      obtain ⟨wo, hwo⟩ : ∃ wo, wo = wr := ⟨_, rfl⟩
      have HS0 : Hid (SRow wo base g m cap (P ++ A.take A.length ++ y :: A.drop A.length ++ S)) := Lib.hid (by rw [hwo]; have h9 := HS.out; rw [HL.out] at h9; simpa using h9)
      rw [← hwo] at HG ⊢
      clear HS hn HR hwo wr
      go_wp2_with fail
      go_loopw [17] (fun v wr => ∃ t p : Nat, t ≤ A.length ∧ Hid (p = a + t) ∧ i ≤ p ∧ p ≤ k ∧ v = .int .i64 (p : Int) ∧ Hid (SRow wr base g m cap (P ++ A.take t ++ y :: A.drop t ++ S)) ∧ Hid (w.grownBy wr (some g))) (fun v _ => (intOf v).toNat)
      case atStart => exact ⟨A.length, k, Nat.le_refl _, Lib.hid (by have := HK.out.2.2; omega), by omega, Nat.le_refl _, rfl, HS0, HG⟩
      case round =>
        obtain ⟨t, p, ht, HPT, hip, hpk, rfl, HS, HG⟩ := hrel
        have hp := HPT.out
        have h8 := HK.out
        have he9 := HIN.out
        by_cases htn : i < p
        · have hd : decide ((i : Int) < (p : Int)) = true := decide_eq_true (by omega)
          have hd9 : decide (i < p) = true := decide_eq_true (by omega)
          obtain ⟨q, hq⟩ : ∃ q, q + 1 = p := ⟨p - 1, by omega⟩
          have hqe : (p : Int) - 1 = (q : Int) := by omega
          have hwq : IntKind.i64.wrap (q : Int) = (q : Int) := by rw [IntKind.wrap_i64]; omega
          obtain ⟨t2, ht2⟩ : ∃ t2, t2 + 1 = t := ⟨t - 1, by omega⟩
          have hqm : q < m := by omega
          have hpm : p < m := by omega
          have HEX : Hid (exch (P ++ A.take t ++ y :: A.drop t ++ S) p q = P ++ A.take t2 ++ y :: A.drop t2 ++ S) := Lib.hid (by
            have h9 := pass_left P y A S (t := t2) (by omega)
            rw [h8.2.1, show a + t2 + 1 = p by omega, show a + t2 = q by omega, ht2] at h9
            exact h9)
          obtain ⟨L2, hL2⟩ : ∃ L2, L2 = P ++ A.take t ++ y :: A.drop t ++ S := ⟨_, rfl⟩
          rw [← hL2] at HS HEX
          have HPT2 : Hid (q = a + t2) := Lib.hid (by omega)
          have ht3 : t2 ≤ A.length := by omega
          have hiq : i ≤ q := by omega
          have hqk : q ≤ k := by omega
          clear hL2 h8 hp HPT he9 ht2
          have HQ := Lib.hid hq
          clear hq
          have hqp : q < p := by have := HQ.out; omega
          obtain ⟨x9, hx9⟩ : ∃ x9, x9 = L2.getD p none_Slot := ⟨_, rfl⟩
          obtain ⟨y9, hy9⟩ : ∃ y9, y9 = L2.getD q none_Slot := ⟨_, rfl⟩
          have HX9 := Lib.hid hx9
          have HY9 := Lib.hid hy9
          obtain ⟨c0, c1, c2, c3, f0, f1, f2, f3⟩ := row_at HS.out (p := p) hpm x9 hx9
          obtain ⟨e0, e1, e2, e3, g0, g1, g2, g3⟩ := row_at HS.out (p := q) hqm y9 hy9
          obtain ⟨x0, x1, x2, x3⟩ := x9
          obtain ⟨y0, y1, y2, y3⟩ := y9
          simp only at c0 c1 c2 c3 e0 e1 e2 e3
          clear hx9 hy9
          have n0 : ∀ u v, u < 4 → v < 4 → ¬ (q * 4 + u = p * 4 + v) := fun u v hu hv => by omega
          have n1 : ∀ u v, u < 4 → v < 4 → ¬ (p * 4 + u = q * 4 + v) := fun u v hu hv => by omega
          go_wp2_with fail
          go_region
          obtain ⟨hS, hG⟩ := exch_world HS.out hpm hqm HX9.out HY9.out HG.out
          simp only [put4] at hS hG
          have HS3 := Lib.hid hS
          have HG3 := Lib.hid hG
          clear hS hG c0 c1 c2 c3 e0 e1 e2 e3 f0 f1 f2 f3 g0 g1 g2 g3 n0 n1
          go_wp2_with fail
          rw [HEX.out] at HS3
          go_roundw
          case rel => exact ⟨t2, q, ht3, HPT2, hiq, hqk, by first | rfl | (congr 1; omega), HS3, HG3⟩
          case measure => simp [intOf]; omega
        · have hd : decide ((i : Int) < (p : Int)) = false := decide_eq_false (by omega)
          have hd9 : decide (i < p) = false := decide_eq_false (by omega)
          have htn' : t = n := by omega
          have HF : Hid (SRow wr base g m cap (P ++ (A.take n ++ y :: A.drop n) ++ S)) := Lib.hid (by have h9 := HS.out; rw [htn'] at h9; simpa using h9)
          clear HS htn' hp HPT he9 h8
          go_wp2_with fail
          refine bodyPost_ret (results_none rfl _ _ _) rfl ?_
          exact ⟨⟨_, rfl⟩, ⟨_, HF.out, HFIN.out.1, HFIN.out.2⟩, HG.out⟩
end Go.Proofs.YtmhgejljjjmejaaDoor
namespace Go.Proofs.YtmhgejljjjmejaaDoor
open Go.RowKit Go.Sort

def symF (L : List SlotV) (p : Nat) (c : Nat) : Bool := ltS (L.getD (p - c) none_Slot) (L.getD c none_Slot)
/-- Where the search of symMerge goes. -/
def SymR (a k b mid p s0 r0 : Nat) : Prop := a ≤ s0 ∧ s0 ≤ r0 ∧ r0 ≤ k ∧ p + 1 = mid + k ∧ mid + k ≤ b + s0 ∧ k + r0 ≤ mid + k ∧ mid ≤ b ∧ a ≤ mid ∧ (s0 = a ∨ mid + k = b + s0) ∧ (r0 = k ∨ r0 = mid)
theorem symR_left {a k b mid p s0 : Nat} (h1 : a + 2 ≤ k) (_h2 : k + 2 ≤ b) (hm : mid = (a + b) / 2) (hk : mid < k) (hs : s0 + b = mid + k) (hp : p + 1 = mid + k) : SymR a k b mid p s0 mid := by
  unfold SymR
  omega
theorem symR_right {a k b mid p : Nat} (h1 : a + 2 ≤ k) (_h2 : k + 2 ≤ b) (hm : mid = (a + b) / 2) (hk : ¬ mid < k) (hp : p + 1 = mid + k) : SymR a k b mid p a k := by
  unfold SymR
  omega
theorem sym_get {P A B S : List SlotV} {a k b : Nat} (ha : P.length = a) (hk : a + A.length = k) (hb : k + B.length = b) :
    (∀ c, a ≤ c → c < k → (P ++ A ++ B ++ S).getD c none_Slot = A.getD (c - a) none_Slot) ∧ (∀ c, k ≤ c → c < b → (P ++ A ++ B ++ S).getD c none_Slot = B.getD (c - k) none_Slot) := by
  refine ⟨fun c h1 h2 => ?_, fun c h1 h2 => getD_in2 (P ++ A) B S (by simp; omega) h1 (by omega)⟩
  have h3 := getD_in2 P A (B ++ S) ha h1 (by omega)
  rwa [← List.append_assoc] at h3
theorem sym_mono {P A B S : List SlotV} {a k b mid p s0 r0 : Nat} (ha : P.length = a) (hk : a + A.length = k) (hb : k + B.length = b) (hA : A.Pairwise leS) (hB : B.Pairwise leS) (hr : SymR a k b mid p s0 r0) : Mono (symF (P ++ A ++ B ++ S) p) s0 r0 := by
  obtain ⟨h1, h2⟩ := sym_get (S := S) ha hk hb
  unfold SymR at hr
  intro c d hc hcd hd h
  unfold symF at h ⊢
  rw [h1 c (by omega) (by omega), h2 (p - c) (by omega) (by omega)] at h
  rw [h1 d (by omega) (by omega), h2 (p - d) (by omega) (by omega)]
  have e1 := sorted_getD hA (show c - a ≤ d - a by omega) (by omega)
  have e2 := sorted_getD hB (show p - d - k ≤ p - c - k by omega) (by omega)
  rw [ltS_iff] at h ⊢
  unfold leS at e1 e2
  omega
/-- What the search has found: the two parts, each divided. -/
def SymCut (A B A1 A2 B1 B2 : List SlotV) : Prop := A = A1 ++ A2 ∧ B = B1 ++ B2 ∧ (∀ x ∈ A2, ∀ y ∈ B1, ltS y x = true) ∧ (∀ x ∈ A1, ∀ y ∈ B2, leS x y)
theorem sym_found {P A B S : List SlotV} {a k b mid p s0 r0 s e : Nat} (ha : P.length = a) (hk : a + A.length = k) (hb : k + B.length = b) (hA : A.Pairwise leS) (hB : B.Pairwise leS) (hr : SymR a k b mid p s0 r0) (he : e + s = mid + k) (h : BinInv (symF (P ++ A ++ B ++ S) p) s0 r0 s s) :
    a ≤ s ∧ s ≤ k ∧ k ≤ e ∧ e ≤ b ∧ ∃ A1 A2 B1 B2, SymCut A B A1 A2 B1 B2 ∧ a + A1.length = s ∧ k + B1.length = e := by
  obtain ⟨h1, h2⟩ := sym_get (S := S) ha hk hb
  obtain ⟨a1, -, a3, a4, a5⟩ := h
  unfold SymR at hr
  have b1 : a ≤ s := by omega
  have b2 : s ≤ k := by omega
  have b3 : k ≤ e := by omega
  have b4 : e ≤ b := by omega
  refine ⟨b1, b2, b3, b4, A.take (s - a), A.drop (s - a), B.take (e - k), B.drop (e - k), ⟨(List.take_append_drop _ _).symm, (List.take_append_drop _ _).symm, fun x hx y hy => ?_, fun x hx y hy => ?_⟩, by rw [List.length_take]; omega, by rw [List.length_take]; omega⟩
  · obtain ⟨c, hc1, hc2, rfl⟩ := mem_drop_getD hx
    obtain ⟨d, hd1, hd2, rfl⟩ := mem_take_getD hy
    have hs : s < r0 := by omega
    have h9 := a5 s (Nat.le_refl _) hs
    unfold symF at h9
    rw [h1 s (by omega) (by omega), h2 (p - s) (by omega) (by omega), ltS_iff] at h9
    have e1 := sorted_getD hA (show s - a ≤ c by omega) hc2
    have e2 := sorted_getD hB (show d ≤ p - s - k by omega) (by omega)
    rw [ltS_iff]
    unfold leS at e1 e2
    omega
  · obtain ⟨c, hc1, hc2, rfl⟩ := mem_take_getD hx
    obtain ⟨d, hd1, hd2, rfl⟩ := mem_drop_getD hy
    have hs : s0 < s := by omega
    have h9 := a4 (s - 1) (by omega) (by omega)
    unfold symF at h9
    rw [h1 (s - 1) (by omega) (by omega), h2 (p - (s - 1)) (by omega) (by omega)] at h9
    have h8 := ltS_not h9
    have e1 := sorted_getD hA (show c ≤ s - 1 - a by omega) (by omega)
    have e2 := sorted_getD hB (show p - (s - 1) - k ≤ d by omega) hd2
    unfold leS at e1 e2 h8 ⊢
    omega
theorem symCut_bub {A B A1 A2 B1 B2 : List SlotV} (h : SymCut A B A1 A2 B1 B2) : Bub ltS (A ++ B) (A1 ++ B1 ++ A2 ++ B2) := by
  obtain ⟨rfl, rfl, h1, -⟩ := h
  have h5 := (Bub.block (lt := ltS) A2 B1 h1).ctx A1 B2
  simpa using h5
/-- The two halves, each merged, make the whole. -/
theorem symCut_end {A B A1 A2 B1 B2 M1 M2 : List SlotV} (h : SymCut A B A1 A2 B1 B2) (hA : A.Pairwise leS) (hB : B.Pairwise leS) (h1 : M1.Pairwise leS) (h2 : M2.Pairwise leS) (b1 : Bub ltS (A1 ++ B1) M1) (b2 : Bub ltS (A2 ++ B2) M2) : (M1 ++ M2).Pairwise leS ∧ Bub ltS (A ++ B) (M1 ++ M2) := by
  have hb := symCut_bub h
  obtain ⟨rfl, rfl, h3, h4⟩ := h
  rw [List.pairwise_append] at hA hB
  constructor
  · rw [List.pairwise_append]
    refine ⟨h1, h2, fun x hx y hy => ?_⟩
    have hx := b1.perm.mem_iff.2 hx
    have hy := b2.perm.mem_iff.2 hy
    rcases List.mem_append.1 hx with hx | hx <;> rcases List.mem_append.1 hy with hy | hy
    · exact hA.2.2 x hx y hy
    · exact h4 x hx y hy
    · have := ltS_iff.1 (h3 y hy x hx)
      unfold leS
      omega
    · exact hB.2.2 x hx y hy
  · refine hb.trans ?_
    have h5 := b1.ctx [] (A2 ++ B2)
    have h6 := b2.ctx M1 []
    simp only [List.nil_append, List.append_nil, ← List.append_assoc] at h5 h6
    exact h5.trans h6
end Go.Proofs.YtmhgejljjjmejaaDoor
namespace Go.Proofs.YtmhgejljjjmejaaDoor
open Go.RowKit Go.Sort

set_option maxRecDepth 100000 in
set_option maxHeartbeats 6400000 in
theorem sym_any (base g m cap : Nat) (hm : m ≤ 1000) : ∀ (N : Nat) (P A B S : List SlotV) (a k b : Nat), A.length + B.length ≤ N → 1 ≤ A.length → 1 ≤ B.length → P.length = a → a + A.length = k → k + B.length = b → A.Pairwise leS → B.Pairwise leS → ∀ w : World, SRow w base g m cap (P ++ A ++ B ++ S) →
    Calls Tryd.prog 64 #[.slice (some ⟨g, 0, none⟩) m cap, .int .i64 (a : Int), .int .i64 (k : Int), .int .i64 (b : Int), lessF] w fun e w' => (∃ r, e = .returned r) ∧ (∃ M', SRow w' base g m cap (P ++ M' ++ S) ∧ M'.Pairwise leS ∧ Bub ltS (A ++ B) M') ∧ w.grownBy w' (some g) := by
  intro N
  induction N with
  | zero => intro P A B S a k b h1 h2; omega
  | succ N ih =>
  intro P A B S a k b hN hA1 hB1 ha hk hb hsA hsB w hR
  by_cases hA2 : A.length = 1
  · obtain ⟨x, rfl⟩ := List.length_eq_one_iff.1 hA2
    exact sym1_any base g m cap P S x B a k b ha (by simpa using hk.symm) hb hm hsB w (by simpa using hR)
  by_cases hB2 : B.length = 1
  · obtain ⟨y, rfl⟩ := List.length_eq_one_iff.1 hB2
    exact sym2_any base g m cap P S y A a k b ha hk (by simpa using hb.symm) (by omega) hm hsA w (by simpa using hR)
  have HR := Lib.hid hR
  have HIH := Lib.hid ih
  have hbm : b ≤ m := by have := hR.2; simp at this; omega
  have hka : (((k : Int) - (a : Int)) == 1) = false := by simp; omega
  have hbk : (((b : Int) - (k : Int)) == 1) = false := by simp; omega
  have hmix : Tryd.prog.follows .mixedOrders = true := by kernel_rfl
  obtain ⟨mid, hmid⟩ : ∃ mid, mid = (a + b) / 2 := ⟨_, rfl⟩
  have hme : ((a : Int) + (b : Int)) / 2 = (mid : Int) := by omega
  obtain ⟨nn, hnn⟩ : ∃ nn, nn = mid + k := ⟨_, rfl⟩
  have hne : (mid : Int) + (k : Int) = (nn : Int) := by omega
  obtain ⟨p9, hp9⟩ : ∃ p9, p9 + 1 = nn := ⟨nn - 1, by omega⟩
  have hpe : (nn : Int) - 1 = (p9 : Int) := by omega
  have hak : a + 2 ≤ k := by omega
  have hkb : k + 2 ≤ b := by omega
  have HMO0 := Lib.hid (fun s0 r0 h => sym_mono (S := S) (mid := mid) (p := p9) (s0 := s0) (r0 := r0) ha hk hb hsA hsB h)
  have HFD0 := Lib.hid (fun s0 r0 h s e he hi => sym_found (S := S) (mid := mid) (p := p9) (s0 := s0) (r0 := r0) (s := s) (e := e) ha hk hb hsA hsB h he hi)
  obtain ⟨L, hL⟩ : ∃ L, L = P ++ A ++ B ++ S := ⟨_, rfl⟩
  rw [← hL] at HR HMO0 HFD0
  have HL := Lib.hid hL
  have HK := Lib.hid (And.intro ha (And.intro hk hb))
  have HNN := Lib.hid hnn
  have HN := Lib.hid (And.intro hN (And.intro hA1 hB1))
  have hm1 : mid ≤ 1000 := by omega
  have hm2 : nn ≤ 2000 := by omega
  have hm3 : p9 ≤ 2000 := by omega
  clear hR hL hA2 hB2 hA1 hB1 hN ha hk hb ih
  by_cases hkm : mid < k
  · obtain ⟨s0, hs0⟩ : ∃ s0, s0 + b = nn := ⟨nn - b, by omega⟩
    have hse : (nn : Int) - (b : Int) = (s0 : Int) := by omega
    have HRR : Hid (SymR a k b mid p9 s0 mid) := Lib.hid (symR_left hak hkb hmid hkm (by omega) (by omega))
    have HMO := Lib.hid (HMO0.out _ _ HRR.out)
    have HFD := Lib.hid (HFD0.out _ _ HRR.out)
    have hsr : s0 ≤ mid := HRR.out.2.1
    have d1 : decide ((mid : Int) < (k : Int)) = true := decide_eq_true (by omega)
    clear HMO0 HFD0 hmid hnn hp9 hs0
    unfold lessF at HIH ⊢
    go_enter Tryd.func64, Tryd.ntmps64
    go_wp2_with fail
    go_loopw [20, 21, 23] (fun u v h9 wr => ∃ i j : Nat, u = .int .i64 (i : Int) ∧ v = .int .i64 (j : Int) ∧ s0 ≤ i ∧ i ≤ j ∧ j ≤ mid ∧ Hid (BinInv (symF L p9) s0 mid i j) ∧ Hid (SRow wr base g m cap L) ∧ Hid (w.grownBy wr (some g))) (fun u v _ _ => (intOf v).toNat - (intOf u).toNat)
    case atStart => exact ⟨s0, mid, rfl, rfl, Nat.le_refl _, hsr, Nat.le_refl _, Lib.hid (bin_start _ hsr), HR, Lib.hid (grown_refl w _)⟩
    case round =>
      obtain ⟨i, j, rfl, rfl, hi1, hij, hjb, HI, HS, HG⟩ := hrel
      clear HR
      by_cases hlt : i < j
      · have hd : decide ((i : Int) < (j : Int)) = true := decide_eq_true (by omega)
        have hrr := HRR.out
        unfold SymR at hrr
        obtain ⟨c, hh⟩ : ∃ c, c = (i + j) / 2 := ⟨_, rfl⟩
        have hhe : ((i : Int) + (j : Int)) / 2 = (c : Int) := by omega
        have hh1 : i ≤ c := by omega
        have hh2 : c < j := by omega
        obtain ⟨d, hdc⟩ : ∃ d, p9 - c = d := ⟨_, rfl⟩
        have hde : (p9 : Int) - (c : Int) = (d : Int) := by omega
        have HDC := Lib.hid hdc
        have hdm : d < m := by omega
        have hcm : c < m := by omega
        have hj200 : j ≤ 1000 := by omega
        have hwd : IntKind.i64.wrap (d : Int) = (d : Int) := by rw [IntKind.wrap_i64]; omega
        clear hh hdc hrr
        obtain ⟨x9, hx9⟩ : ∃ x9, x9 = L.getD d none_Slot := ⟨_, rfl⟩
        obtain ⟨y9, hy9⟩ : ∃ y9, y9 = L.getD c none_Slot := ⟨_, rfl⟩
        obtain ⟨b9, hb9⟩ : ∃ b9, b9 = ltS x9 y9 := ⟨_, rfl⟩
        have HB9 : Hid (ltS (L.getD d none_Slot) (L.getD c none_Slot) = b9) := Lib.hid (by rw [hb9, hx9, hy9])
        obtain ⟨z9, hz9⟩ : ∃ z9, z9 = cmpI x9.2.2.1 y9.2.2.1 := ⟨_, rfl⟩
        have hzb : decide (z9 < 0) = b9 := by rw [hz9, hb9, cmpI_neg]; rfl
        have HCL := fun n os => closure_grown x9 y9 wr n os
        rw [← hz9] at HCL
        obtain ⟨c0, c1, c2, c3, -, -, -, -⟩ := row_at HS.out (p := d) hdm x9 hx9
        obtain ⟨e0, e1, e2, e3, -, -, -, -⟩ := row_at HS.out (p := c) hcm y9 hy9
        have hgr : g < wr.heap.size := World.block_lt_of_cell? _ _ c0
        have c0 := cell_grown hgr c0
        have c1 := cell_grown hgr c1
        have c2 := cell_grown hgr c2
        have c3 := cell_grown hgr c3
        have e0 := cell_grown hgr e0
        have e1 := cell_grown hgr e1
        have e2 := cell_grown hgr e2
        have e3 := cell_grown hgr e3
        obtain ⟨x0, x1, x2, x3⟩ := x9
        obtain ⟨y0, y1, y2, y3⟩ := y9
        simp only at c0 c1 c2 c3 e0 e1 e2 e3 HCL
        clear hx9 hy9 hb9 hz9
        cases b9 with
        | true =>
          go_wp2_with fail
          go_quiet_grown (first | (go_at_call 37; refine Calls.grown_of (HCL _ _)))
          have HS2 := Lib.hid (srow_grown HS.out nq osq)
          have HG2 := Lib.hid (grown_growN HG.out nq osq)
          obtain ⟨W, hW⟩ : ∃ W, W = grow (wr.drewN nq) osq := ⟨_, rfl⟩
          simp only
          rw [← hW] at HS2 HG2 ⊢
          clear hW HS HG c0 c1 c2 c3 e0 e1 e2 e3 HCL hgr

          have HBI : Hid (BinInv (symF L p9) s0 mid i c) := Lib.hid (bin_true HI.out HMO.out (by omega) (by omega) (by unfold symF; rw [HDC.out]; exact HB9.out))
          go_wp2_with fail
          go_roundw
          case rel => exact ⟨i, c, rfl, by first | rfl | go_num, hi1, by omega, by omega, HBI, HS2, HG2⟩
          case measure => simp [intOf]; omega
        | false =>
          go_wp2_with fail
          go_quiet_grown (first | (go_at_call 37; refine Calls.grown_of (HCL _ _)))
          have HS2 := Lib.hid (srow_grown HS.out nq osq)
          have HG2 := Lib.hid (grown_growN HG.out nq osq)
          obtain ⟨W, hW⟩ : ∃ W, W = grow (wr.drewN nq) osq := ⟨_, rfl⟩
          simp only
          rw [← hW] at HS2 HG2 ⊢
          clear hW HS HG c0 c1 c2 c3 e0 e1 e2 e3 HCL hgr

          have HBI : Hid (BinInv (symF L p9) s0 mid (c + 1) j) := Lib.hid (bin_false HI.out HMO.out (by omega) (by omega) (by unfold symF; rw [HDC.out]; exact HB9.out))
          go_wp2_with fail
          go_roundw
          case rel => exact ⟨c + 1, j, by go_num, rfl, by omega, by omega, hjb, HBI, HS2, HG2⟩
          case measure => simp [intOf]; omega
      · have hd : decide ((i : Int) < (j : Int)) = false := decide_eq_false (by omega)
        have hd2 : decide (i < j) = false := decide_eq_false (by omega)
        obtain rfl : i = j := by omega
        have hrr := HRR.out
        unfold SymR at hrr
        obtain ⟨e, he⟩ : ∃ e, e + i = mid + k := ⟨mid + k - i, by omega⟩
        have hee : (nn : Int) - (i : Int) = (e : Int) := by have := HNN.out; omega
        obtain ⟨b1, b2, b3, b4, hcut9⟩ := HFD.out i e he HI.out
        have HCUT := Lib.hid hcut9
        have hn1 : e ≤ 1000 := by omega
        have hn2 : i ≤ 1000 := by omega
        have HE := Lib.hid he
        have hnm : mid ≤ b := by omega
        have ham : a ≤ mid := by omega
        clear hrr hcut9 he hlt hij hjb hi1 HI HMO HFD
        have HST : Hid (∃ A1 A2 B1 B2, SymCut A B A1 A2 B1 B2 ∧ a + A1.length = i ∧ k + B1.length = e ∧ SRow wr base g m cap (P ++ A1 ++ A2 ++ B1 ++ B2 ++ S)) := Lib.hid (by
          obtain ⟨A1, A2, B1, B2, h1, h2, h3⟩ := HCUT.out
          refine ⟨A1, A2, B1, B2, h1, h2, h3, ?_⟩
          have h9 := HS.out
          rw [HL.out, h1.1, h1.2.1] at h9
          simpa using h9)
        obtain ⟨A1, A2, B1, B2, hC, hA1, hB1, hS1⟩ := HST.out
        have HC := Lib.hid hC
        have hA12 : A1.length + A2.length = A.length := by rw [hC.1]; simp
        have hB12 : B1.length + B2.length = B.length := by rw [hC.2.1]; simp
        have HS1 := Lib.hid hS1
        have HLE := Lib.hid (And.intro hA1 (And.intro hB1 (And.intro hA12 hB12)))
        have HSO : Hid (A1.Pairwise leS ∧ A2.Pairwise leS ∧ B1.Pairwise leS ∧ B2.Pairwise leS) := Lib.hid (by
          have h1 := hsA
          have h2 := hsB
          rw [hC.1, List.pairwise_append] at h1
          rw [hC.2.1, List.pairwise_append] at h2
          exact ⟨h1.1, h1.2.1, h2.1, h2.2.1⟩)
        clear hC hA1 hB1 hA12 hB12 hS1 HST HCUT HS
        obtain ⟨gA, hgA⟩ : ∃ g, g = decide (i < k ∧ k < e) := ⟨_, rfl⟩
        have HgA := Lib.hid hgA
        clear hgA
        go_upto_region 39 with fail
        go_cut [185] from 186 (fun v wx => v = .bool gA ∧ wr = wx)
        case first =>
          by_cases q1 : i < k
          · have d1 : decide ((i : Int) < (k : Int)) = true := decide_eq_true (by omega)
            by_cases q2 : k < e
            · have d2 : decide ((k : Int) < (e : Int)) = true := decide_eq_true (by omega)
              go_wp2_with fail
              go_meet
              case rel => exact ⟨by rw [HgA.out]; simp [q1, q2], rfl⟩
            · have d2 : decide ((k : Int) < (e : Int)) = false := decide_eq_false (by omega)
              have d3 : decide (k < e) = false := decide_eq_false q2
              go_wp2_with fail
              go_meet
              case rel => exact ⟨by rw [HgA.out]; simp [q1, q2], rfl⟩
          · have d1 : decide ((i : Int) < (k : Int)) = false := decide_eq_false (by omega)
            have d3 : decide (i < k) = false := decide_eq_false q1
            go_wp2_with fail
            go_meet
            case rel => exact ⟨by rw [HgA.out]; simp [q1], rfl⟩
        case rest =>
          obtain ⟨rfl, rfl⟩ := hcut
          go_upto_if 185 with fail
          go_cut [] from 186 (fun wx => Hid (SRow wx base g m cap (P ++ (A1 ++ B1) ++ (A2 ++ B2) ++ S)) ∧ Hid (w.grownBy wx (some g)))
          case first =>
            have h9 := HLE.out
            have h8 := HK.out
            have hE9 := HE.out
            cases gA with
            | true =>
              have q : i < k ∧ k < e := of_decide_eq_true HgA.out.symm
              have HRC : Hid (∀ w' : World, SRow w' base g m cap (P ++ A1 ++ A2 ++ B1 ++ (B2 ++ S)) → Calls Tryd.prog 67 #[.slice (some ⟨g, 0, none⟩) m cap, .int .i64 (i : Int), .int .i64 (k : Int), .int .i64 (e : Int), .func (.func 37) #[] #[]] w' fun e w'' => (∃ r, e = .returned r) ∧ SRow w'' base g m cap (P ++ A1 ++ B1 ++ A2 ++ (B2 ++ S)) ∧ w'.grownBy w'' (some g)) := Lib.hid (fun w' h => rotate_any base g m cap (P ++ A1) A2 B1 (B2 ++ S) i k e (by rw [List.length_append]; omega) (by omega) (by omega) (by omega) (by omega) hm _ w' h)
              have HS4 : Hid (SRow wr base g m cap (P ++ A1 ++ A2 ++ B1 ++ (B2 ++ S))) := Lib.hid (by simpa using HS1.out)
              clear h9 h8 hE9 q
              go_wp2_with (go_at_call 67; refine (HRC.out _ HS4.out).mono ?_; rintro e w4 ⟨⟨r, rfl⟩, hM, hg4⟩; have HM2 := Lib.hid hM; have HG4 := Lib.hid (grown_trans HG.out hg4); clear hM hg4)
              go_meet
              case rel => exact ⟨Lib.hid (by simpa using HM2.out), HG4⟩
            | false =>
              have q : ¬ (i < k ∧ k < e) := of_decide_eq_false HgA.out.symm
              have HO2 : Hid (SRow wr base g m cap (P ++ (A1 ++ B1) ++ (A2 ++ B2) ++ S)) := Lib.hid (by
                have h7 := HS1.out
                rcases Nat.eq_zero_or_pos A2.length with h | h
                · rw [List.length_eq_zero_iff.1 h] at h7 ⊢; simpa using h7
                · rw [List.length_eq_zero_iff.1 (show B1.length = 0 by omega)] at h7 ⊢; simpa using h7)
              clear h9 h8 hE9 q
              go_wp2_with fail
              go_meet
              case rel => exact ⟨HO2, HG⟩
          case rest =>
            obtain ⟨HS2, HG2⟩ := hcut
            clear HS1 HG
            obtain ⟨gB, hgB⟩ : ∃ g, g = decide (a < i ∧ i < mid) := ⟨_, rfl⟩
            have HgB := Lib.hid hgB
            clear hgB
            go_upto_region 41 with fail
            go_cut [199] from 200 (fun v wx => v = .bool gB ∧ wc = wx)
            case first =>
              by_cases q1 : a < i
              · have d1 : decide ((a : Int) < (i : Int)) = true := decide_eq_true (by omega)
                by_cases q2 : i < mid
                · have d2 : decide ((i : Int) < (mid : Int)) = true := decide_eq_true (by omega)
                  go_wp2_with fail
                  go_meet
                  case rel => exact ⟨by rw [HgB.out]; simp [q1, q2], rfl⟩
                · have d2 : decide ((i : Int) < (mid : Int)) = false := decide_eq_false (by omega)
                  have d3 : decide (i < mid) = false := decide_eq_false q2
                  go_wp2_with fail
                  go_meet
                  case rel => exact ⟨by rw [HgB.out]; simp [q1, q2], rfl⟩
              · have d1 : decide ((a : Int) < (i : Int)) = false := decide_eq_false (by omega)
                have d3 : decide (a < i) = false := decide_eq_false q1
                go_wp2_with fail
                go_meet
                case rel => exact ⟨by rw [HgB.out]; simp [q1], rfl⟩
            case rest =>
              obtain ⟨rfl, rfl⟩ := hcut
              go_upto_if 199 with fail
              go_cut [] from 200 (fun wx => Hid (∃ M1, SRow wx base g m cap (P ++ M1 ++ (A2 ++ B2) ++ S) ∧ M1.Pairwise leS ∧ Bub ltS (A1 ++ B1) M1) ∧ Hid (w.grownBy wx (some g)))
              case first =>
                have h9 := HLE.out
                have h8 := HK.out
                have hE9 := HE.out
                cases gB with
                | true =>
                  have q : a < i ∧ i < mid := of_decide_eq_true HgB.out.symm
                  have HRC : Hid (∀ w' : World, SRow w' base g m cap (P ++ A1 ++ B1 ++ (A2 ++ B2 ++ S)) → Calls Tryd.prog 64 #[.slice (some ⟨g, 0, none⟩) m cap, .int .i64 (a : Int), .int .i64 (i : Int), .int .i64 (mid : Int), .func (.func 37) #[] #[]] w' fun e w'' => (∃ r, e = .returned r) ∧ (∃ M', SRow w'' base g m cap (P ++ M' ++ (A2 ++ B2 ++ S)) ∧ M'.Pairwise leS ∧ Bub ltS (A1 ++ B1) M') ∧ w'.grownBy w'' (some g)) := Lib.hid (fun w' h => HIH.out P A1 B1 (A2 ++ B2 ++ S) a i mid (by have := HN.out.1; omega) (by omega) (by omega) h8.1 (by omega) (by omega) HSO.out.1 HSO.out.2.2.1 w' h)
                  have HS4 : Hid (SRow wc base g m cap (P ++ A1 ++ B1 ++ (A2 ++ B2 ++ S))) := Lib.hid (by simpa using HS2.out)
                  clear h9 h8 hE9 q
                  go_wp2_with (go_at_call 64; refine (HRC.out _ HS4.out).mono ?_; rintro e w4 ⟨⟨r, rfl⟩, hM, hg4⟩; have HM2 := Lib.hid hM; have HG4 := Lib.hid (grown_trans HG2.out hg4); clear hM hg4)
                  go_meet
                  case rel =>
                    refine ⟨Lib.hid ?_, HG4⟩
                    obtain ⟨M1, hs4, ho, hb9⟩ := HM2.out
                    exact ⟨M1, by simpa using hs4, ho, hb9⟩
                | false =>
                  have q : ¬ (a < i ∧ i < mid) := of_decide_eq_false HgB.out.symm
                  have HO2 : Hid ((A1 ++ B1).Pairwise leS) := Lib.hid (by
                    rcases Nat.eq_zero_or_pos A1.length with h | h
                    · rw [List.length_eq_zero_iff.1 h]; exact HSO.out.2.2.1
                    · rw [List.length_eq_zero_iff.1 (show B1.length = 0 by omega), List.append_nil]; exact HSO.out.1)
                  clear h9 h8 hE9 q
                  go_wp2_with fail
                  go_meet
                  case rel => exact ⟨Lib.hid ⟨A1 ++ B1, HS2.out, HO2.out, .refl _⟩, HG2⟩
              case rest =>
                obtain ⟨HMX, HG3⟩ := hcut
                clear HS2 HG2
                obtain ⟨M1, hs3, ho1, hm1⟩ := HMX.out
                have HS3 := Lib.hid hs3
                have HO1 := Lib.hid ho1
                have HM1 := Lib.hid hm1
                clear HMX hs3 ho1 hm1
                obtain ⟨gC, hgC⟩ : ∃ g, g = decide (mid < e ∧ e < b) := ⟨_, rfl⟩
                have HgC := Lib.hid hgC
                clear hgC
                go_upto_region 43 with fail
                go_cut [213] from 214 (fun v wx => v = .bool gC ∧ wc = wx)
                case first =>
                  by_cases q1 : mid < e
                  · have d1 : decide ((mid : Int) < (e : Int)) = true := decide_eq_true (by omega)
                    by_cases q2 : e < b
                    · have d2 : decide ((e : Int) < (b : Int)) = true := decide_eq_true (by omega)
                      go_wp2_with fail
                      go_meet
                      case rel => exact ⟨by rw [HgC.out]; simp [q1, q2], rfl⟩
                    · have d2 : decide ((e : Int) < (b : Int)) = false := decide_eq_false (by omega)
                      have d3 : decide (e < b) = false := decide_eq_false q2
                      go_wp2_with fail
                      go_meet
                      case rel => exact ⟨by rw [HgC.out]; simp [q1, q2], rfl⟩
                  · have d1 : decide ((mid : Int) < (e : Int)) = false := decide_eq_false (by omega)
                    have d3 : decide (mid < e) = false := decide_eq_false q1
                    go_wp2_with fail
                    go_meet
                    case rel => exact ⟨by rw [HgC.out]; simp [q1], rfl⟩
                case rest =>
                  obtain ⟨rfl, rfl⟩ := hcut
                  have h9 := HLE.out
                  have h8 := HK.out
                  have hE9 := HE.out
                  cases gC with
                  | true =>
                    have q : mid < e ∧ e < b := of_decide_eq_true HgC.out.symm
                    have HRC : Hid (∀ w' : World, SRow w' base g m cap (P ++ M1 ++ A2 ++ B2 ++ S) → Calls Tryd.prog 64 #[.slice (some ⟨g, 0, none⟩) m cap, .int .i64 (mid : Int), .int .i64 (e : Int), .int .i64 (b : Int), .func (.func 37) #[] #[]] w' fun e w'' => (∃ r, e = .returned r) ∧ (∃ M', SRow w'' base g m cap (P ++ M1 ++ M' ++ S) ∧ M'.Pairwise leS ∧ Bub ltS (A2 ++ B2) M') ∧ w'.grownBy w'' (some g)) := Lib.hid (fun w' h => HIH.out (P ++ M1) A2 B2 S mid e b (by have := HN.out.1; omega) (by omega) (by omega) (by rw [List.length_append]; have := HM1.out.length; simp at this; omega) (by omega) (by omega) HSO.out.2.1 HSO.out.2.2.2 w' h)
                    have HS4 : Hid (SRow wc base g m cap (P ++ M1 ++ A2 ++ B2 ++ S)) := Lib.hid (by simpa using HS3.out)
                    clear h9 h8 hE9 q
                    go_wp2_with (go_at_call 64; refine (HRC.out _ HS4.out).mono ?_; rintro e w4 ⟨⟨r, rfl⟩, hM, hg4⟩; have HM2 := Lib.hid hM; have HG4 := Lib.hid (grown_trans HG3.out hg4); clear hM hg4)
                    go_end0
                    obtain ⟨M2, hs4, ho2, hb2⟩ := HM2.out
                    have h7 := symCut_end HC.out hsA hsB HO1.out ho2 HM1.out hb2
                    exact ⟨⟨_, rfl⟩, ⟨M1 ++ M2, by simpa using hs4, h7.1, h7.2⟩, HG4.out⟩
                  | false =>
                    have q : ¬ (mid < e ∧ e < b) := of_decide_eq_false HgC.out.symm
                    have HO2 : Hid ((A2 ++ B2).Pairwise leS) := Lib.hid (by
                      rcases Nat.eq_zero_or_pos A2.length with h | h
                      · rw [List.length_eq_zero_iff.1 h]; exact HSO.out.2.2.2
                      · rw [List.length_eq_zero_iff.1 (show B2.length = 0 by omega), List.append_nil]; exact HSO.out.2.1)
                    clear h9 h8 hE9 q
                    go_wp2_with fail
                    go_end0
                    have h7 := symCut_end HC.out hsA hsB HO1.out HO2.out HM1.out (.refl _)
                    exact ⟨⟨_, rfl⟩, ⟨M1 ++ (A2 ++ B2), by simpa using HS3.out, h7.1, h7.2⟩, HG3.out⟩
  · have HRR : Hid (SymR a k b mid p9 a k) := Lib.hid (symR_right hak hkb hmid hkm (by omega))
    have HMO := Lib.hid (HMO0.out _ _ HRR.out)
    have HFD := Lib.hid (HFD0.out _ _ HRR.out)
    have hsr : a ≤ k := HRR.out.2.1
    have d1 : decide ((mid : Int) < (k : Int)) = false := decide_eq_false (by omega)
    have d1' : decide (mid < k) = false := decide_eq_false hkm
    clear HMO0 HFD0 hmid hnn hp9
    unfold lessF at HIH ⊢
    go_enter Tryd.func64, Tryd.ntmps64
    go_wp2_with fail
    go_loopw [20, 21, 23] (fun u v h9 wr => ∃ i j : Nat, u = .int .i64 (i : Int) ∧ v = .int .i64 (j : Int) ∧ a ≤ i ∧ i ≤ j ∧ j ≤ k ∧ Hid (BinInv (symF L p9) a k i j) ∧ Hid (SRow wr base g m cap L) ∧ Hid (w.grownBy wr (some g))) (fun u v _ _ => (intOf v).toNat - (intOf u).toNat)
    case atStart => exact ⟨a, k, rfl, rfl, Nat.le_refl _, hsr, Nat.le_refl _, Lib.hid (bin_start _ hsr), HR, Lib.hid (grown_refl w _)⟩
    case round =>
      obtain ⟨i, j, rfl, rfl, hi1, hij, hjb, HI, HS, HG⟩ := hrel
      clear HR
      by_cases hlt : i < j
      · have hd : decide ((i : Int) < (j : Int)) = true := decide_eq_true (by omega)
        have hrr := HRR.out
        unfold SymR at hrr
        obtain ⟨c, hh⟩ : ∃ c, c = (i + j) / 2 := ⟨_, rfl⟩
        have hhe : ((i : Int) + (j : Int)) / 2 = (c : Int) := by omega
        have hh1 : i ≤ c := by omega
        have hh2 : c < j := by omega
        obtain ⟨d, hdc⟩ : ∃ d, p9 - c = d := ⟨_, rfl⟩
        have hde : (p9 : Int) - (c : Int) = (d : Int) := by omega
        have HDC := Lib.hid hdc
        have hdm : d < m := by omega
        have hcm : c < m := by omega
        have hj200 : j ≤ 1000 := by omega
        have hwd : IntKind.i64.wrap (d : Int) = (d : Int) := by rw [IntKind.wrap_i64]; omega
        clear hh hdc hrr
        obtain ⟨x9, hx9⟩ : ∃ x9, x9 = L.getD d none_Slot := ⟨_, rfl⟩
        obtain ⟨y9, hy9⟩ : ∃ y9, y9 = L.getD c none_Slot := ⟨_, rfl⟩
        obtain ⟨b9, hb9⟩ : ∃ b9, b9 = ltS x9 y9 := ⟨_, rfl⟩
        have HB9 : Hid (ltS (L.getD d none_Slot) (L.getD c none_Slot) = b9) := Lib.hid (by rw [hb9, hx9, hy9])
        obtain ⟨z9, hz9⟩ : ∃ z9, z9 = cmpI x9.2.2.1 y9.2.2.1 := ⟨_, rfl⟩
        have hzb : decide (z9 < 0) = b9 := by rw [hz9, hb9, cmpI_neg]; rfl
        have HCL := fun n os => closure_grown x9 y9 wr n os
        rw [← hz9] at HCL
        obtain ⟨c0, c1, c2, c3, -, -, -, -⟩ := row_at HS.out (p := d) hdm x9 hx9
        obtain ⟨e0, e1, e2, e3, -, -, -, -⟩ := row_at HS.out (p := c) hcm y9 hy9
        have hgr : g < wr.heap.size := World.block_lt_of_cell? _ _ c0
        have c0 := cell_grown hgr c0
        have c1 := cell_grown hgr c1
        have c2 := cell_grown hgr c2
        have c3 := cell_grown hgr c3
        have e0 := cell_grown hgr e0
        have e1 := cell_grown hgr e1
        have e2 := cell_grown hgr e2
        have e3 := cell_grown hgr e3
        obtain ⟨x0, x1, x2, x3⟩ := x9
        obtain ⟨y0, y1, y2, y3⟩ := y9
        simp only at c0 c1 c2 c3 e0 e1 e2 e3 HCL
        clear hx9 hy9 hb9 hz9
        cases b9 with
        | true =>
          go_wp2_with fail
          go_quiet_grown (first | (go_at_call 37; refine Calls.grown_of (HCL _ _)))
          have HS2 := Lib.hid (srow_grown HS.out nq osq)
          have HG2 := Lib.hid (grown_growN HG.out nq osq)
          obtain ⟨W, hW⟩ : ∃ W, W = grow (wr.drewN nq) osq := ⟨_, rfl⟩
          simp only
          rw [← hW] at HS2 HG2 ⊢
          clear hW HS HG c0 c1 c2 c3 e0 e1 e2 e3 HCL hgr

          have HBI : Hid (BinInv (symF L p9) a k i c) := Lib.hid (bin_true HI.out HMO.out (by omega) (by omega) (by unfold symF; rw [HDC.out]; exact HB9.out))
          go_wp2_with fail
          go_roundw
          case rel => exact ⟨i, c, rfl, by first | rfl | go_num, hi1, by omega, by omega, HBI, HS2, HG2⟩
          case measure => simp [intOf]; omega
        | false =>
          go_wp2_with fail
          go_quiet_grown (first | (go_at_call 37; refine Calls.grown_of (HCL _ _)))
          have HS2 := Lib.hid (srow_grown HS.out nq osq)
          have HG2 := Lib.hid (grown_growN HG.out nq osq)
          obtain ⟨W, hW⟩ : ∃ W, W = grow (wr.drewN nq) osq := ⟨_, rfl⟩
          simp only
          rw [← hW] at HS2 HG2 ⊢
          clear hW HS HG c0 c1 c2 c3 e0 e1 e2 e3 HCL hgr

          have HBI : Hid (BinInv (symF L p9) a k (c + 1) j) := Lib.hid (bin_false HI.out HMO.out (by omega) (by omega) (by unfold symF; rw [HDC.out]; exact HB9.out))
          go_wp2_with fail
          go_roundw
          case rel => exact ⟨c + 1, j, by go_num, rfl, by omega, by omega, hjb, HBI, HS2, HG2⟩
          case measure => simp [intOf]; omega
      · have hd : decide ((i : Int) < (j : Int)) = false := decide_eq_false (by omega)
        have hd2 : decide (i < j) = false := decide_eq_false (by omega)
        obtain rfl : i = j := by omega
        have hrr := HRR.out
        unfold SymR at hrr
        obtain ⟨e, he⟩ : ∃ e, e + i = mid + k := ⟨mid + k - i, by omega⟩
        have hee : (nn : Int) - (i : Int) = (e : Int) := by have := HNN.out; omega
        obtain ⟨b1, b2, b3, b4, hcut9⟩ := HFD.out i e he HI.out
        have HCUT := Lib.hid hcut9
        have hn1 : e ≤ 1000 := by omega
        have hn2 : i ≤ 1000 := by omega
        have HE := Lib.hid he
        have hnm : mid ≤ b := by omega
        have ham : a ≤ mid := by omega
        clear hrr hcut9 he hlt hij hjb hi1 HI HMO HFD
        have HST : Hid (∃ A1 A2 B1 B2, SymCut A B A1 A2 B1 B2 ∧ a + A1.length = i ∧ k + B1.length = e ∧ SRow wr base g m cap (P ++ A1 ++ A2 ++ B1 ++ B2 ++ S)) := Lib.hid (by
          obtain ⟨A1, A2, B1, B2, h1, h2, h3⟩ := HCUT.out
          refine ⟨A1, A2, B1, B2, h1, h2, h3, ?_⟩
          have h9 := HS.out
          rw [HL.out, h1.1, h1.2.1] at h9
          simpa using h9)
        obtain ⟨A1, A2, B1, B2, hC, hA1, hB1, hS1⟩ := HST.out
        have HC := Lib.hid hC
        have hA12 : A1.length + A2.length = A.length := by rw [hC.1]; simp
        have hB12 : B1.length + B2.length = B.length := by rw [hC.2.1]; simp
        have HS1 := Lib.hid hS1
        have HLE := Lib.hid (And.intro hA1 (And.intro hB1 (And.intro hA12 hB12)))
        have HSO : Hid (A1.Pairwise leS ∧ A2.Pairwise leS ∧ B1.Pairwise leS ∧ B2.Pairwise leS) := Lib.hid (by
          have h1 := hsA
          have h2 := hsB
          rw [hC.1, List.pairwise_append] at h1
          rw [hC.2.1, List.pairwise_append] at h2
          exact ⟨h1.1, h1.2.1, h2.1, h2.2.1⟩)
        clear hC hA1 hB1 hA12 hB12 hS1 HST HCUT HS
        obtain ⟨gA, hgA⟩ : ∃ g, g = decide (i < k ∧ k < e) := ⟨_, rfl⟩
        have HgA := Lib.hid hgA
        clear hgA
        go_upto_region 39 with fail
        go_cut [185] from 186 (fun v wx => v = .bool gA ∧ wr = wx)
        case first =>
          by_cases q1 : i < k
          · have d1 : decide ((i : Int) < (k : Int)) = true := decide_eq_true (by omega)
            by_cases q2 : k < e
            · have d2 : decide ((k : Int) < (e : Int)) = true := decide_eq_true (by omega)
              go_wp2_with fail
              go_meet
              case rel => exact ⟨by rw [HgA.out]; simp [q1, q2], rfl⟩
            · have d2 : decide ((k : Int) < (e : Int)) = false := decide_eq_false (by omega)
              have d3 : decide (k < e) = false := decide_eq_false q2
              go_wp2_with fail
              go_meet
              case rel => exact ⟨by rw [HgA.out]; simp [q1, q2], rfl⟩
          · have d1 : decide ((i : Int) < (k : Int)) = false := decide_eq_false (by omega)
            have d3 : decide (i < k) = false := decide_eq_false q1
            go_wp2_with fail
            go_meet
            case rel => exact ⟨by rw [HgA.out]; simp [q1], rfl⟩
        case rest =>
          obtain ⟨rfl, rfl⟩ := hcut
          go_upto_if 185 with fail
          go_cut [] from 186 (fun wx => Hid (SRow wx base g m cap (P ++ (A1 ++ B1) ++ (A2 ++ B2) ++ S)) ∧ Hid (w.grownBy wx (some g)))
          case first =>
            have h9 := HLE.out
            have h8 := HK.out
            have hE9 := HE.out
            cases gA with
            | true =>
              have q : i < k ∧ k < e := of_decide_eq_true HgA.out.symm
              have HRC : Hid (∀ w' : World, SRow w' base g m cap (P ++ A1 ++ A2 ++ B1 ++ (B2 ++ S)) → Calls Tryd.prog 67 #[.slice (some ⟨g, 0, none⟩) m cap, .int .i64 (i : Int), .int .i64 (k : Int), .int .i64 (e : Int), .func (.func 37) #[] #[]] w' fun e w'' => (∃ r, e = .returned r) ∧ SRow w'' base g m cap (P ++ A1 ++ B1 ++ A2 ++ (B2 ++ S)) ∧ w'.grownBy w'' (some g)) := Lib.hid (fun w' h => rotate_any base g m cap (P ++ A1) A2 B1 (B2 ++ S) i k e (by rw [List.length_append]; omega) (by omega) (by omega) (by omega) (by omega) hm _ w' h)
              have HS4 : Hid (SRow wr base g m cap (P ++ A1 ++ A2 ++ B1 ++ (B2 ++ S))) := Lib.hid (by simpa using HS1.out)
              clear h9 h8 hE9 q
              go_wp2_with (go_at_call 67; refine (HRC.out _ HS4.out).mono ?_; rintro e w4 ⟨⟨r, rfl⟩, hM, hg4⟩; have HM2 := Lib.hid hM; have HG4 := Lib.hid (grown_trans HG.out hg4); clear hM hg4)
              go_meet
              case rel => exact ⟨Lib.hid (by simpa using HM2.out), HG4⟩
            | false =>
              have q : ¬ (i < k ∧ k < e) := of_decide_eq_false HgA.out.symm
              have HO2 : Hid (SRow wr base g m cap (P ++ (A1 ++ B1) ++ (A2 ++ B2) ++ S)) := Lib.hid (by
                have h7 := HS1.out
                rcases Nat.eq_zero_or_pos A2.length with h | h
                · rw [List.length_eq_zero_iff.1 h] at h7 ⊢; simpa using h7
                · rw [List.length_eq_zero_iff.1 (show B1.length = 0 by omega)] at h7 ⊢; simpa using h7)
              clear h9 h8 hE9 q
              go_wp2_with fail
              go_meet
              case rel => exact ⟨HO2, HG⟩
          case rest =>
            obtain ⟨HS2, HG2⟩ := hcut
            clear HS1 HG
            obtain ⟨gB, hgB⟩ : ∃ g, g = decide (a < i ∧ i < mid) := ⟨_, rfl⟩
            have HgB := Lib.hid hgB
            clear hgB
            go_upto_region 41 with fail
            go_cut [199] from 200 (fun v wx => v = .bool gB ∧ wc = wx)
            case first =>
              by_cases q1 : a < i
              · have d1 : decide ((a : Int) < (i : Int)) = true := decide_eq_true (by omega)
                by_cases q2 : i < mid
                · have d2 : decide ((i : Int) < (mid : Int)) = true := decide_eq_true (by omega)
                  go_wp2_with fail
                  go_meet
                  case rel => exact ⟨by rw [HgB.out]; simp [q1, q2], rfl⟩
                · have d2 : decide ((i : Int) < (mid : Int)) = false := decide_eq_false (by omega)
                  have d3 : decide (i < mid) = false := decide_eq_false q2
                  go_wp2_with fail
                  go_meet
                  case rel => exact ⟨by rw [HgB.out]; simp [q1, q2], rfl⟩
              · have d1 : decide ((a : Int) < (i : Int)) = false := decide_eq_false (by omega)
                have d3 : decide (a < i) = false := decide_eq_false q1
                go_wp2_with fail
                go_meet
                case rel => exact ⟨by rw [HgB.out]; simp [q1], rfl⟩
            case rest =>
              obtain ⟨rfl, rfl⟩ := hcut
              go_upto_if 199 with fail
              go_cut [] from 200 (fun wx => Hid (∃ M1, SRow wx base g m cap (P ++ M1 ++ (A2 ++ B2) ++ S) ∧ M1.Pairwise leS ∧ Bub ltS (A1 ++ B1) M1) ∧ Hid (w.grownBy wx (some g)))
              case first =>
                have h9 := HLE.out
                have h8 := HK.out
                have hE9 := HE.out
                cases gB with
                | true =>
                  have q : a < i ∧ i < mid := of_decide_eq_true HgB.out.symm
                  have HRC : Hid (∀ w' : World, SRow w' base g m cap (P ++ A1 ++ B1 ++ (A2 ++ B2 ++ S)) → Calls Tryd.prog 64 #[.slice (some ⟨g, 0, none⟩) m cap, .int .i64 (a : Int), .int .i64 (i : Int), .int .i64 (mid : Int), .func (.func 37) #[] #[]] w' fun e w'' => (∃ r, e = .returned r) ∧ (∃ M', SRow w'' base g m cap (P ++ M' ++ (A2 ++ B2 ++ S)) ∧ M'.Pairwise leS ∧ Bub ltS (A1 ++ B1) M') ∧ w'.grownBy w'' (some g)) := Lib.hid (fun w' h => HIH.out P A1 B1 (A2 ++ B2 ++ S) a i mid (by have := HN.out.1; omega) (by omega) (by omega) h8.1 (by omega) (by omega) HSO.out.1 HSO.out.2.2.1 w' h)
                  have HS4 : Hid (SRow wc base g m cap (P ++ A1 ++ B1 ++ (A2 ++ B2 ++ S))) := Lib.hid (by simpa using HS2.out)
                  clear h9 h8 hE9 q
                  go_wp2_with (go_at_call 64; refine (HRC.out _ HS4.out).mono ?_; rintro e w4 ⟨⟨r, rfl⟩, hM, hg4⟩; have HM2 := Lib.hid hM; have HG4 := Lib.hid (grown_trans HG2.out hg4); clear hM hg4)
                  go_meet
                  case rel =>
                    refine ⟨Lib.hid ?_, HG4⟩
                    obtain ⟨M1, hs4, ho, hb9⟩ := HM2.out
                    exact ⟨M1, by simpa using hs4, ho, hb9⟩
                | false =>
                  have q : ¬ (a < i ∧ i < mid) := of_decide_eq_false HgB.out.symm
                  have HO2 : Hid ((A1 ++ B1).Pairwise leS) := Lib.hid (by
                    rcases Nat.eq_zero_or_pos A1.length with h | h
                    · rw [List.length_eq_zero_iff.1 h]; exact HSO.out.2.2.1
                    · rw [List.length_eq_zero_iff.1 (show B1.length = 0 by omega), List.append_nil]; exact HSO.out.1)
                  clear h9 h8 hE9 q
                  go_wp2_with fail
                  go_meet
                  case rel => exact ⟨Lib.hid ⟨A1 ++ B1, HS2.out, HO2.out, .refl _⟩, HG2⟩
              case rest =>
                obtain ⟨HMX, HG3⟩ := hcut
                clear HS2 HG2
                obtain ⟨M1, hs3, ho1, hm1⟩ := HMX.out
                have HS3 := Lib.hid hs3
                have HO1 := Lib.hid ho1
                have HM1 := Lib.hid hm1
                clear HMX hs3 ho1 hm1
                obtain ⟨gC, hgC⟩ : ∃ g, g = decide (mid < e ∧ e < b) := ⟨_, rfl⟩
                have HgC := Lib.hid hgC
                clear hgC
                go_upto_region 43 with fail
                go_cut [213] from 214 (fun v wx => v = .bool gC ∧ wc = wx)
                case first =>
                  by_cases q1 : mid < e
                  · have d1 : decide ((mid : Int) < (e : Int)) = true := decide_eq_true (by omega)
                    by_cases q2 : e < b
                    · have d2 : decide ((e : Int) < (b : Int)) = true := decide_eq_true (by omega)
                      go_wp2_with fail
                      go_meet
                      case rel => exact ⟨by rw [HgC.out]; simp [q1, q2], rfl⟩
                    · have d2 : decide ((e : Int) < (b : Int)) = false := decide_eq_false (by omega)
                      have d3 : decide (e < b) = false := decide_eq_false q2
                      go_wp2_with fail
                      go_meet
                      case rel => exact ⟨by rw [HgC.out]; simp [q1, q2], rfl⟩
                  · have d1 : decide ((mid : Int) < (e : Int)) = false := decide_eq_false (by omega)
                    have d3 : decide (mid < e) = false := decide_eq_false q1
                    go_wp2_with fail
                    go_meet
                    case rel => exact ⟨by rw [HgC.out]; simp [q1], rfl⟩
                case rest =>
                  obtain ⟨rfl, rfl⟩ := hcut
                  have h9 := HLE.out
                  have h8 := HK.out
                  have hE9 := HE.out
                  cases gC with
                  | true =>
                    have q : mid < e ∧ e < b := of_decide_eq_true HgC.out.symm
                    have HRC : Hid (∀ w' : World, SRow w' base g m cap (P ++ M1 ++ A2 ++ B2 ++ S) → Calls Tryd.prog 64 #[.slice (some ⟨g, 0, none⟩) m cap, .int .i64 (mid : Int), .int .i64 (e : Int), .int .i64 (b : Int), .func (.func 37) #[] #[]] w' fun e w'' => (∃ r, e = .returned r) ∧ (∃ M', SRow w'' base g m cap (P ++ M1 ++ M' ++ S) ∧ M'.Pairwise leS ∧ Bub ltS (A2 ++ B2) M') ∧ w'.grownBy w'' (some g)) := Lib.hid (fun w' h => HIH.out (P ++ M1) A2 B2 S mid e b (by have := HN.out.1; omega) (by omega) (by omega) (by rw [List.length_append]; have := HM1.out.length; simp at this; omega) (by omega) (by omega) HSO.out.2.1 HSO.out.2.2.2 w' h)
                    have HS4 : Hid (SRow wc base g m cap (P ++ M1 ++ A2 ++ B2 ++ S)) := Lib.hid (by simpa using HS3.out)
                    clear h9 h8 hE9 q
                    go_wp2_with (go_at_call 64; refine (HRC.out _ HS4.out).mono ?_; rintro e w4 ⟨⟨r, rfl⟩, hM, hg4⟩; have HM2 := Lib.hid hM; have HG4 := Lib.hid (grown_trans HG3.out hg4); clear hM hg4)
                    go_end0
                    obtain ⟨M2, hs4, ho2, hb2⟩ := HM2.out
                    have h7 := symCut_end HC.out hsA hsB HO1.out ho2 HM1.out hb2
                    exact ⟨⟨_, rfl⟩, ⟨M1 ++ M2, by simpa using hs4, h7.1, h7.2⟩, HG4.out⟩
                  | false =>
                    have q : ¬ (mid < e ∧ e < b) := of_decide_eq_false HgC.out.symm
                    have HO2 : Hid ((A2 ++ B2).Pairwise leS) := Lib.hid (by
                      rcases Nat.eq_zero_or_pos A2.length with h | h
                      · rw [List.length_eq_zero_iff.1 h]; exact HSO.out.2.2.2
                      · rw [List.length_eq_zero_iff.1 (show B2.length = 0 by omega), List.append_nil]; exact HSO.out.2.1)
                    clear h9 h8 hE9 q
                    go_wp2_with fail
                    go_end0
                    have h7 := symCut_end HC.out hsA hsB HO1.out HO2.out HM1.out (.refl _)
                    exact ⟨⟨_, rfl⟩, ⟨M1 ++ (A2 ++ B2), by simpa using HS3.out, h7.1, h7.2⟩, HG3.out⟩
end Go.Proofs.YtmhgejljjjmejaaDoor
namespace Go.Proofs.YtmhgejljjjmejaaDoor
open Go.RowKit Go.Sort

set_option maxRecDepth 100000 in
set_option maxHeartbeats 3200000 in
theorem stable_few (base g m cap : Nat) (L : List SlotV) (hm : m < 20) (w : World) (hR : SRow w base g m cap L) :
    Calls Tryd.prog 54 #[.slice (some ⟨g, 0, none⟩) m cap, .int .i64 (m : Int), lessF] w fun e w' => (∃ r, e = .returned r) ∧ (∃ M', SRow w' base g m cap M' ∧ M'.Pairwise leS ∧ Bub ltS L M') ∧ w.grownBy w' (some g) := by
  have HIN : Hid (∀ w : World, SRow w base g m cap L → Calls Tryd.prog 63 #[.slice (some ⟨g, 0, none⟩) m cap, .int .i64 0, .int .i64 (m : Int), lessF] w fun e w' => (∃ r, e = .returned r) ∧ (∃ M', SRow w' base g m cap M' ∧ M'.Pairwise leS ∧ Bub ltS L M') ∧ w.grownBy w' (some g)) := Lib.hid (fun w h => (insertion_any base g m cap [] L [] 0 m rfl (by rw [Nat.zero_add]; exact h.2.symm) (by omega) w (by simpa using h)).mono fun _ _ ⟨h1, ⟨M', h2, h3, h4⟩, h5⟩ => ⟨h1, ⟨M', by simpa using h2, h3, h4⟩, h5⟩)
  have HR := Lib.hid hR
  have d1 : decide ((20 : Int) ≤ (m : Int)) = false := decide_eq_false (by omega)
  have d2 : decide ((20 : Int) < (m : Int)) = false := decide_eq_false (by omega)
  clear hR
  unfold lessF at HIN ⊢
  go_enter Tryd.func54, Tryd.ntmps54
  go_wp2_with fail
  go_loopw [7, 8] (fun u v wr => u = .int .i64 0 ∧ v = .int .i64 20 ∧ w = wr) (fun _ _ _ => 0)
  case atStart => exact ⟨rfl, rfl, rfl⟩
  case round =>
    obtain ⟨rfl, rfl, rfl⟩ := hrel
    go_wp2_with (go_at_call 63; refine (HIN.out _ HR.out).mono ?_; rintro e w2 ⟨⟨r, rfl⟩, hM, hg⟩; have HM := Lib.hid hM; have HG := Lib.hid hg; clear hM hg)
    go_loopw [6, 7, 8, 9] (fun t u v x wr => t = .int .i64 20 ∧ w2 = wr) (fun _ _ _ _ _ => 0)
    case atStart => exact ⟨rfl, rfl⟩
    case round =>
      obtain ⟨rfl, rfl⟩ := hrel
      go_wp2_with fail
      go_end0
      exact ⟨⟨_, rfl⟩, HM.out, HG.out⟩
set_option maxRecDepth 100000 in
set_option maxHeartbeats 3200000 in
theorem stable_more (base g m cap : Nat) (L : List SlotV) (hm : 20 ≤ m) (hm2 : m ≤ 39) (w : World) (hR : SRow w base g m cap L) :
    Calls Tryd.prog 54 #[.slice (some ⟨g, 0, none⟩) m cap, .int .i64 (m : Int), lessF] w fun e w' => (∃ r, e = .returned r) ∧ (∃ M', SRow w' base g m cap M' ∧ M'.Pairwise leS ∧ Bub ltS L M') ∧ w.grownBy w' (some g) := by
  have hmix : Tryd.prog.follows .mixedOrders = true := by kernel_rfl
  obtain ⟨X, Y, hXY, hX20⟩ := split_l8 L 20 (by have := hR.2; omega)
  have hY : 20 + Y.length = m := by have := hR.2; rw [hXY] at this; simp at this; omega
  rw [hXY] at hR ⊢
  have HIN : Hid (∀ w : World, SRow w base g m cap (X ++ Y) → Calls Tryd.prog 63 #[.slice (some ⟨g, 0, none⟩) m cap, .int .i64 0, .int .i64 20, lessF] w fun e w' => (∃ r, e = .returned r) ∧ (∃ M', SRow w' base g m cap (M' ++ Y) ∧ M'.Pairwise leS ∧ Bub ltS X M') ∧ w.grownBy w' (some g)) := Lib.hid (fun w h => (insertion_any base g m cap [] X Y 0 20 rfl (by omega) (by omega) w (by simpa using h)).mono fun _ _ ⟨h1, ⟨M', h2, h3, h4⟩, h5⟩ => ⟨h1, ⟨M', by simpa using h2, h3, h4⟩, h5⟩)
  have HIN2 : Hid (∀ (M : List SlotV) (w : World), M.length = 20 → SRow w base g m cap (M ++ Y) → Calls Tryd.prog 63 #[.slice (some ⟨g, 0, none⟩) m cap, .int .i64 20, .int .i64 (m : Int), lessF] w fun e w' => (∃ r, e = .returned r) ∧ (∃ M', SRow w' base g m cap (M ++ M') ∧ M'.Pairwise leS ∧ Bub ltS Y M') ∧ w.grownBy w' (some g)) := Lib.hid (fun M w hM h => (insertion_any base g m cap M Y [] 20 m hM hY (by omega) w (by simpa using h)).mono fun _ _ ⟨h1, ⟨M', h2, h3, h4⟩, h5⟩ => ⟨h1, ⟨M', by simpa using h2, h3, h4⟩, h5⟩)
  have HSY : Hid (∀ (M N : List SlotV) (w : World), M.length = 20 → 20 + N.length = m → 20 < m → M.Pairwise leS → N.Pairwise leS → SRow w base g m cap (M ++ N) → Calls Tryd.prog 64 #[.slice (some ⟨g, 0, none⟩) m cap, .int .i64 0, .int .i64 20, .int .i64 (m : Int), lessF] w fun e w' => (∃ r, e = .returned r) ∧ (∃ M', SRow w' base g m cap M' ∧ M'.Pairwise leS ∧ Bub ltS (M ++ N) M') ∧ w.grownBy w' (some g)) := Lib.hid (fun M N w hM hN h20 h1 h2 h => (sym_any base g m cap (by omega) _ [] M N [] 0 20 m (Nat.le_refl _) (by omega) (by omega) rfl (by omega) (by omega) h1 h2 w (by simpa using h)).mono fun _ _ ⟨h1, ⟨M', h2, h3, h4⟩, h5⟩ => ⟨h1, ⟨M', by simpa using h2, h3, h4⟩, h5⟩)
  have HR := Lib.hid hR
  have HX20 := Lib.hid hX20
  have HY := Lib.hid hY
  have d1 : decide ((20 : Int) ≤ (m : Int)) = true := decide_eq_true (by omega)
  have d2 : decide ((40 : Int) ≤ (m : Int)) = false := decide_eq_false (by omega)
  have d3 : decide ((40 : Int) < (m : Int)) = false := decide_eq_false (by omega)
  clear hR hXY hX20 hY
  unfold lessF at HIN HIN2 HSY ⊢
  go_enter Tryd.func54, Tryd.ntmps54
  go_wp2_with fail
  go_loopw [7, 8] (fun u v wr => (u = .int .i64 0 ∧ v = .int .i64 20 ∧ w = wr) ∨ (u = .int .i64 20 ∧ v = .int .i64 40 ∧ Hid (∃ M, M.length = 20 ∧ SRow wr base g m cap (M ++ Y) ∧ M.Pairwise leS ∧ Bub ltS X M) ∧ Hid (w.grownBy wr (some g)))) (fun _ v _ => 40 - (intOf v).toNat)
  case atStart => exact .inl ⟨rfl, rfl, rfl⟩
  case round =>
    rcases hrel with ⟨rfl, rfl, rfl⟩ | ⟨rfl, rfl, HM, HG⟩
    · go_wp2_with (go_at_call 63; refine (HIN.out _ HR.out).mono ?_; rintro e w2 ⟨⟨r, rfl⟩, hM, hg⟩; have HM := Lib.hid hM; have HG := Lib.hid hg; clear hM hg)
      have HM2 : Hid (∃ M, M.length = 20 ∧ SRow w2 base g m cap (M ++ Y) ∧ M.Pairwise leS ∧ Bub ltS X M) := Lib.hid (by
        obtain ⟨M, h1, h2, h3⟩ := HM.out
        exact ⟨M, h3.length.symm.trans HX20.out, h1, h2, h3⟩)
      go_roundw
      case rel => exact .inr ⟨rfl, rfl, HM2, HG⟩
      case measure => simp [intOf]
    · obtain ⟨M, hM20, hs, hso, hbu⟩ := HM.out
      have HS := Lib.hid hs
      have HMF := Lib.hid (And.intro hM20 (And.intro hso hbu))
      clear hM20 hs hso hbu HM
      go_wp2_with (go_at_call 63; refine (HIN2.out M _ HMF.out.1 HS.out).mono ?_; rintro e w2 ⟨⟨r, rfl⟩, hM, hg⟩; have HN := Lib.hid hM; have HG2 := Lib.hid (grown_trans HG.out hg); clear hM hg)
      obtain ⟨N, hsN, hsoN, hbuN⟩ := HN.out
      have HS2 := Lib.hid hsN
      have HNF := Lib.hid (And.intro hsoN hbuN)
      have HNL : Hid (20 + N.length = m) := Lib.hid (by rw [← hbuN.length]; exact HY.out)
      have HBB : Hid (Bub ltS (X ++ Y) (M ++ N)) := Lib.hid (by
        have h1 := HMF.out.2.2.ctx [] Y
        have h2 := hbuN.ctx M []
        simp only [List.nil_append, List.append_nil] at h1 h2
        exact h1.trans h2)
      clear HN hsN hsoN hbuN HS
      obtain ⟨wo, hwo⟩ : ∃ wo, wo = w2 := ⟨_, rfl⟩
      rw [← hwo] at HS2 HG2 ⊢
      clear hwo w2
      go_loopw [6, 7, 8, 9] (fun t u v x wr => (t = .int .i64 20 ∧ wo = wr) ∨ (t = .int .i64 40 ∧ Hid (∃ M', SRow wr base g m cap M' ∧ M'.Pairwise leS ∧ Bub ltS (X ++ Y) M') ∧ Hid (w.grownBy wr (some g)))) (fun t _ _ _ _ => 40 - (intOf t).toNat)
      case atStart => exact .inl ⟨rfl, rfl⟩
      case round =>
        rcases hrel with ⟨rfl, rfl⟩ | ⟨rfl, HF, HG3⟩
        · by_cases h20 : 20 < m
          · have d4 : decide ((20 : Int) < (m : Int)) = true := decide_eq_true (by omega)
            go_wp2_with fail
            go_loopw [7, 8] (fun u v wr => u = .int .i64 0 ∧ v = .int .i64 40 ∧ wo = wr) (fun _ _ _ => 0)
            case atStart => exact ⟨rfl, rfl, rfl⟩
            case round =>
              obtain ⟨rfl, rfl, rfl⟩ := hrel
              go_wp2_with (go_at_call 64; refine (HSY.out M N _ HMF.out.1 HNL.out h20 HMF.out.2.1 HNF.out.1 HS2.out).mono ?_; rintro e w3 ⟨⟨r, rfl⟩, hM, hg⟩; have HM3 := Lib.hid hM; have HG4 := Lib.hid (grown_trans HG2.out hg); clear hM hg)
              have HF3 : Hid (∃ M', SRow w3 base g m cap M' ∧ M'.Pairwise leS ∧ Bub ltS (X ++ Y) M') := Lib.hid (by
                obtain ⟨M', h1, h2, h3⟩ := HM3.out
                exact ⟨M', h1, h2, HBB.out.trans h3⟩)
              go_roundw
              case rel => exact .inr ⟨rfl, HF3, HG4⟩
              case measure => simp [intOf]
          · have d4 : decide ((20 : Int) < (m : Int)) = false := decide_eq_false (by omega)
            have HF3 : Hid (∃ M', SRow wo base g m cap M' ∧ M'.Pairwise leS ∧ Bub ltS (X ++ Y) M') := Lib.hid (by
              have hN0 : N = [] := List.length_eq_zero_iff.1 (by have := HNL.out; omega)
              refine ⟨M ++ N, HS2.out, ?_, HBB.out⟩
              rw [hN0, List.append_nil]
              exact HMF.out.2.1)
            go_wp2_with fail
            go_end0
            exact ⟨⟨_, rfl⟩, HF3.out, HG2.out⟩
        · go_wp2_with fail
          go_end0
          exact ⟨⟨_, rfl⟩, HF.out, HG3.out⟩
theorem stable_any (base g m cap : Nat) (L : List SlotV) (hm : m ≤ 39) (w : World) (hR : SRow w base g m cap L) :
    Calls Tryd.prog 54 #[.slice (some ⟨g, 0, none⟩) m cap, .int .i64 (m : Int), lessF] w fun e w' => (∃ r, e = .returned r) ∧ (∃ M', SRow w' base g m cap M' ∧ M'.Pairwise leS ∧ Bub ltS L M') ∧ w.grownBy w' (some g) := by
  by_cases h : m < 20
  · exact stable_few base g m cap L h w hR
  · exact stable_more base g m cap L (by omega) hm w hR
theorem sort_any (base g m cap : Nat) (L : List SlotV) (hm : m ≤ 39) (w : World) (hR : SRow w base g m cap L) :
    Calls Tryd.prog 36 #[.slice (some ⟨g, 0, none⟩) m cap, lessF] w fun e w' => (∃ r, e = .returned r) ∧ (∃ M', SRow w' base g m cap M' ∧ M'.Pairwise leS ∧ Bub ltS L M') ∧ w.grownBy w' (some g) := by
  have HST := Lib.hid (stable_any base g m cap L hm w hR)
  clear hR
  unfold lessF at HST ⊢
  go_enter Tryd.func36, Tryd.ntmps36
  go_wp2_with (go_at_call 54; refine HST.out.mono ?_; rintro e w2 ⟨⟨r, rfl⟩, hM, hg⟩; have HM := Lib.hid hM; have HG := Lib.hid hg; clear hM hg)
  go_end0
  exact ⟨⟨_, rfl⟩, HM.out, HG.out⟩
end Go.Proofs.YtmhgejljjjmejaaDoor
