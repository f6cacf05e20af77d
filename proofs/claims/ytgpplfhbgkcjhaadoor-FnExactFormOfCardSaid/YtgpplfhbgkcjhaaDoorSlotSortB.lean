/-
  The stable sort of slots, first part: what the closure answers; two elements exchanged.
  The stable sort of slots, second part: rotate.
-/
import Derived.Test.YtgpplfhbgkcjhaaDoorSlotSpecE
import Derived.RegionTactic
import Derived.BigRegion
import Derived.ChangeAlike
namespace Go.Proofs.YtgpplfhbgkcjhaaDoor
open Go.RowKit

/-- cmp.Compare of two ints. -/
def cmpI (a b : Int) : Int := if a < b then -1 else if b < a then 1 else 0
theorem isNaN_any (a : Int) (w : World) : Calls Tryd.prog 86 #[.int .i64 a] w fun e w' => e = .returned (.bool false) ∧ w = w' := by
  go_enter Tryd.func86, Tryd.ntmps86
  go_wp2
  go_ret
  exact ⟨by simp, rfl⟩
theorem compare_any (a b : Int) (w : World) : Calls Tryd.prog 58 #[.int .i64 a, .int .i64 b] w fun e w' => e = .returned (.int .i64 (cmpI a b)) ∧ w = w' := by
  have FL := Lib.hid trivial
  by_cases h1 : a < b
  · have hd1 : decide (a < b) = true := decide_eq_true h1
    have HF : Hid (cmpI a b = -1) := Lib.hid (if_pos h1)
    clear h1
    go_enter Tryd.func58, Tryd.ntmps58
    go_wp2_with (first | (go_at_call 86; have FG := FL; refine (isNaN_any a _).mono ?_; rintro e w1 ⟨rfl, rfl⟩; clear FL FG) | (go_at_call 86; refine (isNaN_any b _).mono ?_; rintro e w1 ⟨rfl, rfl⟩))
    go_ret
    exact ⟨by rw [HF.out]; rfl, rfl⟩
  · have hd1 : decide (a < b) = false := decide_eq_false h1
    by_cases h2 : b < a
    · have hd2 : decide (b < a) = true := decide_eq_true h2
      have HF : Hid (cmpI a b = 1) := Lib.hid (by unfold cmpI; rw [if_neg h1, if_pos h2])
      clear h1 h2
      go_enter Tryd.func58, Tryd.ntmps58
      go_wp2_with (first | (go_at_call 86; have FG := FL; refine (isNaN_any a _).mono ?_; rintro e w1 ⟨rfl, rfl⟩; clear FL FG) | (go_at_call 86; refine (isNaN_any b _).mono ?_; rintro e w1 ⟨rfl, rfl⟩))
      go_ret
      exact ⟨by rw [HF.out]; rfl, rfl⟩
    · have hd2 : decide (b < a) = false := decide_eq_false h2
      have HF : Hid (cmpI a b = 0) := Lib.hid (by unfold cmpI; rw [if_neg h1, if_neg h2])
      clear h1 h2
      go_enter Tryd.func58, Tryd.ntmps58
      go_wp2_with (first | (go_at_call 86; have FG := FL; refine (isNaN_any a _).mono ?_; rintro e w1 ⟨rfl, rfl⟩; clear FL FG) | (go_at_call 86; refine (isNaN_any b _).mono ?_; rintro e w1 ⟨rfl, rfl⟩))
      go_ret
      exact ⟨by rw [HF.out]; rfl, rfl⟩
/-- The closure that the sort is given. -/
def lessF : Value := .func (.func 57) #[] #[]
theorem closure_any (x y : SlotV) (w : World) : Calls Tryd.prog 57 #[.agg #[.int .i64 x.1, .bool x.2.1, .int .i64 x.2.2.1, .int .i64 x.2.2.2], .agg #[.int .i64 y.1, .bool y.2.1, .int .i64 y.2.2.1, .int .i64 y.2.2.2]] w fun e w' => e = .returned (.int .i64 (cmpI x.2.2.1 y.2.2.1)) ∧ w' = (w.alloc (.cells #[.int .i64 x.1, .bool x.2.1, .int .i64 x.2.2.1, .int .i64 x.2.2.2] 33)).alloc (.cells #[.int .i64 y.1, .bool y.2.1, .int .i64 y.2.2.1, .int .i64 y.2.2.2] 33) := by
  obtain ⟨x0, x1, x2, x3⟩ := x
  obtain ⟨y0, y1, y2, y3⟩ := y
  simp only
  go_enter Tryd.func57, Tryd.ntmps57
  go_wp2_with (go_at_call 58; refine (compare_any _ _ _).mono ?_; rintro e w1 ⟨rfl, rfl⟩)
  go_ret
  exact ⟨rfl, rfl⟩
/-- The row after the exchange of the elements p and q. -/
def exch (l : List SlotV) (p q : Nat) : List SlotV := (l.set p (l.getD q none_Slot)).set q (l.getD p none_Slot)
theorem exch_length (l : List SlotV) (p q : Nat) : (exch l p q).length = l.length := by
  unfold exch
  rw [List.length_set, List.length_set]
/-- The row that the sort sorts. -/
def SRow (W : World) (base g m cap : Nat) (l : List SlotV) : Prop := W.ownsRow base 33 4 (.slice (some ⟨g, 0, none⟩) m cap) m (row_Slot l) ∧ m = l.length
def swL (l : List SlotV) (a b : Nat) : Nat → List SlotV
  | 0 => l
  | n + 1 => exch (swL l a b n) (a + n) (b + n)
theorem swL_length (l : List SlotV) (a b : Nat) : ∀ n, (swL l a b n).length = l.length
  | 0 => rfl
  | n + 1 => by rw [swL, exch_length, swL_length l a b n]
theorem at_of {l : List SlotV} {k : Nat} (h : k < l.length) (r : Nat) (hr : r < 4) : (row_Slot l)[k * 4 + r]? = (cells_Slot (l.getD k none_Slot))[r]? := by
  rw [row_Slot_at l k h r hr]
  simp [List.getD, h]
/-- The four cells of element p written. -/
def put4 (W : World) (g p : Nat) (y : SlotV) : World := (((W.setCell ⟨g, p * 4, none⟩ (.int .i64 y.1)).setCell ⟨g, p * 4 + 1, none⟩ (.bool y.2.1)).setCell ⟨g, p * 4 + 2, none⟩ (.int .i64 y.2.2.1)).setCell ⟨g, p * 4 + 3, none⟩ (.int .i64 y.2.2.2)
theorem put4_row {W : World} {base g m cap : Nat} {L : List SlotV} (h : W.ownsRow base 33 4 (.slice (some ⟨g, 0, none⟩) m cap) m (row_Slot L)) {p : Nat} (hp : p < L.length) (y : SlotV) : (put4 W g p y).ownsRow base 33 4 (.slice (some ⟨g, 0, none⟩) m cap) m (row_Slot (L.set p y)) :=
  stored_Slot h p hp y.1 y.2.1 y.2.2.1 y.2.2.2
theorem put4_grown {w W : World} {g : Nat} (h : w.grownBy W (some g)) (p : Nat) (y : SlotV) : w.grownBy (put4 W g p y) (some g) :=
  grown_cell0 (grown_cell0 (grown_cell0 (grown_cell0 h _ _) _ _) _ _) _ _
theorem own_drew {W : World} {base n s : Nat} {e : TypeId} {v : Value} {xs : List Value} (h : W.ownsRow base e s v n xs) : W.drew.ownsRow base e s v n xs := h
theorem grown_drw8 {w W : World} {r : Option Nat} (h : w.grownBy W r) : w.grownBy W.drew r := grown_trans h ⟨rfl, rfl, rfl, Nat.le_refl _, fun _ _ _ => rfl⟩
theorem exch_world {W w : World} {base g m cap : Nat} {L : List SlotV} (h : SRow W base g m cap L) {p q : Nat} (hp : p < m) (hq : q < m) {x y : SlotV} (hx : x = L.getD p none_Slot) (hy : y = L.getD q none_Slot) (hg : w.grownBy W (some g)) :
    SRow (put4 (put4 W g p y) g q x).drew base g m cap (exch L p q) ∧ w.grownBy (put4 (put4 W g p y) g q x).drew (some g) := by
  obtain ⟨h1, h2⟩ := h
  have h3 := put4_row h1 (p := p) (by omega) y
  have h4 := put4_row h3 (p := q) (by rw [List.length_set]; omega) x
  have e : (L.set p y).set q x = exch L p q := by rw [hx, hy]; rfl
  rw [e] at h4
  exact ⟨⟨own_drew h4, by rw [exch_length]; exact h2⟩, grown_drw8 (put4_grown (put4_grown hg p y) q x)⟩
set_option maxRecDepth 100000 in
set_option maxHeartbeats 3200000 in
theorem swapRange_any (base g m cap : Nat) (l : List SlotV) (a b n : Nat) (hab : a + n ≤ b) (hbn : b + n ≤ m) (hm : m ≤ 1000) (fv : Value) (w : World) (hR : SRow w base g m cap l) :
    Calls Tryd.prog 113 #[.slice (some ⟨g, 0, none⟩) m cap, .int .i64 (a : Int), .int .i64 (b : Int), .int .i64 (n : Int), fv] w fun e w' => (∃ r, e = .returned r) ∧ SRow w' base g m cap (swL l a b n) ∧ w.grownBy w' (some g) := by
  have HR := Lib.hid hR
  clear hR
  go_enter Tryd.func113, Tryd.ntmps113
  go_wp2
  go_loopw [10] (fun v wr => ∃ i : Nat, i ≤ n ∧ v = .int .i64 i ∧ Hid (SRow wr base g m cap (swL l a b i)) ∧ Hid (w.grownBy wr (some g))) (fun v _ => n - (intOf v).toNat)
  case atStart => exact ⟨0, Nat.zero_le _, rfl, HR, Lib.hid (grown_refl w _)⟩
  case round =>
    obtain ⟨i, hi, rfl, HRr, HG⟩ := hrel
    by_cases hlt : i < n
    · have hd : decide ((i : Int) < (n : Int)) = true := decide_eq_true (by omega)
      obtain ⟨L, hL⟩ : ∃ L, L = swL l a b i := ⟨_, rfl⟩
      have HNX : Hid (swL l a b (i + 1) = exch L (a + i) (b + i)) := Lib.hid (by rw [hL]; rfl)
      rw [← hL] at HRr
      clear hL
      have hml : m = L.length := HRr.out.2
      obtain ⟨p, hp⟩ : ∃ p, p = a + i := ⟨_, rfl⟩
      obtain ⟨q, hq⟩ : ∃ q, q = b + i := ⟨_, rfl⟩
      have hpe : (a : Int) + (i : Int) = (p : Int) := by omega
      have hqe : (b : Int) + (i : Int) = (q : Int) := by omega
      have hpq : p < q := by omega
      have hqm : q < m := by omega
      rw [← hp, ← hq] at HNX
      clear hp hq
      obtain ⟨x, hx⟩ : ∃ x, x = L.getD p none_Slot := ⟨_, rfl⟩
      obtain ⟨y, hy⟩ : ∃ y, y = L.getD q none_Slot := ⟨_, rfl⟩
      have HAp := Lib.hid (fun r hr => at_of (l := L) (k := p) (by omega) r hr)
      have HAq := Lib.hid (fun r hr => at_of (l := L) (k := q) (by omega) r hr)
      rw [← hx] at HAp
      rw [← hy] at HAq
      have HX := Lib.hid hx
      have HY := Lib.hid hy
      clear hx hy
      have HO := Lib.hid HRr.out.1
      have c0 := (HO.out.cellAt (p * 4) (by omega)).trans (HAp.out 0 (by decide))
      have c1 := (HO.out.cellAt (p * 4 + 1) (by omega)).trans (HAp.out 1 (by decide))
      have c2 := (HO.out.cellAt (p * 4 + 2) (by omega)).trans (HAp.out 2 (by decide))
      have c3 := (HO.out.cellAt (p * 4 + 3) (by omega)).trans (HAp.out 3 (by decide))
      have e0 := (HO.out.cellAt (q * 4) (by omega)).trans (HAq.out 0 (by decide))
      have e1 := (HO.out.cellAt (q * 4 + 1) (by omega)).trans (HAq.out 1 (by decide))
      have e2 := (HO.out.cellAt (q * 4 + 2) (by omega)).trans (HAq.out 2 (by decide))
      have e3 := (HO.out.cellAt (q * 4 + 3) (by omega)).trans (HAq.out 3 (by decide))
      have f0 := HO.out.frozenAt (p * 4)
      have f1 := HO.out.frozenAt (p * 4 + 1)
      have f2 := HO.out.frozenAt (p * 4 + 2)
      have f3 := HO.out.frozenAt (p * 4 + 3)
      have g0 := HO.out.frozenAt (q * 4)
      have g1 := HO.out.frozenAt (q * 4 + 1)
      have g2 := HO.out.frozenAt (q * 4 + 2)
      have g3 := HO.out.frozenAt (q * 4 + 3)
      obtain ⟨x0, x1, x2, x3⟩ := x
      obtain ⟨y0, y1, y2, y3⟩ := y
      simp only [cells_Slot, List.getElem?_cons_zero, List.getElem?_cons_succ] at c0 c1 c2 c3 e0 e1 e2 e3
      have n0 : ∀ u v, u < 4 → v < 4 → ¬ (q * 4 + u = p * 4 + v) := fun u v hu hv => by omega
      go_wp2
      go_region
      obtain ⟨hS, hG⟩ := exch_world HRr.out (show p < m by omega) hqm HX.out HY.out HG.out
      rw [← HNX.out] at hS
      simp only [put4] at hS hG
      have HS := Lib.hid hS
      have HG2 := Lib.hid hG
      clear hS hG c0 c1 c2 c3 e0 e1 e2 e3 f0 f1 f2 f3 g0 g1 g2 g3 n0
      go_wp2
      go_roundw
      case rel => exact ⟨i + 1, by omega, by go_num, HS, HG2⟩
      case measure => simp [intOf]; omega
    · have hd : decide ((i : Int) < (n : Int)) = false := decide_eq_false (by omega)
      have HF : Hid (SRow wr base g m cap (swL l a b n)) := Lib.hid (by have h9 := HRr.out; rw [show i = n by omega] at h9; exact h9)
      go_wp2
      go_end0
      exact ⟨⟨_, rfl⟩, HF.out, HG.out⟩
end Go.Proofs.YtgpplfhbgkcjhaaDoor
namespace Go.Proofs.YtgpplfhbgkcjhaaDoor
open Go.RowKit

theorem exch_mid (X : List SlotV) (x : SlotV) (Y : List SlotV) (y : SlotV) (Z : List SlotV) : exch (X ++ x :: Y ++ y :: Z) X.length (X.length + 1 + Y.length) = X ++ y :: Y ++ x :: Z := by
  have h1 : (X ++ x :: Y ++ y :: Z).getD X.length none_Slot = x := by
    rw [List.append_assoc, List.getD_eq_getElem?_getD, List.getElem?_append_right (Nat.le_refl _), Nat.sub_self]
    rfl
  have h2 : (X ++ x :: Y ++ y :: Z).getD (X.length + 1 + Y.length) none_Slot = y := by
    rw [List.getD_eq_getElem?_getD, List.getElem?_append_right (by simp; omega), show X.length + 1 + Y.length - (X ++ x :: Y).length = 0 by simp; omega]
    rfl
  unfold exch
  rw [h1, h2]
  have h3 : (X ++ x :: Y ++ y :: Z).set X.length y = X ++ y :: Y ++ y :: Z := by
    rw [List.append_assoc, List.set_append_right _ _ (Nat.le_refl _), Nat.sub_self, List.append_assoc]
    rfl
  rw [h3, List.set_append_right _ _ (by simp; omega), show X.length + 1 + Y.length - (X ++ y :: Y).length = 0 by simp; omega]
  rfl
theorem swL_blocks : ∀ (n : Nat) (P A M B S : List SlotV), A.length = n → B.length = n → swL (P ++ A ++ M ++ B ++ S) P.length (P.length + n + M.length) n = P ++ B ++ M ++ A ++ S
  | 0, P, A, M, B, S, ha, hb => by
    obtain rfl := List.length_eq_zero_iff.1 ha
    obtain rfl := List.length_eq_zero_iff.1 hb
    simp [swL]
  | n + 1, P, A, M, B, S, ha, hb => by
    obtain ⟨A', x, rfl⟩ : ∃ A' x, A = A' ++ [x] := ⟨A.dropLast, A.getLast (by intro e; simp [e] at ha), (List.dropLast_concat_getLast _).symm⟩
    obtain ⟨B', y, rfl⟩ : ∃ B' y, B = B' ++ [y] := ⟨B.dropLast, B.getLast (by intro e; simp [e] at hb), (List.dropLast_concat_getLast _).symm⟩
    have ha' : A'.length = n := by simpa using ha
    have hb' : B'.length = n := by simpa using hb
    have ih := swL_blocks n P A' (x :: M) B' (y :: S) ha' hb'
    rw [List.length_cons, show P.length + n + (M.length + 1) = P.length + (n + 1) + M.length by omega] at ih
    rw [swL]
    rw [show P ++ (A' ++ [x]) ++ M ++ (B' ++ [y]) ++ S = P ++ A' ++ x :: M ++ B' ++ y :: S by simp, ih]
    have h9 := exch_mid (P ++ B') x (M ++ A') y S
    rw [List.length_append, List.length_append, hb', ha', show P.length + n + 1 + (M.length + n) = P.length + (n + 1) + M.length + n by omega] at h9
    rw [show P ++ B' ++ x :: M ++ A' ++ y :: S = P ++ B' ++ x :: (M ++ A') ++ y :: S by simp, h9]
    simp
theorem split_l8 (l : List SlotV) (k : Nat) (h : k ≤ l.length) : ∃ A B, l = A ++ B ∧ A.length = k := ⟨l.take k, l.drop k, (List.take_append_drop k l).symm, by rw [List.length_take]; omega⟩
set_option maxRecDepth 100000 in
set_option maxHeartbeats 3200000 in
theorem rotate_any (base g m cap : Nat) (P A B S : List SlotV) (a k b : Nat) (ha : P.length = a) (hk : a + A.length = k) (hb : k + B.length = b) (hA : 1 ≤ A.length) (hB : 1 ≤ B.length) (hm : m ≤ 1000) (fv : Value) (w : World) (hR : SRow w base g m cap (P ++ A ++ B ++ S)) :
    Calls Tryd.prog 108 #[.slice (some ⟨g, 0, none⟩) m cap, .int .i64 (a : Int), .int .i64 (k : Int), .int .i64 (b : Int), fv] w fun e w' => (∃ r, e = .returned r) ∧ SRow w' base g m cap (P ++ B ++ A ++ S) ∧ w.grownBy w' (some g) := by
  have HR := Lib.hid hR
  have hbm : b ≤ m := by have := hR.2; simp at this; omega
  obtain ⟨T, hT⟩ : ∃ T, T = P ++ B ++ A ++ S := ⟨_, rfl⟩
  rw [← hT]
  have HT := Lib.hid hT
  clear hR hT
  have hia : (k : Int) - (a : Int) = ((A.length : Nat) : Int) := by omega
  have hjb : (b : Int) - (k : Int) = ((B.length : Nat) : Int) := by omega
  go_enter Tryd.func108, Tryd.ntmps108
  go_wp2_with fail
  go_loopw [10, 11] (fun u v wr => ∃ i j : Nat, u = .int .i64 i ∧ v = .int .i64 j ∧ 1 ≤ i ∧ 1 ≤ j ∧ i ≤ k ∧ k + j ≤ m ∧ Hid (∃ P' X Y S', P'.length + i = k ∧ X.length = i ∧ Y.length = j ∧ T = P' ++ Y ++ X ++ S' ∧ SRow wr base g m cap (P' ++ X ++ Y ++ S')) ∧ Hid (w.grownBy wr (some g))) (fun u v _ => (intOf u).toNat + (intOf v).toNat)
  case atStart => exact ⟨A.length, B.length, by first | rfl | rw [hia], by first | rfl | rw [hjb], hA, hB, by omega, by omega, Lib.hid ⟨P, A, B, S, by omega, rfl, rfl, HT.out, HR.out⟩, Lib.hid (grown_refl w _)⟩
  case round =>
    obtain ⟨i, j, rfl, rfl, hi1, hj1, hik, hkj, HX, HG⟩ := hrel
    obtain ⟨p, hp⟩ : ∃ p, p + i = k := ⟨k - i, by omega⟩
    have hpe : (k : Int) - (i : Int) = (p : Int) := by omega
    rcases Nat.lt_trichotomy i j with hij | hij | hij
    · have hd1 : ((i : Int) != (j : Int)) = true := by simp; omega
      have hd2 : decide ((j : Int) < (i : Int)) = false := decide_eq_false (by omega)
      obtain ⟨q, hq⟩ : ∃ q, q + i = k + j := ⟨k + j - i, by omega⟩
      have hqe : (k : Int) + (j : Int) - (i : Int) = (q : Int) := by omega
      obtain ⟨j2, hj2⟩ : ∃ j2, j2 + i = j := ⟨j - i, by omega⟩
      have hje : (j : Int) - (i : Int) = (j2 : Int) := by omega
      have HX2 : Hid (∃ L, SRow wr base g m cap L ∧ (∃ P' X Y S', P'.length + i = k ∧ X.length = i ∧ Y.length = j2 ∧ T = P' ++ Y ++ X ++ S' ∧ swL L p q i = P' ++ X ++ Y ++ S')) := Lib.hid (by
        obtain ⟨P', X, Y, S', h1, h2, h3, h4, h5⟩ := HX.out
        obtain ⟨Y1, Y2, rfl, h6⟩ := split_l8 Y j2 (by omega)
        have h7 : Y2.length = i := by simp at h3; omega
        refine ⟨_, h5, P', Y2, Y1, X ++ S', h1, h7, h6, by rw [h4]; simp, ?_⟩
        have h8 := swL_blocks i P' X Y1 Y2 S' h2 h7
        rw [h6, show P'.length = p by omega, show p + i + j2 = q by omega] at h8
        rw [show P' ++ X ++ (Y1 ++ Y2) ++ S' = P' ++ X ++ Y1 ++ Y2 ++ S' by simp, h8]
        simp)
      obtain ⟨L, hL, hX⟩ := HX2.out
      have HL := Lib.hid hL
      have HXX := Lib.hid hX
      clear hL hX HX HX2
      go_wp2_with (go_at_call 113; refine (swapRange_any base g m cap L p q i (by omega) (by omega) hm fv _ HL.out).mono ?_; rintro e w2 ⟨⟨r, rfl⟩, hr2, hg2⟩; have HR2 := Lib.hid hr2; have HG2 := Lib.hid (grown_trans HG.out hg2); clear hr2 hg2)
      have HX3 : Hid (∃ P' X Y S', P'.length + i = k ∧ X.length = i ∧ Y.length = j2 ∧ T = P' ++ Y ++ X ++ S' ∧ SRow w2 base g m cap (P' ++ X ++ Y ++ S')) := Lib.hid (by
        obtain ⟨P', X, Y, S', h1, h2, h3, h4, h5⟩ := HXX.out
        exact ⟨P', X, Y, S', h1, h2, h3, h4, by rw [← h5]; exact HR2.out⟩)
      go_roundw
      case rel => exact ⟨i, j2, by go_num, by go_num, hi1, by omega, hik, by omega, HX3, HG2⟩
      case measure => simp [intOf]; omega
    · subst hij
      have hd1 : ((i : Int) != (i : Int)) = false := by simp
      have HX2 : Hid (∃ L, SRow wr base g m cap L ∧ swL L p k i = T) := Lib.hid (by
        obtain ⟨P', X, Y, S', h1, h2, h3, h4, h5⟩ := HX.out
        refine ⟨_, h5, ?_⟩
        have h8 := swL_blocks i P' X [] Y S' h2 h3
        rw [List.length_nil, show P'.length = p by omega, show p + i + 0 = k by omega] at h8
        rw [h4]
        simpa using h8)
      obtain ⟨L, hL, hX⟩ := HX2.out
      have HL := Lib.hid hL
      have HXX := Lib.hid hX
      clear hL hX HX HX2
      go_wp2_with (go_at_call 113; refine (swapRange_any base g m cap L p k i (by omega) (by omega) hm fv _ HL.out).mono ?_; rintro e w2 ⟨⟨r, rfl⟩, hr2, hg2⟩; have HR2 := Lib.hid hr2; have HG2 := Lib.hid (grown_trans HG.out hg2); clear hr2 hg2)
      go_end0
      exact ⟨⟨_, rfl⟩, by rw [← HXX.out]; exact HR2.out, HG2.out⟩
    · have hd1 : ((i : Int) != (j : Int)) = true := by simp; omega
      have hd2 : decide ((j : Int) < (i : Int)) = true := decide_eq_true (by omega)
      obtain ⟨i2, hi2⟩ : ∃ i2, i2 + j = i := ⟨i - j, by omega⟩
      have hie : (i : Int) - (j : Int) = (i2 : Int) := by omega
      have HX2 : Hid (∃ L, SRow wr base g m cap L ∧ (∃ P' X Y S', P'.length + i2 = k ∧ X.length = i2 ∧ Y.length = j ∧ T = P' ++ Y ++ X ++ S' ∧ swL L p k j = P' ++ X ++ Y ++ S')) := Lib.hid (by
        obtain ⟨P', X, Y, S', h1, h2, h3, h4, h5⟩ := HX.out
        obtain ⟨X1, X2, rfl, h6⟩ := split_l8 X j (by omega)
        have h7 : X2.length = i2 := by simp at h2; omega
        refine ⟨_, h5, P' ++ Y, X2, X1, S', by simp; omega, h7, h6, by rw [h4]; simp, ?_⟩
        have h8 := swL_blocks j P' X1 X2 Y S' h6 h3
        rw [h7, show P'.length = p by omega, show p + j + i2 = k by omega] at h8
        rw [show P' ++ (X1 ++ X2) ++ Y ++ S' = P' ++ X1 ++ X2 ++ Y ++ S' by simp, h8])
      obtain ⟨L, hL, hX⟩ := HX2.out
      have HL := Lib.hid hL
      have HXX := Lib.hid hX
      clear hL hX HX HX2
      go_wp2_with (go_at_call 113; refine (swapRange_any base g m cap L p k j (by omega) (by omega) hm fv _ HL.out).mono ?_; rintro e w2 ⟨⟨r, rfl⟩, hr2, hg2⟩; have HR2 := Lib.hid hr2; have HG2 := Lib.hid (grown_trans HG.out hg2); clear hr2 hg2)
      have HX3 : Hid (∃ P' X Y S', P'.length + i2 = k ∧ X.length = i2 ∧ Y.length = j ∧ T = P' ++ Y ++ X ++ S' ∧ SRow w2 base g m cap (P' ++ X ++ Y ++ S')) := Lib.hid (by
        obtain ⟨P', X, Y, S', h1, h2, h3, h4, h5⟩ := HXX.out
        exact ⟨P', X, Y, S', h1, h2, h3, h4, by rw [← h5]; exact HR2.out⟩)
      go_roundw
      case rel => exact ⟨i2, j, by go_num, by go_num, by omega, hj1, by omega, hkj, HX3, HG2⟩
      case measure => simp [intOf]; omega
end Go.Proofs.YtgpplfhbgkcjhaaDoor
