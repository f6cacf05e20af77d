/-
  The stable sort of slots, second part: rotate.
-/
import Derived.Test.YtdhjgaadfofkkaaDoorSlotSortA
namespace Go.Proofs.YtdhjgaadfofkkaaDoor
open Go.RowKit

theorem exch_mid (X : List SlotV) (x : SlotV) (Y : List SlotV) (y : SlotV) (Z : List SlotV) : exch (X ++ x :: Y ++ y :: Z) X.length (X.length + 1 + Y.length) = X ++ y :: Y ++ x :: Z := by
  have h1 : (X ++ x :: Y ++ y :: Z).getD X.length none_Slot = x := by
    rw [List.append_assoc, List.getD_eq_getElem?_getD, List.getElem?_append_right (Nat.le_refl _), Nat.sub_self]
    rfl
  have h2 : (X ++ x :: Y ++ y :: Z).getD (X.length + 1 + Y.length) none_Slot = y := by
    rw [List.getD_eq_getElem?_getD, List.getElem?_append_right (by simp; omega), show X.length + 1 + Y.length - (X ++ x :: Y).length = 0 by simp; omega]
    rfl
  unfold exch
  rw [h1, h2]
  have h3 : (X ++ x :: Y ++ y :: Z).set X.length y = X ++ y :: Y ++ y :: Z := by
    rw [List.append_assoc, List.set_append_right _ _ (Nat.le_refl _), Nat.sub_self, List.append_assoc]
    rfl
  rw [h3, List.set_append_right _ _ (by simp; omega), show X.length + 1 + Y.length - (X ++ y :: Y).length = 0 by simp; omega]
  rfl
theorem swL_blocks : ∀ (n : Nat) (P A M B S : List SlotV), A.length = n → B.length = n → swL (P ++ A ++ M ++ B ++ S) P.length (P.length + n + M.length) n = P ++ B ++ M ++ A ++ S
  | 0, P, A, M, B, S, ha, hb => by
    obtain rfl := List.length_eq_zero_iff.1 ha
    obtain rfl := List.length_eq_zero_iff.1 hb
    simp [swL]
  | n + 1, P, A, M, B, S, ha, hb => by
    obtain ⟨A', x, rfl⟩ : ∃ A' x, A = A' ++ [x] := ⟨A.dropLast, A.getLast (by intro e; simp [e] at ha), (List.dropLast_concat_getLast _).symm⟩
    obtain ⟨B', y, rfl⟩ : ∃ B' y, B = B' ++ [y] := ⟨B.dropLast, B.getLast (by intro e; simp [e] at hb), (List.dropLast_concat_getLast _).symm⟩
    have ha' : A'.length = n := by simpa using ha
    have hb' : B'.length = n := by simpa using hb
    have ih := swL_blocks n P A' (x :: M) B' (y :: S) ha' hb'
    rw [List.length_cons, show P.length + n + (M.length + 1) = P.length + (n + 1) + M.length by omega] at ih
    rw [swL]
    rw [show P ++ (A' ++ [x]) ++ M ++ (B' ++ [y]) ++ S = P ++ A' ++ x :: M ++ B' ++ y :: S by simp, ih]
    have h9 := exch_mid (P ++ B') x (M ++ A') y S
    rw [List.length_append, List.length_append, hb', ha', show P.length + n + 1 + (M.length + n) = P.length + (n + 1) + M.length + n by omega] at h9
    rw [show P ++ B' ++ x :: M ++ A' ++ y :: S = P ++ B' ++ x :: (M ++ A') ++ y :: S by simp, h9]
    simp
theorem split_l8 (l : List SlotV) (k : Nat) (h : k ≤ l.length) : ∃ A B, l = A ++ B ∧ A.length = k := ⟨l.take k, l.drop k, (List.take_append_drop k l).symm, by rw [List.length_take]; omega⟩
set_option maxRecDepth 100000 in
set_option maxHeartbeats 3200000 in
theorem rotate_any (base g m cap : Nat) (P A B S : List SlotV) (a k b : Nat) (ha : P.length = a) (hk : a + A.length = k) (hb : k + B.length = b) (hA : 1 ≤ A.length) (hB : 1 ≤ B.length) (hm : m ≤ 1000) (fv : Value) (w : World) (hR : SRow w base g m cap (P ++ A ++ B ++ S)) :
    Calls Tryd.prog 77 #[.slice (some ⟨g, 0, none⟩) m cap, .int .i64 (a : Int), .int .i64 (k : Int), .int .i64 (b : Int), fv] w fun e w' => (∃ r, e = .returned r) ∧ SRow w' base g m cap (P ++ B ++ A ++ S) ∧ w.grownBy w' (some g) := by
  have HR := Lib.hid hR
  have hbm : b ≤ m := by have := hR.2; simp at this; omega
  obtain ⟨T, hT⟩ : ∃ T, T = P ++ B ++ A ++ S := ⟨_, rfl⟩
  rw [← hT]
  have HT := Lib.hid hT
  clear hR hT
  have hia : (k : Int) - (a : Int) = ((A.length : Nat) : Int) := by omega
  have hjb : (b : Int) - (k : Int) = ((B.length : Nat) : Int) := by omega
  go_enter Tryd.func77, Tryd.ntmps77
  go_wp2_with fail
  go_loopw [10, 11] (fun u v wr => ∃ i j : Nat, u = .int .i64 i ∧ v = .int .i64 j ∧ 1 ≤ i ∧ 1 ≤ j ∧ i ≤ k ∧ k + j ≤ m ∧ Hid (∃ P' X Y S', P'.length + i = k ∧ X.length = i ∧ Y.length = j ∧ T = P' ++ Y ++ X ++ S' ∧ SRow wr base g m cap (P' ++ X ++ Y ++ S')) ∧ Hid (w.grownBy wr (some g))) (fun u v _ => (intOf u).toNat + (intOf v).toNat)
  case atStart => exact ⟨A.length, B.length, by first | rfl | rw [hia], by first | rfl | rw [hjb], hA, hB, by omega, by omega, Lib.hid ⟨P, A, B, S, by omega, rfl, rfl, HT.out, HR.out⟩, Lib.hid (grown_refl w _)⟩
  case round =>
    obtain ⟨i, j, rfl, rfl, hi1, hj1, hik, hkj, HX, HG⟩ := hrel
    obtain ⟨p, hp⟩ : ∃ p, p + i = k := ⟨k - i, by omega⟩
    have hpe : (k : Int) - (i : Int) = (p : Int) := by omega
    rcases Nat.lt_trichotomy i j with hij | hij | hij
    · have hd1 : ((i : Int) != (j : Int)) = true := by simp; omega
      have hd2 : decide ((j : Int) < (i : Int)) = false := decide_eq_false (by omega)
      obtain ⟨q, hq⟩ : ∃ q, q + i = k + j := ⟨k + j - i, by omega⟩
      have hqe : (k : Int) + (j : Int) - (i : Int) = (q : Int) := by omega
      obtain ⟨j2, hj2⟩ : ∃ j2, j2 + i = j := ⟨j - i, by omega⟩
      have hje : (j : Int) - (i : Int) = (j2 : Int) := by omega
      have HX2 : Hid (∃ L, SRow wr base g m cap L ∧ (∃ P' X Y S', P'.length + i = k ∧ X.length = i ∧ Y.length = j2 ∧ T = P' ++ Y ++ X ++ S' ∧ swL L p q i = P' ++ X ++ Y ++ S')) := Lib.hid (by
        obtain ⟨P', X, Y, S', h1, h2, h3, h4, h5⟩ := HX.out
        obtain ⟨Y1, Y2, rfl, h6⟩ := split_l8 Y j2 (by omega)
        have h7 : Y2.length = i := by simp at h3; omega
        refine ⟨_, h5, P', Y2, Y1, X ++ S', h1, h7, h6, by rw [h4]; simp, ?_⟩
        have h8 := swL_blocks i P' X Y1 Y2 S' h2 h7
        rw [h6, show P'.length = p by omega, show p + i + j2 = q by omega] at h8
        rw [show P' ++ X ++ (Y1 ++ Y2) ++ S' = P' ++ X ++ Y1 ++ Y2 ++ S' by simp, h8]
        simp)
      obtain ⟨L, hL, hX⟩ := HX2.out
      have HL := Lib.hid hL
      have HXX := Lib.hid hX
      clear hL hX HX HX2
      go_wp2_with (go_at_call 82; refine (swapRange_any base g m cap L p q i (by omega) (by omega) hm fv _ HL.out).mono ?_; rintro e w2 ⟨⟨r, rfl⟩, hr2, hg2⟩; have HR2 := Lib.hid hr2; have HG2 := Lib.hid (grown_trans HG.out hg2); clear hr2 hg2)
      have HX3 : Hid (∃ P' X Y S', P'.length + i = k ∧ X.length = i ∧ Y.length = j2 ∧ T = P' ++ Y ++ X ++ S' ∧ SRow w2 base g m cap (P' ++ X ++ Y ++ S')) := Lib.hid (by
        obtain ⟨P', X, Y, S', h1, h2, h3, h4, h5⟩ := HXX.out
        exact ⟨P', X, Y, S', h1, h2, h3, h4, by rw [← h5]; exact HR2.out⟩)
      go_roundw
      case rel => exact ⟨i, j2, by go_num, by go_num, hi1, by omega, hik, by omega, HX3, HG2⟩
      case measure => simp [intOf]; omega
    · subst hij
      have hd1 : ((i : Int) != (i : Int)) = false := by simp
      have HX2 : Hid (∃ L, SRow wr base g m cap L ∧ swL L p k i = T) := Lib.hid (by
        obtain ⟨P', X, Y, S', h1, h2, h3, h4, h5⟩ := HX.out
        refine ⟨_, h5, ?_⟩
        have h8 := swL_blocks i P' X [] Y S' h2 h3
        rw [List.length_nil, show P'.length = p by omega, show p + i + 0 = k by omega] at h8
        rw [h4]
        simpa using h8)
      obtain ⟨L, hL, hX⟩ := HX2.out
      have HL := Lib.hid hL
      have HXX := Lib.hid hX
      clear hL hX HX HX2
      go_wp2_with (go_at_call 82; refine (swapRange_any base g m cap L p k i (by omega) (by omega) hm fv _ HL.out).mono ?_; rintro e w2 ⟨⟨r, rfl⟩, hr2, hg2⟩; have HR2 := Lib.hid hr2; have HG2 := Lib.hid (grown_trans HG.out hg2); clear hr2 hg2)
      go_end0
      exact ⟨⟨_, rfl⟩, by rw [← HXX.out]; exact HR2.out, HG2.out⟩
    · have hd1 : ((i : Int) != (j : Int)) = true := by simp; omega
      have hd2 : decide ((j : Int) < (i : Int)) = true := decide_eq_true (by omega)
      obtain ⟨i2, hi2⟩ : ∃ i2, i2 + j = i := ⟨i - j, by omega⟩
      have hie : (i : Int) - (j : Int) = (i2 : Int) := by omega
      have HX2 : Hid (∃ L, SRow wr base g m cap L ∧ (∃ P' X Y S', P'.length + i2 = k ∧ X.length = i2 ∧ Y.length = j ∧ T = P' ++ Y ++ X ++ S' ∧ swL L p k j = P' ++ X ++ Y ++ S')) := Lib.hid (by
        obtain ⟨P', X, Y, S', h1, h2, h3, h4, h5⟩ := HX.out
        obtain ⟨X1, X2, rfl, h6⟩ := split_l8 X j (by omega)
        have h7 : X2.length = i2 := by simp at h2; omega
        refine ⟨_, h5, P' ++ Y, X2, X1, S', by simp; omega, h7, h6, by rw [h4]; simp, ?_⟩
        have h8 := swL_blocks j P' X1 X2 Y S' h6 h3
        rw [h7, show P'.length = p by omega, show p + j + i2 = k by omega] at h8
        rw [show P' ++ (X1 ++ X2) ++ Y ++ S' = P' ++ X1 ++ X2 ++ Y ++ S' by simp, h8])
      obtain ⟨L, hL, hX⟩ := HX2.out
      have HL := Lib.hid hL
      have HXX := Lib.hid hX
      clear hL hX HX HX2
      go_wp2_with (go_at_call 82; refine (swapRange_any base g m cap L p k j (by omega) (by omega) hm fv _ HL.out).mono ?_; rintro e w2 ⟨⟨r, rfl⟩, hr2, hg2⟩; have HR2 := Lib.hid hr2; have HG2 := Lib.hid (grown_trans HG.out hg2); clear hr2 hg2)
      have HX3 : Hid (∃ P' X Y S', P'.length + i2 = k ∧ X.length = i2 ∧ Y.length = j ∧ T = P' ++ Y ++ X ++ S' ∧ SRow w2 base g m cap (P' ++ X ++ Y ++ S')) := Lib.hid (by
        obtain ⟨P', X, Y, S', h1, h2, h3, h4, h5⟩ := HXX.out
        exact ⟨P', X, Y, S', h1, h2, h3, h4, by rw [← h5]; exact HR2.out⟩)
      go_roundw
      case rel => exact ⟨i2, j, by go_num, by go_num, by omega, hj1, by omega, hkj, HX3, HG2⟩
      case measure => simp [intOf]; omega
end Go.Proofs.YtdhjgaadfofkkaaDoor
