/-
  The model's contracts of chapter 9, first part: l9Place, IsChecked, l9Put.
  The model's contracts of chapter 9, second part: UncheckedIn, CheckedShare.
-/
import Derived.Test.YtpacopebdoflpaaCrossPure
import Derived.Test.YtpacopebdoflpaaSlotSpecE
import Derived.Test.YtpacopebdoflpaaKit
import Derived.Test.YtpacopebdoflpaaSlotImplI
import Derived.Deep.RegionHeld3
import Derived.Deep.RegionWith
import Derived.Deep.DeepCutAuto
namespace Go.Proofs.Ytpacopebdoflpaa
open Go.RowKit

theorem placeI_lt {l : List Int} {x : Int} (h : x ∈ l) : placeI l x < l.length := List.findIdx_lt_length_of_exists ⟨x, h, by simp⟩
theorem placeI_at {l : List Int} {x : Int} (h : x ∈ l) : l.getD (placeI l x) 0 = x := by
  have h1 := placeI_lt h
  have h2 := List.findIdx_getElem (xs := l) (p := fun y => decide (y = x)) (w := h1)
  have h3 : l[placeI l x] = x := of_decide_eq_true h2
  rw [List.getD_eq_getElem?_getD, List.getElem?_eq_getElem h1]
  exact h3
theorem placeI_hit {l : List Int} {x : Int} {k : Nat} (hk : k < l.length) (h : k ≤ placeI l x) (e : l.getD k 0 = x) : placeI l x = k := by
  rcases Nat.lt_or_eq_of_le h with h1 | h1
  · exfalso
    have h2 := List.not_of_lt_findIdx (xs := l) (p := fun y => decide (y = x)) h1
    rw [List.getD_eq_getElem?_getD, List.getElem?_eq_getElem hk] at e
    simp at h2
    exact h2 e
  · exact h1.symm
theorem placeI_miss {l : List Int} {x : Int} {k : Nat} (hx : x ∈ l) (h : k ≤ placeI l x) (e : l.getD k 0 ≠ x) : k + 1 ≤ placeI l x := by
  rcases Nat.lt_or_eq_of_le h with h1 | h1
  · exact h1
  · exact absurd (by rw [h1]; exact placeI_at hx) e
theorem chkL_atS (l : List SlotV) (c q : Int) : chkL l c q = decide ((atS l c q).length = 2) := by
  rw [atS_inS, List.length_map]
  rfl
set_option maxHeartbeats 800000 in
theorem sck_any (r c : Int) (s : ByteArray) (q : Int) (hs : s.size ≤ 4194304) (w : World) :
    Calls Try.prog 39 #[.agg #[.int .i64 r, .int .i64 c, .string s], .int .i64 q] w fun e w' => e = .returned (.bool (chkL (slG (r, c, s)) c q)) ∧ Below w.heap.size w w' := by
  have HSA := Lib.hid (fun w => ssat_any r c s q hs w)
  have HW : Hid (Below w.heap.size w (w.alloc (.cells #[.int .i64 r, .int .i64 c, .string s] 25))) := Lib.hid ((Below.refl w.heap.size w).alloc (Nat.le_refl _) _)
  rw [chkL_atS]
  obtain ⟨A, hA⟩ : ∃ A, A = atS (slG (r, c, s)) c q := ⟨_, rfl⟩
  rw [← hA] at HSA ⊢
  clear hA
  have e1 : decide ((A.length : Int) = 2) = decide (A.length = 2) := by congr 1; exact propext ⟨fun h => by omega, fun h => by omega⟩
  have e2 : ((A.length : Int) == 2) = decide (A.length = 2) := by rw [← e1]; rfl
  rcases hd : decide (A.length = 2) with _ | _
  all_goals rw [hd] at e1 e2
  all_goals (go_enter Try.func39, Try.ntmps39)
  all_goals (go_wp2_with (go_at_call 61; refine (HSA.out _).mono ?_; rintro e w2 ⟨v2, rfl, o2, b2⟩; obtain ⟨a2, cap2, rfl⟩ := ownV_slice o2; have HB2 := Lib.hid (HW.out.trans (b2.mono HW.out.size)); clear o2 b2))
  all_goals go_ret
  all_goals exact ⟨by first | rfl | simp [hd], HB2.out⟩
end Go.Proofs.Ytpacopebdoflpaa
namespace Go.Proofs.Ytpacopebdoflpaa
open Go.RowKit

theorem sint_cell {W : World} {base m cap : Nat} {e : TypeId} {a0 : Option Addr} {l : List Int} (h : W.ownsRow base e 1 (.slice a0 m cap) m (l.map (Value.int .i64))) (hn : m = l.length) (j : Nat) (hj : j < l.length) :
    ∃ b, a0 = some ⟨b, 0, none⟩ ∧ W.cell? ⟨b, j, none⟩ = some (.int .i64 (l.getD j 0)) := by
  subst hn
  rcases h.2 with ⟨e9, hl⟩ | ⟨g, cap', cur, e9, -⟩
  · exfalso
    injection e9 with _ e8 _
    omega
  · cases e9
    refine ⟨g, rfl, ?_⟩
    rw [h.cellAt j (by omega)]
    simp [List.getD, hj]
theorem stake_getDI {l : List Int} {k : Nat} (h : k < l.length) : l.take (k + 1) = l.take k ++ [l.getD k 0] := by
  rw [List.take_succ_eq_append_getElem h, List.getD_eq_getElem?_getD, List.getElem?_eq_getElem h]
  rfl
set_option maxRecDepth 100000 in
set_option maxHeartbeats 1600000 in
theorem sun_any (r c : Int) (s : ByteArray) (k : Int) (hs : s.size ≤ 4194304) (lo : -9223372036854775808 ≤ k) (hi : k ≤ 9223372036854775807) (w : World) :
    Calls Try.prog 18 #[.agg #[.int .i64 r, .int .i64 c, .string s], .int .i64 k] w fun e w' => e = .returned (.int .i64 (unchS (r, c, s) k)) ∧ Below w.heap.size w w' := by
  have HSL := Lib.hid (fun w => ssl_any r c s hs w)
  have HCL := Lib.hid (fun (x : SlotV) (hx : x ∈ slG (r, c, s)) w => by
    have h := scl_any r c s x.1 x.2.1 x.2.2.1 x.2.2.2 hs w
    rw [show ((x.1, x.2.1, x.2.2.1, x.2.2.2) : SlotV) = x from rfl, clG_in hx] at h
    exact h)
  have HCK := Lib.hid (fun q w => sck_any r c s q hs w)
  have HLEN := Lib.hid (slG_length (r, c, s))
  have HUN : Hid (unchS (r, c, s) k = if 0 ≤ k ∧ k < ((slG (r, c, s)).length : Int) then ((unchN (slG (r, c, s)) c (cellsS c ((slG (r, c, s)).getD k.toNat none_Slot)) : Nat) : Int) else -1) := Lib.hid rfl
  have HC6 : Hid (∀ x ∈ slG (r, c, s), (cellsS c x).length ≤ 6) := Lib.hid (fun x hx => by rw [cellsS_length]; have := (slG_small hx).2.2.2.1; omega)
  rw [HUN.out]
  clear HUN
  have HKP := Lib.hid (box3_all w r c s 25)
  have HW : Hid (Below w.heap.size w (w.alloc (.cells #[.int .i64 r, .int .i64 c, .string s] 25))) := Lib.hid ((Below.refl _ _).alloc (Nat.le_refl _) _)
  obtain ⟨d0, d1, d2⟩ := HKP.out _ (Below.refl _ _)
  obtain ⟨l, hl⟩ : ∃ l, l = slG (r, c, s) := ⟨_, rfl⟩
  rw [← hl] at HSL HCL HLEN HC6 HCK ⊢
  clear hl
  have hl72 := HLEN.out
  have hw9 : IntKind.i64.wrap ((l.length : Int) - 1) = (l.length : Int) - 1 := by rw [IntKind.wrap_i64]; omega
  by_cases hin : 0 ≤ k ∧ k < (l.length : Int)
  · rw [if_pos hin]
    obtain ⟨j, rfl⟩ : ∃ j : Nat, k = j := ⟨k.toNat, by omega⟩
    have hj : j < l.length := by omega
    rw [Int.toNat_natCast]
    have HIR := Lib.hid (fun w => lin_any (j : Int) 0 ((l.length : Int) - 1) w)
    rw [show decide (0 ≤ (j : Int) ∧ (j : Int) ≤ (l.length : Int) - 1) = true from decide_eq_true (by omega)] at HIR
    clear hin lo hi
    have HI := Lib.hid (getD_in hj)
    have HSC0 : Hid (∀ (W : World) (base : Nat) (a0 : Option Addr) (cap : Nat), W.ownsRow base 34 4 (.slice a0 l.length cap) l.length (row_Slot l) → ∃ b, a0 = some ⟨b, 0, none⟩ ∧ W.cell? ⟨b, j * 4, none⟩ = some (.int .i64 (l.getD j none_Slot).1) ∧ W.cell? ⟨b, j * 4 + 1, none⟩ = some (.bool (l.getD j none_Slot).2.1) ∧ W.cell? ⟨b, j * 4 + 2, none⟩ = some (.int .i64 (l.getD j none_Slot).2.2.1) ∧ W.cell? ⟨b, j * 4 + 3, none⟩ = some (.int .i64 (l.getD j none_Slot).2.2.2)) := Lib.hid (fun W base a0 cap h => slot_cells h rfl j hj)
    obtain ⟨y, hy⟩ : ∃ y, y = l.getD j none_Slot := ⟨_, rfl⟩
    rw [← hy] at HI HSC0 ⊢
    clear hy
    have HC1 := Lib.hid (HCL.out y HI.out)
    have HZ6 := Lib.hid (HC6.out y HI.out)
    obtain ⟨t0, t1, t2, t3⟩ := y
    simp only at HSC0 HC1
    obtain ⟨Z, hZ⟩ : ∃ Z, Z = cellsS c (t0, t1, t2, t3) := ⟨_, rfl⟩
    rw [← hZ] at HC1 HZ6 ⊢
    clear hZ
    have hz6 := HZ6.out
    obtain ⟨W0, hW0⟩ : ∃ W0, W0 = w.alloc (.cells #[.int .i64 r, .int .i64 c, .string s] 25) := ⟨_, rfl⟩
    go_enter Try.func18, Try.ntmps18
    go_wp2_with fail
    rw [← hW0] at HKP HW d0 d1 d2 ⊢
    clear hW0
    go_wp2_with (first | (go_at_call 36; refine (HSL.out _).mono ?_; rintro e w2 ⟨v2, rfl, o2, b2⟩; obtain ⟨a0, cap, rfl⟩ := ownV_slice o2; have HL2 := Lib.hid o2; have HB2 := Lib.hid b2; clear o2 b2) | (go_at_call 37; refine (HIR.out _).mono ?_; rintro e w3 ⟨rfl, rfl⟩))
    obtain ⟨x0, x1, x2⟩ := HKP.out _ HB2.out
    obtain ⟨b, rfl, q0, q1, q2, q3⟩ := HSC0.out _ _ _ _ HL2.out
    clear d0 d1 d2 HSC0
    go_cut [6] (fun x wx => ∃ a7 cap7, x = .slice a7 Z.length cap7 ∧ Hid (wx.ownsRow W0.heap.size 3 1 (.slice a7 Z.length cap7) Z.length (Z.map (Value.int .i64))) ∧ Hid (Below W0.heap.size W0 wx))
    case first =>
      go_region_with (go_at_call 38; refine Calls.mono (HC1.out _) ?_; rintro e w7 ⟨v7, rfl, o7, b7⟩; obtain ⟨a7, cap7, rfl⟩ := ownV_slice o7; have BT7 : Hid (Below w2.heap.size w2 w7) := Lib.hid (by first | exact b7 | exact ((Below.refl w2.heap.size w2).drew).trans b7); have HZ7 : Hid (w7.ownsRow w2.heap.size 3 1 (.slice a7 Z.length cap7) Z.length (Z.map (Value.int .i64))) := Lib.hid o7; clear o7 b7)
      all_goals (go_wp2_with fail; go_meet; exact ⟨_, _, rfl, Lib.hid (own_widen HZ7.out HB2.out.size), Lib.hid (HB2.out.trans (BT7.out.mono HB2.out.size))⟩)
    case rest =>
    obtain ⟨a7, cap7, rfl, HZ8, HB7⟩ := hcut
    clear HB2 x0 x1 x2 q0 q1 q2 q3
    go_wp2_with fail
    go_loopw [7, 8] (fun n i wr => ∃ m : Nat, m ≤ Z.length ∧ i = .int .i64 (m : Int) ∧ n = .int .i64 ((unchN l c (Z.take m) : Nat) : Int) ∧ Hid (wr.ownsRow W0.heap.size 3 1 (.slice a7 Z.length cap7) Z.length (Z.map (Value.int .i64))) ∧ Hid (Below W0.heap.size W0 wr)) (fun _ i _ => Z.length - (intOf i).toNat)
    case atStart => exact ⟨0, Nat.zero_le _, rfl, rfl, HZ8, HB7⟩
    case round =>
      clear HZ8 HB7
      obtain ⟨m, hm, rfl, rfl, HZ, HB⟩ := hrel
      by_cases hlt2 : m < Z.length
      · have hd : decide ((m : Int) < (Z.length : Int)) = true := decide_eq_true (by omega)
        have hd9 : decide (m < Z.length) = true := decide_eq_true hlt2
        obtain ⟨b5, rfl, q0⟩ := sint_cell HZ.out rfl m hlt2
        obtain ⟨x0, x1, x2⟩ := HKP.out _ HB.out
        have HUX := Lib.hid (unchN_next l c (Z.take m) (Z.getD m 0))
        rw [← stake_getDI hlt2] at HUX
        have HUL : Hid (unchN l c (Z.take m) ≤ 6) := Lib.hid (by unfold unchN; exact Nat.le_trans (List.length_filter_le _ _) (Nat.le_trans (List.length_take_le _ _) (by omega)))
        obtain ⟨q, hq⟩ : ∃ q, q = Z.getD m 0 := ⟨_, rfl⟩
        rw [← hq] at q0 HUX
        clear hq
        have HSC := Lib.hid (fun w => HCK.out q w)
        obtain ⟨sb, hsb⟩ : ∃ sb, sb = chkL l c q := ⟨_, rfl⟩
        rw [← hsb] at HSC HUX
        clear hsb
        obtain ⟨U, hU⟩ : ∃ U, U = unchN l c (Z.take m) := ⟨_, rfl⟩
        rw [← hU] at HUX HUL ⊢
        clear hU
        have hu6 := HUL.out
        have hwu : IntKind.i64.wrap ((U : Int) + 1) = (U : Int) + 1 := by rw [IntKind.wrap_i64]; omega
        cases sb with
        | true =>
          have HUE : Hid ((U : Int) = ((unchN l c (Z.take (m + 1)) : Nat) : Int)) := Lib.hid (by rw [HUX.out]; simp)
          clear HUX
          go_wp2_with fail
          go_region_with (go_at_call 39; refine Calls.mono (HSC.out _) ?_; rintro e w9 ⟨rfl, b9⟩; have BT9 : Hid (Below wr.heap.size wr w9) := Lib.hid (by first | exact b9 | exact ((Below.refl wr.heap.size wr).drew).trans b9); have HZ9 := Lib.hid (own_later HZ.out BT9.out); have HB9 := Lib.hid (HB.out.trans (BT9.out.mono HB.out.size)); clear b9)
          all_goals go_wp2_with fail
          all_goals go_roundw
          all_goals first | exact ⟨m + 1, by omega, by go_num, by rw [HUE.out], HZ9, HB9⟩ | (simp [intOf]; omega)
        | false =>
          have HUE : Hid ((U : Int) + 1 = ((unchN l c (Z.take (m + 1)) : Nat) : Int)) := Lib.hid (by rw [HUX.out]; simp)
          clear HUX
          go_wp2_with fail
          go_region_with (go_at_call 39; refine Calls.mono (HSC.out _) ?_; rintro e w9 ⟨rfl, b9⟩; have BT9 : Hid (Below wr.heap.size wr w9) := Lib.hid (by first | exact b9 | exact ((Below.refl wr.heap.size wr).drew).trans b9); have HZ9 := Lib.hid (own_later HZ.out BT9.out); have HB9 := Lib.hid (HB.out.trans (BT9.out.mono HB.out.size)); clear b9)
          all_goals go_wp2_with fail
          all_goals go_roundw
          all_goals first | exact ⟨m + 1, by omega, by go_num, by rw [HUE.out], HZ9, HB9⟩ | (simp [intOf]; omega)
      · have hd : decide ((m : Int) < (Z.length : Int)) = false := decide_eq_false (by omega)
        have hd9 : decide (m < Z.length) = false := decide_eq_false hlt2
        have HF : Hid (unchN l c (Z.take m) = unchN l c Z) := Lib.hid (by rw [show m = Z.length by omega, List.take_length])
        go_wp2
        go_ret
        exact ⟨by rw [← HF.out]; rfl, HW.out.trans (HB.out.mono HW.out.size)⟩
  · rw [if_neg hin]
    have HIR := Lib.hid (fun w => lin_any k 0 ((l.length : Int) - 1) w)
    rw [show decide (0 ≤ k ∧ k ≤ (l.length : Int) - 1) = false from decide_eq_false (by omega)] at HIR
    go_enter Try.func18, Try.ntmps18
    go_wp2_with (first | (go_at_call 36; refine (HSL.out _).mono ?_; rintro e w2 ⟨v2, rfl, o2, b2⟩; obtain ⟨a0, cap, rfl⟩ := ownV_slice o2; have HB2 := Lib.hid (HW.out.trans (b2.mono HW.out.size)); clear o2 b2) | (go_at_call 37; refine (HIR.out _).mono ?_; rintro e w3 ⟨rfl, rfl⟩))
    go_ret
    exact ⟨rfl, HB2.out⟩
end Go.Proofs.Ytpacopebdoflpaa
