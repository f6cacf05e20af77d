/-
  The program's contract of CrossedBy.
-/
import Derived.Test.YthgnhcjbjdhjfaaGreatDoorCrossImplC
import Derived.Test.YthgnhcjbjdhjfaaGreatDoorKit
import Derived.Test.YthgnhcjbjdhjfaaGreatDoorShelf
import Derived.Test.YthgnhcjbjdhjfaaGreatDoorGridB
import Derived.Sort.OwnSortedInts
import Derived.Deep.RegionWith
import Derived.Deep.DeepCutAuto
import Derived.Deep.RegionHeld3
namespace Go.Proofs.YthgnhcjbjdhjfaaGreatDoor
open Go.RowKit

theorem cross_cells {W : World} {base m cap : Nat} {e : TypeId} {a0 : Option Addr} {l : List CrossV} (h : W.ownsRow base e 5 (.slice a0 m cap) m (row_Crossing l)) (hn : m = l.length) :
    ∀ j, j < l.length → ∃ b, a0 = some ⟨b, 0, none⟩ ∧ W.cell? ⟨b, j * 5, none⟩ = some (.int .i64 (l.getD j none_Crossing).1) ∧ W.cell? ⟨b, j * 5 + 1, none⟩ = some (.int .i64 (l.getD j none_Crossing).2.1) ∧ W.cell? ⟨b, j * 5 + 2, none⟩ = some (.int .i64 (l.getD j none_Crossing).2.2.1) ∧ W.cell? ⟨b, j * 5 + 3, none⟩ = some (.int .i64 (l.getD j none_Crossing).2.2.2.1) ∧ W.cell? ⟨b, j * 5 + 4, none⟩ = some (.int .i64 (l.getD j none_Crossing).2.2.2.2) := by
  subst hn
  intro j hj
  have h2 := h.2
  rcases h2 with ⟨e1, e2⟩ | ⟨g, cap', cur, e1, -⟩
  · omega
  · cases e1
    have hat : ∀ r, r < 5 → W.cell? ⟨g, j * 5 + r, none⟩ = (cells_Crossing (l.getD j none_Crossing))[r]? := fun r hr => by
      rw [h.cellAt (j * 5 + r) (by omega), row_Crossing_at l j hj r hr]
      simp [List.getD, hj]
    exact ⟨g, rfl, hat 0 (by decide), hat 1 (by decide), hat 2 (by decide), hat 3 (by decide), hat 4 (by decide)⟩
theorem take_getDI {l : List Int} {k : Nat} (h : k < l.length) : l.take (k + 1) = l.take k ++ [l.getD k 0] := by
  rw [List.take_succ_eq_append_getElem h, List.getD_eq_getElem?_getD, List.getElem?_eq_getElem h]
  rfl
theorem take_getDC {l : List CrossV} {k : Nat} (h : k < l.length) : l.take (k + 1) = l.take k ++ [l.getD k none_Crossing] := by
  rw [List.take_succ_eq_append_getElem h, List.getD_eq_getElem?_getD, List.getElem?_eq_getElem h]
  rfl
/-- slices.Sort on a row of the call's own. -/
theorem isort_own {base g cap : Nat} {zs : List Int} (hl : zs.length ≤ 1048576) (w : World) (ho : w.ownsRow base 3 1 (.slice (some ⟨g, 0, none⟩) zs.length cap) zs.length (zs.map (Value.int .i64))) :
    Calls Tryz.prog 41 #[.slice (some ⟨g, 0, none⟩) zs.length cap] w fun e w' => e = .returned (.tuple #[]) ∧ w'.ownsRow base 3 1 (.slice (some ⟨g, 0, none⟩) zs.length cap) zs.length ((zs.mergeSort fun x y => decide (x ≤ y)).map (Value.int .i64)) ∧ w.grownBy w' (some g) := by
  rcases ho.2 with ⟨h0, _⟩ | ⟨g', cap', cur, hv, hbase, hb, h1, h2, h3, h4⟩
  · cases h0
  · cases hv
    refine (Tryz.slices_Sort_int g 0 cap zs w (holds_of_blockI hb (by simpa using h4)) (Array.getElem?_eq_some_iff.1 hb).1 (by omega)).mono ?_
    rintro e w' ⟨he, n, os, rfl⟩
    exact ⟨he, ownsRow_sortedI (by simp) hbase hb h1 h2 h3, grownBy_sortedI _⟩
set_option maxRecDepth 100000 in
set_option maxHeartbeats 1600000 in
theorem icb_any (r c : Int) (s : ByteArray) (q : Int) (hs : s.size ≤ 4194304) (w : World) :
    Calls Tryz.prog 15 #[.agg #[.int .i64 r, .int .i64 c, .string s], .int .i64 q] w fun e w' => ∃ v, e = .returned v ∧ w'.ownsRow w.heap.size 3 1 v (crossedS (r, c, s) q).length ((crossedS (r, c, s) q).map (Value.int .i64)) ∧ Below w.heap.size w w' := by
  obtain ⟨i0, hi, hz0, hz1, hz2⟩ := info_parts info_int
  have HBO := Lib.hid (fun w => ibo_any r c s hs w)
  have HCB := Lib.hid (fun w => crossings_brd r c s w)
  have HND := Lib.hid (others_nodup (r, c, s) q)
  have HCS : Hid (crossedS (r, c, s) q = putAll (othersL q (crossS (r, c, s)))) := Lib.hid rfl
  have HCL : Hid ((crossS (r, c, s)).length ≤ 36) := Lib.hid (by obtain ⟨N, -, h2, h3⟩ := brd_size (r, c, s); rw [← h3]; exact Nat.le_trans (crossTo_len _ _ N) h2)
  obtain ⟨L, hL⟩ : ∃ L, L = crossS (r, c, s) := ⟨_, rfl⟩
  rw [← hL] at HCB HND HCS HCL
  clear hL
  rw [HCS.out]
  clear HCS
  have hl36 := HCL.out
  obtain ⟨⟨b0, b1, b2⟩, hb⟩ : ∃ b, b = brd (r, c, s) := ⟨_, rfl⟩
  rw [← hb] at HBO HCB
  clear hb
  simp only [brdV] at HBO HCB
  go_enter Tryz.func15, Tryz.ntmps15
  go_wp2_with (first | (go_at_call 32; go_loud (refine (HBO.out _).mono ?_; rintro e w1 ⟨rfl, bb1⟩; have HB1 := Lib.hid (box1_of bb1); have HB2 := Lib.hid (HB1.out.alloc HB1.out.size (.cells #[.int .i64 b0, .int .i64 b1, .int .u64 (b2 : Int)] 63)); have hs2 : (w1.alloc (.cells #[.int .i64 b0, .int .i64 b1, .int .u64 (b2 : Int)] 63)).heap.size = w1.heap.size + 1 := (by simp); have HO3 := Lib.hid (own_zero (w1.alloc (.cells #[.int .i64 b0, .int .i64 b1, .int .u64 (b2 : Int)] 63)) 3 1); have HB3 := Lib.hid (HB2.out.alloc HB2.out.size (.cells #[] 3)); have hx0 : ((w1.alloc (.cells #[.int .i64 b0, .int .i64 b1, .int .u64 (b2 : Int)] 63)).alloc (.cells #[] 3)).heap[w1.heap.size]? = some (.cells #[.int .i64 b0, .int .i64 b1, .int .u64 (b2 : Int)] 63) := (Below.heap_alloc _ _ _ (by simp)).trans (new_block w1 _); obtain ⟨m0, m1, m2, -, -, -⟩ := cells3 hx0; clear bb1 hx0)) | (go_at_call 40; go_loud (refine (HCB.out _).mono ?_; rintro e w4 ⟨v4, rfl, o4, b4⟩; obtain ⟨a0, cap, rfl⟩ := ownV_slice o4; have HL4 := Lib.hid (own_widen o4 HB3.out.size); have HB4 := Lib.hid (HB3.out.trans (b4.mono HB3.out.size)); have HO4 := Lib.hid (own_widen (ownV_later HO3.out b4) HB2.out.size); rw [hs2] at HO4; clear o4 b4)))
  go_loopw [7, 19] (fun o i wr => ∃ (k g cap2 : Nat), k ≤ L.length ∧ i = .int .i64 (k : Int) ∧ o = .slice (some ⟨g, 0, none⟩) (othersL q (L.take k)).length cap2 ∧ Hid (wr.ownsRow w.heap.size 3 1 (.slice (some ⟨g, 0, none⟩) (othersL q (L.take k)).length cap2) (othersL q (L.take k)).length ((othersL q (L.take k)).map (Value.int .i64))) ∧ Hid (wr.ownsRow w.heap.size 78 5 (.slice a0 L.length cap) L.length (row_Crossing L)) ∧ Hid (Below w.heap.size w wr)) (fun _ i _ => L.length - (intOf i).toNat)
  case atStart => exact ⟨0, _, _, Nat.zero_le _, rfl, rfl, HO4, HL4, HB4⟩
  case round =>
    clear HB1 HB2 HB3 HO3 HL4 HB4 HO4
    obtain ⟨k, g, cap2, hk, rfl, rfl, HO, HL, HB⟩ := hrel
    by_cases hlt : k < L.length
    · have hd : decide ((k : Int) < (L.length : Int)) = true := decide_eq_true (by omega)
      have hd9 : decide (k < L.length) = true := decide_eq_true hlt
      obtain ⟨b, rfl, q0, q1, q2, q3, q4⟩ := cross_cells HL.out rfl k hlt
      have HNX := Lib.hid (othersL_next q (L.take k) (L.getD k none_Crossing))
      rw [← take_getDC hlt] at HNX
      have HLK : Hid ((othersL q (L.take k)).length ≤ 36) := Lib.hid (Nat.le_trans (othersL_len q _) (Nat.le_trans (List.length_take_le _ _) (by omega)))
      obtain ⟨y, hy⟩ : ∃ y, y = L.getD k none_Crossing := ⟨_, rfl⟩
      rw [← hy] at q0 q1 q2 q3 q4 HNX
      clear hy
      obtain ⟨A, hA⟩ : ∃ A, A = othersL q (L.take k) := ⟨_, rfl⟩
      obtain ⟨A2, hA2⟩ : ∃ A2, A2 = othersL q (L.take (k + 1)) := ⟨_, rfl⟩
      rw [← hA] at HO HNX HLK ⊢
      rw [← hA2] at HNX
      have HA2 := Lib.hid hA2
      clear hA hA2
      obtain ⟨y0, y1, y2, y3, y4⟩ := y
      simp only [otherX] at q0 q1 q2 q3 q4 HNX
      have ha36 := HLK.out
      obtain ⟨o2, ho2⟩ : ∃ o2, o2 = Obj.cells #[.int .i64 y0, .int .i64 y1, .int .i64 y2, .int .i64 y3, .int .i64 y4] 78 := ⟨_, rfl⟩
      have HO2 := Lib.hid (HO.out.alloc o2)
      have HL2 := Lib.hid (HL.out.alloc o2)
      have HB2 := Lib.hid (HB.out.alloc HB.out.size o2)
      rw [ho2] at HO2 HL2 HB2
      by_cases e0 : q = y0
      · have hne : (q == y0) = true := by simpa using e0
        have HA3 : Hid (A2 = A ++ [y1]) := Lib.hid (by rw [HNX.out, if_pos e0.symm])
        clear HNX
        subst e0
        go_wp2_with (first | (at_builtin; go_loud (refine appendV_reads _ rfl _ _ 36 rfl w.heap.size 3 i0 (.int .i64 0) 1 8 Tryz.underlying36 hi hz0 hz1 hz2 rfl (by decide) _ A.length _ rfl (HO2.out.alloc _) (some ⟨wr.heap.size + 1, 0, none⟩) 1 1 [.int .i64 y1] rfl rfl (by simp [Value.oneCell']) (fun e => by cases e) (by rw [← show (wr.alloc (.cells #[.int .i64 q, .int .i64 y1, .int .i64 y2, .int .i64 y3, .int .i64 y4] 78)).heap.size = wr.heap.size + 1 by simp]; exact oneI _ _ _) (by omega) (by omega) (le_alloc HB2.out.size _) ?_; intro v7 w7 hown hgrow)))
        have HB7 := Lib.hid (below_app (HB2.out.alloc HB2.out.size _) hgrow (HO2.out.alloc _) (Nat.le_refl _) (le_alloc HB2.out.size _))
        have HL7 := Lib.hid ((HL2.out.alloc (.cells #[.int .i64 y1] 3)).kept hgrow (own_types (HO2.out.alloc (.cells #[.int .i64 y1] 3)) (HL2.out.alloc (.cells #[.int .i64 y1] 3)) (by decide)))
        obtain ⟨a7, cap7, rfl⟩ := ownV_slice hown
        obtain ⟨g7, hg7⟩ : ∃ g7, a7 = some ⟨g7, 0, none⟩ := by
          rcases hown.2 with ⟨e, -⟩ | ⟨g7, cap9, cur, e, -⟩
          · injection e with _ e8 _
            omega
          · cases e; exact ⟨g7, rfl⟩
        subst hg7
        have HLA : Hid (A2.length = A.length + 1) := Lib.hid (by rw [HA3.out]; simp)
        have HO7 : Hid (w7.ownsRow w.heap.size 3 1 (.slice (some ⟨g7, 0, none⟩) A2.length cap7) A2.length (A2.map (Value.int .i64))) := Lib.hid (by rw [HLA.out, HA3.out, List.map_append]; exact hown)
        rw [HA2.out] at HO7
        have HLB : Hid (A.length + 1 = (othersL q (L.take (k + 1))).length) := Lib.hid (by rw [← HA2.out, HLA.out])
        clear hown hgrow HA2 HA3 HLA
        go_roundw
        case rel => exact ⟨k + 1, g7, cap7, by omega, by go_num, by rw [HLB.out], HO7, HL7, HB7⟩
        case measure => simp [intOf]; omega
      · have hne : (q == y0) = false := by simpa using e0
        by_cases e1 : q = y1
        · have hne1 : (q == y1) = true := by simpa using e1
          have HA3 : Hid (A2 = A ++ [y0]) := Lib.hid (by rw [HNX.out, if_neg (fun e => e0 e.symm), if_pos e1.symm])
          clear HNX
          subst e1
          go_wp2_with (first | (at_builtin; go_loud (refine appendV_reads _ rfl _ _ 36 rfl w.heap.size 3 i0 (.int .i64 0) 1 8 Tryz.underlying36 hi hz0 hz1 hz2 rfl (by decide) _ A.length _ rfl (HO2.out.alloc _) (some ⟨wr.heap.size + 1, 0, none⟩) 1 1 [.int .i64 y0] rfl rfl (by simp [Value.oneCell']) (fun e => by cases e) (by rw [← show (wr.alloc (.cells #[.int .i64 y0, .int .i64 q, .int .i64 y2, .int .i64 y3, .int .i64 y4] 78)).heap.size = wr.heap.size + 1 by simp]; exact oneI _ _ _) (by omega) (by omega) (le_alloc HB2.out.size _) ?_; intro v7 w7 hown hgrow)))
          have HB7 := Lib.hid (below_app (HB2.out.alloc HB2.out.size _) hgrow (HO2.out.alloc _) (Nat.le_refl _) (le_alloc HB2.out.size _))
          have HL7 := Lib.hid ((HL2.out.alloc (.cells #[.int .i64 y0] 3)).kept hgrow (own_types (HO2.out.alloc (.cells #[.int .i64 y0] 3)) (HL2.out.alloc (.cells #[.int .i64 y0] 3)) (by decide)))
          obtain ⟨a7, cap7, rfl⟩ := ownV_slice hown
          obtain ⟨g7, hg7⟩ : ∃ g7, a7 = some ⟨g7, 0, none⟩ := by
            rcases hown.2 with ⟨e, -⟩ | ⟨g7, cap9, cur, e, -⟩
            · injection e with _ e8 _
              omega
            · cases e; exact ⟨g7, rfl⟩
          subst hg7
          have HLA : Hid (A2.length = A.length + 1) := Lib.hid (by rw [HA3.out]; simp)
          have HO7 : Hid (w7.ownsRow w.heap.size 3 1 (.slice (some ⟨g7, 0, none⟩) A2.length cap7) A2.length (A2.map (Value.int .i64))) := Lib.hid (by rw [HLA.out, HA3.out, List.map_append]; exact hown)
          rw [HA2.out] at HO7
          have HLB : Hid (A.length + 1 = (othersL q (L.take (k + 1))).length) := Lib.hid (by rw [← HA2.out, HLA.out])
          clear hown hgrow HA2 HA3 HLA
          go_roundw
          case rel => exact ⟨k + 1, g7, cap7, by omega, by go_num, by rw [HLB.out], HO7, HL7, HB7⟩
          case measure => simp [intOf]; omega
        · have hne1 : (q == y1) = false := by simpa using e1
          have HA3 : Hid (A2 = A) := Lib.hid (by rw [HNX.out, if_neg (fun e => e0 e.symm), if_neg (fun e => e1 e.symm), List.append_nil])
          clear HNX
          go_wp2_with fail
          have HO7 : Hid ((wr.alloc (.cells #[.int .i64 y0, .int .i64 y1, .int .i64 y2, .int .i64 y3, .int .i64 y4] 78)).ownsRow w.heap.size 3 1 (.slice (some ⟨g, 0, none⟩) A2.length cap2) A2.length (A2.map (Value.int .i64))) := Lib.hid (by rw [HA3.out]; exact HO2.out)
          have HLB : Hid (A.length = (othersL q (L.take (k + 1))).length) := Lib.hid (by rw [← HA2.out, HA3.out])
          rw [HA2.out] at HO7
          clear HA2 HA3
          go_roundw
          case rel => exact ⟨k + 1, g, cap2, by omega, by go_num, by rw [HLB.out], HO7, HL2, HB2⟩
          case measure => simp [intOf]; omega
    · have hd : decide ((k : Int) < (L.length : Int)) = false := decide_eq_false (by omega)
      have hd9 : decide (k < L.length) = false := decide_eq_false hlt
      have HO9 : Hid (wr.ownsRow w.heap.size 3 1 (.slice (some ⟨g, 0, none⟩) (othersL q L).length cap2) (othersL q L).length ((othersL q L).map (Value.int .i64))) := Lib.hid (by
        have h9 := HO.out
        rw [show k = L.length by omega, List.take_length] at h9
        exact h9)
      have hg9 : w.heap.size ≤ g := (HO.out.lt g rfl).1
      have HEQ : Hid (othersL q (L.take k) = othersL q L) := Lib.hid (by rw [show k = L.length by omega, List.take_length])
      rw [HEQ.out]
      clear HO HEQ
      have HLO := Lib.hid (othersL_len q L)
      have HPA : Hid (((othersL q L).mergeSort fun x y => decide (x ≤ y)) = putAll (othersL q L)) := Lib.hid (sorted_is HND.out (List.mergeSort_perm (othersL q L) fun x y => decide (x ≤ y)) (by
        have h9 := List.pairwise_mergeSort (le := fun x y => decide (x ≤ y)) (fun a b d h1 h2 => by simp at h1 h2 ⊢; omega) (fun a b => by simp; omega) (othersL q L)
        exact h9.imp (fun {a b} h => by simpa using h)))
      clear HND
      obtain ⟨Z, hZ⟩ : ∃ Z, Z = othersL q L := ⟨_, rfl⟩
      rw [← hZ] at HO9 HLO HPA ⊢
      have HZ := Lib.hid hZ
      clear hZ
      go_wp2_with (go_at_call 41; refine (isort_own (by have := HLO.out; omega) _ HO9.out).mono ?_; rintro e w6 ⟨rfl, o6, g6⟩; have HO6 := Lib.hid o6; have HB6 := Lib.hid (HB.out.grown g6 HB.out.size (fun j hj => by cases hj; exact hg9)); clear o6 g6)
      go_ret
      refine ⟨.slice (some ⟨g, 0, none⟩) Z.length cap2, rfl, ?_, HB6.out⟩
      rw [← HZ.out, ← HPA.out, List.length_mergeSort]
      exact HO6.out
end Go.Proofs.YthgnhcjbjdhjfaaGreatDoor
