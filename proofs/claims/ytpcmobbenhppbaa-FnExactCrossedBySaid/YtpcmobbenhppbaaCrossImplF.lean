/-
  The program's contracts of chapter 9, fourth part: UncheckedIn, CrossedBy.
  The program's contracts of chapter 9, fifth part: UncheckedIn.
  The program's contracts of chapter 9, sixth part: the number of bits of a word (the library's OnesCount64), CheckedShare.
-/
import Derived.Test.YtpcmobbenhppbaaCrossImplC
import Derived.Test.YtpcmobbenhppbaaModC
import Derived.Test.YtpcmobbenhppbaaShelf
import Derived.Test.YtpcmobbenhppbaaGridB
import Derived.Sort.OwnSortedInts
import Derived.Deep.RegionWith
import Derived.Deep.DeepCutAuto
import Derived.Deep.RegionHeld3
namespace Go.Proofs.Ytpcmobbenhppbaa
open Go.RowKit

theorem cross_cells {W : World} {base m cap : Nat} {e : TypeId} {a0 : Option Addr} {l : List CrossV} (h : W.ownsRow base e 5 (.slice a0 m cap) m (row_Crossing l)) (hn : m = l.length) :
    ∀ j, j < l.length → ∃ b, a0 = some ⟨b, 0, none⟩ ∧ W.cell? ⟨b, j * 5, none⟩ = some (.int .i64 (l.getD j none_Crossing).1) ∧ W.cell? ⟨b, j * 5 + 1, none⟩ = some (.int .i64 (l.getD j none_Crossing).2.1) ∧ W.cell? ⟨b, j * 5 + 2, none⟩ = some (.int .i64 (l.getD j none_Crossing).2.2.1) ∧ W.cell? ⟨b, j * 5 + 3, none⟩ = some (.int .i64 (l.getD j none_Crossing).2.2.2.1) ∧ W.cell? ⟨b, j * 5 + 4, none⟩ = some (.int .i64 (l.getD j none_Crossing).2.2.2.2) := by
  subst hn
  intro j hj
  have h2 := h.2
  rcases h2 with ⟨e1, e2⟩ | ⟨g, cap', cur, e1, -⟩
  · omega
  · cases e1
    have hat : ∀ r, r < 5 → W.cell? ⟨g, j * 5 + r, none⟩ = (cells_Crossing (l.getD j none_Crossing))[r]? := fun r hr => by
      rw [h.cellAt (j * 5 + r) (by omega), row_Crossing_at l j hj r hr]
      simp [List.getD, hj]
    exact ⟨g, rfl, hat 0 (by decide), hat 1 (by decide), hat 2 (by decide), hat 3 (by decide), hat 4 (by decide)⟩
theorem take_getDI {l : List Int} {k : Nat} (h : k < l.length) : l.take (k + 1) = l.take k ++ [l.getD k 0] := by
  rw [List.take_succ_eq_append_getElem h, List.getD_eq_getElem?_getD, List.getElem?_eq_getElem h]
  rfl
theorem take_getDC {l : List CrossV} {k : Nat} (h : k < l.length) : l.take (k + 1) = l.take k ++ [l.getD k none_Crossing] := by
  rw [List.take_succ_eq_append_getElem h, List.getD_eq_getElem?_getD, List.getElem?_eq_getElem h]
  rfl
/-- slices.Sort on a row of the call's own. -/
theorem isort_own {base g cap : Nat} {zs : List Int} (hl : zs.length ≤ 1048576) (w : World) (ho : w.ownsRow base 3 1 (.slice (some ⟨g, 0, none⟩) zs.length cap) zs.length (zs.map (Value.int .i64))) :
    Calls Try.prog 40 #[.slice (some ⟨g, 0, none⟩) zs.length cap] w fun e w' => e = .returned (.tuple #[]) ∧ w'.ownsRow base 3 1 (.slice (some ⟨g, 0, none⟩) zs.length cap) zs.length ((zs.mergeSort fun x y => decide (x ≤ y)).map (Value.int .i64)) ∧ w.grownBy w' (some g) := by
  rcases ho.2 with ⟨h0, _⟩ | ⟨g', cap', cur, hv, hbase, hb, h1, h2, h3, h4⟩
  · cases h0
  · cases hv
    refine (Try.slices_Sort_int g 0 cap zs w (holds_of_blockI hb (by simpa using h4)) (Array.getElem?_eq_some_iff.1 hb).1 (by omega)).mono ?_
    rintro e w' ⟨he, n, os, rfl⟩
    exact ⟨he, ownsRow_sortedI (by simp) hbase hb h1 h2 h3, grownBy_sortedI _⟩
set_option maxRecDepth 100000 in
set_option maxHeartbeats 1600000 in
theorem icb_any (r c : Int) (s : ByteArray) (q : Int) (hs : s.size ≤ 4194304) (w : World) :
    Calls Try.prog 16 #[.agg #[.int .i64 r, .int .i64 c, .string s], .int .i64 q] w fun e w' => ∃ v, e = .returned v ∧ w'.ownsRow w.heap.size 3 1 v (crossedS (r, c, s) q).length ((crossedS (r, c, s) q).map (Value.int .i64)) ∧ Below w.heap.size w w' := by
  obtain ⟨i0, hi, hz0, hz1, hz2⟩ := info_parts info_int
  have HBO := Lib.hid (fun w => ibo_any r c s hs w)
  have HCB := Lib.hid (fun w => crossings_brd r c s w)
  have HND := Lib.hid (others_nodup (r, c, s) q)
  have HCS : Hid (crossedS (r, c, s) q = putAll (othersL q (crossS (r, c, s)))) := Lib.hid rfl
  have HCL : Hid ((crossS (r, c, s)).length ≤ 36) := Lib.hid (by obtain ⟨N, -, h2, h3⟩ := brd_size (r, c, s); rw [← h3]; exact Nat.le_trans (crossTo_len _ _ N) h2)
  obtain ⟨L, hL⟩ : ∃ L, L = crossS (r, c, s) := ⟨_, rfl⟩
  rw [← hL] at HCB HND HCS HCL
  clear hL
  rw [HCS.out]
  clear HCS
  have hl36 := HCL.out
  obtain ⟨⟨b0, b1, b2⟩, hb⟩ : ∃ b, b = brd (r, c, s) := ⟨_, rfl⟩
  rw [← hb] at HBO HCB
  clear hb
  simp only [brdV] at HBO HCB
  go_enter Try.func16, Try.ntmps16
  go_wp2_with (first | (go_at_call 33; go_loud (refine (HBO.out _).mono ?_; rintro e w1 ⟨rfl, bb1⟩; have HB1 := Lib.hid (box1_of bb1); have HB2 := Lib.hid (HB1.out.alloc HB1.out.size (.cells #[.int .i64 b0, .int .i64 b1, .int .u64 (b2 : Int)] 55)); have hs2 : (w1.alloc (.cells #[.int .i64 b0, .int .i64 b1, .int .u64 (b2 : Int)] 55)).heap.size = w1.heap.size + 1 := (by simp); have HO3 := Lib.hid (own_zero (w1.alloc (.cells #[.int .i64 b0, .int .i64 b1, .int .u64 (b2 : Int)] 55)) 3 1); have HB3 := Lib.hid (HB2.out.alloc HB2.out.size (.cells #[] 3)); have hx0 : ((w1.alloc (.cells #[.int .i64 b0, .int .i64 b1, .int .u64 (b2 : Int)] 55)).alloc (.cells #[] 3)).heap[w1.heap.size]? = some (.cells #[.int .i64 b0, .int .i64 b1, .int .u64 (b2 : Int)] 55) := (Below.heap_alloc _ _ _ (by simp)).trans (new_block w1 _); obtain ⟨m0, m1, m2, -, -, -⟩ := cells3 hx0; clear bb1 hx0)) | (go_at_call 35; go_loud (refine (HCB.out _).mono ?_; rintro e w4 ⟨v4, rfl, o4, b4⟩; obtain ⟨a0, cap, rfl⟩ := ownV_slice o4; have HL4 := Lib.hid (own_widen o4 HB3.out.size); have HB4 := Lib.hid (HB3.out.trans (b4.mono HB3.out.size)); have HO4 := Lib.hid (own_widen (ownV_later HO3.out b4) HB2.out.size); rw [hs2] at HO4; clear o4 b4)))
  go_loopw [7, 19] (fun o i wr => ∃ (k g cap2 : Nat), k ≤ L.length ∧ i = .int .i64 (k : Int) ∧ o = .slice (some ⟨g, 0, none⟩) (othersL q (L.take k)).length cap2 ∧ Hid (wr.ownsRow w.heap.size 3 1 (.slice (some ⟨g, 0, none⟩) (othersL q (L.take k)).length cap2) (othersL q (L.take k)).length ((othersL q (L.take k)).map (Value.int .i64))) ∧ Hid (wr.ownsRow w.heap.size 36 5 (.slice a0 L.length cap) L.length (row_Crossing L)) ∧ Hid (Below w.heap.size w wr)) (fun _ i _ => L.length - (intOf i).toNat)
  case atStart => exact ⟨0, _, _, Nat.zero_le _, rfl, rfl, HO4, HL4, HB4⟩
  case round =>
    clear HB1 HB2 HB3 HO3 HL4 HB4 HO4
    obtain ⟨k, g, cap2, hk, rfl, rfl, HO, HL, HB⟩ := hrel
    by_cases hlt : k < L.length
    · have hd : decide ((k : Int) < (L.length : Int)) = true := decide_eq_true (by omega)
      have hd9 : decide (k < L.length) = true := decide_eq_true hlt
      obtain ⟨b, rfl, q0, q1, q2, q3, q4⟩ := cross_cells HL.out rfl k hlt
      have HNX := Lib.hid (othersL_next q (L.take k) (L.getD k none_Crossing))
      rw [← take_getDC hlt] at HNX
      have HLK : Hid ((othersL q (L.take k)).length ≤ 36) := Lib.hid (Nat.le_trans (othersL_len q _) (Nat.le_trans (List.length_take_le _ _) (by omega)))
      obtain ⟨y, hy⟩ : ∃ y, y = L.getD k none_Crossing := ⟨_, rfl⟩
      rw [← hy] at q0 q1 q2 q3 q4 HNX
      clear hy
      obtain ⟨A, hA⟩ : ∃ A, A = othersL q (L.take k) := ⟨_, rfl⟩
      obtain ⟨A2, hA2⟩ : ∃ A2, A2 = othersL q (L.take (k + 1)) := ⟨_, rfl⟩
      rw [← hA] at HO HNX HLK ⊢
      rw [← hA2] at HNX
      have HA2 := Lib.hid hA2
      clear hA hA2
      obtain ⟨y0, y1, y2, y3, y4⟩ := y
      simp only [otherX] at q0 q1 q2 q3 q4 HNX
      have ha36 := HLK.out
      obtain ⟨o2, ho2⟩ : ∃ o2, o2 = Obj.cells #[.int .i64 y0, .int .i64 y1, .int .i64 y2, .int .i64 y3, .int .i64 y4] 36 := ⟨_, rfl⟩
      have HO2 := Lib.hid (HO.out.alloc o2)
      have HL2 := Lib.hid (HL.out.alloc o2)
      have HB2 := Lib.hid (HB.out.alloc HB.out.size o2)
      rw [ho2] at HO2 HL2 HB2
      by_cases e0 : q = y0
      · have hne : (q == y0) = true := by simpa using e0
        have HA3 : Hid (A2 = A ++ [y1]) := Lib.hid (by rw [HNX.out, if_pos e0.symm])
        clear HNX
        subst e0
        go_wp2_with (first | (at_builtin; go_loud (refine appendV_reads _ rfl _ _ 31 rfl w.heap.size 3 i0 (.int .i64 0) 1 8 Try.underlying31 hi hz0 hz1 hz2 rfl (by decide) _ A.length _ rfl (HO2.out.alloc _) (some ⟨wr.heap.size + 1, 0, none⟩) 1 1 [.int .i64 y1] rfl rfl (by simp [Value.oneCell']) (fun e => by cases e) (by rw [← show (wr.alloc (.cells #[.int .i64 q, .int .i64 y1, .int .i64 y2, .int .i64 y3, .int .i64 y4] 36)).heap.size = wr.heap.size + 1 by simp]; exact oneI _ _ _) (by omega) (by omega) (le_alloc HB2.out.size _) ?_; intro v7 w7 hown hgrow)))
        have HB7 := Lib.hid (below_app (HB2.out.alloc HB2.out.size _) hgrow (HO2.out.alloc _) (Nat.le_refl _) (le_alloc HB2.out.size _))
        have HL7 := Lib.hid ((HL2.out.alloc (.cells #[.int .i64 y1] 3)).kept hgrow (own_types (HO2.out.alloc (.cells #[.int .i64 y1] 3)) (HL2.out.alloc (.cells #[.int .i64 y1] 3)) (by decide)))
        obtain ⟨a7, cap7, rfl⟩ := ownV_slice hown
        obtain ⟨g7, hg7⟩ : ∃ g7, a7 = some ⟨g7, 0, none⟩ := by
          rcases hown.2 with ⟨e, -⟩ | ⟨g7, cap9, cur, e, -⟩
          · injection e with _ e8 _
            omega
          · cases e; exact ⟨g7, rfl⟩
        subst hg7
        have HLA : Hid (A2.length = A.length + 1) := Lib.hid (by rw [HA3.out]; simp)
        have HO7 : Hid (w7.ownsRow w.heap.size 3 1 (.slice (some ⟨g7, 0, none⟩) A2.length cap7) A2.length (A2.map (Value.int .i64))) := Lib.hid (by rw [HLA.out, HA3.out, List.map_append]; exact hown)
        rw [HA2.out] at HO7
        have HLB : Hid (A.length + 1 = (othersL q (L.take (k + 1))).length) := Lib.hid (by rw [← HA2.out, HLA.out])
        clear hown hgrow HA2 HA3 HLA
        go_roundw
        case rel => exact ⟨k + 1, g7, cap7, by omega, by go_num, by rw [HLB.out], HO7, HL7, HB7⟩
        case measure => simp [intOf]; omega
      · have hne : (q == y0) = false := by simpa using e0
        by_cases e1 : q = y1
        · have hne1 : (q == y1) = true := by simpa using e1
          have HA3 : Hid (A2 = A ++ [y0]) := Lib.hid (by rw [HNX.out, if_neg (fun e => e0 e.symm), if_pos e1.symm])
          clear HNX
          subst e1
          go_wp2_with (first | (at_builtin; go_loud (refine appendV_reads _ rfl _ _ 31 rfl w.heap.size 3 i0 (.int .i64 0) 1 8 Try.underlying31 hi hz0 hz1 hz2 rfl (by decide) _ A.length _ rfl (HO2.out.alloc _) (some ⟨wr.heap.size + 1, 0, none⟩) 1 1 [.int .i64 y0] rfl rfl (by simp [Value.oneCell']) (fun e => by cases e) (by rw [← show (wr.alloc (.cells #[.int .i64 y0, .int .i64 q, .int .i64 y2, .int .i64 y3, .int .i64 y4] 36)).heap.size = wr.heap.size + 1 by simp]; exact oneI _ _ _) (by omega) (by omega) (le_alloc HB2.out.size _) ?_; intro v7 w7 hown hgrow)))
          have HB7 := Lib.hid (below_app (HB2.out.alloc HB2.out.size _) hgrow (HO2.out.alloc _) (Nat.le_refl _) (le_alloc HB2.out.size _))
          have HL7 := Lib.hid ((HL2.out.alloc (.cells #[.int .i64 y0] 3)).kept hgrow (own_types (HO2.out.alloc (.cells #[.int .i64 y0] 3)) (HL2.out.alloc (.cells #[.int .i64 y0] 3)) (by decide)))
          obtain ⟨a7, cap7, rfl⟩ := ownV_slice hown
          obtain ⟨g7, hg7⟩ : ∃ g7, a7 = some ⟨g7, 0, none⟩ := by
            rcases hown.2 with ⟨e, -⟩ | ⟨g7, cap9, cur, e, -⟩
            · injection e with _ e8 _
              omega
            · cases e; exact ⟨g7, rfl⟩
          subst hg7
          have HLA : Hid (A2.length = A.length + 1) := Lib.hid (by rw [HA3.out]; simp)
          have HO7 : Hid (w7.ownsRow w.heap.size 3 1 (.slice (some ⟨g7, 0, none⟩) A2.length cap7) A2.length (A2.map (Value.int .i64))) := Lib.hid (by rw [HLA.out, HA3.out, List.map_append]; exact hown)
          rw [HA2.out] at HO7
          have HLB : Hid (A.length + 1 = (othersL q (L.take (k + 1))).length) := Lib.hid (by rw [← HA2.out, HLA.out])
          clear hown hgrow HA2 HA3 HLA
          go_roundw
          case rel => exact ⟨k + 1, g7, cap7, by omega, by go_num, by rw [HLB.out], HO7, HL7, HB7⟩
          case measure => simp [intOf]; omega
        · have hne1 : (q == y1) = false := by simpa using e1
          have HA3 : Hid (A2 = A) := Lib.hid (by rw [HNX.out, if_neg (fun e => e0 e.symm), if_neg (fun e => e1 e.symm), List.append_nil])
          clear HNX
          go_wp2_with fail
          have HO7 : Hid ((wr.alloc (.cells #[.int .i64 y0, .int .i64 y1, .int .i64 y2, .int .i64 y3, .int .i64 y4] 36)).ownsRow w.heap.size 3 1 (.slice (some ⟨g, 0, none⟩) A2.length cap2) A2.length (A2.map (Value.int .i64))) := Lib.hid (by rw [HA3.out]; exact HO2.out)
          have HLB : Hid (A.length = (othersL q (L.take (k + 1))).length) := Lib.hid (by rw [← HA2.out, HA3.out])
          rw [HA2.out] at HO7
          clear HA2 HA3
          go_roundw
          case rel => exact ⟨k + 1, g, cap2, by omega, by go_num, by rw [HLB.out], HO7, HL2, HB2⟩
          case measure => simp [intOf]; omega
    · have hd : decide ((k : Int) < (L.length : Int)) = false := decide_eq_false (by omega)
      have hd9 : decide (k < L.length) = false := decide_eq_false hlt
      have HO9 : Hid (wr.ownsRow w.heap.size 3 1 (.slice (some ⟨g, 0, none⟩) (othersL q L).length cap2) (othersL q L).length ((othersL q L).map (Value.int .i64))) := Lib.hid (by
        have h9 := HO.out
        rw [show k = L.length by omega, List.take_length] at h9
        exact h9)
      have hg9 : w.heap.size ≤ g := (HO.out.lt g rfl).1
      have HEQ : Hid (othersL q (L.take k) = othersL q L) := Lib.hid (by rw [show k = L.length by omega, List.take_length])
      rw [HEQ.out]
      clear HO HEQ
      have HLO := Lib.hid (othersL_len q L)
      have HPA : Hid (((othersL q L).mergeSort fun x y => decide (x ≤ y)) = putAll (othersL q L)) := Lib.hid (sorted_is HND.out (List.mergeSort_perm (othersL q L) fun x y => decide (x ≤ y)) (by
        have h9 := List.pairwise_mergeSort (le := fun x y => decide (x ≤ y)) (fun a b d h1 h2 => by simp at h1 h2 ⊢; omega) (fun a b => by simp; omega) (othersL q L)
        exact h9.imp (fun {a b} h => by simpa using h)))
      clear HND
      obtain ⟨Z, hZ⟩ : ∃ Z, Z = othersL q L := ⟨_, rfl⟩
      rw [← hZ] at HO9 HLO HPA ⊢
      have HZ := Lib.hid hZ
      clear hZ
      go_wp2_with (go_at_call 40; refine (isort_own (by have := HLO.out; omega) _ HO9.out).mono ?_; rintro e w6 ⟨rfl, o6, g6⟩; have HO6 := Lib.hid o6; have HB6 := Lib.hid (HB.out.grown g6 HB.out.size (fun j hj => by cases hj; exact hg9)); clear o6 g6)
      go_ret
      refine ⟨.slice (some ⟨g, 0, none⟩) Z.length cap2, rfl, ?_, HB6.out⟩
      rw [← HZ.out, ← HPA.out, List.length_mergeSort]
      exact HO6.out
end Go.Proofs.Ytpcmobbenhppbaa
namespace Go.Proofs.Ytpcmobbenhppbaa
open Go.RowKit

set_option maxRecDepth 100000 in
set_option maxHeartbeats 1600000 in
theorem iun_any (r c : Int) (s : ByteArray) (k : Int) (hs : s.size ≤ 4194304) (lo : -9223372036854775808 ≤ k) (hi : k ≤ 9223372036854775807) (w : World) :
    Calls Try.prog 18 #[.agg #[.int .i64 r, .int .i64 c, .string s], .int .i64 k] w fun e w' => e = .returned (.int .i64 (unchS (r, c, s) k)) ∧ Below w.heap.size w w' := by
  have HBO := Lib.hid (fun w => ibo_any r c s hs w)
  have HSB := Lib.hid (fun w => slots_brd (r, c, s) w)
  have HLEN := Lib.hid (slG_length (r, c, s))
  have HPB := Lib.hid (fun w => pairs_brd r c s w)
  have HUN : Hid (unchS (r, c, s) k = if 0 ≤ k ∧ k < ((slG (r, c, s)).length : Int) then ((unchN (slG (r, c, s)) c (cellsS c ((slG (r, c, s)).getD k.toNat none_Slot)) : Nat) : Int) else -1) := Lib.hid rfl
  have HCO : Hid (∀ x ∈ slG (r, c, s), ∀ w : World, Calls Try.prog 37 #[brdV (brd (r, c, s)), .agg #[.int .i64 x.1, .bool x.2.1, .int .i64 x.2.2.1, .int .i64 x.2.2.2]] w fun e w' => ∃ v, e = .returned v ∧ w'.ownsRow w.heap.size 3 1 v (cellsS c x).length ((cellsS c x).map (Value.int .i64)) ∧ Below w.heap.size w w') := Lib.hid (fun x h w => by
    have hcol := brd_col h
    obtain ⟨-, h1, h2, h3, -⟩ := slG_small h
    have h9 := icellsof_any (brd (r, c, s)).1 (brd (r, c, s)).2.1 ((brd (r, c, s)).2.2 : Int) x.1 x.2.1 x.2.2.1 x.2.2.2 (by rw [hcol]; exact h1) h2 h3 w
    rw [hcol] at h9
    unfold brdV
    rw [hcol]
    exact h9)
  have HRG : Hid (∀ x ∈ slG (r, c, s), ∀ q ∈ cellsS c x, 0 ≤ q ∧ q < 36) := Lib.hid (fun x hx q hq => cells_range hx hq)
  have HC6 : Hid (∀ x ∈ slG (r, c, s), (cellsS c x).length ≤ 6) := Lib.hid (fun x hx => by rw [cellsS_length]; have := (slG_small hx).2.2.2.1; omega)
  have HPD : Hid (∀ q : Int, secP ((pairQ (spotsTo c (slG (r, c, s)) (slG (r, c, s)).length) q).getD zeroP) = chkL (slG (r, c, s)) c q) := Lib.hid (fun q => (pair_cross (slG (r, c, s)) c q (slG_cells_nodup (g := (r, c, s))) (inS_two (r, c, s) q)).1)
  rw [HUN.out]
  clear HUN
  obtain ⟨l, hl⟩ : ∃ l, l = slG (r, c, s) := ⟨_, rfl⟩
  rw [← hl] at HSB HCO HLEN HPB HRG HC6 HPD ⊢
  clear hl
  have hl72 := HLEN.out
  obtain ⟨Sp, hSp⟩ : ∃ Sp, Sp = spotsTo c l l.length := ⟨_, rfl⟩
  rw [← hSp] at HPB HPD
  clear hSp
  obtain ⟨⟨b0, b1, b2⟩, hb⟩ : ∃ b, b = brd (r, c, s) := ⟨_, rfl⟩
  rw [← hb] at HBO HSB HCO HPB
  clear hb
  simp only [brdV] at HBO HSB HCO HPB
  have hw9 : IntKind.i64.wrap ((l.length : Int) - 1) = (l.length : Int) - 1 := by rw [IntKind.wrap_i64]; omega
  have HBK : Hid (∀ (W : World) (Q : Nat), W.heap[Q]? = some (.cells #[.int .i64 b0, .int .i64 b1, .int .u64 (b2 : Int)] 55) → W.cell? ⟨Q, 0, none⟩ = some (.int .i64 b0) ∧ W.cell? ⟨Q, 1, none⟩ = some (.int .i64 b1) ∧ W.cell? ⟨Q, 2, none⟩ = some (.int .u64 (b2 : Int))) := Lib.hid (fun W Q h => ⟨Joins.cell_of_block h 0, Joins.cell_of_block h 1, Joins.cell_of_block h 2⟩)
  by_cases hin : 0 ≤ k ∧ k < (l.length : Int)
  · rw [if_pos hin]
    obtain ⟨j, rfl⟩ : ∃ j : Nat, k = j := ⟨k.toNat, by omega⟩
    have hj : j < l.length := by omega
    rw [Int.toNat_natCast]
    have HIR := Lib.hid (fun w => inr_any (j : Int) 0 ((l.length : Int) - 1) w)
    rw [show decide (0 ≤ (j : Int) ∧ (j : Int) ≤ (l.length : Int) - 1) = true from decide_eq_true (by omega)] at HIR
    clear hin lo hi
    have HI := Lib.hid (getD_in hj)
    have HSC0 : Hid (∀ (W : World) (base : Nat) (a0 : Option Addr) (cap : Nat), W.ownsRow base 34 4 (.slice a0 l.length cap) l.length (row_Slot l) → ∃ b, a0 = some ⟨b, 0, none⟩ ∧ W.cell? ⟨b, j * 4, none⟩ = some (.int .i64 (l.getD j none_Slot).1) ∧ W.cell? ⟨b, j * 4 + 1, none⟩ = some (.bool (l.getD j none_Slot).2.1) ∧ W.cell? ⟨b, j * 4 + 2, none⟩ = some (.int .i64 (l.getD j none_Slot).2.2.1) ∧ W.cell? ⟨b, j * 4 + 3, none⟩ = some (.int .i64 (l.getD j none_Slot).2.2.2)) := Lib.hid (fun W base a0 cap h => slot_cells h rfl j hj)
    obtain ⟨y, hy⟩ : ∃ y, y = l.getD j none_Slot := ⟨_, rfl⟩
    rw [← hy] at HI HSC0 ⊢
    clear hy
    have HC1 := Lib.hid (HCO.out y HI.out)
    have HZ6 := Lib.hid (HC6.out y HI.out)
    have HZR := Lib.hid (HRG.out y HI.out)
    obtain ⟨t0, t1, t2, t3⟩ := y
    simp only at HSC0 HC1
    obtain ⟨Z, hZ⟩ : ∃ Z, Z = cellsS c (t0, t1, t2, t3) := ⟨_, rfl⟩
    rw [← hZ] at HC1 HZ6 HZR ⊢
    clear hZ
    have hz6 := HZ6.out
    go_enter Try.func18, Try.ntmps18
    go_wp2_with (first | (go_at_call 33; refine (HBO.out _).mono ?_; rintro e w1 ⟨rfl, bb1⟩; have HB1 := Lib.hid (box1_of bb1); have HB2 := Lib.hid (HB1.out.alloc HB1.out.size (.cells #[.int .i64 b0, .int .i64 b1, .int .u64 (b2 : Int)] 55)); have HX2 := Lib.hid (new_block w1 (.cells #[.int .i64 b0, .int .i64 b1, .int .u64 (b2 : Int)] 55)); clear bb1) | (go_at_call 34; refine (HSB.out _).mono ?_; rintro e w4 ⟨v4, rfl, o4, b4⟩; obtain ⟨a0, cap, rfl⟩ := ownV_slice o4; have HL4 := Lib.hid (own_widen o4 HB2.out.size); have HX4 := Lib.hid ((b4.block w1.heap.size (Array.getElem?_eq_some_iff.1 HX2.out).1).trans HX2.out); have HB4 := Lib.hid (HB2.out.trans (b4.mono HB2.out.size)); obtain ⟨m0, m1, m2⟩ := HBK.out _ _ HX4.out; clear o4 b4) | (go_at_call 42; refine (HIR.out _).mono ?_; rintro e w5 ⟨rfl, rfl⟩) | (go_at_call 38; refine (HPB.out _).mono ?_; rintro e w6 ⟨M, rfl, hM, m6, b6⟩; have HM6 := Lib.hid m6; have HL6 := Lib.hid (ownV_later HL4.out b6); have HX6 := Lib.hid ((b6.block w1.heap.size (Array.getElem?_eq_some_iff.1 HX4.out).1).trans HX4.out); have HB6 := Lib.hid (HB4.out.trans (b6.mono HB4.out.size)); clear m6 b6 hM))
    obtain ⟨n0, n1, n2⟩ := HBK.out _ _ HX6.out
    obtain ⟨b, rfl, q0, q1, q2, q3⟩ := HSC0.out _ _ _ _ HL6.out
    clear m0 m1 m2 HX2 HX4 HX6 HB1 HB2 HB4 HL4 HL6 HSC0
    go_cut [32, 33, 34] (fun x n i wx => ∃ a7 cap7, x = .slice a7 Z.length cap7 ∧ n = .int .i64 (Z.length : Int) ∧ i = .int .i64 0 ∧ Hid (PairMap wx M Sp) ∧ Hid (wx.ownsRow w.heap.size 3 1 (.slice a7 Z.length cap7) Z.length (Z.map (Value.int .i64))) ∧ Hid (Below w.heap.size w wx))
    case first =>
      go_region_with (go_at_call 37; refine Calls.mono (HC1.out _) ?_; rintro e w7 ⟨v7, rfl, o7, b7⟩; obtain ⟨a7, cap7, rfl⟩ := ownV_slice o7; have BT7 : Hid (Below w6.heap.size w6 w7) := Lib.hid (by first | exact b7 | exact ((Below.refl w6.heap.size w6).drew).trans b7); have HZ7 : Hid (w7.ownsRow w6.heap.size 3 1 (.slice a7 Z.length cap7) Z.length (Z.map (Value.int .i64))) := Lib.hid o7; clear o7 b7)
      all_goals (go_wp2_with fail; go_meet; exact ⟨_, _, rfl, rfl, rfl, Lib.hid (pm_below HM6.out BT7.out), Lib.hid (own_widen HZ7.out HB6.out.size), Lib.hid (HB6.out.trans (BT7.out.mono HB6.out.size))⟩)
    case rest =>
    obtain ⟨a7, cap7, rfl, rfl, rfl, HM7, HZ8, HB7⟩ := hcut
    clear HM6 HB6 n0 n1 n2 q0 q1 q2 q3
    go_wp2_with fail
    go_loopw [9, 34] (fun n i wr => ∃ m : Nat, m ≤ Z.length ∧ i = .int .i64 (m : Int) ∧ n = .int .i64 ((unchN l c (Z.take m) : Nat) : Int) ∧ Hid (PairMap wr M Sp) ∧ Hid (wr.ownsRow w.heap.size 3 1 (.slice a7 Z.length cap7) Z.length (Z.map (Value.int .i64))) ∧ Hid (Below w.heap.size w wr)) (fun _ i _ => Z.length - (intOf i).toNat)
    case atStart => exact ⟨0, Nat.zero_le _, rfl, rfl, HM7, HZ8, HB7⟩
    case round =>
      clear HM7 HZ8 HB7
      obtain ⟨m, hm, rfl, rfl, HM, HZ, HB⟩ := hrel
      by_cases hlt2 : m < Z.length
      · have hd : decide ((m : Int) < (Z.length : Int)) = true := decide_eq_true (by omega)
        have hd9 : decide (m < Z.length) = true := decide_eq_true hlt2
        obtain ⟨b5, rfl, q0⟩ := int_cell HZ.out rfl m hlt2
        have HQ : Hid (0 ≤ Z.getD m 0 ∧ Z.getD m 0 < 36) := Lib.hid (HZR.out _ (by simp [List.getD, hlt2]))
        have HUX := Lib.hid (unchN_next l c (Z.take m) (Z.getD m 0))
        rw [← take_getDI hlt2] at HUX
        have HUL : Hid (unchN l c (Z.take m) ≤ 6) := Lib.hid (by unfold unchN; exact Nat.le_trans (List.length_filter_le _ _) (Nat.le_trans (List.length_take_le _ _) (by omega)))
        obtain ⟨q, hq⟩ : ∃ q, q = Z.getD m 0 := ⟨_, rfl⟩
        rw [← hq] at q0 HQ HUX
        clear hq
        have HQW : Hid ((Lit.int .i64 q).wf = true) := Lib.hid (wf_cell HQ.out.1 (by have := HQ.out.2; omega))
        have HSE := Lib.hid (HPD.out q)
        obtain ⟨p, hp⟩ : ∃ p, p = (pairQ Sp q).getD zeroP := ⟨_, rfl⟩
        have HV : Hid (encP p = encP ((pairQ Sp q).getD zeroP)) := Lib.hid (by rw [hp])
        rw [← hp] at HSE
        clear hp
        have HSC := Lib.hid (fun w => iscr_any p w)
        rw [HSE.out] at HSC
        clear HSE
        obtain ⟨sb, hsb⟩ : ∃ sb, sb = chkL l c q := ⟨_, rfl⟩
        rw [← hsb] at HSC HUX
        clear hsb
        obtain ⟨⟨p1, p2⟩, p3, p4⟩ := p
        simp only at HSC
        have HV2 : Hid (Value.agg #[.int .i64 (p1 : Int), .int .i64 (p2 : Int), .int .i64 (p3 : Int), .int .i64 (p4 : Int)] = encP ((pairQ Sp q).getD zeroP)) := HV
        clear HV
        obtain ⟨U, hU⟩ : ∃ U, U = unchN l c (Z.take m) := ⟨_, rfl⟩
        rw [← hU] at HUX HUL ⊢
        clear hU
        have hu6 := HUL.out
        have hwu : IntKind.i64.wrap ((U : Int) + 1) = (U : Int) + 1 := by rw [IntKind.wrap_i64]; omega
        cases sb with
        | true =>
          have HUE : Hid ((U : Int) = ((unchN l c (Z.take (m + 1)) : Nat) : Int)) := Lib.hid (by rw [HUX.out]; simp)
          clear HUX
          go_wp2_with (first | (at_lookup; refine wp_look rfl _ _ rfl M Sp rfl HM.out q rfl HQW.out _ HV2.out ?_) | (go_at_call 39; refine (HSC.out _).mono ?_; rintro e w9 ⟨rfl, b9⟩; have HM9 := Lib.hid (pm_below HM.out b9); have HZ9 := Lib.hid (own_later HZ.out b9); have HB9 := Lib.hid (HB.out.trans (b9.mono HB.out.size)); clear b9))
          go_roundw
          case rel => exact ⟨m + 1, by omega, by go_num, by rw [HUE.out], HM9, HZ9, HB9⟩
          case measure => simp [intOf]; omega
        | false =>
          have HUE : Hid ((U : Int) + 1 = ((unchN l c (Z.take (m + 1)) : Nat) : Int)) := Lib.hid (by rw [HUX.out]; simp)
          clear HUX
          go_wp2_with (first | (at_lookup; refine wp_look rfl _ _ rfl M Sp rfl HM.out q rfl HQW.out _ HV2.out ?_) | (go_at_call 39; refine (HSC.out _).mono ?_; rintro e w9 ⟨rfl, b9⟩; have HM9 := Lib.hid (pm_below HM.out b9); have HZ9 := Lib.hid (own_later HZ.out b9); have HB9 := Lib.hid (HB.out.trans (b9.mono HB.out.size)); clear b9))
          go_roundw
          case rel => exact ⟨m + 1, by omega, by go_num, by rw [HUE.out], HM9, HZ9, HB9⟩
          case measure => simp [intOf]; omega
      · have hd : decide ((m : Int) < (Z.length : Int)) = false := decide_eq_false (by omega)
        have hd9 : decide (m < Z.length) = false := decide_eq_false hlt2
        have HF : Hid (unchN l c (Z.take m) = unchN l c Z) := Lib.hid (by rw [show m = Z.length by omega, List.take_length])
        go_wp2
        go_ret
        exact ⟨by rw [← HF.out]; rfl, HB.out⟩
  · rw [if_neg hin]
    have HIR := Lib.hid (fun w => inr_any k 0 ((l.length : Int) - 1) w)
    rw [show decide (0 ≤ k ∧ k ≤ (l.length : Int) - 1) = false from decide_eq_false (by omega)] at HIR
    go_enter Try.func18, Try.ntmps18
    go_wp2_with (first | (go_at_call 33; refine (HBO.out _).mono ?_; rintro e w1 ⟨rfl, bb1⟩; have HB1 := Lib.hid (box1_of bb1); have HB2 := Lib.hid (HB1.out.alloc HB1.out.size (.cells #[.int .i64 b0, .int .i64 b1, .int .u64 (b2 : Int)] 55)); clear bb1) | (go_at_call 34; refine (HSB.out _).mono ?_; rintro e w4 ⟨v4, rfl, o4, b4⟩; obtain ⟨a0, cap, rfl⟩ := ownV_slice o4; have HB4 := Lib.hid (HB2.out.trans (b4.mono HB2.out.size)); clear o4 b4) | (go_at_call 42; refine (HIR.out _).mono ?_; rintro e w5 ⟨rfl, rfl⟩))
    go_ret
    exact ⟨rfl, HB4.out⟩
end Go.Proofs.Ytpcmobbenhppbaa
namespace Go.Proofs.Ytpcmobbenhppbaa
open Go.RowKit

/-- A mask of one byte, n times over. -/
def mkPM (m : Nat) : Nat → Nat
  | 0 => 0
  | n + 1 => m + 256 * mkPM m n
theorem popAnd (a b x y : Nat) (ha : a < 256) (hb : b < 256) : (a + 256 * x) &&& (b + 256 * y) = (a &&& b) + 256 * (x &&& y) := by
  have h := Nat.div_add_mod ((a + 256 * x) &&& (b + 256 * y)) 256
  have e1 : ((a + 256 * x) &&& (b + 256 * y)) % 256 = a &&& b := by
    have := Nat.and_mod_two_pow (a := a + 256 * x) (b := b + 256 * y) (n := 8)
    rw [show (2:Nat)^8 = 256 from rfl] at this
    rw [this]
    congr 1 <;> omega
  have e2 : ((a + 256 * x) &&& (b + 256 * y)) / 256 = x &&& y := by
    have := Nat.and_div_two_pow (a := a + 256 * x) (b := b + 256 * y) (n := 8)
    rw [show (2:Nat)^8 = 256 from rfl] at this
    rw [this]
    congr 1 <;> omega
  omega
def pcP1 (b : Nat) : Nat := ((b / 2) &&& 0x55) + (b &&& 0x55)
def pcP2 (b : Nat) : Nat := ((b / 4) &&& 0x33) + (b &&& 0x33)
def pcP3 (b : Nat) : Nat := (b / 16 + b) &&& 0x0f
def pcA1 (n x : Nat) : Nat := ((x / 2) &&& mkPM 0x55 n) + (x &&& mkPM 0x55 n)
def pcA2 (n x : Nat) : Nat := ((x / 4) &&& mkPM 0x33 n) + (x &&& mkPM 0x33 n)
def pcA3 (n x : Nat) : Nat := (x / 16 + x) &&& mkPM 0x0f n
theorem pcLow1 : ∀ (b : Fin 256) (y : Fin 2), (b.val / 2 + 128 * y.val) &&& 0x55 = (b.val / 2) &&& 0x55 := by decide +kernel
theorem pcLow2 : ∀ (b : Fin 256) (y : Fin 4), (b.val / 4 + 64 * y.val) &&& 0x33 = (b.val / 4) &&& 0x33 := by decide +kernel
theorem popA1_step (n b y : Nat) (hb : b < 256) : pcA1 (n + 1) (b + 256 * y) = pcP1 b + 256 * pcA1 n y := by
  unfold pcA1 pcP1
  rw [show mkPM 0x55 (n + 1) = 0x55 + 256 * mkPM 0x55 n from rfl]
  have e : (b + 256 * y) / 2 = (b / 2 + 128 * (y % 2)) + 256 * (y / 2) := by omega
  rw [e, popAnd _ _ _ _ (by omega) (by omega), popAnd _ _ _ _ hb (by omega)]
  have h := pcLow1 ⟨b, hb⟩ ⟨y % 2, by omega⟩
  simp only at h
  rw [h]
  omega
theorem popA2_step (n b y : Nat) (hb : b < 256) : pcA2 (n + 1) (b + 256 * y) = pcP2 b + 256 * pcA2 n y := by
  unfold pcA2 pcP2
  rw [show mkPM 0x33 (n + 1) = 0x33 + 256 * mkPM 0x33 n from rfl]
  have e : (b + 256 * y) / 4 = (b / 4 + 64 * (y % 4)) + 256 * (y / 4) := by omega
  rw [e, popAnd _ _ _ _ (by omega) (by omega), popAnd _ _ _ _ hb (by omega)]
  have h := pcLow2 ⟨b, hb⟩ ⟨y % 4, by omega⟩
  simp only at h
  rw [h]
  omega
theorem pcP1_lt : ∀ b : Fin 256, pcP1 b.val < 256 := by decide +kernel
theorem pcP2_lt : ∀ b : Fin 256, pcP2 (pcP1 b.val) ≤ 0x44 ∧ pcP2 (pcP1 b.val) % 16 ≤ 4 := by decide +kernel
theorem pcLow3 : ∀ (b : Fin 256) (y : Fin 5), (pcP2 (pcP1 b.val) / 16 + 16 * y.val + pcP2 (pcP1 b.val)) &&& 0x0f = pcP3 (pcP2 (pcP1 b.val)) := by decide +kernel
def pval : List Nat → Nat
  | [] => 0
  | b :: l => b + 256 *  pval l
theorem popA1_val : ∀ (l : List Nat), (∀ b ∈ l, b < 256) → pcA1 l.length (pval l) = pval (l.map pcP1)
  | [], _ => rfl
  | b :: l, h => by
    simp only [List.length_cons, pval, List.map_cons]
    rw [popA1_step _ _ _ (h b (by simp)), popA1_val l (fun c hc => h c (by simp [hc]))]
theorem popA2_val : ∀ (l : List Nat), (∀ b ∈ l, b < 256) → pcA2 l.length (pval l) = pval (l.map pcP2)
  | [], _ => rfl
  | b :: l, h => by
    simp only [List.length_cons, pval, List.map_cons]
    rw [popA2_step _ _ _ (h b (by simp)), popA2_val l (fun c hc => h c (by simp [hc]))]
theorem pval_low : ∀ (l : List Nat), (∀ b ∈ l, b < 256) → pval (l.map fun b => pcP2 (pcP1 b)) % 16 ≤ 4
  | [], _ => by simp [pval]
  | b :: l, h => by
    simp only [List.map_cons, pval]
    have := (pcP2_lt ⟨b, h b (by simp)⟩).2
    simp only at this
    omega
theorem popA3_val : ∀ (l : List Nat), (∀ b ∈ l, b < 256) → pcA3 l.length (pval (l.map fun b => pcP2 (pcP1 b))) = pval (l.map fun b => pcP3 (pcP2 (pcP1 b)))
  | [], _ => rfl
  | b :: l, h => by
    have ih := popA3_val l (fun c hc => h c (by simp [hc]))
    have hl := pval_low l (fun c hc => h c (by simp [hc]))
    have hb := pcP2_lt ⟨b, h b (by simp)⟩
    have h3 := pcLow3 ⟨b, h b (by simp)⟩
    simp only at hb h3
    simp only [List.length_cons, List.map_cons, pval]
    obtain ⟨y, hy⟩ : ∃ y, y = pval (l.map fun b => pcP2 (pcP1 b)) := ⟨_, rfl⟩
    obtain ⟨c, hc⟩ : ∃ c, c = pcP2 (pcP1 b) := ⟨_, rfl⟩
    rw [← hy] at ih hl ⊢
    rw [← hc] at hb h3 ⊢
    unfold pcA3 at ih ⊢
    have h4 := h3 ⟨y % 16, by omega⟩
    simp only at h4
    have e : (c + 256 * y) / 16 + (c + 256 * y) = (c / 16 + 16 * (y % 16) + c) + 256 * (y / 16 + y) := by omega
    rw [e]
    show _ &&& (15 + 256 * mkPM 15 l.length) = _
    rw [popAnd _ _ _ _ (by omega) (by omega), h4, ih]
/-- The bits of a byte. -/
def pcPop8 (b : Nat) : Nat := ((List.range 8).filter fun i => b.testBit i).length
theorem pcP_all : ∀ b : Fin 256, pcP3 (pcP2 (pcP1 b.val)) = pcPop8 b.val ∧ pcPop8 b.val ≤ 8 := by decide +kernel

theorem pval_lt : ∀ (l : List Nat) (k : Nat), k < 256 → (∀ b ∈ l, b ≤ k) → 255 * pval l ≤ k * (256 ^ l.length - 1)
  | [], k, _, _ => by simp [pval]
  | b :: l, k, hk, h => by
    have ih := pval_lt l k hk (fun c hc => h c (by simp [hc]))
    have hb := h b (by simp)
    simp only [pval, List.length_cons]
    have e : 256 ^ (l.length + 1) = 256 * 256 ^ l.length := by rw [Nat.pow_succ, Nat.mul_comm]
    have hp : 1 ≤ 256 ^ l.length := Nat.pow_pos (by decide)
    obtain ⟨q, hq⟩ : ∃ q, 256 ^ l.length = q + 1 := ⟨256 ^ l.length - 1, by omega⟩
    rw [e, hq]
    rw [hq] at ih
    have e2 : k * (256 * (q + 1) - 1) = 256 * (k * (q + 1 - 1)) + 255 * k := by
      rw [show 256 * (q + 1) - 1 = 256 * q + 255 by omega, Nat.mul_add, show q + 1 - 1 = q by omega]
      rw [Nat.mul_left_comm, Nat.mul_comm k 255]
    rw [e2]
    omega
/-- The eight bytes of a word. -/
def byt (S : Nat) : List Nat := (List.range 8).map fun i => S / 256 ^ i % 256
theorem byt_val (S : Nat) (h : S < 18446744073709551616) : pval (byt S) = S := by
  simp [byt, List.range_succ, pval]
  omega
theorem byt_lt (S : Nat) : ∀ b ∈ byt S, b < 256 := by
  intro b hb
  obtain ⟨i, -, rfl⟩ := List.mem_map.1 hb
  exact Nat.mod_lt _ (by decide)
def pw1 (x : Int) : Int := IntKind.u64.wrap (bits .and .u64 (x / 2) 6148914691236517205 + bits .and .u64 x 6148914691236517205)
def pw2 (x : Int) : Int := IntKind.u64.wrap (bits .and .u64 (x / 4) 3689348814741910323 + bits .and .u64 x 3689348814741910323)
def pw3 (x : Int) : Int := bits .and .u64 (IntKind.u64.wrap (x / 16 + x)) 1085102592571150095
def pw4 (x : Int) : Int := IntKind.u64.wrap (x + x / 256)
def pw5 (x : Int) : Int := IntKind.u64.wrap (x + x / 65536)
def pw6 (x : Int) : Int := IntKind.u64.wrap (x + x / 4294967296)
/-- What the library's OnesCount64 reckons. -/
def pwE (x : Int) : Int := bits .and .i64 (wrap64 (pw6 (pw5 (pw4 (pw3 (pw2 (pw1 x))))))) 127
theorem pcw1 (x : Nat) (hx : x < 18446744073709551616) (h : pcA1 8 x < 18446744073709551616) : pw1 (x : Int) = ((pcA1 8 x : Nat) : Int) := by
  unfold pw1
  have e : pcA1 8 x = (x / 2 &&& 6148914691236517205) + (x &&& 6148914691236517205) := rfl
  rw [e] at h ⊢
  rw [show (x : Int) / 2 = ((x / 2 : Nat) : Int) by simp, show (6148914691236517205 : Int) = ((6148914691236517205 : Nat) : Int) from rfl, bits_and_u64_nat _ _ (by omega) (by decide), bits_and_u64_nat _ _ hx (by decide), IntKind.wrap_u64]
  omega
theorem pcw2 (x : Nat) (hx : x < 18446744073709551616) (h : pcA2 8 x < 18446744073709551616) : pw2 (x : Int) = ((pcA2 8 x : Nat) : Int) := by
  unfold pw2
  have e : pcA2 8 x = (x / 4 &&& 3689348814741910323) + (x &&& 3689348814741910323) := rfl
  rw [e] at h ⊢
  rw [show (x : Int) / 4 = ((x / 4 : Nat) : Int) by simp, show (3689348814741910323 : Int) = ((3689348814741910323 : Nat) : Int) from rfl, bits_and_u64_nat _ _ (by omega) (by decide), bits_and_u64_nat _ _ hx (by decide), IntKind.wrap_u64]
  omega
theorem pcw3 (x : Nat) (h : x / 16 + x < 18446744073709551616) : pw3 (x : Int) = ((pcA3 8 x : Nat) : Int) := by
  unfold pw3
  have e : pcA3 8 x = (x / 16 + x) &&& 1085102592571150095 := rfl
  rw [e]
  rw [show (x : Int) / 16 + x = ((x / 16 + x : Nat) : Int) by simp, IntKind.wrap_u64, show ((x / 16 + x : Nat) : Int) % 18446744073709551616 = ((x / 16 + x : Nat) : Int) by omega, show (1085102592571150095 : Int) = ((1085102592571150095 : Nat) : Int) from rfl, bits_and_u64_nat _ _ h (by decide)]
theorem edv (a b m : Int) (hm : 0 < m) (h0 : 0 ≤ a) (h1 : a < m) : (a + m * b) / m = b := by
  rw [Int.add_mul_ediv_left _ _ (by omega), Int.ediv_eq_zero_of_lt h0 h1, Int.zero_add]
theorem pc_sum (q0 q1 q2 q3 q4 q5 q6 q7 : Nat) (h0 : q0 ≤ 8) (h1 : q1 ≤ 8) (h2 : q2 ≤ 8) (h3 : q3 ≤ 8) (h4 : q4 ≤ 8) (h5 : q5 ≤ 8) (h6 : q6 ≤ 8) (h7 : q7 ≤ 8) :
    pw6 (pw5 (pw4 ((pval [q0, q1, q2, q3, q4, q5, q6, q7] : Nat) : Int))) % 256 = ((q0 + q1 + q2 + q3 + q4 + q5 + q6 + q7 : Nat) : Int) ∧ 0 ≤ pw6 (pw5 (pw4 ((pval [q0, q1, q2, q3, q4, q5, q6, q7] : Nat) : Int))) ∧ pw6 (pw5 (pw4 ((pval [q0, q1, q2, q3, q4, q5, q6, q7] : Nat) : Int))) < 9223372036854775808 := by
  have e0 : ((pval [q0, q1, q2, q3, q4, q5, q6, q7] : Nat) : Int) = (q0 : Int) + 256 * q1 + 65536 * q2 + 16777216 * q3 + 4294967296 * q4 + 1099511627776 * q5 + 281474976710656 * q6 + 72057594037927936 * q7 := by
    simp [pval]
    omega
  rw [e0]
  have e1 : pw4 ((q0 : Int) + 256 * q1 + 65536 * q2 + 16777216 * q3 + 4294967296 * q4 + 1099511627776 * q5 + 281474976710656 * q6 + 72057594037927936 * q7) = ((q0 : Int) + q1) + 256 * (q1 + q2) + 65536 * (q2 + q3) + 16777216 * (q3 + q4) + 4294967296 * (q4 + q5) + 1099511627776 * (q5 + q6) + 281474976710656 * (q6 + q7) + 72057594037927936 * q7 := by
    unfold pw4
    rw [IntKind.wrap_u64]
    omega
  rw [e1]
  have e2 : pw5 (((q0 : Int) + q1) + 256 * (q1 + q2) + 65536 * (q2 + q3) + 16777216 * (q3 + q4) + 4294967296 * (q4 + q5) + 1099511627776 * (q5 + q6) + 281474976710656 * (q6 + q7) + 72057594037927936 * q7) = ((q0 : Int) + q1 + q2 + q3) + 256 * (q1 + q2 + q3 + q4) + 65536 * (q2 + q3 + q4 + q5) + 16777216 * (q3 + q4 + q5 + q6) + 4294967296 * (q4 + q5 + q6 + q7) + 1099511627776 * (q5 + q6 + q7) + 281474976710656 * (q6 + q7) + 72057594037927936 * q7 := by
    have hd := edv (((q0 : Int) + q1) + 256 * (q1 + q2)) (((q2 : Int) + q3) + 256 * (q3 + q4) + 65536 * (q4 + q5) + 16777216 * (q5 + q6) + 4294967296 * (q6 + q7) + 1099511627776 * q7) 65536 (by omega) (by omega) (by omega)
    rw [show ((q0 : Int) + q1) + 256 * (q1 + q2) + 65536 * (((q2 : Int) + q3) + 256 * (q3 + q4) + 65536 * (q4 + q5) + 16777216 * (q5 + q6) + 4294967296 * (q6 + q7) + 1099511627776 * q7) = ((q0 : Int) + q1) + 256 * (q1 + q2) + 65536 * (q2 + q3) + 16777216 * (q3 + q4) + 4294967296 * (q4 + q5) + 1099511627776 * (q5 + q6) + 281474976710656 * (q6 + q7) + 72057594037927936 * q7 by omega] at hd
    unfold pw5
    rw [hd, IntKind.wrap_u64, Int.emod_eq_of_lt (by omega) (by omega)]
    omega
  rw [e2]
  have e3 : pw6 (((q0 : Int) + q1 + q2 + q3) + 256 * (q1 + q2 + q3 + q4) + 65536 * (q2 + q3 + q4 + q5) + 16777216 * (q3 + q4 + q5 + q6) + 4294967296 * (q4 + q5 + q6 + q7) + 1099511627776 * (q5 + q6 + q7) + 281474976710656 * (q6 + q7) + 72057594037927936 * q7) = ((q0 : Int) + q1 + q2 + q3 + q4 + q5 + q6 + q7) + 256 * (q1 + q2 + q3 + q4 + q5 + q6 + q7) + 65536 * (q2 + q3 + q4 + q5 + q6 + q7) + 16777216 * (q3 + q4 + q5 + q6 + q7) + 4294967296 * (q4 + q5 + q6 + q7) + 1099511627776 * (q5 + q6 + q7) + 281474976710656 * (q6 + q7) + 72057594037927936 * q7 := by
    have hd := edv (((q0 : Int) + q1 + q2 + q3) + 256 * (q1 + q2 + q3 + q4) + 65536 * (q2 + q3 + q4 + q5) + 16777216 * (q3 + q4 + q5 + q6)) (((q4 : Int) + q5 + q6 + q7) + 256 * (q5 + q6 + q7) + 65536 * (q6 + q7) + 16777216 * q7) 4294967296 (by omega) (by omega) (by omega)
    rw [show ((q0 : Int) + q1 + q2 + q3) + 256 * (q1 + q2 + q3 + q4) + 65536 * (q2 + q3 + q4 + q5) + 16777216 * (q3 + q4 + q5 + q6) + 4294967296 * (((q4 : Int) + q5 + q6 + q7) + 256 * (q5 + q6 + q7) + 65536 * (q6 + q7) + 16777216 * q7) = ((q0 : Int) + q1 + q2 + q3) + 256 * (q1 + q2 + q3 + q4) + 65536 * (q2 + q3 + q4 + q5) + 16777216 * (q3 + q4 + q5 + q6) + 4294967296 * (q4 + q5 + q6 + q7) + 1099511627776 * (q5 + q6 + q7) + 281474976710656 * (q6 + q7) + 72057594037927936 * q7 by omega] at hd
    unfold pw6
    rw [hd, IntKind.wrap_u64, Int.emod_eq_of_lt (by omega) (by omega)]
    omega
  rw [e3]
  refine ⟨?_, ?_, ?_⟩ <;> omega
theorem and127 (y : Int) (h0 : 0 ≤ y) (h1 : y < 9223372036854775808) (t : Nat) (ht : t < 128) (hm : y % 256 = (t : Int)) : bits .and .i64 (wrap64 y) 127 = (t : Int) := by
  obtain ⟨n, rfl⟩ : ∃ n : Nat, y = n := ⟨y.toNat, by omega⟩
  have e0 : wrap64 (n : Int) = n := by unfold wrap64; omega
  rw [e0]
  have hn : n % 128 = t := by omega
  have hb : (BitVec.ofInt 64 (n : Int) &&& BitVec.ofInt 64 127).toNat = t := by
    rw [BitVec.toNat_and]
    have e1 : (BitVec.ofInt 64 (n : Int)).toNat = n := by
      rw [show BitVec.ofInt 64 (n : Int) = BitVec.ofNat 64 n from BitVec.ofInt_natCast .., BitVec.toNat_ofNat]
      omega
    rw [e1]
    show n &&& 127 = t
    rw [show (127 : Nat) = 2 ^ 7 - 1 from rfl, Nat.and_two_pow_sub_one_eq_mod]
    exact hn
  unfold bits
  show IntKind.i64.wrap (((BitVec.ofInt 64 (n : Int) &&& BitVec.ofInt 64 127).toNat : Nat) : Int) = _
  rw [hb, IntKind.wrap_i64]
  omega
def popN (S : Nat) : Nat := ((byt S).map pcPop8).sum
theorem pwE_is (S : Nat) (hS : S < 18446744073709551616) : pwE (S : Int) = ((popN S : Nat) : Int) := by
  have hb := byt_lt S
  have hv := byt_val S hS
  have hl : (byt S).length = 8 := rfl
  have h1 : pcA1 8 S = pval ((byt S).map pcP1) := by
    have h := popA1_val (byt S) hb
    rwa [hl, hv] at h
  have hb1 : ∀ b ∈ (byt S).map pcP1, b < 256 := by
    intro b h
    obtain ⟨x, hx, rfl⟩ := List.mem_map.1 h
    exact pcP1_lt ⟨x, hb x hx⟩
  have h2 : pcA2 8 (pval ((byt S).map pcP1)) = pval ((byt S).map fun b => pcP2 (pcP1 b)) := by
    have h := popA2_val ((byt S).map pcP1) hb1
    rw [List.length_map, hl, List.map_map] at h
    exact h
  have h3 : pcA3 8 (pval ((byt S).map fun b => pcP2 (pcP1 b))) = pval ((byt S).map fun b => pcP3 (pcP2 (pcP1 b))) := by
    have h := popA3_val (byt S) hb
    rwa [hl] at h
  have hp : ((byt S).map fun b => pcP3 (pcP2 (pcP1 b))) = (byt S).map pcPop8 := List.map_congr_left fun b h => (pcP_all ⟨b, hb b h⟩).1
  have l1 := pval_lt ((byt S).map pcP1) 255 (by decide) (fun b h => by have := hb1 b h; omega)
  have l2 := pval_lt ((byt S).map fun b => pcP2 (pcP1 b)) 68 (by decide) (fun b h => by
    obtain ⟨x, hx, rfl⟩ := List.mem_map.1 h
    exact (pcP2_lt ⟨x, hb x hx⟩).1)
  rw [List.length_map, hl] at l1 l2
  unfold pwE
  rw [pcw1 S hS (by rw [h1]; omega), h1, pcw2 _ (by omega) (by rw [h2]; omega), h2, pcw3 _ (by omega), h3, hp]
  have hq : ∀ b ∈ byt S, pcPop8 b ≤ 8 := fun b h => (pcP_all ⟨b, hb b h⟩).2
  unfold popN
  revert hq
  generalize byt S = L at hl
  intro hq
  match L, hl with
  | [a0, a1, a2, a3, a4, a5, a6, a7], _ =>
    have g := fun b h => hq b h
    obtain ⟨s1, s2, s3⟩ := pc_sum (pcPop8 a0) (pcPop8 a1) (pcPop8 a2) (pcPop8 a3) (pcPop8 a4) (pcPop8 a5) (pcPop8 a6) (pcPop8 a7) (g a0 (by simp)) (g a1 (by simp)) (g a2 (by simp)) (g a3 (by simp)) (g a4 (by simp)) (g a5 (by simp)) (g a6 (by simp)) (g a7 (by simp))
    have g0 := g a0 (by simp); have g1 := g a1 (by simp); have g2 := g a2 (by simp); have g3 := g a3 (by simp)
    have g4 := g a4 (by simp); have g5 := g a5 (by simp); have g6 := g a6 (by simp); have g7 := g a7 (by simp)
    have := and127 _ s2 s3 _ (by omega) s1
    simp only [List.map_cons, List.map_nil]
    rw [this]
    simp
    omega
/-- The bits of a word, counted. -/
def cntN (S n : Nat) : Nat := ((List.range n).filter fun i => S.testBit i).length
theorem cntN_step (S n : Nat) : cntN S (8 + n) = pcPop8 (S % 256) + cntN (S / 256) n := by
  unfold cntN pcPop8
  rw [List.range_add, List.filter_append, List.length_append, List.filter_map, List.length_map]
  congr 2
  · apply List.filter_congr
    intro i hi
    rw [List.mem_range] at hi
    rw [show (256 : Nat) = 2 ^ 8 from rfl, Nat.testBit_mod_two_pow, decide_eq_true hi, Bool.true_and]
  · apply List.filter_congr
    intro i _
    rw [show (256 : Nat) = 2 ^ 8 from rfl, Nat.testBit_div_two_pow]
    show S.testBit (8 + i) = _
    rw [Nat.add_comm]
theorem cntN_pop (S : Nat) : cntN S 64 = popN S := by
  unfold popN byt
  rw [show (64 : Nat) = 8 + 56 from rfl, cntN_step, show (56 : Nat) = 8 + 48 from rfl, cntN_step, show (48 : Nat) = 8 + 40 from rfl, cntN_step, show (40 : Nat) = 8 + 32 from rfl, cntN_step, show (32 : Nat) = 8 + 24 from rfl, cntN_step, show (24 : Nat) = 8 + 16 from rfl, cntN_step, show (16 : Nat) = 8 + 8 from rfl, cntN_step, show (8 : Nat) = 8 + 0 from rfl, cntN_step]
  simp [List.range_succ, cntN, Nat.div_div_eq_div_mul]
theorem cnt_white (s : ByteArray) (n : Nat) (hn : n ≤ 64) : cntN (wT s n) 64 = whTo s n := by
  unfold cntN whTo
  rw [show 64 = n + (64 - n) by omega, List.range_add, List.filter_append, List.length_append]
  have h2 : ((List.range (64 - n)).map (n + ·)).filter (fun i => (wT s n).testBit i) = [] := by
    rw [List.filter_eq_nil_iff]
    intro i hi
    obtain ⟨j, -, rfl⟩ := List.mem_map.1 hi
    unfold wT
    rw [setTo_bit, decide_eq_false (by omega)]
    simp
  rw [h2]
  show _ + 0 = _
  rw [Nat.add_zero]
  congr 1
  apply List.filter_congr
  intro i hi
  rw [wT_bit s n i (List.mem_range.1 hi)]
  rfl
set_option maxRecDepth 100000 in
set_option maxHeartbeats 1600000 in
theorem pc_any (S : Nat) (hS : S < 18446744073709551616) (w : World) :
    Calls Try.prog 66 #[.int .u64 (S : Int)] w fun e w' => e = .returned (.int .i64 ((popN S : Nat) : Int)) ∧ w = w' := by
  rw [← pwE_is S hS]
  clear hS
  go_enter Try.func66, Try.ntmps66
  go_wp2
  go_ret
  exact ⟨rfl, rfl⟩
theorem pcount_any (S : Nat) (hS : S < 18446744073709551616) (w : World) :
    Calls Try.prog 41 #[.int .u64 (S : Int)] w fun e w' => e = .returned (.int .i64 ((popN S : Nat) : Int)) ∧ w = w' := by
  have HP := Lib.hid (fun w => pc_any S hS w)
  go_enter Try.func41, Try.ntmps41
  go_wp2_with (go_at_call 66; refine (HP.out _).mono ?_; rintro e w2 ⟨rfl, rfl⟩)
  go_ret
  exact ⟨rfl, rfl⟩
theorem share_is (g : Int × Int × ByteArray) : ((crossS g).length : Int) = (shareS g).1 ∧ ((popN (brd g).2.2 : Nat) : Int) = (shareS g).2 ∧ (brd g).2.2 < 18446744073709551616 := by
  by_cases hg : isG g = true
  · have h36 := isG_size hg
    unfold shareS brd
    rw [if_pos hg, if_pos hg]
    refine ⟨?_, ?_, Nat.lt_trans (wT_lt _ _ h36) (by decide)⟩
    · unfold crossS
      rw [chkTo_cross]
    · show ((popN (wT g.2.2 g.2.2.size) : Nat) : Int) = _
      rw [← cntN_pop, cnt_white _ _ (by omega)]
  · have hg2 : isG g = false := by simpa using hg
    unfold shareS brd
    rw [if_neg hg, if_neg hg, crossS_no hg2]
    exact ⟨rfl, by decide +kernel, by decide⟩
set_option maxRecDepth 100000 in
set_option maxHeartbeats 1600000 in
theorem ish_any (r c : Int) (s : ByteArray) (hs : s.size ≤ 4194304) (w : World) :
    Calls Try.prog 17 #[.agg #[.int .i64 r, .int .i64 c, .string s]] w fun e w' => e = .returned (.tuple #[.int .i64 (shareS (r, c, s)).1, .int .i64 (shareS (r, c, s)).2]) ∧ Below w.heap.size w w' := by
  have HBO := Lib.hid (fun w => ibo_any r c s hs w)
  have HCB := Lib.hid (fun w => crossings_brd r c s w)
  obtain ⟨h1, h2, h3⟩ := share_is (r, c, s)
  rw [← h1, ← h2]
  clear h1 h2
  obtain ⟨L, hL⟩ : ∃ L, L = crossS (r, c, s) := ⟨_, rfl⟩
  rw [← hL] at HCB ⊢
  clear hL
  obtain ⟨⟨b0, b1, b2⟩, hb⟩ : ∃ b, b = brd (r, c, s) := ⟨_, rfl⟩
  rw [← hb] at HBO HCB h3 ⊢
  clear hb
  simp only [brdV] at HBO HCB h3 ⊢
  have HPC := Lib.hid (fun w => pcount_any b2 h3 w)
  clear h3
  obtain ⟨P, hP⟩ : ∃ P, P = popN b2 := ⟨_, rfl⟩
  rw [← hP] at HPC ⊢
  clear hP
  go_enter Try.func17, Try.ntmps17
  go_wp2_with (go_at_call 33; refine (HBO.out _).mono ?_; rintro e w1 ⟨rfl, bb1⟩; have HB1 := Lib.hid (box1_of bb1); clear bb1)
  obtain ⟨W2, hW2⟩ : ∃ W2, W2 = w1.alloc (.cells #[.int .i64 b0, .int .i64 b1, .int .u64 (b2 : Int)] 55) := ⟨_, rfl⟩
  have HB2 : Hid (Below w.heap.size w W2) := Lib.hid (by rw [hW2]; exact HB1.out.alloc HB1.out.size _)
  have HX2 : Hid (W2.heap[w1.heap.size]? = some (.cells #[.int .i64 b0, .int .i64 b1, .int .u64 (b2 : Int)] 55)) := Lib.hid (by rw [hW2]; exact new_block w1 _)
  have HBK : Hid (∀ W, Below W2.heap.size W2 W → W.cell? ⟨w1.heap.size, 0, none⟩ = some (.int .i64 b0) ∧ W.cell? ⟨w1.heap.size, 1, none⟩ = some (.int .i64 b1) ∧ W.cell? ⟨w1.heap.size, 2, none⟩ = some (.int .u64 (b2 : Int))) := Lib.hid (fun W h => by
    have h9 := (h.block w1.heap.size (Array.getElem?_eq_some_iff.1 HX2.out).1).trans HX2.out
    exact ⟨Joins.cell_of_block h9 0, Joins.cell_of_block h9 1, Joins.cell_of_block h9 2⟩)
  rw [← hW2]
  clear hW2 HX2 HB1
  have hbn : Below W2.heap.size W2 W2 := Below.refl _ _
  go_region_held3 (fun W => W.cell? ⟨w1.heap.size, 0, none⟩ = some (.int .i64 b0) ∧ W.cell? ⟨w1.heap.size, 1, none⟩ = some (.int .i64 b1) ∧ W.cell? ⟨w1.heap.size, 2, none⟩ = some (.int .u64 (b2 : Int))) (first | exact HBK.out _ hbn | exact HBK.out _ hbn.drew) (first | (go_at_call 35; refine Calls.mono (HCB.out _) ?_; rintro e w4 ⟨v4, rfl, o4, b4⟩; obtain ⟨a0, cap, rfl⟩ := ownV_slice o4; have hbm : Below W2.heap.size W2 w4 := (by first | exact hbn.trans (b4.mono hbn.size) | exact hbn.drew.trans b4); clear hbn; have hbn := hbm; clear hbm o4 b4) | (go_at_call 41; refine Calls.mono (HPC.out _) ?_; rintro e w5 ⟨rfl, rfl⟩))
  all_goals go_wp2
  all_goals go_ret2
  all_goals exact ⟨rfl, HB2.out.trans (hbn.mono HB2.out.size)⟩
end Go.Proofs.Ytpcmobbenhppbaa
