/-
  The program's contracts of pattern, IsFill, SlotPattern.
-/
import Derived.Test.YthgnhcjbjdhjfaaDoorFillA
import Derived.Test.YthgnhcjbjdhjfaaDoorSlotImplI
import Derived.Test.YthgnhcjbjdhjfaaDoorKit
namespace Go.Proofs.YthgnhcjbjdhjfaaDoor
open Go.RowKit

set_option maxRecDepth 100000 in
set_option maxHeartbeats 1600000 in
theorem icells0 (w : World) :
    Calls Tryd.prog 106 #[.agg #[.int .i64 0, .int .i64 1, .int .i64 0]] w fun e w' => ∃ v, e = .returned v ∧ w'.ownsRow w.heap.size 3 1 v 0 [] ∧ Below w.heap.size w w' := by
  obtain ⟨i0, hi, hz0, hz1, hz2⟩ := info_parts info_int
  have HKP := Lib.hid (box1s w 0 1 0 121)
  obtain ⟨d0, d1, d2, hbw⟩ := HKP.out _ (Below.refl _ _)
  clear hbw
  have HMD := Lib.hid (made_ints 0)
  have hws : (w.alloc (.cells #[.int .i64 0, .int .i64 1, .int .i64 0] 121)).heap.size = w.heap.size + 1 := by simp
  go_enter Tryd.func106, Tryd.ntmps106
  go_wp2_with (at_make; refine wpList_make_full _ rfl _ _ 59 rfl w.heap.size 3 i0 (.int .i64 0) 1 Tryd.underlying59 hi hz0 hz1 .i64 .i64 _ _ 0 rfl rfl rfl rfl (by rw [hz2]; omega) (by unfold maxLen; omega) (by simp) ?_; intro w1 hown hgrow; obtain ⟨x0, x1, x2, hbw⟩ := HKP.out _ ((Below.refl _ _).grown hgrow (Nat.le_refl _) (fun k hk => by cases hk)))
  have HO1 : Hid (w1.ownsRow w.heap.size 3 1 (.slice (some ⟨w.heap.size + 1, 0, none⟩) 0 0) 0 []) := Lib.hid (by rw [hws, show (madeCells (Value.int .i64 0).cells (0 * 1)).toList = _ from HMD.out] at hown; exact hown)
  have HB1 := Lib.hid hbw
  clear hown hgrow hbw d0 d1 d2 HKP x0 x1 x2
  go_loopw [10] (fun i wr => i = .int .i64 0 ∧ w1 = wr) (fun _ _ => 0)
  case atStart => exact ⟨rfl, rfl⟩
  case round =>
    obtain ⟨rfl, rfl⟩ := hrel
    go_wp2
    go_ret
    exact ⟨_, rfl, HO1.out, HB1.out⟩
set_option maxRecDepth 100000 in
set_option maxHeartbeats 1600000 in
theorem icellsof0 (r c : Int) (S : Int) (w : World) :
    Calls Tryd.prog 93 #[.agg #[.int .i64 r, .int .i64 c, .int .u64 S], .agg #[.int .i64 0, .bool false, .int .i64 0, .int .i64 0]] w fun e w' => ∃ v, e = .returned v ∧ w'.ownsRow w.heap.size 3 1 v 0 [] ∧ Below w.heap.size w w' := by
  have hmR := mth_RP
  have hmC := mth_CP
  have HX := Lib.hid (box33 (Below.refl _ ((w.alloc (.cells #[.int .i64 r, .int .i64 c, .int .u64 S] 81)).alloc (.cells #[.int .i64 0, .bool false, .int .i64 0, .int .i64 0] 88))))
  obtain ⟨W0, hW0⟩ : ∃ W0, W0 = (w.alloc (.cells #[.int .i64 r, .int .i64 c, .int .u64 S] 81)).alloc (.cells #[.int .i64 0, .bool false, .int .i64 0, .int .i64 0] 88) := ⟨_, rfl⟩
  have HKP : Hid (∀ W : World, Below W0.heap.size W0 W → W.cell? ⟨w.heap.size, 0, none⟩ = some (.int .i64 r) ∧ W.cell? ⟨w.heap.size, 1, none⟩ = some (.int .i64 c) ∧ W.cell? ⟨w.heap.size, 2, none⟩ = some (.int .u64 S) ∧ W.cell? ⟨w.heap.size + 1, 0, none⟩ = some (.int .i64 0) ∧ W.cell? ⟨w.heap.size + 1, 1, none⟩ = some (.bool false) ∧ W.cell? ⟨w.heap.size + 1, 2, none⟩ = some (.int .i64 0) ∧ W.cell? ⟨w.heap.size + 1, 3, none⟩ = some (.int .i64 0)) := Lib.hid (fun W h => by
    rw [hW0] at h
    obtain ⟨h1, h2, -⟩ := box33 h
    exact ⟨Joins.cell_of_block h1 0, Joins.cell_of_block h1 1, Joins.cell_of_block h1 2, Joins.cell_of_block h2 0, Joins.cell_of_block h2 1, Joins.cell_of_block h2 2, Joins.cell_of_block h2 3⟩)
  have HW : Hid (Below w.heap.size w W0) := Lib.hid (by rw [hW0]; exact HX.out.2.2)
  obtain ⟨d0, d1, d2, e0, e1, e2, e3⟩ := HKP.out _ (Below.refl _ _)
  go_enter Tryd.func93, Tryd.ntmps93
  go_wp2_with fail
  rw [← hW0]
  clear hW0 HX
  have HCE := Lib.hid icells0
  go_region_held3 (fun w' => w'.cell? ⟨w.heap.size, 0, none⟩ = some (.int .i64 r) ∧ w'.cell? ⟨w.heap.size, 1, none⟩ = some (.int .i64 c) ∧ w'.cell? ⟨w.heap.size, 2, none⟩ = some (.int .u64 S) ∧ w'.cell? ⟨w.heap.size + 1, 0, none⟩ = some (.int .i64 0) ∧ w'.cell? ⟨w.heap.size + 1, 1, none⟩ = some (.bool false) ∧ w'.cell? ⟨w.heap.size + 1, 2, none⟩ = some (.int .i64 0) ∧ w'.cell? ⟨w.heap.size + 1, 3, none⟩ = some (.int .i64 0)) (first | exact ⟨d0, d1, d2, e0, e1, e2, e3⟩ | exact HKP.out _ B4.out | exact HKP.out _ B3.out | exact HKP.out _ B2.out) (first | (go_at_call 87; refine Calls.mono (lines_any r c S false _) ?_; rintro e w2 ⟨rfl, b2⟩; simp only [setV, Bool.false_eq_true, if_false]; have B2 : Hid (Below W0.heap.size W0 w2) := Lib.hid (by first | exact b2 | exact ((Below.refl _ _).drew).trans b2); clear b2) | (go_at_call 156; refine Calls.mono (rpart_any r c S 0 0 _) ?_; rintro e w3 ⟨rfl, b3⟩; have B3 : Hid (Below W0.heap.size W0 w3) := Lib.hid (by first | exact btrans B2.out b3 | exact btrans B2.out.drew b3); clear b3) | (go_at_call 106; refine Calls.mono (HCE.out _) ?_; rintro e w4 ⟨v4, rfl, o4, b4⟩; have B4 : Hid (Below W0.heap.size W0 w4) := Lib.hid (by first | exact btrans B3.out b4 | exact btrans B3.out.drew b4); have O4 := Lib.hid (own_widen o4 (show w.heap.size ≤ _ from Nat.le_trans HW.out.size (by first | exact B3.out.size | exact B3.out.drew.size))); clear o4 b4))
  all_goals (go_wp2_with fail; go_ret; exact ⟨_, rfl, O4.out, HW.out.trans (B4.out.mono HW.out.size)⟩)
theorem infoU8F : (Tryd.prog.info? 5).map (fun i => (i.zero, i.size, i.bytes)) = some (some (.int .u8 0), 1, 1) := by kernel_rfl
/-- The pattern of no slot. -/
theorem ipat0 (r c S : Int) (u : Value) (op : Int) (w : World) (hu : ∃ a n k, u = .slice a n k) :
    Calls Tryd.prog 61 #[.agg #[.int .i64 r, .int .i64 c, .int .u64 S, u, .int .u64 op], .agg #[.int .i64 0, .bool false, .int .i64 0, .int .i64 0]] w fun e w' => e = .returned (.string ⟨#[]⟩) ∧ Below w.heap.size w w' := by
  obtain ⟨a, n, k, rfl⟩ := hu
  have HCE := Lib.hid (fun w => icellsof0 r c S w)
  have HX := Lib.hid (box33 (Below.refl _ ((w.alloc (.cells #[.int .i64 r, .int .i64 c, .int .u64 S, .slice a n k, .int .u64 op] 83)).alloc (.cells #[.int .i64 0, .bool false, .int .i64 0, .int .i64 0] 88))))
  go_enter Tryd.func61, Tryd.ntmps61
  go_wp2_with fail
  obtain ⟨W0, hW0⟩ : ∃ W0, W0 = (w.alloc (.cells #[.int .i64 r, .int .i64 c, .int .u64 S, .slice a n k, .int .u64 op] 83)).alloc (.cells #[.int .i64 0, .bool false, .int .i64 0, .int .i64 0] 88) := ⟨_, rfl⟩
  have hws : W0.heap.size = w.heap.size + 2 := by rw [hW0]; simp
  rw [← hW0] at HX ⊢
  clear hW0
  have HB0 := Lib.hid HX.out.2.2
  have HA0 := Lib.hid ((Below.refl W0.heap.size W0).alloc (Nat.le_refl _) (.cells #[] 5))
  obtain ⟨x0, x1, x2, x3, x4, fx0, fx1, fx2, fx3, fx4⟩ := cells5F ((HA0.out.block _ (size_of_heap HX.out.1)).trans HX.out.1)
  obtain ⟨z0, z1, z2, z3, y0, y1, y2, y3⟩ := cells4F ((HA0.out.block _ (size_of_heap HX.out.2.1)).trans HX.out.2.1)
  have HB1 := Lib.hid (HB0.out.trans (HA0.out.mono HB0.out.size))
  have HO1 : Hid ((W0.alloc (.cells #[] 5)).ownsRow W0.heap.size 5 1 (.slice (some ⟨w.heap.size + 2, 0, none⟩) 0 0) 0 []) := Lib.hid (by rw [← hws]; exact own_empty W0 5)
  go_wp2_with (go_at_call 93; refine (HCE.out _).mono ?_; rintro e w2 ⟨v2, rfl, o2, b2⟩; obtain ⟨a2, cap2, rfl⟩ := ownV_slice o2; have HB2 := Lib.hid (HB1.out.trans (b2.mono HB1.out.size)); have HO2 := Lib.hid (own_later HO1.out b2); clear o2 b2)
  go_loopw [5, 14] (fun o i wr => i = .int .i64 0 ∧ Hid (wr.ownsRow W0.heap.size 5 1 o 0 []) ∧ Hid (Below w.heap.size w wr)) (fun _ _ _ => 0)
  case atStart => exact ⟨rfl, by simpa using HO2, HB2⟩
  case round =>
    obtain ⟨rfl, HO, HB⟩ := hrel
    have hconv := conv_own (l := []) (reads_own HO.out rfl (by decide))
    go_wp2
    go_ret
    exact ⟨rfl, HB.out⟩
/-- The bytes of a slot's cells. -/
def bytesOf (F : Nat → UInt8) (Z : List Int) : List UInt8 := Z.map fun q => F q.toNat
theorem bytesOf_next (F : Nat → UInt8) (Z : List Int) {j : Nat} (h : j < Z.length) : bytesOf F (Z.take (j + 1)) = bytesOf F (Z.take j) ++ [F (Z.getD j 0).toNat] := by
  unfold bytesOf
  rw [List.take_succ_eq_append_getElem h, List.map_append, List.getD_eq_getElem?_getD, List.getElem?_eq_getElem h]
  rfl
theorem numsL_snoc (l : List UInt8) (b : UInt8) : numsL (l ++ [b]) = numsL l ++ [(b.toNat : Int)] := by unfold numsL; rw [List.map_append]; rfl
theorem col_of {g : Int × Int × ByteArray} {x : SlotV} (h : x ∈ slG g) (w : World) : Calls Tryd.prog 93 #[brdV (brd g), slotV x] w fun e w' => ∃ v, e = .returned v ∧ w'.ownsRow w.heap.size 3 1 v (cellsS g.2.1 x).length ((cellsS g.2.1 x).map (Value.int .i64)) ∧ Below w.heap.size w w' := by
  have hcol := brd_col h
  obtain ⟨-, h1, h2, h3, -⟩ := slG_small h
  have h9 := icellsof_any (brd g).1 (brd g).2.1 ((brd g).2.2 : Int) x.1 x.2.1 x.2.2.1 x.2.2.2 (by rw [hcol]; exact h1) h2 h3 w
  rw [hcol] at h9
  unfold brdV slotV
  rw [hcol]
  exact h9
theorem cellFB {W : World} {base m cap : Nat} {e : TypeId} {a0 : Option Addr} {l : List Int} (h : W.ownsRow base e 1 (.slice a0 m cap) m (l.map (Value.int .i64))) (hn : m = l.length) (j : Nat) (hj : j < l.length) :
    ∃ b, a0 = some ⟨b, 0, none⟩ ∧ W.cell? ⟨b, j, none⟩ = some (.int .i64 (l.getD j 0)) := by
  subst hn
  rcases h.2 with ⟨e9, hl⟩ | ⟨g, cap', cur, e9, -⟩
  · exfalso
    injection e9 with _ e8 _
    omega
  · cases e9
    refine ⟨g, rfl, ?_⟩
    rw [h.cellAt j (by omega)]
    simp [List.getD, hj]
set_option maxRecDepth 100000 in
set_option maxHeartbeats 3200000 in
theorem ipat_in (g : Int × Int × ByteArray) (x : SlotV) (hx : x ∈ slG g) (blk cp : Nat) (F : Nat → UInt8) (op : Int) (w : World) (hM : MixAt w blk g.2.2.size F) :
    Calls Tryd.prog 61 #[.agg #[.int .i64 (brd g).1, .int .i64 (brd g).2.1, .int .u64 ((brd g).2.2 : Int), .slice (some ⟨blk, 0, none⟩) g.2.2.size cp, .int .u64 op], slotV x] w fun e w' => e = .returned (.string ⟨(bytesOf F (cellsS g.2.1 x)).toArray⟩) ∧ Below w.heap.size w w' := by
  obtain ⟨i0, hi, hz0, hz1, hz2⟩ := info_parts infoU8F
  have HCO := Lib.hid (fun w => col_of hx w)
  have HQ : Hid (∀ q ∈ cellsS g.2.1 x, ∃ n : Nat, q = n ∧ n < g.2.2.size) := Lib.hid (fun q hq => by
    obtain ⟨n, h1, h2, -⟩ := cells_whF hx hq
    exact ⟨n, h1, h2⟩)
  have HZ6 : Hid ((cellsS g.2.1 x).length ≤ 6) := Lib.hid (by rw [cellsS_length]; have := (slG_small hx).2.2.2.1; omega)
  have HM := Lib.hid hM
  have hbw := hM.lt
  rw [← str_nums]
  clear hx hM
  obtain ⟨Z, hZ⟩ : ∃ Z, Z = cellsS g.2.1 x := ⟨_, rfl⟩
  rw [← hZ] at HCO HQ HZ6 ⊢
  clear hZ
  obtain ⟨⟨r, c, S⟩, hb⟩ : ∃ b, b = brd g := ⟨_, rfl⟩
  rw [← hb] at HCO ⊢
  clear hb
  obtain ⟨n, hn⟩ : ∃ n, n = g.2.2.size := ⟨_, rfl⟩
  rw [← hn] at HQ HM ⊢
  clear hn g
  obtain ⟨t0, t1, t2, t3⟩ := x
  simp only [brdV, slotV] at HCO ⊢
  have hz6 := HZ6.out
  have HX := Lib.hid (box33 (Below.refl _ ((w.alloc (.cells #[.int .i64 r, .int .i64 c, .int .u64 (S : Int), .slice (some ⟨blk, 0, none⟩) n cp, .int .u64 op] 83)).alloc (.cells #[.int .i64 t0, .bool t1, .int .i64 t2, .int .i64 t3] 88))))
  go_enter Tryd.func61, Tryd.ntmps61
  go_wp2_with fail
  obtain ⟨W0, hW0⟩ : ∃ W0, W0 = (w.alloc (.cells #[.int .i64 r, .int .i64 c, .int .u64 (S : Int), .slice (some ⟨blk, 0, none⟩) n cp, .int .u64 op] 83)).alloc (.cells #[.int .i64 t0, .bool t1, .int .i64 t2, .int .i64 t3] 88) := ⟨_, rfl⟩
  have hws : W0.heap.size = w.heap.size + 2 := by rw [hW0]; simp
  rw [← hW0] at HX ⊢
  clear hW0
  have HB0 := Lib.hid HX.out.2.2
  have HG0 := Lib.hid HX.out.1
  have HA0 := Lib.hid ((Below.refl W0.heap.size W0).alloc (Nat.le_refl _) (.cells #[] 5))
  obtain ⟨x0, x1, x2, x3, x4, fx0, fx1, fx2, fx3, fx4⟩ := cells5F ((HA0.out.block _ (size_of_heap HX.out.1)).trans HX.out.1)
  obtain ⟨z0, z1, z2, z3, y0, y1, y2, y3⟩ := cells4F ((HA0.out.block _ (size_of_heap HX.out.2.1)).trans HX.out.2.1)
  have HO1 : Hid ((W0.alloc (.cells #[] 5)).ownsRow W0.heap.size 5 1 (.slice (some ⟨w.heap.size + 2, 0, none⟩) 0 0) 0 []) := Lib.hid (by rw [← hws]; exact own_empty W0 5)
  go_wp2_with (go_at_call 93; refine (HCO.out _).mono ?_; rintro e w2 ⟨v2, rfl, o2, b2⟩; obtain ⟨a2, cap2, rfl⟩ := ownV_slice o2; have HB2 := Lib.hid (HA0.out.trans (b2.mono HA0.out.size)); have HO2 := Lib.hid (own_later HO1.out b2); have HZ2 := Lib.hid (own_widen o2 HA0.out.size); clear o2 b2)
  clear x0 x1 x2 x3 x4 fx0 fx1 fx2 fx3 fx4 z0 z1 z2 z3 y0 y1 y2 y3 HO1 HA0 HCO
  go_loopw [5, 14] (fun o i wr => ∃ k : Nat, k ≤ Z.length ∧ i = .int .i64 k ∧ Hid (wr.ownsRow W0.heap.size 5 1 o (numsL (bytesOf F (Z.take k))).length ((numsL (bytesOf F (Z.take k))).map (Value.int .u8))) ∧ Hid (wr.ownsRow W0.heap.size 3 1 (.slice a2 Z.length cap2) Z.length (Z.map (Value.int .i64))) ∧ Hid (Below W0.heap.size W0 wr)) (fun _ i _ => Z.length - (intOf i).toNat)
  case atStart => exact ⟨0, Nat.zero_le _, rfl, by simpa [bytesOf, numsL] using HO2, HZ2, HB2⟩
  case round =>
    clear HO2 HZ2 HB2
    obtain ⟨k, hk, rfl, HO, HZ, HB⟩ := hrel
    obtain ⟨x0, x1, x2, x3, x4, fx0, fx1, fx2, fx3, fx4⟩ := cells5F ((HB.out.block _ (size_of_heap HG0.out)).trans HG0.out)
    have hlen : (numsL (bytesOf F (Z.take k))).length ≤ 6 := by rw [numsL_length, bytesOf, List.length_map, List.length_take]; omega
    by_cases hlt : k < Z.length
    · have hd : decide ((k : Int) < (Z.length : Int)) = true := decide_eq_true (by omega)
      have hd9 : decide (k < Z.length) = true := decide_eq_true hlt
      obtain ⟨bz, rfl, q0⟩ := cellFB HZ.out rfl k hlt
      obtain ⟨m, hm, hmn⟩ := HQ.out _ (getD_mem2 hlt)
      have HNX := Lib.hid (bytesOf_next F Z hlt)
      rw [hm] at q0 HNX
      have HMW := Lib.hid (HM.out.later (HB0.out.trans (HB.out.mono HB0.out.size)))
      have hc1 := HMW.out.cell m hmn
      rw [Int.toNat_natCast] at HNX
      obtain ⟨X, hX⟩ : ∃ X, X = numsL (bytesOf F (Z.take k)) := ⟨_, rfl⟩
      have HNE : Hid (numsL (bytesOf F (Z.take (k + 1))) = X ++ [((F m).toNat : Int)]) := Lib.hid (by rw [HNX.out, numsL_snoc, hX])
      rw [← hX] at HO hlen
      have h255 : (F m).toNat ≤ 255 := by have := (F m).toNat_lt; omega
      obtain ⟨fm, hfm⟩ : ∃ fm, fm = (F m).toNat := ⟨_, rfl⟩
      rw [← hfm] at hc1 HNE h255
      clear hm HNX hX hfm HMW
      go_wp2_with (at_builtin; refine append_one _ rfl _ _ 22 rfl W0.heap.size 5 i0 (.int .u8 0) 1 Tryd.underlying22 hi hz0 hz1 hz2 rfl _ X.length (X.map (Value.int .u8)) rfl (own_later HO.out (Joins.below_alloc1 _ _)) ⟨_, 0, none⟩ 1 .u8 (fm : Int) rfl (by simp) (by omega) (by omega) (le_alloc HB.out.size _) ?_; intro v5 w5 hown hgrow hwhere)
      have HB5 := Lib.hid (below_own (HB.out.alloc HB.out.size _) hgrow (own_later HO.out (Joins.below_alloc1 _ _)) (Nat.le_refl _) (le_alloc HB.out.size _))
      have HZ5 := Lib.hid ((HZ.out.alloc _).kept hgrow (own_types HO.out HZ.out (by decide)))
      have HO5 : Hid (w5.ownsRow W0.heap.size 5 1 v5 (numsL (bytesOf F (Z.take (k + 1)))).length ((numsL (bytesOf F (Z.take (k + 1)))).map (Value.int .u8))) := Lib.hid (by rw [HNE.out, List.length_append, List.map_append]; exact hown)
      clear hown hgrow hwhere
      go_roundw
      case rel => exact ⟨k + 1, by omega, by go_num, HO5, HZ5, HB5⟩
      case measure => simp [intOf]; omega
    · have hd : decide ((k : Int) < (Z.length : Int)) = false := decide_eq_false (by omega)
      have hd9 : decide (k < Z.length) = false := decide_eq_false hlt
      have HV : Hid (strOfNums (numsL (bytesOf F (Z.take k))) = strOfNums (numsL (bytesOf F Z))) := Lib.hid (by rw [List.take_of_length_le (by omega)])
      have hconv := conv_own (reads_own HO.out rfl (by omega))
      rw [HV.out] at hconv
      go_wp2
      go_ret
      exact ⟨rfl, HB0.out.trans (HB.out.mono HB0.out.size)⟩
/-- What the filling of a fill answers as the pattern of the slot with an index. -/
theorem patF_bytes {g : Int × Int × ByteArray} {f : ByteArray} {i : Nat} (h : isF g f = true) (hi : i < (slG g).length) : patF g f (i : Int) = ⟨(bytesOf (fun j => f.data.toList.getD j 0) (cellsS g.2.1 ((slG g).getD i none_Slot))).toArray⟩ := patF_at h hi
theorem brd_yes {r c : Int} {s : ByteArray} (h : isG (r, c, s) = true) : brd (r, c, s) = (r, c, wT s s.size) := by
  unfold brd
  rw [if_pos h]
theorem slotN_in {g : Int × Int × ByteArray} {i : Nat} (hi : i < (slG g).length) : slotN g (i : Int) = (slG g).getD i none_Slot := by
  unfold slotN
  rw [if_pos ⟨by omega, by omega⟩, Int.toNat_natCast]
theorem slotN_no {g : Int × Int × ByteArray} {k : Int} (h : ¬ (0 ≤ k ∧ k < ((slG g).length : Int))) : slotN g k = none_Slot := by
  unfold slotN
  rw [if_neg h]
theorem patF_else {g : Int × Int × ByteArray} {f : ByteArray} {k : Int} (h : ¬ (isF g f = true ∧ 0 ≤ k ∧ k < ((slG g).length : Int))) : patF g f k = ⟨#[]⟩ := by
  unfold patF
  rw [if_neg h]
end Go.Proofs.YthgnhcjbjdhjfaaDoor
