/-
  The items of a set of bits (of ints, of bytes): the library's TrailingZeros64 over its table.
-/
import Derived.Test.YthgnhcjbjdhjfaaGreatDoorPatB
import Derived.Test.YthgnhcjbjdhjfaaGreatDoorShelf
import Derived.Test.YthgnhcjbjdhjfaaGreatDoorKit
import Derived.Lib.SmallJoins
namespace Go.Proofs.YthgnhcjbjdhjfaaGreatDoor
open Go.RowKit

/-- The library's table of lowest bits stands. -/
def DB (w : World) : Prop := TabAt 0 Lib.deBruijn64tab w
theorem DB.later {w w' : World} (h : DB w) (b : Below w.heap.size w w') : DB w' := fun j hj => by
  have h2 := h j hj
  exact (b.cell (p := ⟨0, j, none⟩) (World.block_lt_of_cell? _ _ h2)).trans h2
theorem tz_any (x : Nat) (hx : x < 18446744073709551616) (w : World) (h : DB w) :
    Calls Tryz.prog 110 #[.int .u64 (x : Int)] w fun e w' => e = .returned (.int .i64 ((Lib.ctz 64 x : Nat) : Int)) ∧ w' = w :=
  Tryz.bits_TrailingZeros64 x hx w fun _ => h

def natI (l : List Nat) : List Int := l.map fun (k : Nat) => (k : Int)
theorem natI_length (l : List Nat) : (natI l).length = l.length := by simp [natI]
theorem natI_snoc (l : List Nat) (k : Nat) : natI (l ++ [k]) = natI l ++ [(k : Int)] := by simp [natI]
theorem infoIP : (Tryz.prog.info? 3).map (fun i => (i.zero, i.size, i.bytes)) = some (some (.int .i64 0), 1, 8) := by kernel_rfl
theorem infoBP : (Tryz.prog.info? 5).map (fun i => (i.zero, i.size, i.bytes)) = some (some (.int .u8 0), 1, 1) := by kernel_rfl
/-- One round of items: the lowest number goes over, its bit goes out. -/
theorem items_round (S R j : Nat) (h0 : R ≠ 0) (hR : R < 18446744073709551616) (hb : ∀ k, R.testBit k = (decide (j ≤ k) && S.testBit k)) :
    Lib.ctz 64 R < 64 ∧ itemsTo S (Lib.ctz 64 R + 1) = itemsTo S j ++ [Lib.ctz 64 R] ∧ (∀ k, (R &&& (R - 1)).testBit k = (decide (Lib.ctz 64 R + 1 ≤ k) && S.testBit k)) ∧ R &&& (R - 1) < R ∧ bits .and .u64 (R : Int) ((R : Int) - 1) = ((R &&& (R - 1) : Nat) : Int) := by
  obtain ⟨h1, h2, h3, h4⟩ := ctz_at R h0 hR
  obtain ⟨t, ht⟩ : ∃ t, t = Lib.ctz 64 R := ⟨_, rfl⟩
  rw [← ht] at h1 h2 h3 h4 ⊢
  have h5 := hb t
  rw [h1] at h5
  have h6 : j ≤ t ∧ S.testBit t = true := by simpa using h5.symm
  refine ⟨h3, ?_, fun k => ?_, ?_, ?_⟩
  · rw [itemsTo_next, if_pos h6.2, itemsTo_gap S j t h6.1 (fun k k1 k2 => by
      have h7 := hb k
      rw [h2 k k2, decide_eq_true k1] at h7
      simpa using h7.symm)]
  · rw [h4, hb]
    by_cases hk : t + 1 ≤ k
    · rw [decide_eq_true hk, decide_eq_true (show j ≤ k by omega)]; simp
    · rw [decide_eq_false hk]; rfl
  · have := Nat.and_le_right (n := R) (m := R - 1)
    omega
  · rw [show ((R : Int) - 1) = ((R - 1 : Nat) : Int) by omega, bits_and_u64_nat _ _ hR (by omega)]
theorem items_end (S j : Nat) (hj : j ≤ 64) (hb : ∀ k, Nat.testBit 0 k = (decide (j ≤ k) && S.testBit k)) : itemsTo S j = itemsTo S 64 :=
  (itemsTo_gap S j 64 hj (fun k k1 _ => by
    have h7 := hb k
    rw [Nat.zero_testBit, decide_eq_true k1] at h7
    simpa using h7.symm)).symm
set_option maxHeartbeats 1600000 in
theorem itemsI_any (S : Nat) (hS : S < 18446744073709551616) (w : World) (hd : DB w) :
    Calls Tryz.prog 64 #[.int .u64 (S : Int)] w fun e w' => ∃ v', e = .returned v' ∧ w'.ownsRow w.heap.size 3 1 v' (natI (itemsTo S 64)).length ((natI (itemsTo S 64)).map (Value.int .i64)) ∧ Below w.heap.size w w' := by
  obtain ⟨i0, hi, hz0, hz1, hz2⟩ := info_parts infoIP
  have HD := Lib.hid hd
  clear hd
  go_enter Tryz.func64, Tryz.ntmps64
  go_wp2
  go_loopw [3, 4] (fun o r wr => ∃ R j : Nat, j ≤ 64 ∧ r = .int .u64 (R : Int) ∧ R < 18446744073709551616 ∧ Hid (∀ k, R.testBit k = (decide (j ≤ k) && S.testBit k)) ∧ Hid (wr.ownsRow w.heap.size 3 1 o (natI (itemsTo S j)).length ((natI (itemsTo S j)).map (Value.int .i64))) ∧ Below w.heap.size w wr) (fun _ r _ => (intOf r).toNat)
  case atStart => exact ⟨S, 0, by omega, rfl, hS, Lib.hid (by simp), Lib.hid (show World.ownsRow _ _ _ _ _ (natI (itemsTo S 0)).length _ from own_empty w 3), (Below.refl _ _).alloc (Nat.le_refl _) _⟩
  case round =>
    obtain ⟨R, j, hj, rfl, hR, HBT, HO, hbl⟩ := hrel
    by_cases h0 : R = 0
    · have HF : Hid (wr.ownsRow w.heap.size 3 1 u3 (natI (itemsTo S 64)).length ((natI (itemsTo S 64)).map (Value.int .i64))) := Lib.hid (by
        have h9 := HO.out
        rw [items_end S j hj (by rw [← h0]; exact HBT.out)] at h9
        exact h9)
      subst h0
      go_wp2
      go_ret
      exact ⟨_, rfl, HF.out, hbl⟩
    · obtain ⟨q1, q2, q3, q4, q5⟩ := items_round S R j h0 hR HBT.out
      have hne : ((R : Int) != 0) = true := by simp; omega
      have HTZ := Lib.hid (tz_any R hR)
      obtain ⟨t, ht⟩ : ∃ t, t = Lib.ctz 64 R := ⟨_, rfl⟩
      rw [← ht] at q1 q2 q3 HTZ
      obtain ⟨R2, hR2⟩ : ∃ R2, R2 = R &&& (R - 1) := ⟨_, rfl⟩
      rw [← hR2] at q3 q4 q5
      have Q3 := Lib.hid q3
      have hlen := itemsTo_length S j
      rw [← natI_length] at hlen
      obtain ⟨L, hL⟩ : ∃ L, L = natI (itemsTo S j) := ⟨_, rfl⟩
      have Q2 : Hid (natI (itemsTo S (t + 1)) = L ++ [(t : Int)]) := Lib.hid (by rw [q2, natI_snoc, hL])
      rw [← hL] at HO hlen
      clear q2 q3 ht hR2 hL HBT h0
      go_wp2_with (first | (go_at_call 110; refine (HTZ.out _ (HD.out.later hbl)).mono ?_; rintro e w2 ⟨rfl, rfl⟩) | (at_builtin; refine append_reads _ rfl _ _ 36 rfl w.heap.size 3 i0 (.int .i64 0) 8 Tryz.underlying36 hi hz0 hz1 hz2 rfl _ L.length (L.map (Value.int .i64)) rfl (own_later HO.out (Joins.below_alloc1 _ _)) (some ⟨_, 0, none⟩) 1 1 .i64 [(t : Int)] rfl rfl (fun e => by cases e) (one_src _ _ _ _) (by omega) (by omega) (le_alloc hbl.size _) ?_; intro v3 w3 hown hgrow))
      have HB3 := Lib.hid (below_own (hbl.alloc hbl.size _) hgrow (own_later HO.out (Joins.below_alloc1 _ _)) (Nat.le_refl _) (le_alloc hbl.size _))
      have HO3 : Hid (w3.ownsRow w.heap.size 3 1 v3 (natI (itemsTo S (t + 1))).length ((natI (itemsTo S (t + 1))).map (Value.int .i64))) := Lib.hid (by rw [Q2.out, List.length_append, List.map_append]; exact hown)
      clear hown hgrow
      go_roundw
      case rel => exact ⟨R2, t + 1, by omega, by rw [← q5], by omega, Q3, HO3, HB3.out⟩
      case measure => simp [intOf]; omega
end Go.Proofs.YthgnhcjbjdhjfaaGreatDoor
