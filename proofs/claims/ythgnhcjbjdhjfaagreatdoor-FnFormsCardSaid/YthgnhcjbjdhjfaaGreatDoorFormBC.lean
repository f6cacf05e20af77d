/-
  The program's contracts of chapter 10, first part: the cells beside a set, one part of a board.
  The program's contracts of chapter 10, second part: the parts of a board, PartsOf, IsConnected.
-/
import Derived.Test.YthgnhcjbjdhjfaaGreatDoorFormPure
import Derived.Test.YthgnhcjbjdhjfaaGreatDoorGridImplE
import Derived.Test.YthgnhcjbjdhjfaaGreatDoorItems
import Derived.Test.YthgnhcjbjdhjfaaGreatDoorCrossPure
import Derived.BigQuiet
import Derived.Deep.RegionWith
import Derived.Deep.DeepCutAuto
import Derived.Deep.RegionHeld3
namespace Go.Proofs.YthgnhcjbjdhjfaaGreatDoor
open Go.RowKit

theorem bits_andN (a b : Nat) : bits .andNot .u64 (a : Int) (b : Int) = ((andN a b : Nat) : Int) := by
  show IntKind.u64.wrap ((BitVec.ofInt 64 (a : Int) &&& ~~~ BitVec.ofInt 64 (b : Int)).toNat : Int) = _
  have hlt := andN_lt a b
  unfold andN at hlt ⊢
  rw [IntKind.wrap_u64]
  omega
theorem wrapN (x : Nat) : IntKind.u64.wrap (x : Int) = ((x % 18446744073709551616 : Nat) : Int) := by
  rw [IntKind.wrap_u64]
  omega
set_option maxRecDepth 100000 in
set_option maxHeartbeats 1600000 in
theorem besb_any (R C P : Nat) (W : Int) (h1 : 2 ≤ R) (h2 : R ≤ 6) (h3 : 2 ≤ C) (h4 : C ≤ 6) (hP : P < 18446744073709551616) (w : World) :
    Calls Tryz.prog 111 #[.agg #[.int .i64 (R : Int), .int .i64 (C : Int), .int .u64 W], .int .u64 (P : Int)] w fun e w' => e = .returned (.int .u64 ((besN R C P : Nat) : Int)) ∧ Below w.heap.size w w' := by
  have hfm : Tryz.prog.follows .mixedOrders = true := by kernel_rfl
  go_enter Tryz.func111, Tryz.ntmps111
  go_wp2
  go_loopw [5, 6, 10] (fun a b i wr => ∃ k : Nat, k ≤ R ∧ i = .int .i64 (k : Int) ∧ a = .int .u64 ((leftN C k : Nat) : Int) ∧ b = .int .u64 ((rightN C k : Nat) : Int) ∧ wr.cell? ⟨w.heap.size, 1, none⟩ = some (.int .i64 (C : Int)) ∧ Hid (Below w.heap.size w wr)) (fun _ _ i _ => R - (intOf i).toNat)
  case atStart => exact ⟨0, Nat.zero_le _, rfl, rfl, rfl, by simp, Lib.hid ((Below.refl _ _).alloc (Nat.le_refl _) _)⟩
  case round =>
    obtain ⟨k, hk, rfl, rfl, rfl, hx, HBL⟩ := hrel
    by_cases hlt : k < R
    · have hd : decide ((k : Int) < (R : Int)) = true := decide_eq_true (by omega)
      have hd9 : decide (k < R) = true := decide_eq_true hlt
      have hm1 : k * C ≤ 5 * 6 := Nat.mul_le_mul (by omega) h4
      have hm2 : (k + 1) * C ≤ 6 * 6 := Nat.mul_le_mul (by omega) h4
      have hm3 : 1 * 2 ≤ (k + 1) * C := Nat.mul_le_mul (by omega) h3
      have hL64 : leftN C k < 18446744073709551616 := Nat.lt_of_lt_of_le (leftN_lt C k (by omega)) (show 2 ^ (k * C) ≤ 2 ^ 64 from Nat.pow_le_pow_right (by omega) (by omega))
      have hR64 : rightN C k < 18446744073709551616 := Nat.lt_of_lt_of_le (rightN_lt C k (by omega)) (show 2 ^ (k * C) ≤ 2 ^ 64 from Nat.pow_le_pow_right (by omega) (by omega))
      have HA := Lib.hid (fun w => withJ_any (leftN C k) (k * C) hL64 (by omega) w)
      have HB := Lib.hid (fun w => withJ_any (rightN C k) ((k + 1) * C - 1) hR64 (by omega) w)
      rw [show leftN C k ||| 2 ^ (k * C) = leftN C (k + 1) from rfl] at HA
      rw [show rightN C k ||| 2 ^ ((k + 1) * C - 1) = rightN C (k + 1) from rfl] at HB
      have e1 : ((k * C : Nat) : Int) = (k : Int) * (C : Int) := by simp
      have e2 : (((k + 1) * C : Nat) : Int) = ((k : Int) + 1) * (C : Int) := by simp
      obtain ⟨q1, hq1⟩ : ∃ q1, q1 = k * C := ⟨_, rfl⟩
      obtain ⟨q2, hq2⟩ : ∃ q2, q2 = (k + 1) * C := ⟨_, rfl⟩
      obtain ⟨q3, hq3⟩ : ∃ q3, q3 = (k + 1) * C - 1 := ⟨_, rfl⟩
      have hw0 : IntKind.i64.wrap ((k : Int) + 1) = (k : Int) + 1 := by rw [IntKind.wrap_i64]; omega
      have hw1 : IntKind.i64.wrap ((k : Int) * (C : Int)) = (q1 : Int) := by rw [← e1, ← hq1, IntKind.wrap_i64]; omega
      have hw2 : IntKind.i64.wrap (((k : Int) + 1) * (C : Int)) = (q2 : Int) := by rw [← e2, ← hq2, IntKind.wrap_i64]; omega
      have hw3 : IntKind.i64.wrap ((q2 : Int) - 1) = (q3 : Int) := by rw [IntKind.wrap_i64]; omega
      rw [← hq1] at HA
      rw [← hq3] at HB
      obtain ⟨a0, ha0⟩ : ∃ a0, a0 = leftN C k := ⟨_, rfl⟩
      obtain ⟨a1, ha1⟩ : ∃ a1, a1 = leftN C (k + 1) := ⟨_, rfl⟩
      obtain ⟨b0, hb0⟩ : ∃ b0, b0 = rightN C k := ⟨_, rfl⟩
      obtain ⟨b1, hb1⟩ : ∃ b1, b1 = rightN C (k + 1) := ⟨_, rfl⟩
      rw [← ha0, ← ha1] at HA
      rw [← hb0, ← hb1] at HB
      rw [← ha0, ← hb0]
      have HA1 := Lib.hid ha1
      have HB1 := Lib.hid hb1
      clear ha0 hb0 ha1 hb1 hq1 hq2 hq3 e1 e2 hm1 hm2 hm3 hL64 hR64
      go_wp2_with fail
      go_quiet (first | (go_at_call_of 63 (#[Value.int .u64 (a0 : Int), Value.int .i64 (q1 : Int)] : Array Value); exact Calls.quiet_of_same ((HA.out _).mono fun _ _ h => ⟨h.1, h.2.symm⟩)) | (go_at_call_of 63 (#[Value.int .u64 (b0 : Int), Value.int .i64 (q3 : Int)] : Array Value); exact Calls.quiet_of_same ((HB.out _).mono fun _ _ h => ⟨h.1, h.2.symm⟩)))
      go_wp2_with fail
      go_roundw
      case rel => exact ⟨k + 1, by omega, by go_num, by rw [HA1.out], by rw [HB1.out], by first | exact hx | simpa using hx, Lib.hid (below_drewN HBL.out _)⟩
      case measure => simp [intOf]; omega
    · have hd : decide ((k : Int) < (R : Int)) = false := decide_eq_false (by omega)
      have hd9 : decide (k < R) = false := decide_eq_false hlt
      obtain rfl : k = R := by omega
      have HE : Hid (bits .or .u64 (bits .or .u64 (bits .or .u64 (IntKind.u64.wrap ((P : Int) * 2 ^ C)) ((P : Int) / 2 ^ C)) (IntKind.u64.wrap (bits .andNot .u64 (P : Int) ((rightN C k : Nat) : Int) * 2))) (bits .andNot .u64 (P : Int) ((leftN C k : Nat) : Int) / 2) = ((besN k C P : Nat) : Int)) := Lib.hid (by
        rw [bits_andN, bits_andN, show (P : Int) * 2 ^ C = ((P * 2 ^ C : Nat) : Int) by simp, show (P : Int) / 2 ^ C = ((P / 2 ^ C : Nat) : Int) by simp, wrapN]
        rw [show ((andN P (rightN C k) : Nat) : Int) * 2 = ((andN P (rightN C k) * 2 : Nat) : Int) by simp, wrapN, show ((andN P (leftN C k) : Nat) : Int) / 2 = ((andN P (leftN C k) / 2 : Nat) : Int) by simp]
        have hm : ∀ x : Nat, x % 18446744073709551616 < 18446744073709551616 := fun x => Nat.mod_lt _ (by decide)
        have hq : P / 2 ^ C < 18446744073709551616 := Nat.lt_of_le_of_lt (Nat.div_le_self _ _) hP
        have hl : andN P (leftN C k) / 2 < 18446744073709551616 := Nat.lt_of_le_of_lt (Nat.div_le_self _ _) (andN_lt _ _)
        have ho : ∀ x y : Nat, x < 18446744073709551616 → y < 18446744073709551616 → x ||| y < 18446744073709551616 := fun x y hx hy => Nat.or_lt_two_pow (n := 64) hx hy
        rw [bits_or_u64_nat _ _ (hm _) hq, bits_or_u64_nat _ _ (ho _ _ (hm _) hq) (hm _), bits_or_u64_nat _ _ (ho _ _ (ho _ _ (hm _) hq) (hm _)) hl]
        rfl)
      have hc0 : ¬ (C : Int) < 0 := by omega
      have hd0 : decide ((C : Int) < 0) = false := decide_eq_false hc0
      go_wp2_with fail
      go_quiet (fail)
      go_wp2_with fail
      go_ret
      exact ⟨by rw [← HE.out]; rfl, below_drewN HBL.out _⟩
/-- What a board's numbers say of its cells. -/
def BrdW (R C : Nat) (W : Nat → Bool) (Wn : Nat) : Prop := 2 ≤ R ∧ R ≤ 6 ∧ 2 ≤ C ∧ C ≤ 6 ∧ Wn < 68719476736 ∧ ∀ k, Wn.testBit k = (decide (k < R * C) && W k)
set_option maxRecDepth 100000 in
set_option maxHeartbeats 1600000 in
theorem partb_any (R C Wn i : Nat) (W : Nat → Bool) (hB : BrdW R C W Wn) (hi : i < R * C) (w : World) :
    Calls Tryz.prog 66 #[.agg #[.int .i64 (R : Int), .int .i64 (C : Int), .int .u64 (Wn : Int)], .int .i64 (i : Int)] w fun e w' => ∃ P : Nat, e = .returned (.int .u64 (P : Int)) ∧ (∀ k, P.testBit k = reachB W C (R * C) i k) ∧ P < 68719476736 ∧ Below w.heap.size w w' := by
  obtain ⟨h1, h2, h3, h4, hWn, hbits⟩ := hB
  have hn36 : R * C ≤ 6 * 6 := Nat.mul_le_mul h2 h4
  have HBE := Lib.hid (fun P hP w => besb_any R C P (Wn : Int) h1 h2 h3 h4 hP w)
  have HWI := Lib.hid (fun w => withJ_any 0 i (by decide) (by omega) w)
  rw [Nat.zero_or] at HWI
  have HNR : Hid (∀ P, (∀ k, P.testBit k = true → Reach W C (R * C) i k) → (∀ k, (growN R C Wn P).testBit k = true → Reach W C (R * C) i k)) := Lib.hid (fun P hP => growN_reach h3 rfl hn36 hi hbits hP)
  have HND : Hid (∀ P, (∀ k, P.testBit k = true → Reach W C (R * C) i k) → P.testBit i = true → growN R C Wn P = P → ∀ k, P.testBit k = reachB W C (R * C) i k) := Lib.hid (fun P hP h0 he => growN_done h3 rfl hn36 hi hbits hP h0 he)
  have HLT : Hid (∀ P : Nat, (∀ k, P.testBit k = true → Reach W C (R * C) i k) → P < 68719476736) := Lib.hid (fun P hP => Nat.lt_of_lt_of_le (lt_of_bits (n := R * C) fun k h => reach_lt hi (hP k h)) (show 2 ^ (R * C) ≤ 2 ^ 36 from Nat.pow_le_pow_right (by omega) (by omega)))
  have H1 : Hid (∀ k, (2 ^ i).testBit k = true → Reach W C (R * C) i k) := Lib.hid (fun k h => by
    rw [Nat.testBit_two_pow, decide_eq_true_eq] at h
    subst h
    exact .base)
  have H1I : Hid ((2 ^ i).testBit i = true) := Lib.hid (by rw [Nat.testBit_two_pow]; simp)
  have H1P : Hid (0 < 2 ^ i) := Lib.hid (Nat.pow_pos (by decide))
  have HGL : Hid (∀ P, P ≤ growN R C Wn P) := Lib.hid (fun P => growN_le R C Wn P)
  have HGI : Hid (∀ P : Nat, P.testBit i = true → (growN R C Wn P).testBit i = true) := Lib.hid (fun P h => by unfold growN; rw [Nat.testBit_or, h]; rfl)
  have HG : Hid (∀ P : Nat, P < 68719476736 → bits .or .u64 (P : Int) (bits .and .u64 ((besN R C P : Nat) : Int) (Wn : Int)) = ((growN R C Wn P : Nat) : Int)) := Lib.hid (fun P hP => by
    have hb := besN_lt R C P (by omega)
    have ha : besN R C P &&& Wn < 18446744073709551616 := Nat.lt_of_le_of_lt Nat.and_le_left hb
    rw [bits_and_u64_nat _ _ hb (by omega), bits_or_u64_nat _ _ (by omega) ha]
    rfl)
  obtain ⟨I2, hI2⟩ : ∃ I2, I2 = 2 ^ i := ⟨_, rfl⟩
  rw [← hI2] at HWI H1 H1I H1P
  clear hI2 hi hbits hn36
  go_enter Tryz.func66, Tryz.ntmps66
  go_wp2_with (go_at_call 63; refine (HWI.out _).mono ?_; rintro e w1 ⟨rfl, rfl⟩)
  go_loopw [5, 6] (fun a b wr => ∃ P N : Nat, a = .int .u64 (P : Int) ∧ b = .int .u64 (N : Int) ∧ P ≤ N ∧ N < 68719476736 ∧ Hid (∀ k, N.testBit k = true → Reach W C (R * C) i k) ∧ Hid (N.testBit i = true) ∧ Hid (P < N ∨ N = growN R C Wn P) ∧ Hid (wr.heap[w.heap.size]? = some (.cells #[.int .i64 (R : Int), .int .i64 (C : Int), .int .u64 (Wn : Int)] 63)) ∧ Hid (Below w.heap.size w wr)) (fun a _ _ => 68719476736 - (intOf a).toNat)
  case atStart => exact ⟨0, I2, rfl, rfl, Nat.zero_le _, HLT.out _ H1.out, H1, H1I, Lib.hid (.inl H1P.out), Lib.hid (new_block w _), Lib.hid ((Below.refl _ _).alloc (Nat.le_refl _) _)⟩
  case round =>
    obtain ⟨P, N, rfl, rfl, hPN, hN, HR, HI, HO, HX, HB⟩ := hrel
    by_cases hne : P = N
    · have hb : ((N : Int) != (P : Int)) = false := by simp; omega
      subst hne
      have HE : Hid (growN R C Wn P = P) := Lib.hid (by
        rcases HO.out with h | h
        · omega
        · exact h.symm)
      have HF := Lib.hid (HND.out P HR.out HI.out HE.out)
      go_wp2
      go_ret
      exact ⟨P, rfl, HF.out, hN, HB.out⟩
    · have hb : ((N : Int) != (P : Int)) = true := by simp; omega
      have HBN := Lib.hid (fun w => HBE.out N (by omega) w)
      have HGN := Lib.hid (HG.out N hN)
      have HRN := Lib.hid (HNR.out N HR.out)
      have HIN := Lib.hid (HGI.out N HI.out)
      have HLN := Lib.hid (HGL.out N)
      have HNN : Hid (N < growN R C Wn N ∨ growN R C Wn N = growN R C Wn N) := Lib.hid (.inr rfl)
      have HTN := Lib.hid (HLT.out _ HRN.out)
      obtain ⟨G, hG⟩ : ∃ G, G = growN R C Wn N := ⟨_, rfl⟩
      rw [← hG] at HGN HRN HIN HLN HTN
      have HGE := Lib.hid hG
      obtain ⟨B, hBs⟩ : ∃ B, B = besN R C N := ⟨_, rfl⟩
      rw [← hBs] at HBN HGN
      clear hG hBs
      have SOT : Hid (∀ W : World, Below wr.heap.size wr W → W.cell? ⟨w.heap.size, 0, none⟩ = some (.int .i64 (R : Int)) ∧ W.cell? ⟨w.heap.size, 1, none⟩ = some (.int .i64 (C : Int)) ∧ W.cell? ⟨w.heap.size, 2, none⟩ = some (.int .u64 (Wn : Int))) := Lib.hid (fun W h => by
        have h9 := (h.block w.heap.size (Array.getElem?_eq_some_iff.1 HX.out).1).trans HX.out
        exact ⟨Joins.cell_of_block h9 0, Joins.cell_of_block h9 1, Joins.cell_of_block h9 2⟩)
      have hbn : Below wr.heap.size wr wr := Below.refl _ _
      go_wp2_with fail
      go_region_held3 (fun W => W.cell? ⟨w.heap.size, 0, none⟩ = some (.int .i64 (R : Int)) ∧ W.cell? ⟨w.heap.size, 1, none⟩ = some (.int .i64 (C : Int)) ∧ W.cell? ⟨w.heap.size, 2, none⟩ = some (.int .u64 (Wn : Int))) (first | exact SOT.out _ hbn | exact SOT.out _ hbn.drew) (first | (go_at_call 111; refine Calls.mono (HBN.out _) ?_; rintro e w6 ⟨rfl, b6⟩; have hbm : Below wr.heap.size wr _ := (by first | exact hbn.trans (b6.mono hbn.size) | exact hbn.drew.trans b6); clear hbn; have hbn := hbm; clear hbm b6; have HX6 := Lib.hid ((hbn.block w.heap.size (Array.getElem?_eq_some_iff.1 HX.out).1).trans HX.out); have HB6 := Lib.hid (HB.out.trans (hbn.mono HB.out.size))))
      all_goals go_wp2_with fail
      all_goals go_roundw
      all_goals first | exact ⟨N, G, rfl, by rw [HGN.out], HLN.out, HTN.out, HRN, HIN, Lib.hid (.inr HGE.out), HX6, HB6⟩ | (simp [intOf]; omega)
end Go.Proofs.YthgnhcjbjdhjfaaGreatDoor
namespace Go.Proofs.YthgnhcjbjdhjfaaGreatDoor
open Go.RowKit

theorem brd_bitsW {g : Int × Int × ByteArray} (hg : isG g = true) (k : Nat) : (brd g).2.2.testBit k = (decide (k < g.2.2.size) && whF g.2.2 k) := by
  unfold brd
  rw [if_pos hg]
  show (wT g.2.2 g.2.2.size).testBit k = _
  unfold wT
  rw [setTo_bit]
  rfl
theorem brd_W {g : Int × Int × ByteArray} (hg : isG g = true) : BrdW g.1.toNat g.2.1.toNat (whF g.2.2) (brd g).2.2 ∧ (brd g).1 = (g.1.toNat : Int) ∧ (brd g).2.1 = (g.2.1.toNat : Int) ∧ g.1.toNat * g.2.1.toNat = g.2.2.size := by
  have hb := brd_bitsW hg
  have h36 := isG_size hg
  have hlt : (brd g).2.2 < 68719476736 := by
    unfold brd
    rw [if_pos hg]
    exact wT_lt _ _ h36
  obtain ⟨r, c, s⟩ := g
  obtain ⟨R, C, rfl, rfl, h1, h2, h3, h4, h5, h6⟩ := isG_nat hg
  have hbr : brd ((R : Int), (C : Int), s) = ((R : Int), (C : Int), wT s s.size) := by unfold brd; rw [if_pos hg]
  refine ⟨⟨by simpa using h1, by simpa using h2, by simpa using h3, by simpa using h4, hlt, fun k => ?_⟩, by rw [hbr]; simp, by rw [hbr]; simp, by simpa using h5.symm⟩
  rw [hb k]
  simp only [Int.toNat_natCast, h5]
theorem brd_noneF {g : Int × Int × ByteArray} (hg : isG g = false) : brd g = (0, 0, 0) := by unfold brd; rw [hg]; rfl
theorem items_brd (g : Int × Int × ByteArray) : (partsQ (whF g.2.2) g.2.1.toNat g.2.2.size (itemsTo (brd g).2.2 64)).2 = (partsG g).toNat ∧ 0 ≤ partsG g := by
  unfold partsG
  cases hg : isG g
  · rw [brd_noneF hg, if_neg (by decide)]
    exact ⟨rfl, by decide⟩
  · rw [if_pos rfl]
    have h36 := isG_size hg
    have h1 : itemsTo (brd g).2.2 64 = (List.range g.2.2.size).filter (whF g.2.2) := by
      unfold brd
      rw [if_pos hg]
      show itemsTo (wT g.2.2 g.2.2.size) 64 = _
      unfold wT
      rw [itemsTo_set _ _ _ (by omega)]
      rfl
    rw [h1]
    exact ⟨by unfold partsTo; simp, by omega⟩
theorem natI_get {l : List Nat} {k : Nat} (h : k < l.length) : (natI l).getD k 0 = ((l.getD k 0 : Nat) : Int) := by
  unfold natI
  simp [List.getD, h]
theorem take_getN {l : List Nat} {k : Nat} (h : k < l.length) : l.take (k + 1) = l.take k ++ [l.getD k 0] := by
  rw [List.take_succ_eq_append_getElem h, List.getD_eq_getElem?_getD, List.getElem?_eq_getElem h]
  rfl
theorem nat_cell {W : World} {base m cap : Nat} {e : TypeId} {a0 : Option Addr} {l : List Nat} (h : W.ownsRow base e 1 (.slice a0 m cap) m ((natI l).map (Value.int .i64))) (hn : m = l.length) (j : Nat) (hj : j < l.length) :
    ∃ b, a0 = some ⟨b, 0, none⟩ ∧ W.cell? ⟨b, j, none⟩ = some (.int .i64 ((l.getD j 0 : Nat) : Int)) := by
  subst hn
  rcases h.2 with ⟨e9, hl⟩ | ⟨g, cap', cur, e9, -⟩
  · exfalso
    injection e9 with _ e8 _
    omega
  · cases e9
    refine ⟨g, rfl, ?_⟩
    rw [h.cellAt j (by omega), ← natI_get hj]
    simp [List.getD, hj, natI]
set_option maxRecDepth 100000 in
set_option maxHeartbeats 1600000 in
theorem cntb_any (g : Int × Int × ByteArray) (w : World) (hD : DB w) :
    Calls Tryz.prog 33 #[brdV (brd g)] w fun e w' => e = .returned (.int .i64 (partsG g)) ∧ Below w.heap.size w w' := by
  have HD := Lib.hid hD
  clear hD
  have HIB := Lib.hid (items_brd g)
  have HS : Hid ((brd g).2.2 < 68719476736) := Lib.hid (by
    cases hg : isG g
    · rw [brd_noneF hg]; decide
    · exact (brd_W hg).1.2.2.2.2.1)
  have HIT := Lib.hid (fun w hd => itemsI_any (brd g).2.2 (by have := HS.out; omega) w hd)
  have HPT : Hid (∀ i ∈ itemsTo (brd g).2.2 64, ∀ w : World, Calls Tryz.prog 66 #[.agg #[.int .i64 (brd g).1, .int .i64 (brd g).2.1, .int .u64 ((brd g).2.2 : Int)], .int .i64 (i : Int)] w fun e w' => ∃ P : Nat, e = .returned (.int .u64 (P : Int)) ∧ (∀ k, P.testBit k = reachB (whF g.2.2) g.2.1.toNat g.2.2.size i k) ∧ P < 68719476736 ∧ Below w.heap.size w w') := Lib.hid (fun i hi w => by
    cases hg : isG g
    · rw [brd_noneF hg] at hi
      have : i ∈ ([] : List Nat) := hi
      cases this
    · obtain ⟨h1, h2, h3, h4⟩ := brd_W hg
      have h5 := (itemsTo_lt hi).2
      rw [brd_bitsW hg] at h5
      simp only [Bool.and_eq_true, decide_eq_true_eq] at h5
      rw [h2, h3, ← h4]
      exact partb_any _ _ _ i _ h1 (by rw [h4]; exact h5.1) w)
  have HI64 : Hid (∀ i ∈ itemsTo (brd g).2.2 64, i < 64) := Lib.hid (fun i hi => (itemsTo_lt hi).1)
  have HLEN := Lib.hid (itemsTo_length (brd g).2.2 64)
  have HPE : Hid (((partsQ (whF g.2.2) g.2.1.toNat g.2.2.size (itemsTo (brd g).2.2 64)).2 : Int) = partsG g) := Lib.hid (by have := HIB.out; omega)
  rw [← HPE.out]
  clear HPE HIB
  obtain ⟨Q, hQ⟩ : ∃ Q, Q = partsQ (whF g.2.2) g.2.1.toNat g.2.2.size := ⟨_, rfl⟩
  have HQS := Lib.hid (partsQ_snoc (whF g.2.2) g.2.1.toNat g.2.2.size)
  have HQ0 : Hid (Q [] = (fun _ => false, 0)) := Lib.hid (by rw [hQ]; rfl)
  have HQL : Hid (∀ L, (Q L).2 ≤ L.length) := Lib.hid (fun L => by rw [hQ]; exact partsQ_le _ _ _ L)
  unfold stepQ at HQS
  rw [← hQ] at HQS ⊢
  clear hQ
  obtain ⟨RB, hRB⟩ : ∃ RB, RB = reachB (whF g.2.2) g.2.1.toNat g.2.2.size := ⟨_, rfl⟩
  rw [← hRB] at HPT HQS
  clear hRB
  obtain ⟨L, hL⟩ : ∃ L, L = itemsTo (brd g).2.2 64 := ⟨_, rfl⟩
  rw [← hL] at HIT HPT HI64 HLEN ⊢
  clear hL
  have hl64 := HLEN.out
  have hln := natI_length L
  obtain ⟨⟨b0, b1, b2⟩, hb⟩ : ∃ b, b = brd g := ⟨_, rfl⟩
  rw [← hb] at HIT HPT HS ⊢
  clear hb
  simp only [brdV] at HIT HPT HS ⊢
  go_enter Tryz.func33, Tryz.ntmps33
  have HA0 : Hid (Below w.heap.size w (w.alloc (.cells #[.int .i64 b0, .int .i64 b1, .int .u64 (b2 : Int)] 63))) := Lib.hid ((Below.refl _ _).alloc (Nat.le_refl _) _)
  have HX0 : Hid ((w.alloc (.cells #[.int .i64 b0, .int .i64 b1, .int .u64 (b2 : Int)] 63)).heap[w.heap.size]? = some (.cells #[.int .i64 b0, .int .i64 b1, .int .u64 (b2 : Int)] 63)) := Lib.hid (new_block w _)
  go_wp2_with (go_at_call 64; refine (HIT.out _ (HD.out.later HA0.out)).mono ?_; rintro e w1 ⟨v1, rfl, o1, b1'⟩; rw [hln] at o1; obtain ⟨a0, cap, rfl⟩ := ownV_slice o1; have HX1 := Lib.hid ((b1'.block w.heap.size (Array.getElem?_eq_some_iff.1 HX0.out).1).trans HX0.out); have HB1 := Lib.hid (box1_of b1'); have HL1 := Lib.hid (own_widen o1 (show w.heap.size ≤ _ by simp)); clear o1 b1')
  go_loopw [3, 4, 11] (fun m n i wr => ∃ k M : Nat, k ≤ L.length ∧ i = .int .i64 (k : Int) ∧ m = .int .u64 (M : Int) ∧ n = .int .i64 (((Q (L.take k)).2 : Nat) : Int) ∧ M < 68719476736 ∧ Hid (∀ x, M.testBit x = (Q (L.take k)).1 x) ∧ Hid (wr.ownsRow w.heap.size 3 1 (.slice a0 L.length cap) L.length ((natI L).map (Value.int .i64))) ∧ Hid (wr.heap[w.heap.size]? = some (.cells #[.int .i64 b0, .int .i64 b1, .int .u64 (b2 : Int)] 63)) ∧ Hid (Below w.heap.size w wr)) (fun _ _ i _ => L.length - (intOf i).toNat)
  case atStart => exact ⟨0, 0, Nat.zero_le _, rfl, rfl, by rw [List.take_zero, HQ0.out]; rfl, by omega, Lib.hid (fun x => by rw [List.take_zero, HQ0.out]; simp), HL1, HX1, HB1⟩
  case round =>
    clear HX1 HB1 HL1 HX0 HA0 HIT
    obtain ⟨k, M, hk, rfl, rfl, rfl, hM, HM, HL, HX, HB⟩ := hrel
    by_cases hlt : k < L.length
    · have hd : decide ((k : Int) < (L.length : Int)) = true := decide_eq_true (by omega)
      have hd9 : decide (k < L.length) = true := decide_eq_true hlt
      obtain ⟨b, rfl, q0⟩ := nat_cell HL.out rfl k hlt
      have HTK := Lib.hid (take_getN hlt)
      have HMEM : Hid (L.getD k 0 ∈ L) := Lib.hid (by simp [List.getD, hlt])
      obtain ⟨c, hc⟩ : ∃ c, c = L.getD k 0 := ⟨_, rfl⟩
      rw [← hc] at q0 HTK HMEM
      clear hc
      have HC64 := Lib.hid (HI64.out c HMEM.out)
      have HP1 := Lib.hid (HPT.out c HMEM.out)
      have HQN := Lib.hid (HQS.out (L.take k) c)
      rw [← HTK.out] at HQN
      have HHS := Lib.hid (fun w => has_any M c (by omega) HC64.out w)
      rw [HM.out c] at HHS
      have HQ64 : Hid ((Q (L.take k)).2 ≤ 64) := Lib.hid (Nat.le_trans (HQL.out _) (Nat.le_trans (List.length_take_le _ _) (by omega)))
      obtain ⟨⟨m1, n1⟩, hmn⟩ : ∃ y, y = Q (L.take k) := ⟨_, rfl⟩
      rw [← hmn] at HM HQN HHS HQ64 ⊢
      clear hmn
      simp only at HM HQN HHS HQ64 ⊢
      have hn64 := HQ64.out
      rcases hbb : m1 c with _ | _
      · have HQ1 : Hid (Q (L.take (k + 1)) = (fun j => m1 j || RB c j, n1 + 1)) := Lib.hid (by rw [HQN.out, hbb]; rfl)
        rw [hbb] at HHS
        clear HQN hbb
        go_wp2_with (first | (go_at_call 65; refine (HHS.out _).mono ?_; rintro e w2 ⟨rfl, rfl⟩; obtain ⟨x0, x1, x2⟩ := (⟨Joins.cell_of_block HX.out 0, Joins.cell_of_block HX.out 1, Joins.cell_of_block HX.out 2⟩ : wr.cell? ⟨w.heap.size, 0, none⟩ = some (.int .i64 b0) ∧ wr.cell? ⟨w.heap.size, 1, none⟩ = some (.int .i64 b1) ∧ wr.cell? ⟨w.heap.size, 2, none⟩ = some (.int .u64 (b2 : Int)))) | (go_at_call 66; refine (HP1.out _).mono ?_; rintro e w3 ⟨P, rfl, hPb, hPl, b3⟩; have HPB := Lib.hid hPb; have HOR : Hid (bits .or .u64 (M : Int) (P : Int) = ((M ||| P : Nat) : Int)) := Lib.hid (bits_or_u64_nat _ _ (by omega) (by omega)); have HL3 := Lib.hid (own_later HL.out b3); have HX3 := Lib.hid ((b3.block w.heap.size (Array.getElem?_eq_some_iff.1 HX.out).1).trans HX.out); have HB3 := Lib.hid (HB.out.trans (b3.mono HB.out.size)); clear hPb b3))
        go_roundw
        case rel => exact ⟨k + 1, M ||| P, by omega, by go_num, by rw [HOR.out], by rw [HQ1.out]; rfl, Nat.or_lt_two_pow (n := 36) hM hPl, Lib.hid (fun x => by rw [HQ1.out, Nat.testBit_or, HM.out, HPB.out]), HL3, HX3, HB3⟩
        case measure => simp [intOf]; omega
      · have HQ1 : Hid (Q (L.take (k + 1)) = (m1, n1)) := Lib.hid (by rw [HQN.out, hbb]; rfl)
        rw [hbb] at HHS
        clear HQN hbb
        go_wp2_with (go_at_call 65; refine (HHS.out _).mono ?_; rintro e w2 ⟨rfl, rfl⟩)
        go_roundw
        case rel => exact ⟨k + 1, M, by omega, by go_num, rfl, by rw [HQ1.out], hM, Lib.hid (fun x => by rw [HQ1.out]; exact HM.out x), HL, HX, HB⟩
        case measure => simp [intOf]; omega
    · have hd : decide ((k : Int) < (L.length : Int)) = false := decide_eq_false (by omega)
      have hd9 : decide (k < L.length) = false := decide_eq_false hlt
      have HKE : Hid (L.take k = L) := Lib.hid (by rw [show k = L.length by omega, List.take_length])
      go_wp2
      go_ret
      exact ⟨by rw [HKE.out]; rfl, HB.out⟩
set_option maxHeartbeats 800000 in
theorem ipt_any (r c : Int) (s : ByteArray) (hs : s.size ≤ 4194304) (w : World) (hD : DB w) :
    Calls Tryz.prog 10 #[.agg #[.int .i64 r, .int .i64 c, .string s]] w fun e w' => e = .returned (.int .i64 (partsG (r, c, s))) ∧ Below w.heap.size w w' := by
  have HD := Lib.hid hD
  clear hD
  have HBO := Lib.hid (fun w => ibo_any r c s hs w)
  have HCP := Lib.hid (fun w hd => cntb_any (r, c, s) w hd)
  obtain ⟨P, hP⟩ : ∃ P, P = partsG (r, c, s) := ⟨_, rfl⟩
  rw [← hP] at HCP ⊢
  clear hP
  obtain ⟨⟨b0, b1, b2⟩, hb⟩ : ∃ b, b = brd (r, c, s) := ⟨_, rfl⟩
  rw [← hb] at HBO HCP
  clear hb
  simp only [brdV] at HBO HCP
  go_enter Tryz.func10, Tryz.ntmps10
  go_wp2_with (first | (go_at_call 32; refine (HBO.out _).mono ?_; rintro e w1 ⟨rfl, bb1⟩; have HB1 := Lib.hid (box1_of bb1); have HB2 := Lib.hid (HB1.out.alloc HB1.out.size (.cells #[.int .i64 b0, .int .i64 b1, .int .u64 (b2 : Int)] 63)); clear bb1) | (go_at_call 33; refine (HCP.out _ (HD.out.later HB2.out)).mono ?_; rintro e w4 ⟨rfl, b4⟩; have HB4 := Lib.hid (HB2.out.trans (b4.mono HB2.out.size)); clear b4))
  go_ret
  exact ⟨rfl, HB4.out⟩
set_option maxHeartbeats 800000 in
theorem icn_any (r c : Int) (s : ByteArray) (hs : s.size ≤ 4194304) (w : World) (hD : DB w) :
    Calls Tryz.prog 9 #[.agg #[.int .i64 r, .int .i64 c, .string s]] w fun e w' => e = .returned (.bool (decide (partsG (r, c, s) = 1))) ∧ Below w.heap.size w w' := by
  have HD := Lib.hid hD
  clear hD
  have HA0 : Hid (Below w.heap.size w (w.alloc (.cells #[.int .i64 r, .int .i64 c, .string s] 25))) := Lib.hid ((Below.refl _ _).alloc (Nat.le_refl _) _)
  have HPA := Lib.hid (fun w hd => ipt_any r c s hs w hd)
  have HE : Hid ((partsG (r, c, s) == 1) = decide (partsG (r, c, s) = 1)) := Lib.hid (by rw [Bool.eq_iff_iff]; simp)
  rw [← HE.out]
  clear HE
  obtain ⟨P, hP⟩ : ∃ P, P = partsG (r, c, s) := ⟨_, rfl⟩
  rw [← hP] at HPA ⊢
  clear hP
  go_enter Tryz.func9, Tryz.ntmps9
  go_wp2_with (go_at_call 10; refine (HPA.out _ (HD.out.later HA0.out)).mono ?_; rintro e w4 ⟨rfl, b4⟩; have HB4 := Lib.hid (box1_of b4); clear b4)
  go_ret
  exact ⟨rfl, HB4.out⟩
end Go.Proofs.YthgnhcjbjdhjfaaGreatDoor
