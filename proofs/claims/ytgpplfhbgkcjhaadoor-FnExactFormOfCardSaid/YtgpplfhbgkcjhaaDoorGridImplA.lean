/-
  The program's contracts of chapter 7, first part: Reverse64, the sets of bits, the marks.
-/
import Derived.Test.YtgpplfhbgkcjhaaDoorGridB
import Derived.Test.YtgpplfhbgkcjhaaDoorModC
import Derived.Test.YtgpplfhbgkcjhaaDoorWordI
import Derived.BigQuiet
namespace Go.Proofs.YtgpplfhbgkcjhaaDoor
open Go.RowKit

set_option maxRecDepth 100000 in
set_option maxHeartbeats 1600000 in
theorem revb_any (y : Int) (x : Nat) (hy : y = (x : Int)) (hx : x < 18446744073709551616) (w : World) :
    Calls Tryd.prog 88 #[.int .u64 y] w fun e w' => e = .returned (.int .u64 ((revB x : Nat) : Int)) ∧ w = w' := by
  rw [← revB_eq x hx, ← hy]
  clear hy hx
  go_enter Tryd.func88, Tryd.ntmps88
  go_wp2
  go_ret
  exact ⟨rfl, rfl⟩
set_option maxRecDepth 100000 in
set_option maxHeartbeats 1600000 in
theorem rev_any (x : Nat) (hx : x < 18446744073709551616) (w : World) :
    Calls Tryd.prog 66 #[.int .u64 (x : Int)] w fun e w' => e = .returned (.int .u64 ((revN x : Nat) : Int)) ∧ w = w' := by
  have HX := Lib.hid (revA_eq x hx)
  clear hx
  go_enter Tryd.func66, Tryd.ntmps66
  go_wp2_with (go_at_call 88; refine (revb_any _ (revA x) HX.out (revA_lt x) _).mono ?_; rintro e w1 ⟨rfl, rfl⟩)
  go_ret
  exact ⟨rfl, rfl⟩
theorem withJ_any (S k : Nat) (hS : S < 18446744073709551616) (hk : k < 64) (w : World) :
    Calls Tryd.prog 53 #[.int .u64 (S : Int), .int .i64 (k : Int)] w fun e w' => e = .returned (.int .u64 ((S ||| 2 ^ k : Nat) : Int)) ∧ w = w' := by
  have h2 : 2 ^ k < 18446744073709551616 := Nat.lt_of_le_of_lt (Nat.pow_le_pow_right (by omega) (show k ≤ 63 by omega)) (by decide)
  have hw : IntKind.u64.wrap (2 ^ k) = ((2 ^ k : Nat) : Int) := by
    rw [show ((2 : Int) ^ k) = ((2 ^ k : Nat) : Int) by simp, IntKind.wrap_u64]
    generalize 2 ^ k = X at h2 ⊢
    omega
  rw [← bits_or_u64_nat S (2 ^ k) hS h2, ← hw]
  clear hw h2 hS
  go_enter Tryd.func53, Tryd.ntmps53
  go_wp2
  go_ret
  exact ⟨rfl, rfl⟩
theorem has_any (S k : Nat) (hS : S < 18446744073709551616) (hk : k < 64) (w : World) :
    Calls Tryd.prog 64 #[.int .u64 (S : Int), .int .i64 (k : Int)] w fun e w' => e = .returned (.bool (S.testBit k)) ∧ w = w' := by
  have hb : (bits .and .u64 ((S : Int) / 2 ^ k) 1 == 1) = S.testBit k := by
    have hd : S / 2 ^ k < 18446744073709551616 := Nat.lt_of_le_of_lt (Nat.div_le_self _ _) hS
    rw [show (S : Int) / 2 ^ k = ((S / 2 ^ k : Nat) : Int) by simp, show (1 : Int) = ((1 : Nat) : Int) by rfl, bits_and_u64_nat _ 1 hd (by decide), Nat.and_one_is_mod, Nat.testBit_eq_decide_div_mod_eq]
    generalize S / 2 ^ k % 2 = X
    by_cases e : X = 1
    · rw [e]; rfl
    · rw [decide_eq_false e]; exact beq_eq_false_iff_ne.2 (by omega)
  rw [← hb]
  clear hb hS
  go_enter Tryd.func64, Tryd.ntmps64
  go_wp2
  go_ret
  exact ⟨rfl, rfl⟩
theorem size_any (r c : Int) (S : Int) (hw : IntKind.i64.wrap (r * c) = r * c) (w : World) :
    Calls Tryd.prog 63 #[.agg #[.int .i64 r, .int .i64 c, .int .u64 S]] w fun e w' => e = .returned (.int .i64 (r * c)) ∧ Below w.heap.size w w' := by
  go_enter Tryd.func63, Tryd.ntmps63
  go_wp2
  go_ret
  exact ⟨rfl, (Below.refl _ _).alloc (Nat.le_refl _) _⟩
theorem signW (w : World) :
    Calls Tryd.prog 135 #[.agg #[]] w fun e w' => e = .returned (.int .u8 46) ∧ Below w.heap.size w w' := by
  go_enter Tryd.func135, Tryd.ntmps135
  go_wp2
  go_ret
  exact ⟨rfl, (Below.refl _ _).alloc (Nat.le_refl _) _⟩
theorem signB (w : World) :
    Calls Tryd.prog 136 #[.agg #[]] w fun e w' => e = .returned (.int .u8 35) ∧ Below w.heap.size w w' := by
  go_enter Tryd.func136, Tryd.ntmps136
  go_wp2
  go_ret
  exact ⟨rfl, (Below.refl _ _).alloc (Nat.le_refl _) _⟩
theorem signR (w : World) :
    Calls Tryd.prog 141 #[.agg #[]] w fun e w' => e = .returned (.int .u8 47) ∧ Below w.heap.size w w' := by
  go_enter Tryd.func141, Tryd.ntmps141
  go_wp2
  go_ret
  exact ⟨rfl, (Below.refl _ _).alloc (Nat.le_refl _) _⟩
/-- The three marks. -/
def mW : Value := .iface 78 (.agg #[])
def mB : Value := .iface 80 (.agg #[])
def mR : Value := .iface 115 (.agg #[])
/-- What markOf answers. -/
def markV (b : UInt8) : Value := if b = 46 then mW else if b = 35 then mB else if b = 47 then mR else .nilIface
/-- Which method a mark's sign is (the number of the program's types and 'Made.depth'). -/
theorem mth_W (w : World) : (method 274 78 (.agg #[]) "loop.example/g03003/impl.sign").run Tryd.prog w = .ok (135, .agg #[]) w := by kernel_rfl
theorem mth_B (w : World) : (method 274 80 (.agg #[]) "loop.example/g03003/impl.sign").run Tryd.prog w = .ok (136, .agg #[]) w := by kernel_rfl
theorem mth_R (w : World) : (method 274 115 (.agg #[]) "loop.example/g03003/impl.sign").run Tryd.prog w = .ok (141, .agg #[]) w := by kernel_rfl
def mks : Value := .agg #[.iface 78 (.agg #[]), .iface 80 (.agg #[]), .iface 115 (.agg #[])]
theorem idx_0 (W : World) : (Instr.index 116 (.agg #[.iface 78 (.agg #[]), .iface 80 (.agg #[]), .iface 115 (.agg #[])]) (.int .i64 0)).run Tryd.prog W = .ok (.iface 78 (.agg #[])) W := by kernel_rfl
theorem idx_1 (W : World) : (Instr.index 116 (.agg #[.iface 78 (.agg #[]), .iface 80 (.agg #[]), .iface 115 (.agg #[])]) (.int .i64 1)).run Tryd.prog W = .ok (.iface 80 (.agg #[])) W := by kernel_rfl
theorem idx_2 (W : World) : (Instr.index 116 (.agg #[.iface 78 (.agg #[]), .iface 80 (.agg #[]), .iface 115 (.agg #[])]) (.int .i64 2)).run Tryd.prog W = .ok (.iface 115 (.agg #[])) W := by kernel_rfl
theorem ne_b {b c : UInt8} (h : ¬ b = c) : ((c.toNat : Int) == (b.toNat : Int)) = false := by
  simp
  intro e
  exact h (UInt8.toNat_inj.1 (by omega))
set_option maxHeartbeats 1600000 in
theorem imko_any (b : UInt8) (w : World) :
    Calls Tryd.prog 52 #[.int .u8 (b.toNat : Int)] w fun e w' => e = .returned (markV b) ∧ Below w.heap.size w w' := by
  have hi0 := idx_0
  have hi1 := idx_1
  have hi2 := idx_2
  have hmW := mth_W
  have hmB := mth_B
  have hmR := mth_R
  have HB0 : Hid (Below w.heap.size w w) := Lib.hid (Below.refl _ _)
  by_cases h46 : b = 46
  · have HF : Hid (markV b = mW) := Lib.hid (by unfold markV; rw [if_pos h46])
    have hq : ((46 : Int) == (b.toNat : Int)) = true := by simp [h46]
    clear h46
    go_enter Tryd.func52, Tryd.ntmps52
    go_wp2
    go_loopw [12] (fun i wr => i = .int .i64 0 ∧ w = wr) (fun _ _ => 0)
    case atStart => exact ⟨rfl, rfl⟩
    case round =>
      obtain ⟨rfl, rfl⟩ := hrel
      go_wp2_with (go_at_call 135; refine (signW _).mono ?_; rintro e w1 ⟨rfl, b1⟩; have HB1 := Lib.hid b1; clear b1)
      go_ret
      exact ⟨by rw [HF.out]; rfl, HB1.out⟩
  · have hn46 : ((46 : Int) == (b.toNat : Int)) = false := ne_b h46
    by_cases h35 : b = 35
    · have HF : Hid (markV b = mB) := Lib.hid (by unfold markV; rw [if_neg h46, if_pos h35])
      have hq : ((35 : Int) == (b.toNat : Int)) = true := by simp [h35]
      clear h46 h35
      go_enter Tryd.func52, Tryd.ntmps52
      go_wp2
      go_loopw [12] (fun i wr => ∃ k : Nat, k ≤ 1 ∧ i = .int .i64 k ∧ Hid (Below w.heap.size w wr)) (fun i _ => 3 - (intOf i).toNat)
      case atStart => exact ⟨0, by omega, rfl, HB0⟩
      case round =>
        obtain ⟨k, hk, rfl, HB⟩ := hrel
        rcases k with _ | _ | k
        · go_wp2_with (go_at_call 135; refine (signW _).mono ?_; rintro e w1 ⟨rfl, b1⟩; have HB1 := Lib.hid (btrans HB.out b1); clear b1)
          go_roundw
          case rel => exact ⟨1, by omega, rfl, HB1⟩
          case measure => simp [intOf]
        · go_wp2_with (go_at_call 136; refine (signB _).mono ?_; rintro e w1 ⟨rfl, b1⟩; have HB1 := Lib.hid (btrans HB.out b1); clear b1)
          go_ret
          exact ⟨by rw [HF.out]; rfl, HB1.out⟩
        · omega
    · have hn35 : ((35 : Int) == (b.toNat : Int)) = false := ne_b h35
      by_cases h47 : b = 47
      · have HF : Hid (markV b = mR) := Lib.hid (by unfold markV; rw [if_neg h46, if_neg h35, if_pos h47])
        have hq : ((47 : Int) == (b.toNat : Int)) = true := by simp [h47]
        clear h46 h35 h47
        go_enter Tryd.func52, Tryd.ntmps52
        go_wp2
        go_loopw [12] (fun i wr => ∃ k : Nat, k ≤ 2 ∧ i = .int .i64 k ∧ Hid (Below w.heap.size w wr)) (fun i _ => 3 - (intOf i).toNat)
        case atStart => exact ⟨0, by omega, rfl, HB0⟩
        case round =>
          obtain ⟨k, hk, rfl, HB⟩ := hrel
          rcases k with _ | _ | _ | k
          · go_wp2_with (go_at_call 135; refine (signW _).mono ?_; rintro e w1 ⟨rfl, b1⟩; have HB1 := Lib.hid (btrans HB.out b1); clear b1)
            go_roundw
            case rel => exact ⟨1, by omega, rfl, HB1⟩
            case measure => simp [intOf]
          · go_wp2_with (go_at_call 136; refine (signB _).mono ?_; rintro e w1 ⟨rfl, b1⟩; have HB1 := Lib.hid (btrans HB.out b1); clear b1)
            go_roundw
            case rel => exact ⟨2, by omega, rfl, HB1⟩
            case measure => simp [intOf]
          · go_wp2_with (go_at_call 141; refine (signR _).mono ?_; rintro e w1 ⟨rfl, b1⟩; have HB1 := Lib.hid (btrans HB.out b1); clear b1)
            go_ret
            exact ⟨by rw [HF.out]; rfl, HB1.out⟩
          · omega
      · have hn47 : ((47 : Int) == (b.toNat : Int)) = false := ne_b h47
        have HF : Hid (markV b = .nilIface) := Lib.hid (by unfold markV; rw [if_neg h46, if_neg h35, if_neg h47])
        clear h46 h35 h47
        go_enter Tryd.func52, Tryd.ntmps52
        go_wp2
        go_loopw [12] (fun i wr => ∃ k : Nat, k ≤ 3 ∧ i = .int .i64 k ∧ Hid (Below w.heap.size w wr)) (fun i _ => 3 - (intOf i).toNat)
        case atStart => exact ⟨0, by omega, rfl, HB0⟩
        case round =>
          obtain ⟨k, hk, rfl, HB⟩ := hrel
          rcases k with _ | _ | _ | _ | k
          · go_wp2_with (go_at_call 135; refine (signW _).mono ?_; rintro e w1 ⟨rfl, b1⟩; have HB1 := Lib.hid (btrans HB.out b1); clear b1)
            go_roundw
            case rel => exact ⟨1, by omega, rfl, HB1⟩
            case measure => simp [intOf]
          · go_wp2_with (go_at_call 136; refine (signB _).mono ?_; rintro e w1 ⟨rfl, b1⟩; have HB1 := Lib.hid (btrans HB.out b1); clear b1)
            go_roundw
            case rel => exact ⟨2, by omega, rfl, HB1⟩
            case measure => simp [intOf]
          · go_wp2_with (go_at_call 141; refine (signR _).mono ?_; rintro e w1 ⟨rfl, b1⟩; have HB1 := Lib.hid (btrans HB.out b1); clear b1)
            go_roundw
            case rel => exact ⟨3, by omega, rfl, HB1⟩
            case measure => simp [intOf]
          · go_wp2
            go_ret
            exact ⟨by rw [HF.out]; rfl, HB.out⟩
          · omega
end Go.Proofs.YtgpplfhbgkcjhaaDoor
