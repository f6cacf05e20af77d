/-
  The program's contracts of chapter 7, first part: Reverse64, the sets of bits, the marks.
  The program's contracts of chapter 7, second part: the board of a grid, IsGrid.
  The program's contracts of chapter 7, third part: a board's cells, its half turn, its grid.   The program's contracts of chapter 7, fourth part: the grid of a board.   The program's contracts of chapter 7, fifth part: IsGrid, IsWhite, TurnGrid, IsSymmetric.
-/
import Derived.Test.YtmhgejljjjmejaaDoorGridB
import Derived.Test.YtmhgejljjjmejaaDoorKit
import Derived.Test.YtmhgejljjjmejaaDoorWordI
import Derived.Test.YtmhgejljjjmejaaDoorGrid
import Derived.BigQuiet
import Derived.Deep.RegionHeld3
import Derived.Deep.RegionWith
namespace Go.Proofs.YtmhgejljjjmejaaDoor
open Go.RowKit

set_option maxRecDepth 100000 in
set_option maxHeartbeats 1600000 in
theorem revb_any (y : Int) (x : Nat) (hy : y = (x : Int)) (hx : x < 18446744073709551616) (w : World) :
    Calls Tryd.prog 57 #[.int .u64 y] w fun e w' => e = .returned (.int .u64 ((revB x : Nat) : Int)) ∧ w = w' := by
  rw [← revB_eq x hx, ← hy]
  clear hy hx
  go_enter Tryd.func57, Tryd.ntmps57
  go_wp2
  go_ret
  exact ⟨rfl, rfl⟩
set_option maxRecDepth 100000 in
set_option maxHeartbeats 1600000 in
theorem rev_any (x : Nat) (hx : x < 18446744073709551616) (w : World) :
    Calls Tryd.prog 46 #[.int .u64 (x : Int)] w fun e w' => e = .returned (.int .u64 ((revN x : Nat) : Int)) ∧ w = w' := by
  have HX := Lib.hid (revA_eq x hx)
  clear hx
  go_enter Tryd.func46, Tryd.ntmps46
  go_wp2_with (go_at_call 57; refine (revb_any _ (revA x) HX.out (revA_lt x) _).mono ?_; rintro e w1 ⟨rfl, rfl⟩)
  go_ret
  exact ⟨rfl, rfl⟩
theorem withJ_any (S k : Nat) (hS : S < 18446744073709551616) (hk : k < 64) (w : World) :
    Calls Tryd.prog 33 #[.int .u64 (S : Int), .int .i64 (k : Int)] w fun e w' => e = .returned (.int .u64 ((S ||| 2 ^ k : Nat) : Int)) ∧ w = w' := by
  have h2 : 2 ^ k < 18446744073709551616 := Nat.lt_of_le_of_lt (Nat.pow_le_pow_right (by omega) (show k ≤ 63 by omega)) (by decide)
  have hw : IntKind.u64.wrap (2 ^ k) = ((2 ^ k : Nat) : Int) := by
    rw [show ((2 : Int) ^ k) = ((2 ^ k : Nat) : Int) by simp, IntKind.wrap_u64]
    generalize 2 ^ k = X at h2 ⊢
    omega
  rw [← bits_or_u64_nat S (2 ^ k) hS h2, ← hw]
  clear hw h2 hS
  go_enter Tryd.func33, Tryd.ntmps33
  go_wp2
  go_ret
  exact ⟨rfl, rfl⟩
theorem has_any (S k : Nat) (hS : S < 18446744073709551616) (hk : k < 64) (w : World) :
    Calls Tryd.prog 44 #[.int .u64 (S : Int), .int .i64 (k : Int)] w fun e w' => e = .returned (.bool (S.testBit k)) ∧ w = w' := by
  have hb : (bits .and .u64 ((S : Int) / 2 ^ k) 1 == 1) = S.testBit k := by
    have hd : S / 2 ^ k < 18446744073709551616 := Nat.lt_of_le_of_lt (Nat.div_le_self _ _) hS
    rw [show (S : Int) / 2 ^ k = ((S / 2 ^ k : Nat) : Int) by simp, show (1 : Int) = ((1 : Nat) : Int) by rfl, bits_and_u64_nat _ 1 hd (by decide), Nat.and_one_is_mod, Nat.testBit_eq_decide_div_mod_eq]
    generalize S / 2 ^ k % 2 = X
    by_cases e : X = 1
    · rw [e]; rfl
    · rw [decide_eq_false e]; exact beq_eq_false_iff_ne.2 (by omega)
  rw [← hb]
  clear hb hS
  go_enter Tryd.func44, Tryd.ntmps44
  go_wp2
  go_ret
  exact ⟨rfl, rfl⟩
theorem size_any (r c : Int) (S : Int) (hw : IntKind.i64.wrap (r * c) = r * c) (w : World) :
    Calls Tryd.prog 43 #[.agg #[.int .i64 r, .int .i64 c, .int .u64 S]] w fun e w' => e = .returned (.int .i64 (r * c)) ∧ Below w.heap.size w w' := by
  go_enter Tryd.func43, Tryd.ntmps43
  go_wp2
  go_ret
  exact ⟨rfl, (Below.refl _ _).alloc (Nat.le_refl _) _⟩
theorem signW (w : World) :
    Calls Tryd.prog 99 #[.agg #[]] w fun e w' => e = .returned (.int .u8 46) ∧ Below w.heap.size w w' := by
  go_enter Tryd.func99, Tryd.ntmps99
  go_wp2
  go_ret
  exact ⟨rfl, (Below.refl _ _).alloc (Nat.le_refl _) _⟩
theorem signB (w : World) :
    Calls Tryd.prog 100 #[.agg #[]] w fun e w' => e = .returned (.int .u8 35) ∧ Below w.heap.size w w' := by
  go_enter Tryd.func100, Tryd.ntmps100
  go_wp2
  go_ret
  exact ⟨rfl, (Below.refl _ _).alloc (Nat.le_refl _) _⟩
theorem signR (w : World) :
    Calls Tryd.prog 101 #[.agg #[]] w fun e w' => e = .returned (.int .u8 47) ∧ Below w.heap.size w w' := by
  go_enter Tryd.func101, Tryd.ntmps101
  go_wp2
  go_ret
  exact ⟨rfl, (Below.refl _ _).alloc (Nat.le_refl _) _⟩
/-- The three marks. -/
def mW : Value := .iface 63 (.agg #[])
def mB : Value := .iface 65 (.agg #[])
def mR : Value := .iface 95 (.agg #[])
/-- What markOf answers. -/
def markV (b : UInt8) : Value := if b = 46 then mW else if b = 35 then mB else if b = 47 then mR else .nilIface
/-- Which method a mark's sign is (the number of the program's types and 'Made.depth'). -/
theorem mth_W (w : World) : (method 244 63 (.agg #[]) "loop.example/g03003/impl.sign").run Tryd.prog w = .ok (99, .agg #[]) w := by kernel_rfl
theorem mth_B (w : World) : (method 244 65 (.agg #[]) "loop.example/g03003/impl.sign").run Tryd.prog w = .ok (100, .agg #[]) w := by kernel_rfl
theorem mth_R (w : World) : (method 244 95 (.agg #[]) "loop.example/g03003/impl.sign").run Tryd.prog w = .ok (101, .agg #[]) w := by kernel_rfl
def mks : Value := .agg #[.iface 63 (.agg #[]), .iface 65 (.agg #[]), .iface 95 (.agg #[])]
theorem idx_0 (W : World) : (Instr.index 96 (.agg #[.iface 63 (.agg #[]), .iface 65 (.agg #[]), .iface 95 (.agg #[])]) (.int .i64 0)).run Tryd.prog W = .ok (.iface 63 (.agg #[])) W := by kernel_rfl
theorem idx_1 (W : World) : (Instr.index 96 (.agg #[.iface 63 (.agg #[]), .iface 65 (.agg #[]), .iface 95 (.agg #[])]) (.int .i64 1)).run Tryd.prog W = .ok (.iface 65 (.agg #[])) W := by kernel_rfl
theorem idx_2 (W : World) : (Instr.index 96 (.agg #[.iface 63 (.agg #[]), .iface 65 (.agg #[]), .iface 95 (.agg #[])]) (.int .i64 2)).run Tryd.prog W = .ok (.iface 95 (.agg #[])) W := by kernel_rfl
theorem ne_b {b c : UInt8} (h : ¬ b = c) : ((c.toNat : Int) == (b.toNat : Int)) = false := by
  simp
  intro e
  exact h (UInt8.toNat_inj.1 (by omega))
set_option maxHeartbeats 1600000 in
theorem imko_any (b : UInt8) (w : World) :
    Calls Tryd.prog 32 #[.int .u8 (b.toNat : Int)] w fun e w' => e = .returned (markV b) ∧ Below w.heap.size w w' := by
  have hi0 := idx_0
  have hi1 := idx_1
  have hi2 := idx_2
  have hmW := mth_W
  have hmB := mth_B
  have hmR := mth_R
  have HB0 : Hid (Below w.heap.size w w) := Lib.hid (Below.refl _ _)
  by_cases h46 : b = 46
  · have HF : Hid (markV b = mW) := Lib.hid (by unfold markV; rw [if_pos h46])
    have hq : ((46 : Int) == (b.toNat : Int)) = true := by simp [h46]
    clear h46
    go_enter Tryd.func32, Tryd.ntmps32
    go_wp2
    go_loopw [12] (fun i wr => i = .int .i64 0 ∧ w = wr) (fun _ _ => 0)
    case atStart => exact ⟨rfl, rfl⟩
    case round =>
      obtain ⟨rfl, rfl⟩ := hrel
      go_wp2_with (go_at_call 99; refine (signW _).mono ?_; rintro e w1 ⟨rfl, b1⟩; have HB1 := Lib.hid b1; clear b1)
      go_ret
      exact ⟨by rw [HF.out]; rfl, HB1.out⟩
  · have hn46 : ((46 : Int) == (b.toNat : Int)) = false := ne_b h46
    by_cases h35 : b = 35
    · have HF : Hid (markV b = mB) := Lib.hid (by unfold markV; rw [if_neg h46, if_pos h35])
      have hq : ((35 : Int) == (b.toNat : Int)) = true := by simp [h35]
      clear h46 h35
      go_enter Tryd.func32, Tryd.ntmps32
      go_wp2
      go_loopw [12] (fun i wr => ∃ k : Nat, k ≤ 1 ∧ i = .int .i64 k ∧ Hid (Below w.heap.size w wr)) (fun i _ => 3 - (intOf i).toNat)
      case atStart => exact ⟨0, by omega, rfl, HB0⟩
      case round =>
        obtain ⟨k, hk, rfl, HB⟩ := hrel
        rcases k with _ | _ | k
        · go_wp2_with (go_at_call 99; refine (signW _).mono ?_; rintro e w1 ⟨rfl, b1⟩; have HB1 := Lib.hid (btrans HB.out b1); clear b1)
          go_roundw
          case rel => exact ⟨1, by omega, rfl, HB1⟩
          case measure => simp [intOf]
        · go_wp2_with (go_at_call 100; refine (signB _).mono ?_; rintro e w1 ⟨rfl, b1⟩; have HB1 := Lib.hid (btrans HB.out b1); clear b1)
          go_ret
          exact ⟨by rw [HF.out]; rfl, HB1.out⟩
        · omega
    · have hn35 : ((35 : Int) == (b.toNat : Int)) = false := ne_b h35
      by_cases h47 : b = 47
      · have HF : Hid (markV b = mR) := Lib.hid (by unfold markV; rw [if_neg h46, if_neg h35, if_pos h47])
        have hq : ((47 : Int) == (b.toNat : Int)) = true := by simp [h47]
        clear h46 h35 h47
        go_enter Tryd.func32, Tryd.ntmps32
        go_wp2
        go_loopw [12] (fun i wr => ∃ k : Nat, k ≤ 2 ∧ i = .int .i64 k ∧ Hid (Below w.heap.size w wr)) (fun i _ => 3 - (intOf i).toNat)
        case atStart => exact ⟨0, by omega, rfl, HB0⟩
        case round =>
          obtain ⟨k, hk, rfl, HB⟩ := hrel
          rcases k with _ | _ | _ | k
          · go_wp2_with (go_at_call 99; refine (signW _).mono ?_; rintro e w1 ⟨rfl, b1⟩; have HB1 := Lib.hid (btrans HB.out b1); clear b1)
            go_roundw
            case rel => exact ⟨1, by omega, rfl, HB1⟩
            case measure => simp [intOf]
          · go_wp2_with (go_at_call 100; refine (signB _).mono ?_; rintro e w1 ⟨rfl, b1⟩; have HB1 := Lib.hid (btrans HB.out b1); clear b1)
            go_roundw
            case rel => exact ⟨2, by omega, rfl, HB1⟩
            case measure => simp [intOf]
          · go_wp2_with (go_at_call 101; refine (signR _).mono ?_; rintro e w1 ⟨rfl, b1⟩; have HB1 := Lib.hid (btrans HB.out b1); clear b1)
            go_ret
            exact ⟨by rw [HF.out]; rfl, HB1.out⟩
          · omega
      · have hn47 : ((47 : Int) == (b.toNat : Int)) = false := ne_b h47
        have HF : Hid (markV b = .nilIface) := Lib.hid (by unfold markV; rw [if_neg h46, if_neg h35, if_neg h47])
        clear h46 h35 h47
        go_enter Tryd.func32, Tryd.ntmps32
        go_wp2
        go_loopw [12] (fun i wr => ∃ k : Nat, k ≤ 3 ∧ i = .int .i64 k ∧ Hid (Below w.heap.size w wr)) (fun i _ => 3 - (intOf i).toNat)
        case atStart => exact ⟨0, by omega, rfl, HB0⟩
        case round =>
          obtain ⟨k, hk, rfl, HB⟩ := hrel
          rcases k with _ | _ | _ | _ | k
          · go_wp2_with (go_at_call 99; refine (signW _).mono ?_; rintro e w1 ⟨rfl, b1⟩; have HB1 := Lib.hid (btrans HB.out b1); clear b1)
            go_roundw
            case rel => exact ⟨1, by omega, rfl, HB1⟩
            case measure => simp [intOf]
          · go_wp2_with (go_at_call 100; refine (signB _).mono ?_; rintro e w1 ⟨rfl, b1⟩; have HB1 := Lib.hid (btrans HB.out b1); clear b1)
            go_roundw
            case rel => exact ⟨2, by omega, rfl, HB1⟩
            case measure => simp [intOf]
          · go_wp2_with (go_at_call 101; refine (signR _).mono ?_; rintro e w1 ⟨rfl, b1⟩; have HB1 := Lib.hid (btrans HB.out b1); clear b1)
            go_roundw
            case rel => exact ⟨3, by omega, rfl, HB1⟩
            case measure => simp [intOf]
          · go_wp2
            go_ret
            exact ⟨by rw [HF.out]; rfl, HB.out⟩
          · omega
end Go.Proofs.YtmhgejljjjmejaaDoor
namespace Go.Proofs.YtmhgejljjjmejaaDoor
open Go.RowKit

/-- '[]byte(s)' in whatever world: the answer and the world behind it as functions of the world. -/
theorem conv_fun (s : ByteArray) (h : s.size ≤ 1048576) : ∃ F : World → Nat × World, ∀ w, (convert 9 22 (.string s)).run Tryd.prog w = .ok (.slice (some ⟨w.heap.size, 0, none⟩) s.size (F w).1) (F w).2 ∧ s.size ≤ (F w).1 ∧ (F w).1 ≤ 9223372036854775807 ∧ Below w.heap.size w (F w).2 ∧ w.heap.size + 1 = (F w).2.heap.size ∧ ∀ k (hk : k < s.size), (F w).2.cell? ⟨w.heap.size, k, none⟩ = some (.int .u8 s[k].toNat) := by
  refine ⟨fun w => ((conv_str s w h).choose, (conv_str s w h).choose_spec.choose), fun w => ?_⟩
  exact (conv_str s w h).choose_spec.choose_spec

/-- What boardOf answers. -/
def brd (g : Int × Int × ByteArray) : Int × Int × Nat := if isG g = true then (g.1, g.2.1, wT g.2.2 g.2.2.size) else (0, 0, 0)
def brdV (b : Int × Int × Nat) : Value := .agg #[.int .i64 b.1, .int .i64 b.2.1, .int .u64 (b.2.2 : Int)]
theorem markV_white {b : UInt8} (h : b = 46) : markV b = .iface 63 (.agg #[]) := by unfold markV; rw [if_pos h]; rfl
theorem markV_black {b : UInt8} (h : b = 35) : markV b = .iface 65 (.agg #[]) := by subst h; rfl
theorem is_WW (v : Value) (w : World) : (Instr.typeAssert (.iface 63 v) 60 63 true).run Tryd.prog w = .ok (.tuple #[v, .bool true]) w := by kernel_rfl
theorem is_WB (v : Value) (w : World) : (Instr.typeAssert (.iface 65 v) 60 63 true).run Tryd.prog w = .ok (.tuple #[.agg #[], .bool false]) w := by kernel_rfl
theorem is_WR (v : Value) (w : World) : (Instr.typeAssert (.iface 95 v) 60 63 true).run Tryd.prog w = .ok (.tuple #[.agg #[], .bool false]) w := by kernel_rfl
theorem is_WN (w : World) : (Instr.typeAssert .nilIface 60 63 true).run Tryd.prog w = .ok (.tuple #[.agg #[], .bool false]) w := by kernel_rfl
theorem is_BB (v : Value) (w : World) : (Instr.typeAssert (.iface 65 v) 60 65 true).run Tryd.prog w = .ok (.tuple #[v, .bool true]) w := by kernel_rfl
theorem is_BW (v : Value) (w : World) : (Instr.typeAssert (.iface 63 v) 60 65 true).run Tryd.prog w = .ok (.tuple #[.agg #[], .bool false]) w := by kernel_rfl
theorem is_BR (v : Value) (w : World) : (Instr.typeAssert (.iface 95 v) 60 65 true).run Tryd.prog w = .ok (.tuple #[.agg #[], .bool false]) w := by kernel_rfl
theorem is_BN (w : World) : (Instr.typeAssert .nilIface 60 65 true).run Tryd.prog w = .ok (.tuple #[.agg #[], .bool false]) w := by kernel_rfl
theorem is_RR (v : Value) (w : World) : (Instr.typeAssert (.iface 95 v) 60 95 true).run Tryd.prog w = .ok (.tuple #[v, .bool true]) w := by kernel_rfl
theorem is_RW (v : Value) (w : World) : (Instr.typeAssert (.iface 63 v) 60 95 true).run Tryd.prog w = .ok (.tuple #[.agg #[], .bool false]) w := by kernel_rfl
theorem is_RB (v : Value) (w : World) : (Instr.typeAssert (.iface 65 v) 60 95 true).run Tryd.prog w = .ok (.tuple #[.agg #[], .bool false]) w := by kernel_rfl
theorem is_RN (w : World) : (Instr.typeAssert .nilIface 60 95 true).run Tryd.prog w = .ok (.tuple #[.agg #[], .bool false]) w := by kernel_rfl
/-- The mark of a byte that is no cell. -/
theorem markV_other {b : UInt8} (h : ¬ (b = 35 ∨ b = 46)) : markV b = mR ∨ markV b = .nilIface := by
  unfold markV
  rw [if_neg (fun e => h (Or.inr e)), if_neg (fun e => h (Or.inl e))]
  split
  · exact Or.inl rfl
  · exact Or.inr rfl

theorem keep_bytes {w w' : World} {B : Nat} {s : ByteArray} (h : ∀ j (hj : j < s.size), w.cell? ⟨B, j, none⟩ = some (.int .u8 s[j].toNat)) (hb : Below w.heap.size w w') : ∀ j (hj : j < s.size), w'.cell? ⟨B, j, none⟩ = some (.int .u8 s[j].toNat) :=
  fun j hj => (hb.cell (p := ⟨B, j, none⟩) (World.block_lt_of_cell? _ _ (h j hj))).trans (h j hj)
theorem cell_set_other (w : World) (p : Addr) (v : Value) (q : Addr) (h : q.block ≠ p.block) : (w.setCell p v).cell? q = w.cell? q := by
  unfold World.cell?
  rw [Below.heap_setCell w p v q.block h]
set_option maxHeartbeats 1600000 in
theorem ibo_any (r c : Int) (s : ByteArray) (hs : s.size ≤ 4194304) (w : World) :
    Calls Tryd.prog 17 #[.agg #[.int .i64 r, .int .i64 c, .string s]] w fun e w' => e = .returned (.tuple #[brdV (brd (r, c, s)), .bool (isG (r, c, s))]) ∧ Below w.heap.size w w' := by
  have HBX := Lib.hid (box33 (Below.refl _ ((w.alloc (.cells #[.int .i64 r, .int .i64 c, .string s] 25)).alloc (.cells #[.int .i64 0, .int .i64 0, .int .u64 0] 43))))
  have HNO : Hid (isG (r, c, s) = false → brd (r, c, s) = (0, 0, 0)) := Lib.hid (fun h => by unfold brd; rw [h]; rfl)
  go_enter Tryd.func17, Tryd.ntmps17
  go_wp2_with fail
  obtain ⟨W1, hW1⟩ : ∃ W1, W1 = (w.alloc (.cells #[.int .i64 r, .int .i64 c, .string s] 25)).alloc (.cells #[.int .i64 0, .int .i64 0, .int .u64 0] 43) := ⟨_, rfl⟩
  rw [← hW1] at HBX ⊢
  clear hW1
  have HA := Lib.hid HBX.out.1
  have HR := Lib.hid HBX.out.2.1
  have HB := Lib.hid HBX.out.2.2
  clear HBX
  obtain ⟨a0, a1, a2, fa0, fa1, fa2⟩ := cells3 HA.out
  obtain ⟨z0, z1, z2, y0, y1, y2⟩ := cells3 HR.out
  by_cases hr : 2 ≤ r ∧ r ≤ 6
  · by_cases hc : 2 ≤ c ∧ c ≤ 6
    · obtain ⟨hr1, hr2⟩ := hr
      obtain ⟨hc1, hc2⟩ := hc
      obtain ⟨hp1, hp2⟩ := prod_in hr1 hr2 hc1 hc2
      by_cases hz : (s.size : Int) = r * c
      · have hn : ((s.size : Int) != r * c) = false := by simp; omega
        have HZ := Lib.hid hz
        have hs36 : s.size ≤ 36 := by omega
        clear hz
        have FL := Lib.hid trivial
        obtain ⟨F, hF⟩ := conv_fun s (by omega)
        have hconv := fun w => (hF w).1
        have HFH := Lib.hid hF
        clear hF
        have hA2 := ((Below.refl W1.heap.size W1).alloc (Nat.le_refl _) (.cells #[.int .i64 r, .int .i64 c, .int .u64 0] 43)).block w.heap.size (size_of_heap HA.out)
        obtain ⟨x0, x1, x2, fx0, fx1, fx2⟩ := cells3 (hA2.trans HA.out)
        clear hA2
        go_wp2_with (first | (go_at_call 31; have FG := FL; refine (inr_yes r _ _ (by omega) (by omega) _).mono ?_; rintro e w1 ⟨rfl, rfl⟩; clear FL FG) | (go_at_call 31; refine (inr_yes c _ _ (by omega) (by omega) _).mono ?_; rintro e w1 ⟨rfl, rfl⟩))
        have hq := HFH.out (W1.alloc (.cells #[.int .i64 r, .int .i64 c, .int .u64 0] 43))
        obtain ⟨W4, hW4⟩ : ∃ W4, W4 = (F (W1.alloc (.cells #[.int .i64 r, .int .i64 c, .int .u64 0] 43))).2 := ⟨_, rfl⟩
        rw [← hW4] at hq ⊢
        clear hW4 hconv
        obtain ⟨B, hBe⟩ : ∃ B, B = W1.heap.size := ⟨_, rfl⟩
        obtain ⟨-, -, -, hq4, hq5, hq6⟩ := hq
        rw [World.size_alloc, ← hBe] at hq4 hq6
        have HC := Lib.hid hq6
        have HR4 := Lib.hid ((hq4.block (w.heap.size + 1) (by have := size_of_heap HR.out; omega)).trans ((((Below.refl W1.heap.size W1).alloc (Nat.le_refl _) (.cells #[.int .i64 r, .int .i64 c, .int .u64 0] 43)).block (w.heap.size + 1) (size_of_heap HR.out)).trans HR.out))
        have hnb := new_block W1 (.cells #[.int .i64 r, .int .i64 c, .int .u64 0] 43)
        rw [← hBe] at hnb
        have HP4 := Lib.hid ((hq4.block B (by omega)).trans hnb)
        have HB4 := Lib.hid ((HB.out.alloc HB.out.size (.cells #[.int .i64 r, .int .i64 c, .int .u64 0] 43)).trans (hq4.mono (by have := HB.out.size; omega)))
        have hwB : w.heap.size + 1 < B := by have := size_of_heap HR.out; omega
        rw [← hBe]
        clear hBe hq4 hq5 hq6 HR HB x0 x1 x2 fx0 fx1 fx2 a0 a1 a2 fa0 fa1 fa2 z0 z1 z2 y0 y1 y2 HA
        go_loopw [39] (fun i wr => ∃ k : Nat, k ≤ s.size ∧ i = .int .i64 k ∧ Hid (∀ b ∈ s.data.toList.take k, b = 35 ∨ b = 46) ∧ Hid (wr.heap[w.heap.size + 1]? = some (.cells #[.int .i64 0, .int .i64 0, .int .u64 0] 43)) ∧ Hid (wr.heap[B]? = some (.cells #[.int .i64 r, .int .i64 c, .int .u64 ((wT s k : Nat) : Int)] 43)) ∧ Hid (∀ j (hj : j < s.size), wr.cell? ⟨B + 1, j, none⟩ = some (.int .u8 s[j].toNat)) ∧ Hid (Below w.heap.size w wr)) (fun i _ => s.size - (intOf i).toNat)
        case atStart => exact ⟨0, Nat.zero_le _, rfl, Lib.hid (by simp), HR4, HP4, HC, HB4⟩
        case round =>
          obtain ⟨k, hk, rfl, HL, HR, HP, HC, HB⟩ := hrel
          by_cases hlt : k < s.size
          · have hc0 := HC.out k hlt
            have h255 : s[k].toNat ≤ 255 := by have := s[k].toNat_lt; omega
            have HGD := Lib.hid (getD_byte s k hlt)
            obtain ⟨T, hT⟩ : ∃ T, T = wT s k := ⟨_, rfl⟩
            have hTl : T < 18446744073709551616 := by rw [hT]; exact Nat.lt_trans (wT_lt s k (by omega)) (by decide)
            by_cases hb : s[k] = 35 ∨ s[k] = 46
            · have HL2 : Hid (∀ b ∈ s.data.toList.take (k + 1), b = 35 ∨ b = 46) := Lib.hid (fun b hb2 => by
                rw [take_snoc s k hlt] at hb2
                rcases List.mem_append.1 hb2 with h | h
                · exact HL.out b h
                · simp only [List.mem_singleton] at h; subst h; exact hb)
              rcases hb with h35 | h46
              · have HN : Hid (wT s (k + 1) = T) := Lib.hid (by rw [hT]; exact wT_no s k (by rw [HGD.out, h35]; decide))
                have HMK := Lib.hid (fun w => imko_any s[k] w)
                rw [markV_black h35] at HMK
                rw [← hT] at HP
                have ia := is_WB
                have ib := is_BB
                clear h35 hT
                go_wp2_with (go_at_call 32; refine (HMK.out _).mono ?_; rintro e w2 ⟨rfl, b2⟩; have HP2 := Lib.hid ((b2.block B (size_of_heap HP.out)).trans HP.out); have HR2 := Lib.hid ((b2.block (w.heap.size + 1) (size_of_heap HR.out)).trans HR.out); have HC2 := Lib.hid (keep_bytes HC.out b2); have HB2 := Lib.hid (HB.out.trans (b2.mono HB.out.size)); obtain ⟨p0, p1, p2, q0, q1, q2⟩ := cells3 HP2.out; obtain ⟨z0, z1, z2, y0, y1, y2⟩ := cells3 HR2.out; clear b2)
                go_roundw
                case rel => exact ⟨k + 1, by omega, by go_num, HL2, HR2, by rw [HN.out]; exact HP2, HC2, HB2⟩
                case measure => simp [intOf]; omega
              · have HN : Hid (wT s (k + 1) = T ||| 2 ^ k) := Lib.hid (by rw [hT]; exact wT_yes s k (by rw [HGD.out, h46]))
                have HMK := Lib.hid (fun w => imko_any s[k] w)
                rw [markV_white h46] at HMK
                rw [← hT] at HP
                have ia := is_WW
                clear h46 hT
                go_wp2_with (first | (go_at_call 32; refine (HMK.out _).mono ?_; rintro e w2 ⟨rfl, b2⟩; have HP2 := Lib.hid ((b2.block B (size_of_heap HP.out)).trans HP.out); have HR2 := Lib.hid ((b2.block (w.heap.size + 1) (size_of_heap HR.out)).trans HR.out); have HC2 := Lib.hid (keep_bytes HC.out b2); have HB2 := Lib.hid (HB.out.trans (b2.mono HB.out.size)); obtain ⟨p0, p1, p2, q0, q1, q2⟩ := cells3 HP2.out; obtain ⟨z0, z1, z2, y0, y1, y2⟩ := cells3 HR2.out; clear b2) | (go_at_call 33; refine (withJ_any T k hTl (by omega) _).mono ?_; rintro e w3 ⟨rfl, rfl⟩; rw [← HN.out]))
                go_roundw
                case rel => exact ⟨k + 1, by omega, by go_num, HL2, Lib.hid ((Below.heap_setCell _ _ _ _ (by simp; omega)).trans HR2.out), Lib.hid (by have h9 := Joins.block_setCell (i := 2) HP2.out (.int .u64 ((wT s (k + 1) : Nat) : Int)); exact h9), Lib.hid (fun j hj => (cell_set_other _ _ _ _ (by show B + 1 ≠ B; omega)).trans (HC2.out j hj)), Lib.hid (HB2.out.setCell (p := ⟨B, 2, none⟩) (by simp; omega) _)⟩
                case measure => simp [intOf]; omega
            · have HF := Lib.hid (isG_not (r := r) (c := c) hlt hb)
              have HN2 := Lib.hid (HNO.out HF.out)
              have HMK := Lib.hid (fun w => imko_any s[k] w)
              rcases markV_other hb with h9 | h9
              · rw [h9] at HMK
                unfold mR at HMK
                have ia := is_WR
                have ib := is_BR
                clear h9 hb
                go_wp2_with (go_at_call 32; refine (HMK.out _).mono ?_; rintro e w2 ⟨rfl, b2⟩; have HP2 := Lib.hid ((b2.block B (size_of_heap HP.out)).trans HP.out); have HR2 := Lib.hid ((b2.block (w.heap.size + 1) (size_of_heap HR.out)).trans HR.out); have HC2 := Lib.hid (keep_bytes HC.out b2); have HB2 := Lib.hid (HB.out.trans (b2.mono HB.out.size)); obtain ⟨p0, p1, p2, q0, q1, q2⟩ := cells3 HP2.out; obtain ⟨z0, z1, z2, y0, y1, y2⟩ := cells3 HR2.out; clear b2)
                exact bodyPost_ret (v := .tuple #[.agg #[.int .i64 0, .int .i64 0, .int .u64 0], .bool false]) (by simp [results, Tryd.results17, go_sem, z0, z1, z2]) rfl ⟨by rw [HF.out, HN2.out]; rfl, (((HB2.out.setCell (p := ⟨w.heap.size + 1, 0, none⟩) (by simp) _).setCell (p := ⟨w.heap.size + 1, 1, none⟩) (by simp) _).setCell (p := ⟨w.heap.size + 1, 2, none⟩) (by simp) _)⟩
              · rw [h9] at HMK
                have ia := is_WN
                have ib := is_BN
                clear h9 hb
                go_wp2_with (go_at_call 32; refine (HMK.out _).mono ?_; rintro e w2 ⟨rfl, b2⟩; have HP2 := Lib.hid ((b2.block B (size_of_heap HP.out)).trans HP.out); have HR2 := Lib.hid ((b2.block (w.heap.size + 1) (size_of_heap HR.out)).trans HR.out); have HC2 := Lib.hid (keep_bytes HC.out b2); have HB2 := Lib.hid (HB.out.trans (b2.mono HB.out.size)); obtain ⟨p0, p1, p2, q0, q1, q2⟩ := cells3 HP2.out; obtain ⟨z0, z1, z2, y0, y1, y2⟩ := cells3 HR2.out; clear b2)
                exact bodyPost_ret (v := .tuple #[.agg #[.int .i64 0, .int .i64 0, .int .u64 0], .bool false]) (by simp [results, Tryd.results17, go_sem, z0, z1, z2]) rfl ⟨by rw [HF.out, HN2.out]; rfl, (((HB2.out.setCell (p := ⟨w.heap.size + 1, 0, none⟩) (by simp) _).setCell (p := ⟨w.heap.size + 1, 1, none⟩) (by simp) _).setCell (p := ⟨w.heap.size + 1, 2, none⟩) (by simp) _)⟩
          · have hk' : k = s.size := by omega
            have HT : Hid (isG (r, c, s) = true) := Lib.hid (decide_eq_true ⟨⟨hr1, hr2⟩, ⟨hc1, hc2⟩, HZ.out, by have h9 := HL.out; rw [hk', ← size_list, List.take_length] at h9; exact h9⟩)
            have HF : Hid (brd (r, c, s) = (r, c, wT s s.size)) := Lib.hid (by unfold brd; rw [HT.out]; rfl)
            rw [hk'] at HP
            obtain ⟨p0, p1, p2, q0, q1, q2⟩ := cells3 HP.out
            obtain ⟨z0, z1, z2, y0, y1, y2⟩ := cells3 HR.out
            clear hk'
            go_wp2
            exact bodyPost_ret (v := .tuple #[.agg #[.int .i64 r, .int .i64 c, .int .u64 ((wT s s.size : Nat) : Int)], .bool true]) (by simp [results, Tryd.results17, go_sem, z0, z1, z2]) rfl ⟨by rw [HF.out, HT.out]; rfl, (((HB.out.setCell (p := ⟨w.heap.size + 1, 0, none⟩) (by simp) _).setCell (p := ⟨w.heap.size + 1, 1, none⟩) (by simp) _).setCell (p := ⟨w.heap.size + 1, 2, none⟩) (by simp) _)⟩
      · have hn : ((s.size : Int) != r * c) = true := by simpa using hz
        have HF : Hid (isG (r, c, s) = false) := Lib.hid (decide_eq_false (fun h => hz h.2.2.1))
        have HN := Lib.hid (HNO.out HF.out)
        clear hz
        have FL := Lib.hid trivial
        go_wp2_with (first | (go_at_call 31; have FG := FL; refine (inr_yes r _ _ (by omega) (by omega) _).mono ?_; rintro e w1 ⟨rfl, rfl⟩; clear FL FG) | (go_at_call 31; refine (inr_yes c _ _ (by omega) (by omega) _).mono ?_; rintro e w1 ⟨rfl, rfl⟩))
        exact bodyPost_ret (v := .tuple #[.agg #[.int .i64 0, .int .i64 0, .int .u64 0], .bool false]) (by simp [results, Tryd.results17, go_sem, z0, z1, z2]) rfl ⟨by rw [HF.out, HN.out]; rfl, (((HB.out.setCell (p := ⟨w.heap.size + 1, 0, none⟩) (by simp) _).setCell (p := ⟨w.heap.size + 1, 1, none⟩) (by simp) _).setCell (p := ⟨w.heap.size + 1, 2, none⟩) (by simp) _)⟩
    · have HF : Hid (isG (r, c, s) = false) := Lib.hid (decide_eq_false (fun h => hc h.2.1))
      have HN2 := Lib.hid (HNO.out HF.out)
      have HN := Lib.hid hc
      clear hc
      have FL := Lib.hid trivial
      go_wp2_with (first | (go_at_call 31; have FG := FL; refine (inr_yes r _ _ (by omega) (by omega) _).mono ?_; rintro e w1 ⟨rfl, rfl⟩; clear FL FG) | (go_at_call 31; refine (inr_no c _ _ HN.out _).mono ?_; rintro e w1 ⟨rfl, rfl⟩))
      exact bodyPost_ret (v := .tuple #[.agg #[.int .i64 0, .int .i64 0, .int .u64 0], .bool false]) (by simp [results, Tryd.results17, go_sem, z0, z1, z2]) rfl ⟨by rw [HF.out, HN2.out]; rfl, (((HB.out.setCell (p := ⟨w.heap.size + 1, 0, none⟩) (by simp) _).setCell (p := ⟨w.heap.size + 1, 1, none⟩) (by simp) _).setCell (p := ⟨w.heap.size + 1, 2, none⟩) (by simp) _)⟩
  · have HF : Hid (isG (r, c, s) = false) := Lib.hid (decide_eq_false (fun h => hr h.1))
    have HN2 := Lib.hid (HNO.out HF.out)
    have HN := Lib.hid hr
    clear hr
    go_wp2_with (go_at_call 31; refine (inr_no r _ _ HN.out _).mono ?_; rintro e w1 ⟨rfl, rfl⟩)
    exact bodyPost_ret (v := .tuple #[.agg #[.int .i64 0, .int .i64 0, .int .u64 0], .bool false]) (by simp [results, Tryd.results17, go_sem, z0, z1, z2]) rfl ⟨by rw [HF.out, HN2.out]; rfl, (((HB.out.setCell (p := ⟨w.heap.size + 1, 0, none⟩) (by simp) _).setCell (p := ⟨w.heap.size + 1, 1, none⟩) (by simp) _).setCell (p := ⟨w.heap.size + 1, 2, none⟩) (by simp) _)⟩
end Go.Proofs.YtmhgejljjjmejaaDoor
namespace Go.Proofs.YtmhgejljjjmejaaDoor
open Go.RowKit

theorem box1 {w w' : World} {A : Array Value} {t : TypeId} (h : Below (w.alloc (.cells A t)).heap.size (w.alloc (.cells A t)) w') : w'.heap[w.heap.size]? = some (.cells A t) ∧ Below w.heap.size w w' := by
  have hz : (w.alloc (.cells A t)).heap.size = w.heap.size + 1 := by simp
  exact ⟨(h.block w.heap.size (by omega)).trans (new_block w _), ((Below.refl _ _).alloc (Nat.le_refl _) _).trans (h.mono (by omega))⟩
theorem size_n (r c : Int) (n : Nat) (hn : r * c = (n : Int)) (h36 : n ≤ 36) (S : Int) (w : World) :
    Calls Tryd.prog 43 #[.agg #[.int .i64 r, .int .i64 c, .int .u64 S]] w fun e w' => e = .returned (.int .i64 (n : Int)) ∧ Below w.heap.size w w' := by
  rw [← hn]
  exact size_any r c S (by rw [hn]; exact IntWalk.i64_in _ (by omega)) w
/-- Whether a board has a white cell with this number. -/
def whB (n S : Nat) (k : Int) : Bool := decide (0 ≤ k ∧ k ≤ (n : Int) - 1) && S.testBit k.toNat
set_option maxHeartbeats 800000 in
theorem ibw_any (r c : Int) (n S : Nat) (hn : r * c = (n : Int)) (h36 : n ≤ 36) (hS : S < 18446744073709551616) (k : Int) (w : World) :
    Calls Tryd.prog 25 #[.agg #[.int .i64 r, .int .i64 c, .int .u64 (S : Int)], .int .i64 k] w fun e w' => e = .returned (.bool (whB n S k)) ∧ Below w.heap.size w w' := by
  have HSZ := Lib.hid (fun w => size_n r c n hn h36 (S : Int) w)
  clear hn
  by_cases hk : 0 ≤ k ∧ k ≤ (n : Int) - 1
  · obtain ⟨a, rfl⟩ : ∃ a : Nat, k = (a : Int) := ⟨k.toNat, by omega⟩
    have HF : Hid (whB n S (a : Int) = S.testBit a) := Lib.hid (by unfold whB; rw [decide_eq_true hk, Int.toNat_natCast, Bool.true_and])
    have ha : a < 64 := by omega
    go_enter Tryd.func25, Tryd.ntmps25
    go_wp2_with (first | (go_at_call 43; refine (HSZ.out _).mono ?_; rintro e w1 ⟨rfl, b1⟩; obtain ⟨hA, hB⟩ := box1 b1; have HA := Lib.hid hA; have HB := Lib.hid hB; obtain ⟨a0, a1, a2, fa0, fa1, fa2⟩ := cells3 HA.out; clear b1 hA hB) | (go_at_call 31; refine (inr_yes (a : Int) _ _ (by omega) (by omega) _).mono ?_; rintro e w2 ⟨rfl, rfl⟩) | (go_at_call 44; refine (has_any S a hS ha _).mono ?_; rintro e w3 ⟨rfl, rfl⟩))
    go_ret
    exact ⟨by rw [HF.out]; rfl, HB.out⟩
  · have HF : Hid (whB n S k = false) := Lib.hid (by unfold whB; rw [decide_eq_false hk, Bool.false_and])
    have HN := Lib.hid hk
    clear hk
    go_enter Tryd.func25, Tryd.ntmps25
    go_wp2_with (first | (go_at_call 43; refine (HSZ.out _).mono ?_; rintro e w1 ⟨rfl, b1⟩; obtain ⟨hA, hB⟩ := box1 b1; have HA := Lib.hid hA; have HB := Lib.hid hB; obtain ⟨a0, a1, a2, fa0, fa1, fa2⟩ := cells3 HA.out; clear b1 hA hB) | (go_at_call 31; refine (inr_no k _ _ HN.out _).mono ?_; rintro e w2 ⟨rfl, rfl⟩))
    go_ret
    exact ⟨by rw [HF.out]; rfl, HB.out⟩
set_option maxHeartbeats 800000 in
theorem imat_any (r c : Int) (n S : Nat) (hn : r * c = (n : Int)) (h36 : n ≤ 36) (hS : S < 18446744073709551616) (k : Nat) (hk : k < n) (w : World) :
    Calls Tryd.prog 47 #[.agg #[.int .i64 r, .int .i64 c, .int .u64 (S : Int)], .int .i64 (k : Int)] w fun e w' => e = .returned (if S.testBit k = true then mW else mB) ∧ Below w.heap.size w w' := by
  have HW := Lib.hid (fun w => ibw_any r c n S hn h36 hS (k : Int) w)
  have hw : whB n S (k : Int) = S.testBit k := by unfold whB; rw [decide_eq_true (by omega), Int.toNat_natCast, Bool.true_and]
  rw [hw] at HW
  clear hw hn
  obtain ⟨b, hb⟩ : ∃ b, b = S.testBit k := ⟨_, rfl⟩
  rw [← hb] at HW ⊢
  clear hb
  cases b with
  | true =>
    go_enter Tryd.func47, Tryd.ntmps47
    go_wp2_with (go_at_call 25; refine (HW.out _).mono ?_; rintro e w1 ⟨rfl, b1⟩; have HB := Lib.hid (box1 b1).2; clear b1)
    go_ret
    exact ⟨rfl, HB.out⟩
  | false =>
    go_enter Tryd.func47, Tryd.ntmps47
    go_wp2_with (go_at_call 25; refine (HW.out _).mono ?_; rintro e w1 ⟨rfl, b1⟩; have HB := Lib.hid (box1 b1).2; clear b1)
    go_ret
    exact ⟨rfl, HB.out⟩
set_option maxHeartbeats 1600000 in
theorem iturned_any (r c : Int) (n S : Nat) (hn : r * c = (n : Int)) (h36 : n ≤ 36) (hS : S < 18446744073709551616) (w : World) :
    Calls Tryd.prog 27 #[.agg #[.int .i64 r, .int .i64 c, .int .u64 (S : Int)]] w fun e w' => e = .returned (.agg #[.int .i64 r, .int .i64 c, .int .u64 ((revN S / 2 ^ (64 - n) : Nat) : Int)]) ∧ Below w.heap.size w w' := by
  have HSZ := Lib.hid (fun w => size_n r c n hn h36 (S : Int) w)
  have HBX := Lib.hid (box33 (Below.refl _ ((w.alloc (.cells #[.int .i64 r, .int .i64 c, .int .u64 (S : Int)] 43)).alloc (.cells #[.int .i64 0, .int .i64 0, .int .u64 0] 43))))
  clear hn
  obtain ⟨m, hm⟩ : ∃ m, m = 64 - n := ⟨_, rfl⟩
  have hm1 : (64 : Int) - (n : Int) = (m : Int) := by omega
  rw [← hm]
  have hm2 : m ≤ 64 := by omega
  have hm3 : IntKind.i64.wrap (m : Int) = (m : Int) := IntWalk.i64_in _ (by omega)
  clear hm
  have HRV := Lib.hid (fun w => rev_any S hS w)
  obtain ⟨T, hT⟩ : ∃ T, T = revN S := ⟨_, rfl⟩
  rw [← hT] at HRV ⊢
  clear hT
  rw [show ((T / 2 ^ m : Nat) : Int) = (T : Int) / 2 ^ m by simp]
  go_enter Tryd.func27, Tryd.ntmps27
  go_wp2_with fail
  obtain ⟨W1, hW1⟩ : ∃ W1, W1 = (w.alloc (.cells #[.int .i64 r, .int .i64 c, .int .u64 (S : Int)] 43)).alloc (.cells #[.int .i64 0, .int .i64 0, .int .u64 0] 43) := ⟨_, rfl⟩
  rw [← hW1] at HBX ⊢
  clear hW1
  have HA := Lib.hid HBX.out.1
  have HR := Lib.hid HBX.out.2.1
  have HB := Lib.hid HBX.out.2.2
  clear HBX
  obtain ⟨a0, a1, a2, fa0, fa1, fa2⟩ := cells3 HA.out
  obtain ⟨z0, z1, z2, y0, y1, y2⟩ := cells3 HR.out
  go_region_with (first | (go_at_call 46; refine (HRV.out _).mono ?_; rintro e w1 ⟨rfl, rfl⟩) | (go_at_call 43; refine (HSZ.out _).mono ?_; rintro e w2 ⟨rfl, b2⟩; have HA2 := Lib.hid ((b2.block w.heap.size (size_of_heap HA.out)).trans HA.out); have HR2 := Lib.hid ((b2.block (w.heap.size + 1) (size_of_heap HR.out)).trans HR.out); have HB2 := Lib.hid (HB.out.drew.trans (b2.mono HB.out.drew.size)); obtain ⟨p0, p1, p2, q0, q1, q2⟩ := cells3 HA2.out; obtain ⟨z0, z1, z2, y0, y1, y2⟩ := cells3 HR2.out; clear b2))
  all_goals go_wp2
  all_goals exact bodyPost_ret (v := .agg #[.int .i64 r, .int .i64 c, .int .u64 ((T : Int) / 2 ^ m)]) (by simp [results, Tryd.results27, go_sem, z0, z1, z2]) rfl ⟨rfl, ((((HB2.out.setCell (p := ⟨w.heap.size, 2, none⟩) (by simp) _).setCell (p := ⟨w.heap.size + 1, 0, none⟩) (by simp) _).setCell (p := ⟨w.heap.size + 1, 1, none⟩) (by simp) _).setCell (p := ⟨w.heap.size + 1, 2, none⟩) (by simp) _)⟩

end Go.Proofs.YtmhgejljjjmejaaDoor
namespace Go.Proofs.YtmhgejljjjmejaaDoor
open Go.RowKit

/-- The signs of a board's cells. -/
def sgB (n S : Nat) : List UInt8 := (List.range n).map fun i => if S.testBit i = true then 46 else 35
theorem sgB_length (n S : Nat) : (sgB n S).length = n := by simp [sgB]
theorem sgB_at (n S k : Nat) (hk : k < n) : (numsL (sgB n S)).getD k 0 = if S.testBit k = true then 46 else 35 := by
  unfold numsL sgB
  rw [List.getD_eq_getElem?_getD, List.map_map, List.getElem?_map, List.getElem?_range hk]
  simp only [Option.map_some, Option.getD_some, Function.comp]
  split <;> rfl
theorem info25 : (Tryd.prog.info? 5).map (fun i => (i.zero, i.size, i.bytes)) = some (some (.int .u8 0), 1, 1) := by kernel_rfl
set_option maxHeartbeats 1600000 in
theorem igrid_any (r c : Int) (n S : Nat) (hn : r * c = (n : Int)) (h36 : n ≤ 36) (hS : S < 18446744073709551616) (w : World) :
    Calls Tryd.prog 28 #[.agg #[.int .i64 r, .int .i64 c, .int .u64 (S : Int)]] w fun e w' => e = .returned (.agg #[.int .i64 r, .int .i64 c, .string ⟨(sgB n S).toArray⟩]) ∧ Below w.heap.size w w' := by
  have HSZ := Lib.hid (fun w => size_n r c n hn h36 (S : Int) w)
  have HMA := Lib.hid (fun k hk w => imat_any r c n S hn h36 hS k hk w)
  have HBX := Lib.hid (box33 (Below.refl _ ((w.alloc (.cells #[.int .i64 r, .int .i64 c, .int .u64 (S : Int)] 43)).alloc (.cells #[.int .i64 0, .int .i64 0, .string ⟨#[]⟩] 25))))
  obtain ⟨i0, hi, hz0, hz1, hz2⟩ := info_parts info25
  clear hn
  obtain ⟨l, hl⟩ : ∃ l, l = numsL (sgB n S) := ⟨_, rfl⟩
  have HL : Hid (l.length = n) := Lib.hid (by rw [hl, numsL_length, sgB_length])
  have HAT : Hid (∀ k, k < n → l.getD k 0 = if S.testBit k = true then 46 else 35) := Lib.hid (fun k hk => by rw [hl]; exact sgB_at n S k hk)
  have HST : Hid (strOfNums l = ⟨(sgB n S).toArray⟩) := Lib.hid (by rw [hl]; exact str_nums _)
  have HE := Lib.hid (copied_zero .u8 l)
  rw [← HST.out]
  clear hl
  go_enter Tryd.func28, Tryd.ntmps28
  go_wp2_with fail
  obtain ⟨W1, hW1⟩ : ∃ W1, W1 = (w.alloc (.cells #[.int .i64 r, .int .i64 c, .int .u64 (S : Int)] 43)).alloc (.cells #[.int .i64 0, .int .i64 0, .string ⟨#[]⟩] 25) := ⟨_, rfl⟩
  rw [← hW1] at HBX ⊢
  clear hW1
  have HA := Lib.hid HBX.out.1
  have HR := Lib.hid HBX.out.2.1
  have HB := Lib.hid HBX.out.2.2
  clear HBX
  obtain ⟨a0, a1, a2, fa0, fa1, fa2⟩ := cells3 HA.out
  go_wp2_with (first | (go_at_call 43; refine (HSZ.out _).mono ?_; rintro e w2 ⟨rfl, b2⟩; have HA2 := Lib.hid ((b2.block w.heap.size (size_of_heap HA.out)).trans HA.out); have HR2 := Lib.hid ((b2.block (w.heap.size + 1) (size_of_heap HR.out)).trans HR.out); have HB2 := Lib.hid (HB.out.trans (b2.mono HB.out.size)); clear b2) | (at_make; refine wpList_make_full _ rfl _ _ 22 rfl w2.heap.size 5 i0 (.int .u8 0) 1 Tryd.underlying22 hi hz0 hz1 .i64 .i64 _ _ n rfl rfl rfl rfl (by rw [hz2]; omega) (by unfold maxLen; omega) (Nat.le_refl _) ?_; intro w3 hown hgrow))
  have hGw : w.heap.size + 1 < w2.heap.size := size_of_heap HR2.out
  have HA3 := Lib.hid ((hgrow.block w.heap.size (by omega) (by simp)).trans HA2.out)
  have HR3 := Lib.hid ((hgrow.block (w.heap.size + 1) hGw (by simp)).trans HR2.out)
  have HB3 := Lib.hid (HB2.out.grown hgrow HB2.out.size (fun k e => by cases e))
  obtain ⟨G, hG⟩ : ∃ G, G = w2.heap.size := ⟨_, rfl⟩
  rw [← hG] at hown hGw ⊢
  clear hG a0 a1 a2 fa0 fa1 fa2 HA HR HB HA2 HR2 HB2 hgrow
  have hmW := mth_W
  have hmB := mth_B
  go_loopw [10] (fun i wr => ∃ k : Nat, k ≤ n ∧ i = .int .i64 k ∧ Hid (wr.ownsRow G 5 1 (.slice (some ⟨G, 0, none⟩) n n) n (copied .u8 l k)) ∧ Hid (wr.heap[w.heap.size]? = some (.cells #[.int .i64 r, .int .i64 c, .int .u64 (S : Int)] 43)) ∧ Hid (wr.heap[w.heap.size + 1]? = some (.cells #[.int .i64 0, .int .i64 0, .string ⟨#[]⟩] 25)) ∧ Hid (Below w.heap.size w wr)) (fun i _ => n - (intOf i).toNat)
  case atStart => exact ⟨0, Nat.zero_le _, rfl, Lib.hid (by rw [← HE.out, HL.out]; exact hown), HA3, HR3, HB3⟩
  case round =>
    obtain ⟨k, hk, rfl, HO, HA, HR, HB⟩ := hrel
    obtain ⟨a0, a1, a2, fa0, fa1, fa2⟩ := cells3 HA.out
    by_cases hlt : k < n
    · have HM := Lib.hid (HMA.out k hlt)
      have HV := Lib.hid (HAT.out k hlt)
      obtain ⟨b, hb⟩ : ∃ b, b = S.testBit k := ⟨_, rfl⟩
      rw [← hb] at HM HV
      clear hb
      cases b with
      | true =>
          have HM2 := HM
          rw [if_pos rfl] at HM
          unfold mW at HM
          clear HM2
          have HV2 : Hid (l.getD k 0 = 46) := Lib.hid (by rw [HV.out]; rfl)
          clear HV
          go_wp2_with (first | (go_at_call 47; refine (HM.out _).mono ?_; rintro e w4 ⟨rfl, b4⟩; have HA4 := Lib.hid ((b4.block w.heap.size (size_of_heap HA.out)).trans HA.out); have HR4 := Lib.hid ((b4.block (w.heap.size + 1) (size_of_heap HR.out)).trans HR.out); have HO4 := Lib.hid (own_later HO.out (Joins.below_le b4 (Nat.le_refl _))); have HB4 := Lib.hid (HB.out.trans (b4.mono HB.out.size)); clear b4) | (go_at_call 99; refine (signW _).mono ?_; rintro e w5 ⟨rfl, b5⟩; have HA5 := Lib.hid ((b5.block w.heap.size (size_of_heap HA4.out)).trans HA4.out); have HR5 := Lib.hid ((b5.block (w.heap.size + 1) (size_of_heap HR4.out)).trans HR4.out); have HO5 := Lib.hid (own_later HO4.out b5); have HB5 := Lib.hid (HB4.out.trans (b5.mono HB4.out.size)); have hc5 := (HO5.out.cellAt k (by omega)).trans (copied_at .u8 l k (by rw [HL.out]; exact hlt)); have hf5 := HO5.out.frozenAt k; clear b5))
          go_roundw
          case rel =>
            refine ⟨k + 1, by omega, by go_num, Lib.hid ?_, Lib.hid ((Below.heap_setCell _ _ _ _ (by simp; omega)).trans HA5.out), Lib.hid ((Below.heap_setCell _ _ _ _ (by simp; omega)).trans HR5.out), Lib.hid (HB5.out.setCell (p := ⟨G, k, none⟩) (by simp; omega) _)⟩
            have hst := (HO5.out.stored k (.int .u8 46)).1
            rw [← HV2.out, copied_set .u8 l k (by rw [HL.out]; exact hlt), HV2.out] at hst
            exact hst
          case measure => simp [intOf]; omega
      | false =>
          rw [if_neg (by decide)] at HM
          unfold mB at HM
          have HV2 : Hid (l.getD k 0 = 35) := Lib.hid (by rw [HV.out]; rfl)
          clear HV
          go_wp2_with (first | (go_at_call 47; refine (HM.out _).mono ?_; rintro e w4 ⟨rfl, b4⟩; have HA4 := Lib.hid ((b4.block w.heap.size (size_of_heap HA.out)).trans HA.out); have HR4 := Lib.hid ((b4.block (w.heap.size + 1) (size_of_heap HR.out)).trans HR.out); have HO4 := Lib.hid (own_later HO.out (Joins.below_le b4 (Nat.le_refl _))); have HB4 := Lib.hid (HB.out.trans (b4.mono HB.out.size)); clear b4) | (go_at_call 100; refine (signB _).mono ?_; rintro e w5 ⟨rfl, b5⟩; have HA5 := Lib.hid ((b5.block w.heap.size (size_of_heap HA4.out)).trans HA4.out); have HR5 := Lib.hid ((b5.block (w.heap.size + 1) (size_of_heap HR4.out)).trans HR4.out); have HO5 := Lib.hid (own_later HO4.out b5); have HB5 := Lib.hid (HB4.out.trans (b5.mono HB4.out.size)); have hc5 := (HO5.out.cellAt k (by omega)).trans (copied_at .u8 l k (by rw [HL.out]; exact hlt)); have hf5 := HO5.out.frozenAt k; clear b5))
          go_roundw
          case rel =>
            refine ⟨k + 1, by omega, by go_num, Lib.hid ?_, Lib.hid ((Below.heap_setCell _ _ _ _ (by simp; omega)).trans HA5.out), Lib.hid ((Below.heap_setCell _ _ _ _ (by simp; omega)).trans HR5.out), Lib.hid (HB5.out.setCell (p := ⟨G, k, none⟩) (by simp; omega) _)⟩
            have hst := (HO5.out.stored k (.int .u8 35)).1
            rw [← HV2.out, copied_set .u8 l k (by rw [HL.out]; exact hlt), HV2.out] at hst
            exact hst
          case measure => simp [intOf]; omega
    · have hk' : k = n := by omega
      have HF : Hid (wr.ownsRow G 5 1 (.slice (some ⟨G, 0, none⟩) n n) n (l.map (Value.int .u8))) := Lib.hid (by have h9 := HO.out; rw [hk'] at h9; have e9 := copied_full .u8 l; rw [HL.out] at e9; rw [e9] at h9; exact h9)
      have hconv := conv_own (reads_own HF.out HL.out.symm (by rw [HL.out]; omega))
      obtain ⟨z0, z1, z2, y0, y1, y2⟩ := cells3 HR.out
      clear hk'
      go_wp2
      exact bodyPost_ret (v := .agg #[.int .i64 r, .int .i64 c, .string (strOfNums l)]) (by simp [results, Tryd.results28, go_sem, z0, z1, z2]) rfl ⟨rfl, (((HB.out.setCell (p := ⟨w.heap.size + 1, 0, none⟩) (by simp) _).setCell (p := ⟨w.heap.size + 1, 1, none⟩) (by simp) _).setCell (p := ⟨w.heap.size + 1, 2, none⟩) (by simp) _)⟩
end Go.Proofs.YtmhgejljjjmejaaDoor
namespace Go.Proofs.YtmhgejljjjmejaaDoor
open Go.RowKit

theorem brd_fits (g : Int × Int × ByteArray) : ∃ n : Nat, (brd g).1 * (brd g).2.1 = (n : Int) ∧ n ≤ 36 ∧ (brd g).2.2 < 18446744073709551616 ∧ (isG g = true → n = g.2.2.size ∧ brd g = (g.1, g.2.1, wT g.2.2 n)) ∧ (isG g = false → n = 0 ∧ brd g = (0, 0, 0)) := by
  by_cases h : isG g = true
  · have hs := isG_size h
    obtain ⟨h1, h2, h3, -⟩ := of_decide_eq_true h
    have hb : brd g = (g.1, g.2.1, wT g.2.2 g.2.2.size) := by unfold brd; rw [if_pos h]
    refine ⟨g.2.2.size, ?_, hs, ?_, fun _ => ⟨rfl, hb⟩, fun e => by rw [h] at e; cases e⟩
    · rw [hb]; exact h3.symm
    · rw [hb]; exact Nat.lt_trans (wT_lt g.2.2 _ hs) (by decide)
  · have hb : brd g = (0, 0, 0) := by unfold brd; rw [if_neg h]
    refine ⟨0, by rw [hb]; rfl, by decide, by rw [hb]; decide, fun e => absurd e h, fun _ => ⟨rfl, hb⟩⟩
theorem box1_of {w w' : World} {A : Array Value} {t : TypeId} (h : Below (w.alloc (.cells A t)).heap.size (w.alloc (.cells A t)) w') : Below w.heap.size w w' := (box1 h).2
theorem iisg_any (r c : Int) (s : ByteArray) (hs : s.size ≤ 4194304) (w : World) :
    Calls Tryd.prog 7 #[.agg #[.int .i64 r, .int .i64 c, .string s]] w fun e w' => e = .returned (.bool (isG (r, c, s))) ∧ Below w.heap.size w w' := by
  have HBO := Lib.hid (fun w => ibo_any r c s hs w)
  go_enter Tryd.func7, Tryd.ntmps7
  go_wp2_with (go_at_call 17; refine (HBO.out _).mono ?_; rintro e w1 ⟨rfl, b1⟩; simp only [brdV]; have HB := Lib.hid (box1_of b1); clear b1)
  go_ret
  exact ⟨rfl, HB.out.alloc HB.out.size _⟩
theorem whB_isWh {g : Int × Int × ByteArray} (h : isG g = true) (k : Int) : whB g.2.2.size (wT g.2.2 g.2.2.size) k = isWh g k := by
  unfold whB isWh
  rw [h, Bool.true_and]
  by_cases hk : 0 ≤ k ∧ k ≤ (g.2.2.size : Int) - 1
  · rw [decide_eq_true hk, Bool.true_and, Bool.true_and, wT_bit _ _ _ (by omega)]
  · rw [decide_eq_false hk, Bool.false_and, Bool.false_and]
set_option maxHeartbeats 800000 in
theorem iiswh_any (r c : Int) (s : ByteArray) (k : Int) (hs : s.size ≤ 4194304) (w : World) :
    Calls Tryd.prog 12 #[.agg #[.int .i64 r, .int .i64 c, .string s], .int .i64 k] w fun e w' => e = .returned (.bool (isWh (r, c, s) k)) ∧ Below w.heap.size w w' := by
  have HBO := Lib.hid (fun w => ibo_any r c s hs w)
  obtain ⟨n, hn, h36, hS, hy, -⟩ := brd_fits (r, c, s)
  have HW := Lib.hid (fun w => ibw_any _ _ n _ hn h36 hS k w)
  obtain ⟨p, hp⟩ : ∃ p, p = isG (r, c, s) := ⟨_, rfl⟩
  have HE : Hid (p = true → whB n (brd (r, c, s)).2.2 k = isWh (r, c, s) k) := Lib.hid (fun h => by obtain ⟨h1, h2⟩ := hy (hp.symm.trans h); rw [h2, h1]; exact whB_isWh (hp.symm.trans h) k)
  have HF : Hid (p = false → isWh (r, c, s) k = false) := Lib.hid (fun h => by unfold isWh; rw [← hp, h]; rfl)
  rw [← hp] at HBO
  clear hp hy hn h36 hS
  obtain ⟨⟨b0, b1, b2⟩, hb⟩ : ∃ b, b = brd (r, c, s) := ⟨_, rfl⟩
  rw [← hb] at HBO HW HE
  clear hb
  cases p with
  | false =>
    have HG := Lib.hid (HF.out rfl)
    go_enter Tryd.func12, Tryd.ntmps12
    go_wp2_with (go_at_call 17; refine (HBO.out _).mono ?_; rintro e w1 ⟨rfl, b1⟩; simp only [brdV]; have HB := Lib.hid (box1_of b1); clear b1)
    go_ret
    exact ⟨by rw [HG.out]; rfl, HB.out.alloc HB.out.size _⟩
  | true =>
    have HG := Lib.hid (HE.out rfl)
    go_enter Tryd.func12, Tryd.ntmps12
    go_wp2_with (first | (go_at_call 17; refine (HBO.out _).mono ?_; rintro e w1 ⟨rfl, b1⟩; simp only [brdV]; have HB := Lib.hid (box1_of b1); clear b1) | (go_at_call 25; refine (HW.out _).mono ?_; rintro e w2 ⟨rfl, b2⟩; have HB2 := Lib.hid b2; clear b2))
    go_ret
    exact ⟨by rw [← HG.out]; rfl, (HB.out.alloc HB.out.size _).trans (HB2.out.mono (by have := HB.out.size; simp; omega))⟩
theorem sgB_wT (s : ByteArray) (h : ∀ b ∈ s.data.toList, b = 35 ∨ b = 46) : sgB s.size (wT s s.size) = s.data.toList := by
  refine List.ext_getElem? fun i => ?_
  by_cases hi : i < s.size
  · have h2 : i < s.data.toList.length := by rw [size_list]; exact hi
    unfold sgB
    rw [List.getElem?_map, List.getElem?_range hi, Option.map_some, wT_bit s _ i hi, List.getD_eq_getElem?_getD, List.getElem?_eq_getElem h2, Option.getD_some]
    rcases h _ (List.getElem_mem h2) with e | e <;> rw [e] <;> rfl
  · rw [List.getElem?_eq_none (by rw [sgB_length]; omega), List.getElem?_eq_none (by rw [size_list]; omega)]
theorem turn_list {g : Int × Int × ByteArray} (h : isG g = true) : (⟨(sgB g.2.2.size (revN (wT g.2.2 g.2.2.size) / 2 ^ (64 - g.2.2.size))).toArray⟩ : ByteArray) = backL g.2.2 := by
  have hs := isG_size h
  obtain ⟨-, -, -, hb⟩ := of_decide_eq_true h
  have hz : (backL g.2.2).size = g.2.2.size := back_size (by omega)
  have h1 : ∀ b ∈ (backL g.2.2).data.toList, b = 35 ∨ b = 46 := fun b hm => by rw [back_list (by omega)] at hm; exact hb b (List.mem_reverse.1 hm)
  rw [turn_bits g.2.2 _ rfl hs, ← hz, sgB_wT _ h1]
set_option maxHeartbeats 800000 in
theorem iturn_any (r c : Int) (s : ByteArray) (hs : s.size ≤ 4194304) (w : World) :
    Calls Tryd.prog 15 #[.agg #[.int .i64 r, .int .i64 c, .string s]] w fun e w' => e = .returned (aggG (turnG (r, c, s))) ∧ Below w.heap.size w w' := by
  have HBO := Lib.hid (fun w => ibo_any r c s hs w)
  obtain ⟨n, hn, h36, hS, hy, hno⟩ := brd_fits (r, c, s)
  have HT := Lib.hid (fun w => iturned_any _ _ n _ hn h36 hS w)
  have hT2 : revN (brd (r, c, s)).2.2 / 2 ^ (64 - n) < 18446744073709551616 := Nat.lt_of_le_of_lt (Nat.div_le_self _ _) (revN_lt _)
  have HG := Lib.hid (fun w => igrid_any _ _ n _ hn h36 hT2 w)
  have HE : Hid (turnG (r, c, s) = ((brd (r, c, s)).1, (brd (r, c, s)).2.1, ⟨(sgB n (revN (brd (r, c, s)).2.2 / 2 ^ (64 - n))).toArray⟩)) := Lib.hid (by
    unfold turnG
    by_cases h : isG (r, c, s) = true
    · obtain ⟨h1, h2⟩ := hy h
      rw [if_pos h, h2, h1, turn_list h]
    · obtain ⟨h1, h2⟩ := hno (by simpa using h)
      rw [if_neg h, h2, h1]; rfl)
  clear hy hno hn h36 hS hT2
  rw [HE.out]
  obtain ⟨p, hp⟩ : ∃ p, p = isG (r, c, s) := ⟨_, rfl⟩
  rw [← hp] at HBO
  clear hp HE
  obtain ⟨⟨b0, b1, b2⟩, hb⟩ : ∃ b, b = brd (r, c, s) := ⟨_, rfl⟩
  rw [← hb] at HBO HT HG ⊢
  clear hb
  have HBX := Lib.hid (fun w' => @box33 w w' #[.int .i64 r, .int .i64 c, .string s] #[.int .i64 0, .int .i64 0, .string ⟨#[]⟩] 25 25)
  go_enter Tryd.func15, Tryd.ntmps15
  go_wp2_with (first | (go_at_call 17; refine (HBO.out _).mono ?_; rintro e w1 ⟨rfl, b1⟩; simp only [brdV]; have HR := Lib.hid (HBX.out _ b1).2.1; have HB := Lib.hid (HBX.out _ b1).2.2; clear b1) | (go_at_call 27; refine (HT.out _).mono ?_; rintro e w2 ⟨rfl, b2⟩; have HR2 := Lib.hid ((b2.block (w.heap.size + 1) (by have := size_of_heap HR.out; simp; omega)).trans ((Below.heap_alloc _ _ (w.heap.size + 1) (size_of_heap HR.out)).trans HR.out)); have HB2 := Lib.hid ((HB.out.alloc HB.out.size _).trans (b2.mono (by have := HB.out.size; simp; omega))); clear b2) | (go_at_call 28; refine (HG.out _).mono ?_; rintro e w3 ⟨rfl, b3⟩; have HR3 := Lib.hid ((b3.block (w.heap.size + 1) (size_of_heap HR2.out)).trans HR2.out); have HB3 := Lib.hid (HB2.out.trans (b3.mono HB2.out.size)); obtain ⟨z0, z1, z2, y0, y1, y2⟩ := cells3 HR3.out; clear b3))
  exact bodyPost_ret (v := .agg #[.int .i64 b0, .int .i64 b1, .string ⟨(sgB n (revN b2 / 2 ^ (64 - n))).toArray⟩]) (by simp [results, Tryd.results15, go_sem, z0, z1, z2]) rfl ⟨rfl, (((HB3.out.setCell (p := ⟨w.heap.size + 1, 0, none⟩) (by simp) _).setCell (p := ⟨w.heap.size + 1, 1, none⟩) (by simp) _).setCell (p := ⟨w.heap.size + 1, 2, none⟩) (by simp) _)⟩
end Go.Proofs.YtmhgejljjjmejaaDoor
