/-
  The program's contracts of chapter 6: the numbers of a set of bits, CountOpen, MeetPatterns.
-/
import Derived.Test.YthgnhcjbjdhjfaaDoorPatImplA
import Derived.Test.YthgnhcjbjdhjfaaDoorItems
import Derived.Lib.SmallJoins
namespace Go.Proofs.YthgnhcjbjdhjfaaDoor
open Go.RowKit

def ones1 (x : Int) : Int := IntKind.u64.wrap (bits .and .u64 (x / 2) 6148914691236517205 + bits .and .u64 x 6148914691236517205)
def ones2 (x : Int) : Int := IntKind.u64.wrap (bits .and .u64 (x / 4) 3689348814741910323 + bits .and .u64 x 3689348814741910323)
def ones3 (x : Int) : Int := bits .and .u64 (IntKind.u64.wrap (x / 16 + x)) 1085102592571150095
def ones4 (x : Int) : Int := IntKind.u64.wrap (x + x / 256)
def ones5 (x : Int) : Int := IntKind.u64.wrap (x + x / 65536)
def ones6 (x : Int) : Int := IntKind.u64.wrap (x + x / 4294967296)
/-- What the library's OnesCount64 reckons. -/
def onesE (x : Int) : Int := bits .and .i64 (wrap64 (ones6 (ones5 (ones4 (ones3 (ones2 (ones1 x))))))) 127
theorem ones_small : ∀ n : Fin 256, onesE (n.val : Int) = ((popB n.val : Nat) : Int) := by decide +kernel

set_option maxRecDepth 100000 in
set_option maxHeartbeats 1600000 in
theorem ones_any (S : Nat) (hS : S < 256) (w : World) :
    Calls Tryd.prog 75 #[.int .u64 (S : Int)] w fun e w' => e = .returned (.int .i64 ((popB S : Nat) : Int)) ∧ w = w' := by
  have h : onesE (S : Int) = ((popB S : Nat) : Int) := ones_small ⟨S, hS⟩
  rw [← h]
  clear h hS
  go_enter Tryd.func75, Tryd.ntmps75
  go_wp2
  go_ret
  exact ⟨rfl, rfl⟩
theorem icount_any (S : Nat) (hS : S < 256) (w : World) :
    Calls Tryd.prog 46 #[.int .u64 (S : Int)] w fun e w' => e = .returned (.int .i64 ((popB S : Nat) : Int)) ∧ w = w' := by
  go_enter Tryd.func46, Tryd.ntmps46
  go_wp2_with (go_at_call 75; refine (ones_any S hS _).mono ?_; rintro e w1 ⟨rfl, rfl⟩)
  go_ret
  exact ⟨rfl, rfl⟩
set_option maxHeartbeats 800000 in
theorem ico_any (p : ByteArray) (w : World) (hm : ML w) (hps : p.size ≤ 1048576) :
    Calls Tryd.prog 15 #[.string p] w fun e w' => e = .returned (.int .i64 (openN p)) ∧ Below w.heap.size w w' := by
  obtain ⟨a, ha⟩ : ∃ a, a = isP p := ⟨_, rfl⟩
  have HA := Lib.hid (fun w (h : ML w) => iip_any p w h hps)
  rw [← ha] at HA
  have HM := Lib.hid hm
  clear hm
  cases a with
  | false =>
    have HF : Hid (openN p = -1) := Lib.hid (by unfold openN; rw [← ha]; rfl)
    clear ha
    go_enter Tryd.func15, Tryd.ntmps15
    go_wp2_with (go_at_call 16; refine (HA.out _ HM.out).mono ?_; rintro e w1 ⟨rfl, b1⟩; have HB1 := Lib.hid b1; clear b1)
    go_ret
    exact ⟨by rw [HF.out]; rfl, HB1.out⟩
  | true =>
    have hp8 := (isP_size ha.symm).2
    have hlt := opS_lt p hp8
    have HF : Hid (openN p = ((popB (opS p) : Nat) : Int)) := Lib.hid (by unfold openN; rw [← ha, if_pos rfl, pop_open p hp8])
    clear ha
    go_enter Tryd.func15, Tryd.ntmps15
    go_wp2_with (first | (go_at_call 16; refine (HA.out _ HM.out).mono ?_; rintro e w1 ⟨rfl, b1⟩; have HB1 := Lib.hid b1; clear b1) | (go_at_call 38; refine (iopen_any p hp8 _).mono ?_; rintro e w2 ⟨rfl, b2⟩; have HB2 := Lib.hid (btrans HB1.out b2); clear b2) | (go_at_call 46; refine (icount_any _ hlt _).mono ?_; rintro e w3 ⟨rfl, rfl⟩))
    go_ret
    exact ⟨by rw [HF.out]; rfl, HB2.out⟩

end Go.Proofs.YthgnhcjbjdhjfaaDoor
