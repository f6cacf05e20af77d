/-
  The contracts of LongestSlot, of the model and of the program.
-/
import Derived.Test.YthgnhcjbjdhjfaaGreatDoorFormPure
import Derived.Test.YthgnhcjbjdhjfaaGreatDoorSlotImplI
import Derived.Test.YthgnhcjbjdhjfaaGreatDoorKit
import Derived.Deep.RegionWith
import Derived.Deep.DeepCutAuto
namespace Go.Proofs.YthgnhcjbjdhjfaaGreatDoor
open Go.RowKit

def longTo (l : List SlotV) (k : Nat) : Int := (l.take k).foldl (fun n x => max n x.2.2.2) 0
theorem longTo_next {l : List SlotV} {k : Nat} (h : k < l.length) : longTo l (k + 1) = if longTo l k < (l.getD k none_Slot).2.2.2 then (l.getD k none_Slot).2.2.2 else longTo l k := by
  unfold longTo
  rw [take_getD h, List.foldl_append]
  show max _ _ = _
  split <;> omega
theorem longTo_all (g : Int × Int × ByteArray) : longTo (slG g) (slG g).length = longG g := by unfold longTo longG; rw [List.take_length]
set_option maxHeartbeats 1600000 in
theorem iextr_any (a b : Int) (q : Nat) (w : World) (h : w.cell? ⟨q, 0, none⟩ = some (.int .i64 b)) :
    Calls Tryz.prog 80 #[.bool true, .int .i64 a, .slice (some ⟨q, 0, none⟩) 1 1] w fun e w' => e = .returned (.int .i64 (if a < b then b else a)) ∧ w = w' := by
  by_cases hab : a < b
  · rw [if_pos hab]
    have hd : decide (a < b) = true := decide_eq_true hab
    go_enter Tryz.func80, Tryz.ntmps80
    go_wp2
    go_loopw [7, 13] (fun m i wr => w = wr ∧ (i = .int .i64 0 ∧ m = .int .i64 a ∨ i = .int .i64 1 ∧ m = .int .i64 b)) (fun _ i _ => 1 - (intOf i).toNat)
    case atStart => exact ⟨rfl, .inl ⟨rfl, rfl⟩⟩
    case round =>
      obtain ⟨rfl, ⟨rfl, rfl⟩ | ⟨rfl, rfl⟩⟩ := hrel
      · go_wp2
        go_roundw
        case rel => exact ⟨by first | trivial | rfl, .inr ⟨rfl, rfl⟩⟩
        case measure => simp [intOf]
      · go_wp2
        go_ret
        exact ⟨rfl, rfl⟩
  · rw [if_neg hab]
    have hd : decide (a < b) = false := decide_eq_false hab
    go_enter Tryz.func80, Tryz.ntmps80
    go_wp2
    go_loopw [7, 13] (fun m i wr => w = wr ∧ m = .int .i64 a ∧ (i = .int .i64 0 ∨ i = .int .i64 1)) (fun _ i _ => 1 - (intOf i).toNat)
    case atStart => exact ⟨rfl, rfl, .inl rfl⟩
    case round =>
      obtain ⟨rfl, rfl, rfl | rfl⟩ := hrel
      · go_wp2
        go_roundw
        case rel => exact ⟨by first | trivial | rfl, by first | trivial | rfl, .inr rfl⟩
        case measure => simp [intOf]
      · go_wp2
        go_ret
        exact ⟨rfl, rfl⟩
theorem imax_any (a b : Int) (w : World) :
    Calls Tryz.prog 42 #[.int .i64 a, .int .i64 b] w fun e w' => e = .returned (.int .i64 (if a < b then b else a)) ∧ Below w.heap.size w w' := by
  have HE := Lib.hid (fun (w : World) h => iextr_any a b w.heap.size (w.alloc (.cells #[.int .i64 b] 3)) h)
  obtain ⟨m, hm⟩ : ∃ m, m = if a < b then b else a := ⟨_, rfl⟩
  rw [← hm] at HE ⊢
  clear hm
  go_enter Tryz.func42, Tryz.ntmps42
  go_wp2_with (go_at_call 80; refine (HE.out _ (by simp)).mono ?_; rintro e w1 ⟨rfl, rfl⟩)
  go_ret
  exact ⟨rfl, (Below.refl _ _).alloc (Nat.le_refl _) _⟩
set_option maxRecDepth 100000 in
set_option maxHeartbeats 1600000 in
theorem ilg_any (r c : Int) (s : ByteArray) (hs : s.size ≤ 4194304) (w : World) :
    Calls Tryz.prog 16 #[.agg #[.int .i64 r, .int .i64 c, .string s]] w fun e w' => e = .returned (.int .i64 (longG (r, c, s))) ∧ Below w.heap.size w w' := by
  have HSL := Lib.hid (fun w => islo_any r c s hs w)
  have HLEN := Lib.hid (slG_length (r, c, s))
  have HF := Lib.hid (longTo_all (r, c, s))
  rw [← HF.out]
  clear HF
  obtain ⟨l, hl⟩ : ∃ l, l = slG (r, c, s) := ⟨_, rfl⟩
  rw [← hl] at HSL HLEN ⊢
  clear hl
  have hl72 := HLEN.out
  go_enter Tryz.func16, Tryz.ntmps16
  go_wp2_with (go_at_call 13; refine (HSL.out _).mono ?_; rintro e w1 ⟨v1, rfl, o1, b1⟩; obtain ⟨a0, cap, rfl⟩ := ownV_slice o1; have HB1 := Lib.hid (box1_of b1); have HL1 := Lib.hid (own_widen o1 (show w.heap.size ≤ _ by simp)); clear o1 b1)
  go_loopw [3, 9] (fun n i wr => ∃ k : Nat, k ≤ l.length ∧ i = .int .i64 (k : Int) ∧ n = .int .i64 (longTo l k) ∧ Hid (wr.ownsRow w.heap.size 34 4 (.slice a0 l.length cap) l.length (row_Slot l)) ∧ Hid (Below w.heap.size w wr)) (fun _ i _ => l.length - (intOf i).toNat)
  case atStart => exact ⟨0, Nat.zero_le _, rfl, rfl, HL1, HB1⟩
  case round =>
    clear HL1 HB1
    obtain ⟨k, hk, rfl, rfl, HL, HB⟩ := hrel
    by_cases hlt : k < l.length
    · have hd : decide ((k : Int) < (l.length : Int)) = true := decide_eq_true (by omega)
      have hd9 : decide (k < l.length) = true := decide_eq_true hlt
      obtain ⟨b, rfl, q0, q1, q2, q3⟩ := slot_cells HL.out rfl k hlt
      have HNX := Lib.hid (longTo_next hlt)
      obtain ⟨y, hy⟩ : ∃ y, y = l.getD k none_Slot := ⟨_, rfl⟩
      rw [← hy] at q0 q1 q2 q3 HNX
      clear hy
      obtain ⟨t0, t1, t2, t3⟩ := y
      simp only at q0 q1 q2 q3 HNX
      obtain ⟨U, hU⟩ : ∃ U, U = longTo l k := ⟨_, rfl⟩
      rw [← hU] at HNX ⊢
      clear hU
      have HMX := Lib.hid (fun w => imax_any U t3 w)
      rw [← HNX.out] at HMX
      clear HNX
      obtain ⟨o, ho⟩ : ∃ o, o = Obj.cells #[.int .i64 t0, .bool t1, .int .i64 t2, .int .i64 t3] 34 := ⟨_, rfl⟩
      have HL1 := Lib.hid (HL.out.alloc o)
      have HB1 := Lib.hid (HB.out.alloc HB.out.size o)
      rw [ho] at HL1 HB1
      clear ho HL HB
      go_wp2_with (go_at_call 42; refine (HMX.out _).mono ?_; rintro e w5 ⟨rfl, b5⟩; have HL5 := Lib.hid (ownV_later HL1.out b5); have HB5 := Lib.hid (HB1.out.trans (b5.mono HB1.out.size)); clear b5)
      go_roundw
      case rel => exact ⟨k + 1, by omega, by go_num, rfl, HL5, HB5⟩
      case measure => simp [intOf]; omega
    · have hd : decide ((k : Int) < (l.length : Int)) = false := decide_eq_false (by omega)
      have hd9 : decide (k < l.length) = false := decide_eq_false hlt
      have HKE : Hid (longTo l k = longTo l l.length) := Lib.hid (by rw [show k = l.length by omega])
      go_wp2
      go_ret
      exact ⟨by rw [HKE.out]; rfl, HB.out⟩
end Go.Proofs.YthgnhcjbjdhjfaaGreatDoor
