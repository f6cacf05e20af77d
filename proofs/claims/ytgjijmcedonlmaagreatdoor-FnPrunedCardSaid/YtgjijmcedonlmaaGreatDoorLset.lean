/-
  The program's sets of letters: with, has at bytes; letterSet.
-/
import Derived.Test.YtgjijmcedonlmaaGreatDoorWordI
import Derived.Test.YtgjijmcedonlmaaGreatDoorPatB
import Derived.Test.YtgjijmcedonlmaaGreatDoorNest
namespace Go.Proofs.YtgjijmcedonlmaaGreatDoor
open Go.RowKit

theorem withL_any (S k : Nat) (hS : S < 67108864) (hk : k < 26) (w : World) :
    Calls Tryz.prog 94 #[.int .u64 (S : Int), .int .u8 (k : Int)] w fun e w' => e = .returned (.int .u64 ((S ||| 2 ^ k : Nat) : Int)) ∧ w = w' := by
  have h2 : 2 ^ k < 18446744073709551616 := Nat.lt_of_le_of_lt (Nat.pow_le_pow_right (by omega) (Nat.le_of_lt hk)) (by decide)
  have hw : IntKind.u64.wrap (2 ^ k) = ((2 ^ k : Nat) : Int) := by
    rw [show ((2 : Int) ^ k) = ((2 ^ k : Nat) : Int) by simp, IntKind.wrap_u64]
    generalize 2 ^ k = X at h2 ⊢
    omega
  rw [← bits_or_u64_nat S (2 ^ k) (by omega) h2, ← hw]
  clear hw h2
  go_enter Tryz.func94, Tryz.ntmps94
  go_wp2
  go_ret
  exact ⟨rfl, rfl⟩
/-- Whether a string has a letter at a place. -/
def lsAt1 (a : Nat) (c : Nat) (x : ByteArray) : Bool := decide (a < x.size) && decide ((x.data.toList.getD a 0).toNat = c)
def lsF (l : List ByteArray) (t : Int) (c : Nat) : Bool := decide (0 ≤ t) && l.any (lsAt1 t.toNat (97 + c))
def lsS (l : List ByteArray) (t : Int) : Nat := setTo (lsF l t) 26
theorem lsS_lt (l : List ByteArray) (t : Int) : lsS l t < 67108864 := setTo_lt _ 26
theorem lsS_nil (t : Int) : lsS [] t = 0 := by
  unfold lsS
  rw [setTo_congr (g := fun _ => false) (fun i _ => by unfold lsF; simp)]
  rfl
theorem lsS_bit (l : List ByteArray) (t : Int) (c : Nat) (h : c < 26) : (lsS l t).testBit c = lsF l t c := by
  unfold lsS
  rw [setTo_bit, decide_eq_true h, Bool.true_and]
theorem lsF_snoc (l : List ByteArray) (t : Int) (c : Nat) (x : ByteArray) : lsF (l ++ [x]) t c = (lsF l t c || (decide (0 ≤ t) && lsAt1 t.toNat (97 + c) x)) := by
  unfold lsF
  rw [List.any_append, Bool.and_or_distrib_left]
  simp
theorem lsS_no (l : List ByteArray) (t : Int) (x : ByteArray) (hn : ∀ c, c < 26 → 0 ≤ t → lsAt1 t.toNat (97 + c) x = false) : lsS (l ++ [x]) t = lsS l t := by
  unfold lsS
  refine setTo_congr fun c hc => ?_
  rw [lsF_snoc]
  by_cases h0 : 0 ≤ t
  · rw [hn c hc h0, Bool.and_false, Bool.or_false]
  · rw [decide_eq_false h0, Bool.false_and, Bool.or_false]
theorem lsS_out (l : List ByteArray) (t : Int) (x : ByteArray) (h : ¬ (0 ≤ t ∧ t ≤ (x.size : Int) - 1)) : lsS (l ++ [x]) t = lsS l t :=
  lsS_no l t x fun c _ h0 => by
    unfold lsAt1
    rw [decide_eq_false (by omega)]
    rfl
theorem lsS_odd (l : List ByteArray) (n : Nat) (x : ByteArray) (h : n < x.size) (hl : ¬ isL x[n]) : lsS (l ++ [x]) (n : Int) = lsS l (n : Int) :=
  lsS_no l n x fun c hc _ => by
    unfold lsAt1
    rw [Int.toNat_natCast, getD_byte x n h, decide_eq_false (show ¬ x[n].toNat = 97 + c from fun e => hl ⟨by omega, by omega⟩), Bool.and_false]
theorem lsS_yes (l : List ByteArray) (n : Nat) (x : ByteArray) (h : n < x.size) (c : Nat) (hc : x[n].toNat = 97 + c) (hc26 : c < 26) : lsS l (n : Int) ||| 2 ^ c = lsS (l ++ [x]) (n : Int) := by
  unfold lsS
  refine setTo_or hc26 fun i _ => ?_
  rw [lsF_snoc]
  congr 1
  unfold lsAt1
  rw [Int.toNat_natCast, decide_eq_true (show (0 : Int) ≤ n by omega), decide_eq_true h, getD_byte x n h, hc, Bool.true_and, Bool.true_and]
  by_cases e : i = c
  · subst e; simp
  · rw [decide_eq_false (show ¬ 97 + c = 97 + i by omega), decide_eq_false e]
set_option maxRecDepth 100000 in
set_option maxHeartbeats 1600000 in
theorem lset_any (l : List ByteArray) (t : Int) (hl : l.length ≤ 16777216) (v : Value) (w : World) (hv : ReadsS w.heap.size w v l) (hzs : ∀ z ∈ l, z.size ≤ 1048576) :
    Calls Tryz.prog 57 #[v, .int .i64 t] w fun e w' => e = .returned (.int .u64 ((lsS l t : Nat) : Int)) ∧ w = w' := by
  obtain ⟨-, a0, cap, rfl, -, hc⟩ := hv.cells
  have HC := Lib.hid hc
  have HZS := Lib.hid hzs
  have HNIL := Lib.hid (lsS_nil t)
  clear hc hv hzs
  go_enter Tryz.func57, Tryz.ntmps57
  go_wp2
  go_loopw [5, 10] (fun u i wr => ∃ (k S : Nat), k ≤ l.length ∧ i = .int .i64 k ∧ u = .int .u64 (S : Int) ∧ S < 67108864 ∧ Hid (lsS (l.take k) t = S) ∧ w = wr) (fun _ i _ => l.length - (intOf i).toNat)
  case atStart => exact ⟨0, 0, Nat.zero_le _, rfl, rfl, by decide, Lib.hid (by rw [List.take_zero]; exact HNIL.out), rfl⟩
  case round =>
    obtain ⟨k, S, hk, rfl, rfl, hS, HS, rfl⟩ := hrel
    by_cases hlt : k < l.length
    · have hd : decide ((k : Int) < (l.length : Int)) = true := decide_eq_true (by omega)
      obtain ⟨b, off, rfl, hb, q0⟩ := HC.out k hlt
      have hxs := HZS.out _ (by simp [List.getD, hlt] : l.getD k ⟨#[]⟩ ∈ l)
      have HT : Hid (l.take (k + 1) = l.take k ++ [l.getD k ⟨#[]⟩]) := Lib.hid (by rw [List.take_succ_eq_append_getElem hlt]; simp [List.getD, hlt])
      obtain ⟨x, hx⟩ : ∃ x, x = l.getD k ⟨#[]⟩ := ⟨_, rfl⟩
      rw [← hx] at q0 hxs HT
      clear hx
      by_cases hin : 0 ≤ t ∧ t ≤ (x.size : Int) - 1
      · obtain ⟨n, rfl⟩ : ∃ n : Nat, t = (n : Int) := ⟨t.toNat, by omega⟩
        have hn : n < x.size := by omega
        have hwl : IntKind.i64.wrap ((x.size : Int) - 1) = (x.size : Int) - 1 := by rw [IntKind.wrap_i64]; omega
        have h255 : x[n].toNat ≤ 255 := by have := x[n].toNat_lt; omega
        have HIL := Lib.hid (fun w => isl_any x[n] w)
        have HIN := Lib.hid hin
        have HODD := Lib.hid (lsS_odd (l.take k) n x hn)
        have HYES := Lib.hid (lsS_yes (l.take k) n x hn)
        clear hin
        by_cases hlet : isL x[n]
        · obtain ⟨c, hc⟩ : ∃ c, x[n].toNat = 97 + c := ⟨x[n].toNat - 97, by have := hlet.1; omega⟩
          have hc26 : c < 26 := by have := hlet.2; omega
          have HN : Hid (S ||| 2 ^ c = lsS (l.take (k + 1)) (n : Int)) := Lib.hid (by rw [← HS.out, HT.out]; exact HYES.out c hc hc26)
          have hwr : IntKind.u8.wrap ((x[n].toNat : Int) - 97) = (c : Int) := by rw [hc]; rw [show (((97 + c : Nat) : Int) - 97) = (c : Int) by omega]; exact IntWalk.u8_in _ (by omega)
          have HLT : Hid (S ||| 2 ^ c < 67108864) := Lib.hid (by rw [HN.out]; exact lsS_lt _ _)
          rw [decide_eq_true hlet] at HIL
          clear HODD HYES hlet hc
          go_wp2_with (first | (go_at_call 26; refine (inr_yes _ _ _ HIN.out.1 (by have := HIN.out.2; omega) _).mono ?_; rintro e w3 ⟨rfl, rfl⟩) | (go_at_call 68; refine (HIL.out _).mono ?_; rintro e w3 ⟨rfl, rfl⟩) | (go_at_call 94; refine (withL_any S c hS hc26 _).mono ?_; rintro e w4 ⟨rfl, rfl⟩))
          go_roundw
          case rel => exact ⟨k + 1, S ||| 2 ^ c, by omega, by go_num, rfl, HLT.out, Lib.hid HN.out.symm, by trivial⟩
          case measure => simp [intOf]; omega
        · have HN : Hid (lsS (l.take (k + 1)) (n : Int) = S) := Lib.hid (by rw [← HS.out, HT.out]; exact HODD.out hlet)
          rw [decide_eq_false hlet] at HIL
          clear HODD HYES hlet
          go_wp2_with (first | (go_at_call 26; refine (inr_yes _ _ _ HIN.out.1 (by have := HIN.out.2; omega) _).mono ?_; rintro e w3 ⟨rfl, rfl⟩) | (go_at_call 68; refine (HIL.out _).mono ?_; rintro e w3 ⟨rfl, rfl⟩))
          go_roundw
          case rel => exact ⟨k + 1, S, by omega, by go_num, rfl, hS, HN, by trivial⟩
          case measure => simp [intOf]; omega
      · have hwl : IntKind.i64.wrap ((x.size : Int) - 1) = (x.size : Int) - 1 := by rw [IntKind.wrap_i64]; omega
        have HN : Hid (lsS (l.take (k + 1)) t = S) := Lib.hid (by rw [← HS.out, HT.out]; exact lsS_out _ _ _ hin)
        have HIN := Lib.hid hin
        clear hin
        go_wp2_with (go_at_call 26; refine (inr_no _ _ _ (by have := HIN.out; omega) _).mono ?_; rintro e w3 ⟨rfl, rfl⟩)
        go_roundw
        case rel => exact ⟨k + 1, S, by omega, by go_num, rfl, hS, HN, by trivial⟩
        case measure => simp [intOf]; omega
    · have hd : decide ((k : Int) < (l.length : Int)) = false := decide_eq_false (by omega)
      have HF : Hid (S = lsS l t) := Lib.hid (by rw [← HS.out, List.take_of_length_le (by omega)])
      go_wp2
      go_ret
      exact ⟨by rw [← HF.out]; rfl, rfl⟩
end Go.Proofs.YtgjijmcedonlmaaGreatDoor
