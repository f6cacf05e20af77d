/-
  Contract of spec.ParseInt at every string: the number and true where the string is the decimal form of a number from 0 to 1000000000000, else 0 and false; nothing that was there is changed.
-/
import Derived.Test.YtkiopplnbkoljaaDoorNums
import Derived.Test.YtkiopplnbkoljaaDoorPlain
import Derived.WalkKit
import Derived.WalkLawsBesides
import Derived.WalkSpells
namespace Go.Proofs.YtkiopplnbkoljaaDoor
open Go.RowKit

theorem in25_yes (n lo hi : Int) (h1 : lo ≤ n) (h2 : n ≤ hi) (w : World) :
    Calls Tryd.prog 25 #[.int .i64 n, .int .i64 lo, .int .i64 hi] w fun e w' => e = .returned (.bool true) ∧ w = w' := by
  go_enter Tryd.func25, Tryd.ntmps25
  go_wp2
  go_ret
  exact ⟨rfl, rfl⟩
theorem in25_no (n lo hi : Int) (h : ¬ (lo ≤ n ∧ n ≤ hi)) (w : World) :
    Calls Tryd.prog 25 #[.int .i64 n, .int .i64 lo, .int .i64 hi] w fun e w' => e = .returned (.bool false) ∧ w = w' := by
  by_cases h1 : lo ≤ n
  · have hd : decide (n ≤ hi) = false := decide_eq_false (by omega)
    clear h
    go_enter Tryd.func25, Tryd.ntmps25
    go_wp2
    go_ret
    exact ⟨rfl, rfl⟩
  · have hd : decide (lo ≤ n) = false := decide_eq_false h1
    clear h
    go_enter Tryd.func25, Tryd.ntmps25
    go_wp2
    go_ret
    exact ⟨rfl, rfl⟩

theorem take_snoc (s : ByteArray) (k : Nat) (h : k < s.size) : s.data.toList.take (k + 1) = s.data.toList.take k ++ [s[k]] := by
  rw [List.take_succ_eq_append_getElem (by simpa using h)]; rfl

theorem byte_mem (s : ByteArray) (k : Nat) (h : k < s.size) : s[k] ∈ s.data.toList := by
  show s.data[k] ∈ s.data.toList
  simp
/-- What ParseInt answers at l. -/
def Ans (l : List UInt8) (r : Value) : Prop := (∀ v, canon l v → r = .tuple #[.int .i64 v, .bool true]) ∧ ((∀ v, ¬ canon l v) → r = .tuple #[.int .i64 0, .bool false])

theorem ret_ans {l : List UInt8} {r : Value} (h : Ans l r) (hn : ∀ v, ¬ canon l v) : Ending.returned (.tuple #[.int .i64 0, .bool false]) = .returned r := by rw [h.2 hn]
theorem ret_ans2 {l : List UInt8} {r : Value} (h : Ans l r) {v : Int} (hn : canon l v) : Ending.returned (.tuple #[.int .i64 v, .bool true]) = .returned r := by rw [h.1 v hn]

theorem spec_short (s : ByteArray) (h : ¬ ((1 : Int) ≤ s.size ∧ (s.size : Int) ≤ 13)) (r : Value) (hr : Ans s.data.toList r) (w : World) :
    Calls Tryd.prog 15 #[.string s] w fun e w' => e = .returned r ∧ Below w.heap.size w w' := by
  have hn : ∀ v, ¬ canon s.data.toList v := fun v hv => by
    have h1 := canon_length hv
    have e1 : s.size = s.data.size := rfl
    have e2 : s.data.toList.length = s.data.size := Array.length_toList
    omega
  have HR := Lib.hid (ret_ans hr hn)
  clear hr hn
  go_enter Tryd.func15, Tryd.ntmps15
  go_wp2_with (go_at_call 25; refine (in25_no _ _ _ h _).mono ?_; rintro e w1 ⟨rfl, rfl⟩)
  go_ret2
  exact ⟨HR.out, Below.refl _ _⟩

set_option maxHeartbeats 800000 in
theorem spec_loop (s : ByteArray) (h1 : 1 ≤ s.size) (h2 : s.size ≤ 13) (r : Value) (hr : Ans s.data.toList r) (w : World) :
    Calls Tryd.prog 15 #[.string s] w fun e w' => e = .returned r ∧ Below w.heap.size w w' := by
  have HR := Lib.hid hr
  clear hr
  go_enter Tryd.func15, Tryd.ntmps15
  go_wp2_with (go_at_call 25; refine (in25_yes _ _ _ (by omega) (by omega) _).mono ?_; rintro e w1 ⟨rfl, rfl⟩)
  go_loop [4, 5] (fun n i => ∃ k V : Nat, k ≤ s.size ∧ i = .int .i64 k ∧ n = .int .i64 V ∧ Hid (V = val (s.data.toList.take k) ∧ ∀ c ∈ s.data.toList.take k, isDig c)) (fun _ i => s.size - (intOf i).toNat)
  case atStart => exact ⟨0, 0, Nat.zero_le _, rfl, rfl, Lib.hid ⟨rfl, by simp⟩⟩
  case round =>
    obtain ⟨k, V, hk, rfl, rfl, HD⟩ := hrel
    have hv' : V ≤ 9999999999999 := by
      have hlen : (s.data.toList.take k).length = k := by
        rw [List.length_take]
        have e1 : s.size = s.data.size := rfl
        have e2 : s.data.toList.length = s.data.size := Array.length_toList
        omega
      have hv : val (s.data.toList.take k) < 10 ^ 13 := Nat.lt_of_lt_of_le (val_lt k _ hlen HD.out.2) (Nat.pow_le_pow_right (by decide) (by omega))
      have := HD.out.1
      omega
    by_cases hlt : k < s.size
    · by_cases hd : 48 ≤ s[k].toNat ∧ s[k].toNat ≤ 57
      · obtain ⟨hd1, hd2⟩ := hd
        have HD2 : Hid (10 * V + (s[k].toNat - 48) = val (s.data.toList.take (k + 1)) ∧ ∀ c ∈ s.data.toList.take (k + 1), isDig c) := Lib.hid (by
          rw [take_snoc s k hlt]
          refine ⟨by rw [val_snoc, ← HD.out.1], fun c hc => ?_⟩
          rcases List.mem_append.1 hc with h | h
          · exact HD.out.2 c h
          · simp only [List.mem_singleton] at h; subst h; exact ⟨hd1, hd2⟩)
        go_wp2_with (go_at_call 25; refine (in25_yes _ _ _ (by omega) (by omega) _).mono ?_; rintro e w1 ⟨rfl, rfl⟩)
        go_round
        case rel => exact ⟨k + 1, _, by omega, by go_num, by go_num, HD2⟩
        case measure => simp [intOf]; omega
      · have HN := Lib.hid (ret_ans HR.out (fun v hv => hd (canon_dig hv _ (byte_mem s k hlt))))
        have HM := Lib.hid (show ¬ ((48 : Int) ≤ s[k].toNat ∧ (s[k].toNat : Int) ≤ 57) by omega)
        clear hd
        have hb8 : s[k].toNat ≤ 255 := by have := UInt8.toNat_lt s[k]; omega
        go_wp2_with (go_at_call 25; refine (in25_no _ _ _ HM.out _).mono ?_; rintro e w1 ⟨rfl, rfl⟩)
        go_ret2
        exact ⟨HN.out, Below.refl _ _⟩
    · have HV : Hid (V = val s.data.toList) := Lib.hid (by
        have e1 : s.data.toList.take k = s.data.toList := List.take_of_length_le (by
          have e1 : s.size = s.data.size := rfl
          have e2 : s.data.toList.length = s.data.size := Array.length_toList
          omega)
        have := HD.out.1
        rw [e1] at this
        exact this)
      clear HD
      by_cases hm : 1000000000000 < V
      · have HN := Lib.hid (ret_ans HR.out (fun v hv => by have h3 := canon_val hv; have h4 := hv.2.1; rw [← HV.out] at h3; omega))
        go_wp2
        go_ret2
        exact ⟨HN.out, Below.refl _ _⟩
      · by_cases he : (Lib.itoa (V : Int) == s.toList) = true
        · have HN := Lib.hid (ret_ans2 HR.out (v := (V : Int)) ⟨by omega, by omega, by rw [ByteArray.toList_eq] at he; simpa using he⟩)
          go_wp2_with (go_at_call 14; refine (format_any _ (by omega) (by omega) _).mono ?_; rintro e w1 ⟨rfl, hb⟩)
          go_ret2
          exact ⟨HN.out, hb⟩
        · have he' : (Lib.itoa (V : Int) == s.toList) = false := by simpa using he
          have HN := Lib.hid (ret_ans HR.out (fun v hv => by have h3 := canon_val hv; rw [← HV.out] at h3; subst h3; rw [ByteArray.toList_eq, hv.2.2] at he; simp at he))
          clear he
          go_wp2_with (go_at_call 14; refine (format_any _ (by omega) (by omega) _).mono ?_; rintro e w1 ⟨rfl, hb⟩)
          go_ret2
          exact ⟨HN.out, hb⟩
/-- ████ spec.ParseInt at every string. -/
theorem spec_any (s : ByteArray) (r : Value) (hr : Ans s.data.toList r) (w : World) :
    Calls Tryd.prog 15 #[.string s] w fun e w' => e = .returned r ∧ Below w.heap.size w w' := by
  by_cases h : (1 : Int) ≤ s.size ∧ (s.size : Int) ≤ 13
  · exact spec_loop s (by omega) (by omega) r hr w
  · exact spec_short s h r hr w
end Go.Proofs.YtkiopplnbkoljaaDoor
