/-
  Contracts of impl.ParseInt, impl.CeilDiv and impl.Mod at every argument, each with what its answer satisfies.
-/
import Derived.Test.YtkiopplnbkoljaaDoorInt
namespace Go.Proofs.YtkiopplnbkoljaaDoor
open Go.RowKit

theorem canon_itoa {m k : Int} (h : canon (Lib.itoa m) k) : k = m := by
  obtain ⟨u, rfl, h1, h2⟩ := canon_nat h
  by_cases hm : 0 ≤ m
  · obtain ⟨t, rfl⟩ : ∃ t : Nat, m = (t : Int) := ⟨m.toNat, by omega⟩
    rw [Lib.itoa_nonneg] at h2
    have := congrArg val h2
    rw [val_digits, val_digits] at this
    omega
  · obtain ⟨t, rfl⟩ : ∃ t : Nat, m = -(t : Int) := ⟨m.natAbs, by omega⟩
    rw [Lib.itoa_neg t (by omega)] at h2
    have := decDigits_all u 45 (by rw [← h2]; exact List.mem_cons_self ..)
    unfold isDig at this
    simp at this

/-- What ParseInt answers at l. -/
def PI (l : List UInt8) (v : Int) (b : Bool) : Prop := (b = true ∧ canon l v) ∨ (b = false ∧ v = 0 ∧ ∀ v', ¬ canon l v')
theorem parse_any (s : ByteArray) (hlim : s.size ≤ 281474976710656) (a : Addr) (p q : Value) (w : World) (hV : Vars w a p q) :
    Calls Tryd.prog 8 #[.string s] w fun e w' => ∃ v b, Hid (PI s.data.toList v b) ∧ e = .returned (.tuple #[.int .i64 v, .bool b]) ∧ Below w.heap.size w w' := by
  by_cases hx : ∃ v, canon s.data.toList v
  · obtain ⟨v, hv⟩ := hx
    exact (parse_yes s hlim v hv a p q w hV).mono fun e w' ⟨he, hb⟩ => ⟨v, true, Lib.hid (Or.inl ⟨rfl, hv⟩), he, hb⟩
  · have hn : ∀ v, ¬ canon s.data.toList v := fun v hv => hx ⟨v, hv⟩
    exact (parse_no s hlim hn a p q w hV).mono fun e w' ⟨he, hb⟩ => ⟨0, false, Lib.hid (Or.inr ⟨rfl, rfl, hn⟩), he, hb⟩

theorem inr_yes (n lo hi : Int) (h1 : lo ≤ n) (h2 : n ≤ hi) (w : World) :
    Calls Tryd.prog 24 #[.int .i64 n, .int .i64 lo, .int .i64 hi] w fun e w' => e = .returned (.bool true) ∧ w = w' := by
  go_enter Tryd.func24, Tryd.ntmps24
  go_wp2
  go_ret
  exact ⟨rfl, rfl⟩
theorem inr_no (n lo hi : Int) (h : ¬ (lo ≤ n ∧ n ≤ hi)) (w : World) :
    Calls Tryd.prog 24 #[.int .i64 n, .int .i64 lo, .int .i64 hi] w fun e w' => e = .returned (.bool false) ∧ w = w' := by
  by_cases h1 : lo ≤ n
  · have hd : decide (n ≤ hi) = false := decide_eq_false (by omega)
    clear h
    go_enter Tryd.func24, Tryd.ntmps24
    go_wp2
    go_ret
    exact ⟨rfl, rfl⟩
  · have hd : decide (lo ≤ n) = false := decide_eq_false h1
    clear h
    go_enter Tryd.func24, Tryd.ntmps24
    go_wp2
    go_ret
    exact ⟨rfl, rfl⟩

/-- What CeilDiv answers. -/
def CD (a b q : Int) : Prop := (0 ≤ a ∧ a ≤ 1000000000000 ∧ 1 ≤ b ∧ b ≤ 1000000000000 ∧ a ≤ q * b ∧ q * b < a + b) ∨ (¬ (0 ≤ a ∧ a ≤ 1000000000000 ∧ 1 ≤ b ∧ b ≤ 1000000000000) ∧ q = 0)
theorem cd_in (a b : Int) (h0 : 0 ≤ a) (h1 : a ≤ 1000000000000) (h2 : 1 ≤ b) (h3 : b ≤ 1000000000000) : CD a b ((a + b - 1) / b) := by
  have e1 := Int.mul_ediv_add_emod (a + b - 1) b
  have e2 := Int.emod_nonneg (a + b - 1) (show b ≠ 0 by omega)
  have e3 := Int.emod_lt_of_pos (a + b - 1) (show 0 < b by omega)
  rw [Int.mul_comm b] at e1
  exact Or.inl ⟨h0, h1, h2, h3, by omega, by omega⟩
theorem cdiv_any (a b : Int) (w : World) :
    Calls Tryd.prog 12 #[.int .i64 a, .int .i64 b] w fun e w' => ∃ q, Hid (CD a b q) ∧ e = .returned (.int .i64 q) ∧ w = w' := by
  by_cases ha : 0 ≤ a ∧ a ≤ 1000000000000
  · by_cases hb : 1 ≤ b ∧ b ≤ 1000000000000
    · obtain ⟨h0, h1⟩ := ha
      obtain ⟨h2, h3⟩ := hb
      go_enter Tryd.func12, Tryd.ntmps12
      go_wp2_with (go_at_call 24; refine (inr_yes _ _ _ (by omega) (by omega) _).mono ?_; rintro e w1 ⟨rfl, rfl⟩)
      go_ret
      exact ⟨_, Lib.hid (cd_in a b h0 h1 h2 h3), rfl, rfl⟩
    · have HB := Lib.hid hb
      have HQ : Hid (CD a b 0) := Lib.hid (Or.inr ⟨fun h => hb ⟨h.2.2.1, h.2.2.2⟩, rfl⟩)
      clear hb
      obtain ⟨h0, h1⟩ := ha
      go_enter Tryd.func12, Tryd.ntmps12
      go_wp2_with (go_at_call 24; first | (refine (inr_yes _ _ _ (by omega) (by omega) _).mono ?_; rintro e w1 ⟨rfl, rfl⟩) | (refine (inr_no _ _ _ HB.out _).mono ?_; rintro e w1 ⟨rfl, rfl⟩))
      go_ret
      exact ⟨0, HQ, rfl, rfl⟩
  · have HA := Lib.hid ha
    have HQ : Hid (CD a b 0) := Lib.hid (Or.inr ⟨fun h => ha ⟨h.1, h.2.1⟩, rfl⟩)
    clear ha
    go_enter Tryd.func12, Tryd.ntmps12
    go_wp2_with (go_at_call 24; refine (inr_no _ _ _ HA.out _).mono ?_; rintro e w1 ⟨rfl, rfl⟩)
    go_ret
    exact ⟨0, HQ, rfl, rfl⟩

/-- What Mod answers. -/
def MD (a b r : Int) : Prop := (¬ (1 ≤ b ∧ b ≤ 1000000000000) ∧ r = 0) ∨ (1 ≤ b ∧ b ≤ 1000000000000 ∧ ((0 ≤ a ∧ r = a % b) ∨ (a < 0 ∧ a.tmod b = 0 ∧ r = 0) ∨ (a < 0 ∧ -b < a.tmod b ∧ a.tmod b < 0 ∧ r = a.tmod b + b)))
theorem mod_any (a b : Int) (w : World) :
    Calls Tryd.prog 13 #[.int .i64 a, .int .i64 b] w fun e w' => ∃ r, Hid (MD a b r) ∧ e = .returned (.int .i64 r) ∧ w = w' := by
  by_cases hb : 1 ≤ b ∧ b ≤ 1000000000000
  · obtain ⟨h1, h2⟩ := hb
    by_cases h3 : 0 ≤ a
    · have b1 : 0 ≤ a % b := Int.emod_nonneg _ (by omega)
      have b2 : a % b < b := Int.emod_lt_of_pos _ (by omega)
      have HQ : Hid (MD a b (a % b)) := Lib.hid (Or.inr ⟨h1, h2, Or.inl ⟨h3, rfl⟩⟩)
      go_enter Tryd.func13, Tryd.ntmps13
      go_wp2_with (go_at_call 24; refine (inr_yes _ _ _ (by omega) (by omega) _).mono ?_; rintro e w1 ⟨rfl, rfl⟩)
      go_ret
      exact ⟨_, HQ, rfl, rfl⟩
    · have b1 : -b < a.tmod b := by have := Int.lt_tmod_of_pos a (show 0 < b by omega); omega
      have b2 : a.tmod b ≤ 0 := by have := Int.tmod_nonneg b (show 0 ≤ -a by omega); rw [Int.neg_tmod] at this; omega
      by_cases h4 : a.tmod b = 0
      · have HQ : Hid (MD a b 0) := Lib.hid (Or.inr ⟨h1, h2, Or.inr (Or.inl ⟨by omega, h4, rfl⟩)⟩)
        go_enter Tryd.func13, Tryd.ntmps13
        go_wp2_with (go_at_call 24; refine (inr_yes _ _ _ (by omega) (by omega) _).mono ?_; rintro e w1 ⟨rfl, rfl⟩)
        go_ret
        exact ⟨0, HQ, rfl, rfl⟩
      · have b3 : a.tmod b < 0 := by omega
        have HQ : Hid (MD a b (a.tmod b + b)) := Lib.hid (Or.inr ⟨h1, h2, Or.inr (Or.inr ⟨by omega, b1, b3, rfl⟩)⟩)
        clear h4
        go_enter Tryd.func13, Tryd.ntmps13
        go_wp2_with (go_at_call 24; refine (inr_yes _ _ _ (by omega) (by omega) _).mono ?_; rintro e w1 ⟨rfl, rfl⟩)
        go_ret
        exact ⟨_, HQ, rfl, rfl⟩
  · have HB := Lib.hid hb
    have HQ : Hid (MD a b 0) := Lib.hid (Or.inl ⟨hb, rfl⟩)
    clear hb
    go_enter Tryd.func13, Tryd.ntmps13
    go_wp2_with (go_at_call 24; refine (inr_no _ _ _ HB.out _).mono ?_; rintro e w1 ⟨rfl, rfl⟩)
    go_ret
    exact ⟨0, HQ, rfl, rfl⟩
end Go.Proofs.YtkiopplnbkoljaaDoor
