/-
  Proves the tied card of the law FnIntegers: for every byte slice the law returns true (what is drawn from it is parsed from its decimal form, CeilDiv and Mod satisfy their inequalities) and the slice reads as before, where six listed package variables start as the program's text lays them.
-/
import Derived.Test.YtkiopplnbkoljaaDoorIntTwo
import Derived.Test.YtkiopplnbkoljaaDoorVars
import Derived.Deep.DeepCutAuto
namespace Go.Proofs.YtkiopplnbkoljaaDoor.fnIntegers
open Go.RowKit

theorem big_yes (n cap : Nat) (a0 : Option Addr) (h : 1048576 < n) (w : World) :
    Calls Tryd.prog 6 #[.slice a0 n cap] w fun e w' => e = .returned (.bool true) ∧ w = w' := by
  have d : decide ((1048576 : Int) < n) = true := decide_eq_true (by omega)
  go_enter Tryd.func6, Tryd.ntmps6
  go_wp2
  go_ret
  exact ⟨rfl, rfl⟩
theorem big_no (n cap : Nat) (a0 : Option Addr) (h : n ≤ 1048576) (w : World) :
    Calls Tryd.prog 6 #[.slice a0 n cap] w fun e w' => e = .returned (.bool false) ∧ w = w' := by
  have d : decide ((1048576 : Int) < n) = false := decide_eq_false (by omega)
  go_enter Tryd.func6, Tryd.ntmps6
  go_wp2
  go_ret
  exact ⟨rfl, rfl⟩

theorem long (n cap : Nat) (a0 : Option Addr) (h : 1048576 < n) (w : World) :
    Calls Tryd.prog 3 #[.slice a0 n cap] w fun e w' => e = .returned (.bool true) ∧ Below w.heap.size w w' := by
  go_enter Tryd.func3, Tryd.ntmps3
  go_wp2_with (go_at_call 6; refine (big_yes n cap a0 h _).mono ?_; rintro e w1 ⟨rfl, rfl⟩)
  go_ret
  exact ⟨rfl, Below.refl _ _⟩

theorem short_le {z : ByteArray} (h : Short z) : z.size ≤ 281474976710656 := Nat.le_trans h (by decide)
theorem itoa_le {m : Int} (h0 : LO ≤ m) (h1 : m ≤ HI) : (⟨(Lib.itoa m).toArray⟩ : ByteArray).size ≤ 281474976710656 := by
  have := Lib.itoa_length_le m h0 h1
  show (Lib.itoa m).toArray.size ≤ 281474976710656
  rw [List.size_toArray]; omega

set_option maxRecDepth 100000 in
set_option maxHeartbeats 1600000 in
theorem law (n cap : Nat) (a0 : Option Addr) (w : World) (hc : Code w.heap.size w a0 n) (hn : n ≤ 1048576) (ad : Addr) (p q : Value) (hV : Vars w ad p q) :
    Calls Tryd.prog 3 #[.slice a0 n cap] w fun e w' => e = .returned (.bool true) ∧ Below w.heap.size w w' := by
  go_enter Tryd.func3, Tryd.ntmps3
  go_wp2_with (first | (go_at_call 6; refine (big_no n cap a0 hn _).mono ?_; rintro e w0 ⟨rfl, rfl⟩) | (go_at_call 7; refine (dp_any n cap a0 _ hc hn).mono ?_; rintro e w1 ⟨v, ⟨s, hs, rfl⟩, rfl, hb1⟩))
  go_wp2_with (go_at_call 8; refine (parse_any s (short_le hs) ad p q _ (hV.stays hb1)).mono ?_; rintro e w2 ⟨x, ok, HP1, rfl, hb⟩; have hb2 := hb1.trans (Joins.below_le hb hb1.size); clear hb hb1 hs)
  go_wp2_with (go_at_call 9; refine (df_any n cap a0 _ (hc.later hb2) hn).mono ?_; rintro e w3 ⟨v, ⟨m, hm0, hm1, rfl⟩, rfl, hb⟩; have hb3 := hb2.trans (Joins.below_le hb hb2.size); clear hb hb2)
  go_wp2_with (go_at_call 10; refine (impl_format m hm0 hm1 _ (hV.stays hb3).tab).mono ?_; rintro e w4 ⟨rfl, hb⟩; have hb4 := hb3.trans (Joins.below_le hb hb3.size); clear hb hb3)
  go_wp2_with (go_at_call 8; refine (parse_any _ (itoa_le hm0 hm1) ad p q _ (hV.stays hb4)).mono ?_; rintro e w5 ⟨k, fine, HP2, rfl, hb⟩; have hb5 := hb4.trans (Joins.below_le hb hb4.size); clear hb hb4)
  go_wp2_with (go_at_call 11; refine (dc_any n cap a0 _ (hc.later hb5) hn).mono ?_; rintro e w6 ⟨v, ⟨a, b, ha0, ha1, hb0, hb1, rfl⟩, rfl, hb⟩; have hb6 := hb5.trans (Joins.below_le hb hb5.size); clear hb hb5)
  go_wp2_with (go_at_call 12; refine (cdiv_any a b _).mono ?_; rintro e w7 ⟨t, HC, rfl, rfl⟩)
  go_upto_region 10 with (go_at_call 13; refine (mod_any a b _).mono ?_; rintro e w8 ⟨r, HM, rfl, rfl⟩)
  go_cut [65] (fun s65 wx => s65 = .bool false ∧ Below w.heap.size w wx)
  case first =>
    rcases HP1.out with ⟨rfl, h1⟩ | ⟨rfl, rfl, h1⟩
    · have e1 : (Lib.itoa x == s.toList) = true := by rw [ByteArray.toList_eq, h1.2.2]; simp
      have b0 := h1.1
      have b1 := h1.2.1
      clear h1
      rcases HP2.out with ⟨rfl, h2⟩ | ⟨rfl, rfl, h2⟩
      · obtain rfl := canon_itoa h2
        have b2 := h2.1
        have b3 := h2.2.1
        clear h2
        go_wp2_with (go_at_call 10; refine (impl_format x (by omega) (by omega) _ (hV.stays hb6).tab).mono ?_; rintro e w9 ⟨rfl, hb⟩; have hb9 := hb6.trans (Joins.below_le hb hb6.size); clear hb)
        go_meet
        exact ⟨rfl, hb9⟩
      · have h3 : m < 0 ∨ 1000000000000 < m := by
          by_cases h4 : 0 ≤ m ∧ m ≤ 1000000000000
          · exact absurd ⟨h4.1, h4.2, rfl⟩ (h2 m)
          · omega
        clear h2
        rcases h3 with h3 | h3
        · have d1 : decide (0 ≤ m) = false := decide_eq_false (by omega)
          go_wp2_with (go_at_call 10; refine (impl_format x (by omega) (by omega) _ (hV.stays hb6).tab).mono ?_; rintro e w9 ⟨rfl, hb⟩; have hb9 := hb6.trans (Joins.below_le hb hb6.size); clear hb)
          go_meet
          exact ⟨rfl, hb9⟩
        · have d0 : 0 ≤ m := by omega
          have d1 : decide (m ≤ 1000000000000) = false := decide_eq_false (by omega)
          go_wp2_with (go_at_call 10; refine (impl_format x (by omega) (by omega) _ (hV.stays hb6).tab).mono ?_; rintro e w9 ⟨rfl, hb⟩; have hb9 := hb6.trans (Joins.below_le hb hb6.size); clear hb)
          go_meet
          exact ⟨rfl, hb9⟩
    · clear h1
      rcases HP2.out with ⟨rfl, h2⟩ | ⟨rfl, rfl, h2⟩
      · obtain rfl := canon_itoa h2
        have b2 := h2.1
        have b3 := h2.2.1
        clear h2
        go_wp2_with fail
        go_meet
        exact ⟨rfl, hb6⟩
      · have h3 : m < 0 ∨ 1000000000000 < m := by
          by_cases h4 : 0 ≤ m ∧ m ≤ 1000000000000
          · exact absurd ⟨h4.1, h4.2, rfl⟩ (h2 m)
          · omega
        clear h2
        rcases h3 with h3 | h3
        · have d1 : decide (0 ≤ m) = false := decide_eq_false (by omega)
          go_wp2_with fail
          go_meet
          exact ⟨rfl, hb6⟩
        · have d0 : 0 ≤ m := by omega
          have d1 : decide (m ≤ 1000000000000) = false := decide_eq_false (by omega)
          go_wp2_with fail
          go_meet
          exact ⟨rfl, hb6⟩
  case rest =>
    obtain ⟨rfl, hb7⟩ := hcut
    rcases HM.out with ⟨h1, rfl⟩ | ⟨h1, h2, hm⟩
    · have ht : t = 0 := by
        rcases HC.out with h | h
        · exact absurd ⟨h.2.2.1, h.2.2.2.1⟩ h1
        · exact h.2
      subst ht
      by_cases h2 : b < 1
      · clear h1
        go_wp2
        go_ret
        exact ⟨rfl, hb7⟩
      · have h3 : 1000000000000 < b := by omega
        clear h1
        go_wp2
        go_ret
        exact ⟨rfl, hb7⟩
    · rcases hm with ⟨h3, rfl⟩ | ⟨h3, h4, rfl⟩ | ⟨h3, h4, h5, rfl⟩
      · have m0 : 0 ≤ a % b := Int.emod_nonneg _ (by omega)
        have m1 : a % b < b := Int.emod_lt_of_pos _ (by omega)
        rcases HC.out with ⟨c1, c2, c3, c4, c5, c6⟩ | ⟨c1, rfl⟩
        · have d : decide (t * b - a < b) = true := decide_eq_true (by omega)
          go_wp2
          go_ret
          exact ⟨rfl, hb7⟩
        · have c2 : 1000000000000 < a := by omega
          clear c1
          go_wp2
          go_ret
          exact ⟨rfl, hb7⟩
      · have ht : t = 0 := by
          rcases HC.out with h | h
          · omega
          · exact h.2
        subst ht
        go_wp2
        go_ret
        exact ⟨rfl, hb7⟩
      · have ht : t = 0 := by
          rcases HC.out with h | h
          · omega
          · exact h.2
        subst ht
        have d : ((a.tmod b - (a.tmod b + b)).tmod b != 0) = false := by
          rw [show a.tmod b - (a.tmod b + b) = -b by omega, Int.neg_tmod, Int.tmod_self]; rfl
        go_wp2
        go_ret
        exact ⟨rfl, hb7⟩
end Go.Proofs.YtkiopplnbkoljaaDoor.fnIntegers
