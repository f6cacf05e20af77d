/-
  The model's contracts of chapter 8, first part: l8From.
  The model's contracts of chapter 8, second part: SlotsOf.   The model's contracts of chapter 8, third part: CellsOf, l8Has, SlotsAt.
  The model's contracts of chapter 8, fourth part: CellsOf.   The model's contracts of chapter 8, fifth part: SlotsAt.
-/
import Derived.Test.YtgjijmcedonlmaaGreatDoorSlotPure
import Derived.Test.YtgjijmcedonlmaaGreatDoorGrid
import Derived.Test.YtgjijmcedonlmaaGreatDoorSlotS
import Derived.Test.YtgjijmcedonlmaaGreatDoorKit
import Derived.BigQuiet
import Derived.Deep.RegionWith
import Derived.Deep.RegionHeld3
namespace Go.Proofs.YtgjijmcedonlmaaGreatDoor
open Go.RowKit

theorem whF_eq (s : ByteArray) (k : Nat) (h : k < s.size) : whF s k = decide (s[k] = 46) := by
  unfold whF
  rw [getD_byte s k h]
theorem white_eq {s : ByteArray} {k : Nat} (h : k < s.size) (hw : whF s k = true) : ((s[k].toNat : Int) == 46) = true ∧ ((s[k].toNat : Int) != 46) = false := by
  rw [whF_eq s k h] at hw
  rw [of_decide_eq_true hw]
  exact ⟨rfl, rfl⟩
theorem black_eq {s : ByteArray} {k : Nat} (h : k < s.size) (hw : whF s k = false) : ((s[k].toNat : Int) == 46) = false ∧ ((s[k].toNat : Int) != 46) = true := by
  rw [whF_eq s k h] at hw
  have h9 := of_decide_eq_false hw
  have h8 : ¬ ((s[k].toNat : Int) = 46) := fun e => h9 (UInt8.toNat_inj.1 (by show s[k].toNat = 46; omega))
  exact ⟨by simpa using h8, by simpa using h8⟩
theorem row_back {i c j : Nat} (h : 0 < i) : i * c + j = ((i - 1) * c + j) + c := by
  obtain ⟨k, rfl⟩ : ∃ k, i = k + 1 := ⟨i - 1, by omega⟩
  rw [Nat.succ_mul, Nat.add_sub_cancel]
  omega
theorem row_on (i c j n : Nat) : i * c + j + n * c = (i + n) * c + j := by
  rw [Nat.add_mul]
  omega
set_option maxHeartbeats 1600000 in
theorem sfromA_any (r c : Nat) (s : ByteArray) (i j : Nat) (hz : s.size ≤ 36) (hj : j < c) (hc : c ≤ 6) (hlast : ∀ x, x < c → i * c + x < s.size) (w : World) :
    Calls Tryz.prog 96 #[.agg #[.int .i64 (r : Int), .int .i64 (c : Int), .string s], .int .i64 ((i * c + j : Nat) : Int), .bool false] w fun e w' => e = .returned (.int .i64 ((runAt (rowB c s i) j : Nat) : Int)) ∧ Below w.heap.size w w' := by
  have HBOX := Lib.hid (box3 w r c s 25)
  have HW : Hid (Below w.heap.size w (w.alloc (.cells #[.int .i64 r, .int .i64 c, .string s] 25))) := Lib.hid ((Below.refl _ _).alloc (Nat.le_refl _) _)
  obtain ⟨q, hq⟩ : ∃ q, q = i * c + j := ⟨_, rfl⟩
  rw [← hq]
  have hqs : q < s.size := by rw [hq]; exact hlast j hj
  have HL := Lib.hid hlast
  have HP : Hid (j < c) := Lib.hid (by omega)
  have hl6 : c ≤ 6 := by omega
  have HG := Lib.hid (fun x (hx : x < c) => rowB_get c s i hx)
  have HGE := Lib.hid (fun x (hx : c ≤ x) => rowB_end c s i hx)
  have hmod : ((q : Int)) % (c : Int) = (j : Int) := by rw [hq]; exact_mod_cast (div_in (i := i) hj).2
  have hdiv : ((q : Int)) / (c : Int) = (i : Int) := by rw [hq]; exact_mod_cast (div_in (i := i) hj).1
  have hc0 : ((c : Int) == 0) = false := by simp; omega
  have hmb : 0 ≤ (q : Int) % (c : Int) ∧ (q : Int) % (c : Int) ≤ 5 := by rw [hmod]; omega
  have HM := Lib.hid hmod
  have HD := Lib.hid hdiv
  clear hmod hdiv
  have HQ := Lib.hid hq
  have HN1 := Lib.hid (fun h => runAt_no1 (bs := rowB c s i) (j := j) h)
  have HN2 := Lib.hid (fun h0 h => runAt_no2 (bs := rowB c s i) (j := j) h0 h)
  have HY := Lib.hid (fun n h h0 h1 h2 => runAt_yes (bs := rowB c s i) (j := j) (n := n) h h0 h1 h2)
  obtain ⟨bs, hbs⟩ : ∃ bs, bs = rowB c s i := ⟨_, rfl⟩
  rw [← hbs] at HN1 HN2 HY HG HGE ⊢
  have HGp := Lib.hid (HG.out j HP.out)
  rw [← HQ.out] at HGp
  clear hlast hq hbs
  obtain ⟨c0, c1, c2⟩ := HBOX.out
  by_cases hw : whF s q = true
  · obtain ⟨hw1, hw2⟩ := white_eq hqs hw
    have HB0 : Hid (bs.getD j false = true) := Lib.hid (HGp.out.trans hw)
    clear hw
    by_cases hp : 0 < j ∧ bs.getD (j - 1) false = true
    · -- a white cell stands ahead of it
      have HF := Lib.hid (HN2.out hp.1 hp.2)
      obtain ⟨p, hpq⟩ : ∃ p, p + 1 = q := ⟨q - 1, by have := HQ.out; omega⟩
      have hps : p < s.size := by omega
      have hpe : (q : Int) - (1 : Int) = (p : Int) := by omega
      have hpw : whF s p = true := by
        have h9 := HG.out (j - 1) (by have := HP.out; omega)
        rw [hp.2] at h9
        rw [h9]
        congr 1
        have h8 := HQ.out; omega
      obtain ⟨hw3, hw4⟩ := white_eq hps hpw
      have hgt : decide ((0 : Int) < (q : Int) % (c : Int)) = true := decide_eq_true (by rw [HM.out]; omega)
      have h00 : 0 < j := hp.1
      clear hp hpw hw4
      go_enter Tryz.func96, Tryz.ntmps96
      go_wp2
      go_ret
      exact ⟨by rw [HF.out]; rfl, HW.out⟩
    · have HB1 : Hid (j = 0 ∨ bs.getD (j - 1) false = false) := Lib.hid (by
        rcases Nat.eq_zero_or_pos j with h | h
        · exact .inl h
        · right
          rcases hb : bs.getD (j - 1) false with _ | _
          · rfl
          · exact absurd ⟨h, hb⟩ hp)
      clear hp
      have HST : Hid (Calls Tryz.prog 96 #[.agg #[.int .i64 (r : Int), .int .i64 (c : Int), .string s], .int .i64 (q : Int), .bool false] w fun e w' => e = .returned (.int .i64 ((runAt bs j : Nat) : Int)) ∧ Below w.heap.size w w') := Lib.hid (by
        rcases Nat.eq_zero_or_pos j with h0 | h0
        · have hgt : decide ((0 : Int) < (q : Int) % (c : Int)) = false := decide_eq_false (by rw [HM.out]; omega)
          have H0 := Lib.hid h0
          clear h0
          go_enter Tryz.func96, Tryz.ntmps96
          go_wp2
          obtain ⟨W0, hW0⟩ : ∃ W0, W0 = w.alloc (.cells #[.int .i64 r, .int .i64 c, .string s] 25) := ⟨_, rfl⟩
          rw [← hW0] at HW c0 c1 c2 ⊢
          clear hW0
          go_loopw [10] (fun v wr => ∃ n : Nat, j + n ≤ c ∧ v = .int .i64 n ∧ Hid (∀ x, x < n → bs.getD (j + x) false = true) ∧ W0 = wr) (fun v _ => c - (intOf v).toNat)
          case atStart => exact ⟨0, by have := HP.out; omega, rfl, Lib.hid (fun x hx => absurd hx (Nat.not_lt_zero _)), rfl⟩
          case round =>
            obtain ⟨n, hn, rfl, HN, rfl⟩ := hrel
            by_cases hlt : j + n < c
            · have hlt' : decide ((q : Int) % (c : Int) + (n : Int) < (c : Int)) = true := decide_eq_true (by rw [HM.out]; omega)
              obtain ⟨m, hm⟩ : ∃ m, m = q + n * 1 := ⟨_, rfl⟩
              have hmi : (q : Int) + (n : Int) = (m : Int) := by rw [hm]; simp
              have hms : m < s.size := by rw [hm, HQ.out, show i * c + j + n * 1 = i * c + (j + n) by omega]; exact HL.out _ hlt
              have HGn := Lib.hid (HG.out _ hlt)
              rw [show i * c + (j + n) = m by have := HQ.out; omega] at HGn
              clear hm
              by_cases hw9 : whF s m = true
              · obtain ⟨hv1, hv2⟩ := white_eq hms hw9
                have HN2' : Hid (∀ x, x < n + 1 → bs.getD (j + x) false = true) := Lib.hid (fun x hx => by
                  rcases Nat.lt_or_ge x n with h | h
                  · exact HN.out x h
                  · rw [show x = n by omega]; exact HGn.out.trans hw9)
                clear hw9 hv2
                go_wp2
                go_roundw
                case rel => exact ⟨n + 1, by omega, by go_num, HN2', by trivial⟩
                case measure => simp [intOf]; omega
              · have hb9 : whF s m = false := by simpa using hw9
                obtain ⟨hv1, hv2⟩ := black_eq hms hb9
                have HF := Lib.hid (HY.out n HB0.out HB1.out HN.out (HGn.out.trans hb9))
                clear hw9 hv2 hb9
                go_wp2
                go_ret
                exact ⟨by rw [HF.out]; rfl, HW.out⟩
            · have hlt' : decide ((q : Int) % (c : Int) + (n : Int) < (c : Int)) = false := decide_eq_false (by rw [HM.out]; omega)
              have HF := Lib.hid (HY.out n HB0.out HB1.out HN.out (HGE.out _ (by omega)))
              go_wp2
              go_ret
              exact ⟨by rw [HF.out]; rfl, HW.out⟩
        · obtain ⟨p, hpq⟩ : ∃ p, p + 1 = q := ⟨q - 1, by have := HQ.out; omega⟩
          have hps : p < s.size := by omega
          have hpe : (q : Int) - (1 : Int) = (p : Int) := by omega
          have hpw : whF s p = false := by
            have h9 := HG.out (j - 1) (by have := HP.out; omega)
            rw [HB1.out.resolve_left (by omega)] at h9
            rw [h9]
            congr 1
            have h8 := HQ.out; omega
          obtain ⟨hw3, hw4⟩ := black_eq hps hpw
          have hgt : decide ((0 : Int) < (q : Int) % (c : Int)) = true := decide_eq_true (by rw [HM.out]; omega)
          clear hpw hw4
          go_enter Tryz.func96, Tryz.ntmps96
          go_wp2
          obtain ⟨W0, hW0⟩ : ∃ W0, W0 = w.alloc (.cells #[.int .i64 r, .int .i64 c, .string s] 25) := ⟨_, rfl⟩
          rw [← hW0] at HW c0 c1 c2 ⊢
          clear hW0
          go_loopw [10] (fun v wr => ∃ n : Nat, j + n ≤ c ∧ v = .int .i64 n ∧ Hid (∀ x, x < n → bs.getD (j + x) false = true) ∧ W0 = wr) (fun v _ => c - (intOf v).toNat)
          case atStart => exact ⟨0, by have := HP.out; omega, rfl, Lib.hid (fun x hx => absurd hx (Nat.not_lt_zero _)), rfl⟩
          case round =>
            obtain ⟨n, hn, rfl, HN, rfl⟩ := hrel
            by_cases hlt : j + n < c
            · have hlt' : decide ((q : Int) % (c : Int) + (n : Int) < (c : Int)) = true := decide_eq_true (by rw [HM.out]; omega)
              obtain ⟨m, hm⟩ : ∃ m, m = q + n * 1 := ⟨_, rfl⟩
              have hmi : (q : Int) + (n : Int) = (m : Int) := by rw [hm]; simp
              have hms : m < s.size := by rw [hm, HQ.out, show i * c + j + n * 1 = i * c + (j + n) by omega]; exact HL.out _ hlt
              have HGn := Lib.hid (HG.out _ hlt)
              rw [show i * c + (j + n) = m by have := HQ.out; omega] at HGn
              clear hm
              by_cases hw9 : whF s m = true
              · obtain ⟨hv1, hv2⟩ := white_eq hms hw9
                have HN2' : Hid (∀ x, x < n + 1 → bs.getD (j + x) false = true) := Lib.hid (fun x hx => by
                  rcases Nat.lt_or_ge x n with h | h
                  · exact HN.out x h
                  · rw [show x = n by omega]; exact HGn.out.trans hw9)
                clear hw9 hv2
                go_wp2
                go_roundw
                case rel => exact ⟨n + 1, by omega, by go_num, HN2', by trivial⟩
                case measure => simp [intOf]; omega
              · have hb9 : whF s m = false := by simpa using hw9
                obtain ⟨hv1, hv2⟩ := black_eq hms hb9
                have HF := Lib.hid (HY.out n HB0.out HB1.out HN.out (HGn.out.trans hb9))
                clear hw9 hv2 hb9
                go_wp2
                go_ret
                exact ⟨by rw [HF.out]; rfl, HW.out⟩
            · have hlt' : decide ((q : Int) % (c : Int) + (n : Int) < (c : Int)) = false := decide_eq_false (by rw [HM.out]; omega)
              have HF := Lib.hid (HY.out n HB0.out HB1.out HN.out (HGE.out _ (by omega)))
              go_wp2
              go_ret
              exact ⟨by rw [HF.out]; rfl, HW.out⟩)
      exact HST.out
  · have hb : whF s q = false := by simpa using hw
    obtain ⟨hw1, hw2⟩ := black_eq hqs hb
    have HF := Lib.hid (HN1.out (HGp.out.trans hb))
    clear hw hb
    go_enter Tryz.func96, Tryz.ntmps96
    go_wp2
    go_ret
    exact ⟨by rw [HF.out]; rfl, HW.out⟩
set_option maxHeartbeats 1600000 in
theorem sfromD_any (r c : Nat) (s : ByteArray) (i j : Nat) (hz : s.size ≤ 36) (hj : j < c) (hc : c ≤ 6) (hlast : ∀ x, x < r → x * c + j < s.size) (hi : i < r) (hr : r ≤ 6) (w : World) :
    Calls Tryz.prog 96 #[.agg #[.int .i64 (r : Int), .int .i64 (c : Int), .string s], .int .i64 ((i * c + j : Nat) : Int), .bool true] w fun e w' => e = .returned (.int .i64 ((runAt (colB r c s j) i : Nat) : Int)) ∧ Below w.heap.size w w' := by
  have HBOX := Lib.hid (box3 w r c s 25)
  have HW : Hid (Below w.heap.size w (w.alloc (.cells #[.int .i64 r, .int .i64 c, .string s] 25))) := Lib.hid ((Below.refl _ _).alloc (Nat.le_refl _) _)
  obtain ⟨q, hq⟩ : ∃ q, q = i * c + j := ⟨_, rfl⟩
  rw [← hq]
  have hqs : q < s.size := by rw [hq]; exact hlast i hi
  have HL := Lib.hid hlast
  have HP : Hid (i < r) := Lib.hid (by omega)
  have hl6 : r ≤ 6 := by omega
  have HG := Lib.hid (fun x (hx : x < r) => colB_get r c s j hx)
  have HGE := Lib.hid (fun x (hx : r ≤ x) => colB_end r c s j hx)
  have hmod : ((q : Int)) % (c : Int) = (j : Int) := by rw [hq]; exact_mod_cast (div_in (i := i) hj).2
  have hdiv : ((q : Int)) / (c : Int) = (i : Int) := by rw [hq]; exact_mod_cast (div_in (i := i) hj).1
  have hc0 : ((c : Int) == 0) = false := by simp; omega
  have hmb : 0 ≤ (q : Int) % (c : Int) ∧ (q : Int) % (c : Int) ≤ 5 := by rw [hmod]; omega
  have hdb : 0 ≤ (q : Int) / (c : Int) ∧ (q : Int) / (c : Int) ≤ 36 := by rw [hdiv]; omega
  have HM := Lib.hid hmod
  have HD := Lib.hid hdiv
  clear hmod hdiv
  have HQ := Lib.hid hq
  have HN1 := Lib.hid (fun h => runAt_no1 (bs := colB r c s j) (j := i) h)
  have HN2 := Lib.hid (fun h0 h => runAt_no2 (bs := colB r c s j) (j := i) h0 h)
  have HY := Lib.hid (fun n h h0 h1 h2 => runAt_yes (bs := colB r c s j) (j := i) (n := n) h h0 h1 h2)
  obtain ⟨bs, hbs⟩ : ∃ bs, bs = colB r c s j := ⟨_, rfl⟩
  rw [← hbs] at HN1 HN2 HY HG HGE ⊢
  have HGp := Lib.hid (HG.out i HP.out)
  rw [← HQ.out] at HGp
  clear hlast hq hbs
  obtain ⟨c0, c1, c2⟩ := HBOX.out
  by_cases hw : whF s q = true
  · obtain ⟨hw1, hw2⟩ := white_eq hqs hw
    have HB0 : Hid (bs.getD i false = true) := Lib.hid (HGp.out.trans hw)
    clear hw
    by_cases hp : 0 < i ∧ bs.getD (i - 1) false = true
    · -- a white cell stands ahead of it
      have HF := Lib.hid (HN2.out hp.1 hp.2)
      obtain ⟨p, hpq⟩ : ∃ p, p + c = q := ⟨q - c, by rw [HQ.out, row_back hp.1]; omega⟩
      have hps : p < s.size := by omega
      have hpe : (q : Int) - (c : Int) = (p : Int) := by omega
      have hpw : whF s p = true := by
        have h9 := HG.out (i - 1) (by have := HP.out; omega)
        rw [hp.2] at h9
        rw [h9]
        congr 1
        have h8 := HQ.out; rw [row_back hp.1] at h8; omega
      obtain ⟨hw3, hw4⟩ := white_eq hps hpw
      have hgt : decide ((0 : Int) < (q : Int) / (c : Int)) = true := decide_eq_true (by rw [HD.out]; omega)
      have h00 : 0 < i := hp.1
      clear hp hpw hw4
      go_enter Tryz.func96, Tryz.ntmps96
      go_wp2
      go_ret
      exact ⟨by rw [HF.out]; rfl, HW.out⟩
    · have HB1 : Hid (i = 0 ∨ bs.getD (i - 1) false = false) := Lib.hid (by
        rcases Nat.eq_zero_or_pos i with h | h
        · exact .inl h
        · right
          rcases hb : bs.getD (i - 1) false with _ | _
          · rfl
          · exact absurd ⟨h, hb⟩ hp)
      clear hp
      have HST : Hid (Calls Tryz.prog 96 #[.agg #[.int .i64 (r : Int), .int .i64 (c : Int), .string s], .int .i64 (q : Int), .bool true] w fun e w' => e = .returned (.int .i64 ((runAt bs i : Nat) : Int)) ∧ Below w.heap.size w w') := Lib.hid (by
        rcases Nat.eq_zero_or_pos i with h0 | h0
        · have hgt : decide ((0 : Int) < (q : Int) / (c : Int)) = false := decide_eq_false (by rw [HD.out]; omega)
          have H0 := Lib.hid h0
          clear h0
          go_enter Tryz.func96, Tryz.ntmps96
          go_wp2
          obtain ⟨W0, hW0⟩ : ∃ W0, W0 = w.alloc (.cells #[.int .i64 r, .int .i64 c, .string s] 25) := ⟨_, rfl⟩
          rw [← hW0] at HW c0 c1 c2 ⊢
          clear hW0
          go_loopw [10] (fun v wr => ∃ n : Nat, i + n ≤ r ∧ v = .int .i64 n ∧ Hid (∀ x, x < n → bs.getD (i + x) false = true) ∧ W0 = wr) (fun v _ => r - (intOf v).toNat)
          case atStart => exact ⟨0, by have := HP.out; omega, rfl, Lib.hid (fun x hx => absurd hx (Nat.not_lt_zero _)), rfl⟩
          case round =>
            obtain ⟨n, hn, rfl, HN, rfl⟩ := hrel
            by_cases hlt : i + n < r
            · have hlt' : decide ((q : Int) / (c : Int) + (n : Int) < (r : Int)) = true := decide_eq_true (by rw [HD.out]; omega)
              obtain ⟨m, hm⟩ : ∃ m, m = q + n * c := ⟨_, rfl⟩
              have hmi : (q : Int) + (n : Int) * (c : Int) = (m : Int) := by rw [hm]; simp
              have hms : m < s.size := by rw [hm, HQ.out, row_on]; exact HL.out _ hlt
              have HGn := Lib.hid (HG.out _ hlt)
              rw [show (i + n) * c + j = m by rw [hm, HQ.out, row_on]] at HGn
              have hmul : (0 : Int) ≤ (n : Int) * (c : Int) ∧ (n : Int) * (c : Int) ≤ 36 := by have h7 : ((n * c : Nat) : Int) = (n : Int) * (c : Int) := (by simp); omega
              clear hm
              by_cases hw9 : whF s m = true
              · obtain ⟨hv1, hv2⟩ := white_eq hms hw9
                have HN2' : Hid (∀ x, x < n + 1 → bs.getD (i + x) false = true) := Lib.hid (fun x hx => by
                  rcases Nat.lt_or_ge x n with h | h
                  · exact HN.out x h
                  · rw [show x = n by omega]; exact HGn.out.trans hw9)
                clear hw9 hv2
                go_wp2
                go_roundw
                case rel => exact ⟨n + 1, by omega, by go_num, HN2', by trivial⟩
                case measure => simp [intOf]; omega
              · have hb9 : whF s m = false := by simpa using hw9
                obtain ⟨hv1, hv2⟩ := black_eq hms hb9
                have HF := Lib.hid (HY.out n HB0.out HB1.out HN.out (HGn.out.trans hb9))
                clear hw9 hv2 hb9
                go_wp2
                go_ret
                exact ⟨by rw [HF.out]; rfl, HW.out⟩
            · have hlt' : decide ((q : Int) / (c : Int) + (n : Int) < (r : Int)) = false := decide_eq_false (by rw [HD.out]; omega)
              have HF := Lib.hid (HY.out n HB0.out HB1.out HN.out (HGE.out _ (by omega)))
              go_wp2
              go_ret
              exact ⟨by rw [HF.out]; rfl, HW.out⟩
        · obtain ⟨p, hpq⟩ : ∃ p, p + c = q := ⟨q - c, by rw [HQ.out, row_back h0]; omega⟩
          have hps : p < s.size := by omega
          have hpe : (q : Int) - (c : Int) = (p : Int) := by omega
          have hpw : whF s p = false := by
            have h9 := HG.out (i - 1) (by have := HP.out; omega)
            rw [HB1.out.resolve_left (by omega)] at h9
            rw [h9]
            congr 1
            have h8 := HQ.out; rw [row_back h0] at h8; omega
          obtain ⟨hw3, hw4⟩ := black_eq hps hpw
          have hgt : decide ((0 : Int) < (q : Int) / (c : Int)) = true := decide_eq_true (by rw [HD.out]; omega)
          clear hpw hw4
          go_enter Tryz.func96, Tryz.ntmps96
          go_wp2
          obtain ⟨W0, hW0⟩ : ∃ W0, W0 = w.alloc (.cells #[.int .i64 r, .int .i64 c, .string s] 25) := ⟨_, rfl⟩
          rw [← hW0] at HW c0 c1 c2 ⊢
          clear hW0
          go_loopw [10] (fun v wr => ∃ n : Nat, i + n ≤ r ∧ v = .int .i64 n ∧ Hid (∀ x, x < n → bs.getD (i + x) false = true) ∧ W0 = wr) (fun v _ => r - (intOf v).toNat)
          case atStart => exact ⟨0, by have := HP.out; omega, rfl, Lib.hid (fun x hx => absurd hx (Nat.not_lt_zero _)), rfl⟩
          case round =>
            obtain ⟨n, hn, rfl, HN, rfl⟩ := hrel
            by_cases hlt : i + n < r
            · have hlt' : decide ((q : Int) / (c : Int) + (n : Int) < (r : Int)) = true := decide_eq_true (by rw [HD.out]; omega)
              obtain ⟨m, hm⟩ : ∃ m, m = q + n * c := ⟨_, rfl⟩
              have hmi : (q : Int) + (n : Int) * (c : Int) = (m : Int) := by rw [hm]; simp
              have hms : m < s.size := by rw [hm, HQ.out, row_on]; exact HL.out _ hlt
              have HGn := Lib.hid (HG.out _ hlt)
              rw [show (i + n) * c + j = m by rw [hm, HQ.out, row_on]] at HGn
              have hmul : (0 : Int) ≤ (n : Int) * (c : Int) ∧ (n : Int) * (c : Int) ≤ 36 := by have h7 : ((n * c : Nat) : Int) = (n : Int) * (c : Int) := (by simp); omega
              clear hm
              by_cases hw9 : whF s m = true
              · obtain ⟨hv1, hv2⟩ := white_eq hms hw9
                have HN2' : Hid (∀ x, x < n + 1 → bs.getD (i + x) false = true) := Lib.hid (fun x hx => by
                  rcases Nat.lt_or_ge x n with h | h
                  · exact HN.out x h
                  · rw [show x = n by omega]; exact HGn.out.trans hw9)
                clear hw9 hv2
                go_wp2
                go_roundw
                case rel => exact ⟨n + 1, by omega, by go_num, HN2', by trivial⟩
                case measure => simp [intOf]; omega
              · have hb9 : whF s m = false := by simpa using hw9
                obtain ⟨hv1, hv2⟩ := black_eq hms hb9
                have HF := Lib.hid (HY.out n HB0.out HB1.out HN.out (HGn.out.trans hb9))
                clear hw9 hv2 hb9
                go_wp2
                go_ret
                exact ⟨by rw [HF.out]; rfl, HW.out⟩
            · have hlt' : decide ((q : Int) / (c : Int) + (n : Int) < (r : Int)) = false := decide_eq_false (by rw [HD.out]; omega)
              have HF := Lib.hid (HY.out n HB0.out HB1.out HN.out (HGE.out _ (by omega)))
              go_wp2
              go_ret
              exact ⟨by rw [HF.out]; rfl, HW.out⟩)
      exact HST.out
  · have hb : whF s q = false := by simpa using hw
    obtain ⟨hw1, hw2⟩ := black_eq hqs hb
    have HF := Lib.hid (HN1.out (HGp.out.trans hb))
    clear hw hb
    go_enter Tryz.func96, Tryz.ntmps96
    go_wp2
    go_ret
    exact ⟨by rw [HF.out]; rfl, HW.out⟩
end Go.Proofs.YtgjijmcedonlmaaGreatDoor
namespace Go.Proofs.YtgjijmcedonlmaaGreatDoor
open Go.RowKit

theorem own_zero (w : World) (e : TypeId) (s : Nat) : (w.alloc (.cells #[] e)).ownsRow w.heap.size e s (.slice (some ⟨w.heap.size, 0, none⟩) 0 0) 0 [] :=
  ⟨by simp, .inr ⟨w.heap.size, 0, #[], rfl, Nat.le_refl _, heap_alloc_new w _, Nat.le_refl _, by decide, by simp, by simp⟩⟩
theorem own_widen {W : World} {base base' n s : Nat} {e : TypeId} {v : Value} {xs : List Value} (h : W.ownsRow base' e s v n xs) (hb : base ≤ base') : W.ownsRow base e s v n xs := by
  refine ⟨h.1, ?_⟩
  rcases h.2 with hn | ⟨g, cap, cur, rfl, hbg, rest⟩
  · exact .inl hn
  · exact .inr ⟨g, cap, cur, rfl, Nat.le_trans hb hbg, rest⟩
theorem below_app {B base : Nat} {a w w' : World} {e : TypeId} {v : Value} {n s : Nat} {xs : List Value} (h : Below B a w) (hg : w.grownBy w' v.ownBlock) (ho : w.ownsRow base e s v n xs) (hB : B ≤ base) (hw : B ≤ w.heap.size) : Below B a w' :=
  h.grown hg hw (fun k hk => Nat.le_trans hB (ho.lt k hk).1)
theorem oneSl (w : World) (x : SlotV) (t : TypeId) : ∀ j, j < 1 * 4 → ∃ b off, some (⟨w.heap.size, 0, none⟩ : Addr) = some ⟨b, off, none⟩ ∧ (w.alloc (.cells #[.int .i64 x.1, .bool x.2.1, .int .i64 x.2.2.1, .int .i64 x.2.2.2] t)).cell? ⟨b, off + j, none⟩ = (cells_Slot x)[j]? := fun j hj => by
  refine ⟨_, _, rfl, ?_⟩
  rw [Nat.zero_add, cell_of_row _ w.heap.size j _ t (0, 0) (heap_alloc_new w _)]
  simp [cells_Slot]

theorem cells_Slot_one (x : SlotV) : ∀ u ∈ cells_Slot x, u.oneCell' = true := by
  intro u hu
  simp only [cells_Slot, List.mem_cons, List.not_mem_nil, or_false] at hu
  rcases hu with rfl | rfl | rfl | rfl <;> rfl
theorem row_Slot_snoc (L : List SlotV) (x : SlotV) : row_Slot L ++ cells_Slot x = row_Slot (L ++ [x]) := by
  rw [row_Slot_append]
  simp [row_Slot]

/-- One cell of SlotsOf: the number and the slots, taken on. -/
def stepSl (x : Nat × List SlotV) (k a d : Nat) : Nat × List SlotV :=
  (if 2 ≤ a ∨ 2 ≤ d then x.1 + 1 else x.1, x.2 ++ (if 2 ≤ a then [(((if 2 ≤ a ∨ 2 ≤ d then x.1 + 1 else x.1 : Nat) : Int), false, (k : Int), (a : Int))] else []) ++ (if 2 ≤ d then [(((if 2 ≤ a ∨ 2 ≤ d then x.1 + 1 else x.1 : Nat) : Int), true, (k : Int), (d : Int))] else []))
def slTo (r c : Nat) (s : ByteArray) : Nat → Nat × List SlotV
  | 0 => (0, [])
  | k + 1 => stepSl (slTo r c s k) k (acN c s k) (dnN r c s k)
/-- What SlotsOf answers. -/
def slG (g : Int × Int × ByteArray) : List SlotV := if isG g = true then (slTo g.1.toNat g.2.1.toNat g.2.2 (g.1.toNat * g.2.1.toNat)).2 else []
theorem stepSl_bound (x : Nat × List SlotV) (k a d : Nat) (h1 : x.1 ≤ k) (h2 : x.2.length ≤ 2 * k) : (stepSl x k a d).1 ≤ k + 1 ∧ (stepSl x k a d).2.length ≤ 2 * (k + 1) := by
  by_cases ha : 2 ≤ a <;> by_cases hd : 2 ≤ d <;> simp [stepSl, ha, hd] <;> omega
theorem slTo_bound (r c : Nat) (s : ByteArray) : ∀ k, (slTo r c s k).1 ≤ k ∧ (slTo r c s k).2.length ≤ 2 * k
  | 0 => ⟨Nat.le_refl _, Nat.le_refl _⟩
  | k + 1 => stepSl_bound _ k _ _ (slTo_bound r c s k).1 (slTo_bound r c s k).2
theorem isG_nat {r c : Int} {s : ByteArray} (h : isG (r, c, s) = true) : ∃ R C : Nat, r = R ∧ c = C ∧ 2 ≤ R ∧ R ≤ 6 ∧ 2 ≤ C ∧ C ≤ 6 ∧ s.size = R * C ∧ s.size ≤ 36 := by
  have h36 := isG_size h
  obtain ⟨⟨h1, h2⟩, ⟨h3, h4⟩, h5, -⟩ := of_decide_eq_true h
  have h1 : 2 ≤ r := h1
  have h2 : r ≤ 6 := h2
  have h3 : 2 ≤ c := h3
  have h4 : c ≤ 6 := h4
  refine ⟨r.toNat, c.toNat, by omega, by omega, by omega, by omega, by omega, by omega, ?_, h36⟩
  have e1 : ((r.toNat * c.toNat : Nat) : Int) = r * c := by rw [Int.natCast_mul, Int.toNat_of_nonneg (by omega), Int.toNat_of_nonneg (by omega)]
  have h5' : (s.size : Int) = r * c := h5
  omega
theorem box3_all (w : World) (r c : Int) (s : ByteArray) (t : TypeId) : ∀ w', Below (w.alloc (.cells #[.int .i64 r, .int .i64 c, .string s] t)).heap.size (w.alloc (.cells #[.int .i64 r, .int .i64 c, .string s] t)) w' → w'.cell? ⟨w.heap.size, 0, none⟩ = some (.int .i64 r) ∧ w'.cell? ⟨w.heap.size, 1, none⟩ = some (.int .i64 c) ∧ w'.cell? ⟨w.heap.size, 2, none⟩ = some (.string s) :=
  fun _ h => ⟨(box3_keep h).1, (box3_keep h).2.1, (box3_keep h).2.2.1⟩
theorem sl_cells {R C k : Nat} {s : ByteArray} (hs : s.size = R * C) (hk : k < s.size) (hC : 2 ≤ C) : k = k / C * C + k % C ∧ k % C < C ∧ k / C < R ∧ (∀ x, x < C → k / C * C + x < s.size) ∧ (∀ x, x < R → x * C + k % C < s.size) := by
  have h1 : k % C < C := Nat.mod_lt _ (by omega)
  have h2 : k / C < R := by rw [Nat.div_lt_iff_lt_mul (by omega)]; omega
  refine ⟨by rw [Nat.mul_comm]; exact (Nat.div_add_mod k C).symm, h1, h2, fun x hx => ?_, fun x hx => ?_⟩
  · have : (k / C + 1) * C ≤ R * C := Nat.mul_le_mul_right C h2
    rw [Nat.succ_mul] at this
    omega
  · have : (x + 1) * C ≤ R * C := Nat.mul_le_mul_right C hx
    rw [Nat.succ_mul] at this
    omega
theorem sacN_any (R C : Nat) (s : ByteArray) (k : Nat) (hs : s.size = R * C) (h36 : s.size ≤ 36) (hk : k < s.size) (hC2 : 2 ≤ C) (hC : C ≤ 6) (w : World) :
    Calls Tryz.prog 96 #[.agg #[.int .i64 (R : Int), .int .i64 (C : Int), .string s], .int .i64 (k : Int), .bool false] w fun e w' => e = .returned (.int .i64 ((acN C s k : Nat) : Int)) ∧ Below w.heap.size w w' := by
  obtain ⟨e, h1, h2, h3, h4⟩ := sl_cells hs hk hC2
  have h := sfromA_any R C s (k / C) (k % C) h36 h1 hC h3 w
  rw [← e] at h
  exact h
theorem sdnN_any (R C : Nat) (s : ByteArray) (k : Nat) (hs : s.size = R * C) (h36 : s.size ≤ 36) (hk : k < s.size) (hC2 : 2 ≤ C) (hC : C ≤ 6) (hR : R ≤ 6) (w : World) :
    Calls Tryz.prog 96 #[.agg #[.int .i64 (R : Int), .int .i64 (C : Int), .string s], .int .i64 (k : Int), .bool true] w fun e w' => e = .returned (.int .i64 ((dnN R C s k : Nat) : Int)) ∧ Below w.heap.size w w' := by
  obtain ⟨e, h1, h2, h3, h4⟩ := sl_cells hs hk hC2
  have h := sfromD_any R C s (k / C) (k % C) h36 h1 hC h4 h2 hR w
  rw [← e] at h
  exact h
theorem runAt_le (bs : List Bool) (j : Nat) : runAt bs j ≤ bs.length := by
  unfold runAt
  split
  · refine Nat.le_trans (List.takeWhile_sublist _).length_le ?_
    rw [List.length_drop]
    omega
  · exact Nat.zero_le _
theorem acN_le (c : Nat) (s : ByteArray) (k : Nat) : acN c s k ≤ c := by
  have h := runAt_le (rowB c s (k / c)) (k % c)
  unfold rowB at h
  rw [List.length_map, List.length_range] at h
  exact h
theorem dnN_le (r c : Nat) (s : ByteArray) (k : Nat) : dnN r c s k ≤ r := by
  have h := runAt_le (colB r c s (k % c)) (k / c)
  unfold colB at h
  rw [List.length_map, List.length_range] at h
  exact h
set_option maxRecDepth 100000 in
set_option maxHeartbeats 3200000 in
theorem ssl_any (r c : Int) (s : ByteArray) (hs : s.size ≤ 4194304) (w : World) :
    Calls Tryz.prog 59 #[.agg #[.int .i64 r, .int .i64 c, .string s]] w fun e w' => ∃ v, e = .returned v ∧ w'.ownsRow w.heap.size 63 4 v (slG (r, c, s)).length (row_Slot (slG (r, c, s))) ∧ Below w.heap.size w w' := by
  obtain ⟨i0, hi, hz0, hz1, hz2⟩ := info_parts info_Slot
  obtain ⟨p, hp⟩ : ∃ p, p = isG (r, c, s) := ⟨_, rfl⟩
  have HIG := Lib.hid (fun w => sisg_any r c s hs w)
  rw [← hp] at HIG
  have HKP := Lib.hid (box3_all w r c s 25)
  have HW : Hid (Below w.heap.size w (w.alloc (.cells #[.int .i64 r, .int .i64 c, .string s] 25))) := Lib.hid ((Below.refl _ _).alloc (Nat.le_refl _) _)
  obtain ⟨d0, d1, d2⟩ := HKP.out _ (Below.refl _ _)
  obtain ⟨W0, hW0⟩ : ∃ W0, W0 = w.alloc (.cells #[.int .i64 r, .int .i64 c, .string s] 25) := ⟨_, rfl⟩
  have hws : W0.heap.size = w.heap.size + 1 := by rw [hW0]; simp
  cases p with
  | false =>
    have HF : Hid (slG (r, c, s) = []) := Lib.hid (by unfold slG; rw [← hp]; rfl)
    clear hp
    go_enter Tryz.func59, Tryz.ntmps59
    go_wp2
    rw [← hW0] at HKP HW d0 d1 d2 ⊢
    clear hW0
    go_loopw [3, 4, 5] (fun o n i wr => n = .int .i64 0 ∧ i = .int .i64 0 ∧ Hid (wr.ownsRow W0.heap.size 63 4 o 0 []) ∧ Hid (Below W0.heap.size W0 wr)) (fun _ _ _ _ => 0)
    case atStart => exact ⟨rfl, rfl, Lib.hid (by rw [← hws]; exact own_zero W0 63 4), Lib.hid ((Below.refl _ _).alloc (Nat.le_refl _) _)⟩
    case round =>
      obtain ⟨rfl, rfl, HO, HB⟩ := hrel
      obtain ⟨x0, x1, x2⟩ := HKP.out _ HB.out
      by_cases h0 : 0 < s.size
      · have hd : decide ((0 : Int) < (s.size : Int)) = true := decide_eq_true (by omega)
        go_wp2_with (go_at_call 95; refine (HIG.out _).mono ?_; rintro e w2 ⟨rfl, b2⟩; have HB2 := Lib.hid (HB.out.trans (b2.mono HB.out.size)); have HO2 := Lib.hid (ownV_later HO.out b2); clear b2)
        go_ret
        exact ⟨_, rfl, by rw [HF.out]; exact own_widen HO2.out (by omega), HW.out.trans (HB2.out.mono HW.out.size)⟩
      · have hd : decide ((0 : Int) < (s.size : Int)) = false := decide_eq_false (by omega)
        go_wp2
        go_ret
        exact ⟨_, rfl, by rw [HF.out]; exact own_widen HO.out (by omega), HW.out.trans (HB.out.mono HW.out.size)⟩
  | true =>
    obtain ⟨R, C, rfl, rfl, hR2, hR, hC2, hC, hsz, h36⟩ := isG_nat hp.symm
    have HF : Hid (slG ((R : Int), (C : Int), s) = (slTo R C s s.size).2) := Lib.hid (by unfold slG; rw [← hp, hsz]; rfl)
    have HSZ := Lib.hid hsz
    have HAC := Lib.hid (fun k hk w => sacN_any R C s k hsz h36 hk hC2 hC w)
    have HDN := Lib.hid (fun k hk w => sdnN_any R C s k hsz h36 hk hC2 hC hR w)
    clear hp hsz
    go_enter Tryz.func59, Tryz.ntmps59
    go_wp2
    rw [← hW0] at HKP HW d0 d1 d2 ⊢
    clear hW0
    go_loopw [3, 4, 5] (fun o n i wr => ∃ k : Nat, k ≤ s.size ∧ i = .int .i64 k ∧ n = .int .i64 ((slTo R C s k).1 : Int) ∧ Hid (wr.ownsRow W0.heap.size 63 4 o (slTo R C s k).2.length (row_Slot (slTo R C s k).2)) ∧ Hid (Below W0.heap.size W0 wr)) (fun _ _ i _ => s.size - (intOf i).toNat)
    case atStart => exact ⟨0, Nat.zero_le _, rfl, rfl, Lib.hid (by rw [← hws]; exact own_zero W0 63 4), Lib.hid ((Below.refl _ _).alloc (Nat.le_refl _) _)⟩
    case round =>
      obtain ⟨k, hk, rfl, rfl, HO, HB⟩ := hrel
      obtain ⟨x0, x1, x2⟩ := HKP.out _ HB.out
      have HBD := Lib.hid (slTo_bound R C s k)
      by_cases hlt : k < s.size
      · have hd : decide ((k : Int) < (s.size : Int)) = true := decide_eq_true (by omega)
        have HNX : Hid (slTo R C s (k + 1) = stepSl (slTo R C s k) k (acN C s k) (dnN R C s k)) := Lib.hid rfl
        have HA1 := Lib.hid (HAC.out k hlt)
        have HD1 := Lib.hid (HDN.out k hlt)
        have ha6 := acN_le C s k
        have hd6 := dnN_le R C s k
        obtain ⟨a, ha⟩ : ∃ a, a = acN C s k := ⟨_, rfl⟩
        obtain ⟨d, hdd⟩ : ∃ d, d = dnN R C s k := ⟨_, rfl⟩
        obtain ⟨y, hy⟩ : ∃ y, y = slTo R C s k := ⟨_, rfl⟩
        rw [← ha] at HA1 HNX ha6
        rw [← hdd] at HD1 HNX hd6
        rw [← hy] at HNX HBD HO
        rw [← hy]
        obtain ⟨n, L⟩ := y
        obtain ⟨hb1, hb2⟩ := HBD.out
        simp only at hb1 hb2
        clear ha hdd hy HBD
        by_cases ha : 2 ≤ a
        · by_cases hd9 : 2 ≤ d
          · have HN : Hid (slTo R C s (k + 1) = (n + 1, L ++ [(((n + 1 : Nat) : Int), false, (k : Int), (a : Int))] ++ [(((n + 1 : Nat) : Int), true, (k : Int), (d : Int))])) := Lib.hid (by rw [HNX.out]; simp [stepSl, ha, hd9])
            have ga : decide ((2 : Int) ≤ (a : Int)) = true := decide_eq_true (by omega)
            have gd : decide ((2 : Int) ≤ (d : Int)) = true := decide_eq_true (by omega)
            have FL := Lib.hid trivial
            have HL6 : Hid ((L ++ [(((n + 1 : Nat) : Int), false, (k : Int), (a : Int))]).length ≤ 80) := Lib.hid (by rw [List.length_append, List.length_singleton]; omega)
            have FP6 := Lib.hid trivial
            have FP8 := Lib.hid trivial
            go_wp2_with (first | (go_at_call 95; refine (HIG.out _).mono ?_; rintro e w2 ⟨rfl, b2⟩; have HB2 := Lib.hid (HB.out.trans (b2.mono HB.out.size)); have HO2 := Lib.hid (ownV_later HO.out b2); obtain ⟨p0, p1, p2⟩ := HKP.out _ HB2.out; clear b2) | (go_at_call 96; have FG := FL; refine (HA1.out _).mono ?_; rintro e w3 ⟨rfl, b3⟩; have HB3 := Lib.hid (HB2.out.trans (b3.mono HB2.out.size)); have HO3 := Lib.hid (ownV_later HO2.out b3); obtain ⟨q0, q1, q2⟩ := HKP.out _ HB3.out; clear b3 FL FG) | (go_at_call 96; refine (HD1.out _).mono ?_; rintro e w4 ⟨rfl, b4⟩; have HB4 := Lib.hid (HB3.out.trans (b4.mono HB3.out.size)); have HO4 := Lib.hid (ownV_later HO3.out b4); obtain ⟨r0, r1, r2⟩ := HKP.out _ HB4.out; clear b4) | (at_builtin; have FG6 := FP6; refine appendV_reads _ rfl _ _ 31 rfl W0.heap.size 63 i0 (.agg #[.int .i64 0, .bool false, .int .i64 0, .int .i64 0]) 4 32 Tryz.underlying31 hi hz0 hz1 hz2 rfl (by decide) _ _ _ rfl (HO4.out.alloc _) (some ⟨w4.heap.size, 0, none⟩) 1 1 (cells_Slot (((n + 1 : Nat) : Int), false, (k : Int), (a : Int))) rfl rfl (cells_Slot_one _) (fun e => by cases e) (oneSl w4 (((n + 1 : Nat) : Int), false, (k : Int), (a : Int)) _) (by omega) (by omega) (le_alloc HB4.out.size _) ?_; intro v6 w6 hown hgrow; have HB6 := Lib.hid (below_app (HB4.out.alloc HB4.out.size _) hgrow (HO4.out.alloc _) (Nat.le_refl _) (le_alloc HB4.out.size _)); have HO6 : Hid (w6.ownsRow W0.heap.size 63 4 v6 (L ++ [(((n + 1 : Nat) : Int), false, (k : Int), (a : Int))]).length (row_Slot (L ++ [(((n + 1 : Nat) : Int), false, (k : Int), (a : Int))]))) := Lib.hid (by rw [← row_Slot_snoc, List.length_append]; exact hown); clear hown hgrow FP6 FG6; obtain ⟨z06, z16, z26⟩ := HKP.out _ HB6.out) | (at_builtin; have FG8 := FP8; refine appendV_reads _ rfl _ _ 31 rfl W0.heap.size 63 i0 (.agg #[.int .i64 0, .bool false, .int .i64 0, .int .i64 0]) 4 32 Tryz.underlying31 hi hz0 hz1 hz2 rfl (by decide) _ _ _ rfl (HO6.out.alloc _) (some ⟨w6.heap.size, 0, none⟩) 1 1 (cells_Slot (((n + 1 : Nat) : Int), true, (k : Int), (d : Int))) rfl rfl (cells_Slot_one _) (fun e => by cases e) (oneSl w6 (((n + 1 : Nat) : Int), true, (k : Int), (d : Int)) _) (by have := HL6.out; omega) (by have := HL6.out; omega) (le_alloc HB6.out.size _) ?_; intro v8 w8 hown hgrow; have HB8 := Lib.hid (below_app (HB6.out.alloc HB6.out.size _) hgrow (HO6.out.alloc _) (Nat.le_refl _) (le_alloc HB6.out.size _)); have HO8 : Hid (w8.ownsRow W0.heap.size 63 4 v8 ((L ++ [(((n + 1 : Nat) : Int), false, (k : Int), (a : Int))]) ++ [(((n + 1 : Nat) : Int), true, (k : Int), (d : Int))]).length (row_Slot ((L ++ [(((n + 1 : Nat) : Int), false, (k : Int), (a : Int))]) ++ [(((n + 1 : Nat) : Int), true, (k : Int), (d : Int))]))) := Lib.hid (by rw [← row_Slot_snoc, List.length_append]; exact hown); clear hown hgrow FP8 FG8; obtain ⟨z08, z18, z28⟩ := HKP.out _ HB8.out))
            go_roundw
            case rel => exact ⟨k + 1, by omega, by go_num, by rw [HN.out]; first | rfl | go_num, by rw [HN.out]; exact HO8, HB8⟩
            case measure => simp [intOf]; omega
          · have HN : Hid (slTo R C s (k + 1) = (n + 1, L ++ [(((n + 1 : Nat) : Int), false, (k : Int), (a : Int))])) := Lib.hid (by rw [HNX.out]; simp [stepSl, ha, hd9])
            have ga : decide ((2 : Int) ≤ (a : Int)) = true := decide_eq_true (by omega)
            have gd : decide ((2 : Int) ≤ (d : Int)) = false := decide_eq_false (by omega)
            have FL := Lib.hid trivial
            have FP6 := Lib.hid trivial
            go_wp2_with (first | (go_at_call 95; refine (HIG.out _).mono ?_; rintro e w2 ⟨rfl, b2⟩; have HB2 := Lib.hid (HB.out.trans (b2.mono HB.out.size)); have HO2 := Lib.hid (ownV_later HO.out b2); obtain ⟨p0, p1, p2⟩ := HKP.out _ HB2.out; clear b2) | (go_at_call 96; have FG := FL; refine (HA1.out _).mono ?_; rintro e w3 ⟨rfl, b3⟩; have HB3 := Lib.hid (HB2.out.trans (b3.mono HB2.out.size)); have HO3 := Lib.hid (ownV_later HO2.out b3); obtain ⟨q0, q1, q2⟩ := HKP.out _ HB3.out; clear b3 FL FG) | (go_at_call 96; refine (HD1.out _).mono ?_; rintro e w4 ⟨rfl, b4⟩; have HB4 := Lib.hid (HB3.out.trans (b4.mono HB3.out.size)); have HO4 := Lib.hid (ownV_later HO3.out b4); obtain ⟨r0, r1, r2⟩ := HKP.out _ HB4.out; clear b4) | (at_builtin; have FG6 := FP6; refine appendV_reads _ rfl _ _ 31 rfl W0.heap.size 63 i0 (.agg #[.int .i64 0, .bool false, .int .i64 0, .int .i64 0]) 4 32 Tryz.underlying31 hi hz0 hz1 hz2 rfl (by decide) _ _ _ rfl (HO4.out.alloc _) (some ⟨w4.heap.size, 0, none⟩) 1 1 (cells_Slot (((n + 1 : Nat) : Int), false, (k : Int), (a : Int))) rfl rfl (cells_Slot_one _) (fun e => by cases e) (oneSl w4 (((n + 1 : Nat) : Int), false, (k : Int), (a : Int)) _) (by omega) (by omega) (le_alloc HB4.out.size _) ?_; intro v6 w6 hown hgrow; have HB6 := Lib.hid (below_app (HB4.out.alloc HB4.out.size _) hgrow (HO4.out.alloc _) (Nat.le_refl _) (le_alloc HB4.out.size _)); have HO6 : Hid (w6.ownsRow W0.heap.size 63 4 v6 (L ++ [(((n + 1 : Nat) : Int), false, (k : Int), (a : Int))]).length (row_Slot (L ++ [(((n + 1 : Nat) : Int), false, (k : Int), (a : Int))]))) := Lib.hid (by rw [← row_Slot_snoc, List.length_append]; exact hown); clear hown hgrow FP6 FG6; obtain ⟨z06, z16, z26⟩ := HKP.out _ HB6.out))
            go_roundw
            case rel => exact ⟨k + 1, by omega, by go_num, by rw [HN.out]; first | rfl | go_num, by rw [HN.out]; exact HO6, HB6⟩
            case measure => simp [intOf]; omega
        · by_cases hd9 : 2 ≤ d
          · have HN : Hid (slTo R C s (k + 1) = (n + 1, L ++ [(((n + 1 : Nat) : Int), true, (k : Int), (d : Int))])) := Lib.hid (by rw [HNX.out]; simp [stepSl, ha, hd9])
            have ga : decide ((2 : Int) ≤ (a : Int)) = false := decide_eq_false (by omega)
            have gd : decide ((2 : Int) ≤ (d : Int)) = true := decide_eq_true (by omega)
            have FL := Lib.hid trivial
            have FP8 := Lib.hid trivial
            go_wp2_with (first | (go_at_call 95; refine (HIG.out _).mono ?_; rintro e w2 ⟨rfl, b2⟩; have HB2 := Lib.hid (HB.out.trans (b2.mono HB.out.size)); have HO2 := Lib.hid (ownV_later HO.out b2); obtain ⟨p0, p1, p2⟩ := HKP.out _ HB2.out; clear b2) | (go_at_call 96; have FG := FL; refine (HA1.out _).mono ?_; rintro e w3 ⟨rfl, b3⟩; have HB3 := Lib.hid (HB2.out.trans (b3.mono HB2.out.size)); have HO3 := Lib.hid (ownV_later HO2.out b3); obtain ⟨q0, q1, q2⟩ := HKP.out _ HB3.out; clear b3 FL FG) | (go_at_call 96; refine (HD1.out _).mono ?_; rintro e w4 ⟨rfl, b4⟩; have HB4 := Lib.hid (HB3.out.trans (b4.mono HB3.out.size)); have HO4 := Lib.hid (ownV_later HO3.out b4); obtain ⟨r0, r1, r2⟩ := HKP.out _ HB4.out; clear b4) | (at_builtin; have FG8 := FP8; refine appendV_reads _ rfl _ _ 31 rfl W0.heap.size 63 i0 (.agg #[.int .i64 0, .bool false, .int .i64 0, .int .i64 0]) 4 32 Tryz.underlying31 hi hz0 hz1 hz2 rfl (by decide) _ _ _ rfl (HO4.out.alloc _) (some ⟨w4.heap.size, 0, none⟩) 1 1 (cells_Slot (((n + 1 : Nat) : Int), true, (k : Int), (d : Int))) rfl rfl (cells_Slot_one _) (fun e => by cases e) (oneSl w4 (((n + 1 : Nat) : Int), true, (k : Int), (d : Int)) _) (by omega) (by omega) (le_alloc HB4.out.size _) ?_; intro v8 w8 hown hgrow; have HB8 := Lib.hid (below_app (HB4.out.alloc HB4.out.size _) hgrow (HO4.out.alloc _) (Nat.le_refl _) (le_alloc HB4.out.size _)); have HO8 : Hid (w8.ownsRow W0.heap.size 63 4 v8 (L ++ [(((n + 1 : Nat) : Int), true, (k : Int), (d : Int))]).length (row_Slot (L ++ [(((n + 1 : Nat) : Int), true, (k : Int), (d : Int))]))) := Lib.hid (by rw [← row_Slot_snoc, List.length_append]; exact hown); clear hown hgrow FP8 FG8; obtain ⟨z08, z18, z28⟩ := HKP.out _ HB8.out))
            go_roundw
            case rel => exact ⟨k + 1, by omega, by go_num, by rw [HN.out]; first | rfl | go_num, by rw [HN.out]; exact HO8, HB8⟩
            case measure => simp [intOf]; omega
          · have HN : Hid (slTo R C s (k + 1) = (n, L)) := Lib.hid (by rw [HNX.out]; simp [stepSl, ha, hd9])
            have ga : decide ((2 : Int) ≤ (a : Int)) = false := decide_eq_false (by omega)
            have gd : decide ((2 : Int) ≤ (d : Int)) = false := decide_eq_false (by omega)
            have FL := Lib.hid trivial
            go_wp2_with (first | (go_at_call 95; refine (HIG.out _).mono ?_; rintro e w2 ⟨rfl, b2⟩; have HB2 := Lib.hid (HB.out.trans (b2.mono HB.out.size)); have HO2 := Lib.hid (ownV_later HO.out b2); obtain ⟨p0, p1, p2⟩ := HKP.out _ HB2.out; clear b2) | (go_at_call 96; have FG := FL; refine (HA1.out _).mono ?_; rintro e w3 ⟨rfl, b3⟩; have HB3 := Lib.hid (HB2.out.trans (b3.mono HB2.out.size)); have HO3 := Lib.hid (ownV_later HO2.out b3); obtain ⟨q0, q1, q2⟩ := HKP.out _ HB3.out; clear b3 FL FG) | (go_at_call 96; refine (HD1.out _).mono ?_; rintro e w4 ⟨rfl, b4⟩; have HB4 := Lib.hid (HB3.out.trans (b4.mono HB3.out.size)); have HO4 := Lib.hid (ownV_later HO3.out b4); obtain ⟨r0, r1, r2⟩ := HKP.out _ HB4.out; clear b4))
            go_roundw
            case rel => exact ⟨k + 1, by omega, by go_num, by rw [HN.out], by rw [HN.out]; exact HO4, HB4⟩
            case measure => simp [intOf]; omega
      · have hd : decide ((k : Int) < (s.size : Int)) = false := decide_eq_false (by omega)
        have hk' : k = s.size := by omega
        have HO9 : Hid (wr.ownsRow W0.heap.size 63 4 u3 (slG ((R : Int), (C : Int), s)).length (row_Slot (slG ((R : Int), (C : Int), s)))) := Lib.hid (by rw [HF.out, ← hk']; exact HO.out)
        clear hk'
        go_wp2
        go_ret
        exact ⟨_, rfl, own_widen HO9.out (by omega), HW.out.trans (HB.out.mono HW.out.size)⟩
end Go.Proofs.YtgjijmcedonlmaaGreatDoor
namespace Go.Proofs.YtgjijmcedonlmaaGreatDoor
open Go.RowKit

/-- What is known of a slot of SlotsOf. -/
def SlotAt (r c : Nat) (s : ByteArray) (k : Nat) (x : SlotV) : Prop :=
  ∃ m : Nat, m < k ∧ x.2.2.1 = m ∧ 1 ≤ x.1 ∧ (x.2.1 = false → x.2.2.2 = (acN c s m : Nat) ∧ 2 ≤ acN c s m) ∧ (x.2.1 = true → x.2.2.2 = (dnN r c s m : Nat) ∧ 2 ≤ dnN r c s m)
theorem stepSl_mem {x : Nat × List SlotV} {k a d : Nat} {y : SlotV} (h : y ∈ (stepSl x k a d).2) : y ∈ x.2 ∨ (2 ≤ a ∧ y = (((x.1 + 1 : Nat) : Int), false, (k : Int), (a : Int))) ∨ (2 ≤ d ∧ y = (((x.1 + 1 : Nat) : Int), true, (k : Int), (d : Int))) := by
  unfold stepSl at h
  rw [List.mem_append, List.mem_append] at h
  rcases h with (h | h) | h
  · exact .inl h
  · split at h
    · rename_i ha
      rw [if_pos (.inl ha)] at h
      exact .inr (.inl ⟨ha, List.mem_singleton.1 h⟩)
    · cases h
  · split at h
    · rename_i hd
      rw [if_pos (.inr hd)] at h
      exact .inr (.inr ⟨hd, List.mem_singleton.1 h⟩)
    · cases h
theorem slTo_mem (r c : Nat) (s : ByteArray) : ∀ k, ∀ x ∈ (slTo r c s k).2, SlotAt r c s k x
  | 0 => fun x hx => by cases hx
  | k + 1 => fun x hx => by
    rcases stepSl_mem hx with h | ⟨h2, rfl⟩ | ⟨h2, rfl⟩
    · obtain ⟨m, h1, h2, h3⟩ := slTo_mem r c s k x h
      exact ⟨m, by omega, h2, h3⟩
    · exact ⟨k, by omega, rfl, by show (1 : Int) ≤ ((_ + 1 : Nat) : Int); omega, fun _ => ⟨rfl, h2⟩, fun e => by cases e⟩
    · exact ⟨k, by omega, rfl, by show (1 : Int) ≤ ((_ + 1 : Nat) : Int); omega, (fun e => by cases e), fun _ => ⟨rfl, h2⟩⟩
theorem slTo_pw (r c : Nat) (s : ByteArray) : ∀ k, (slTo r c s k).2.Pairwise befS
  | 0 => List.Pairwise.nil
  | k + 1 => by
    show (stepSl (slTo r c s k) k (acN c s k) (dnN r c s k)).2.Pairwise befS
    have h1 := slTo_pw r c s k
    have h2 := slTo_mem r c s k
    obtain ⟨y, hy⟩ : ∃ y, y = slTo r c s k := ⟨_, rfl⟩
    rw [← hy] at h1 h2 ⊢
    have h3 : ∀ x ∈ y.2, x.2.2.1 < (k : Int) := fun x hx => by
      obtain ⟨m, e1, e2, -⟩ := h2 x hx
      omega
    unfold stepSl
    rw [List.pairwise_append, List.pairwise_append]
    refine ⟨⟨h1, ?_, fun x hx z hz => ?_⟩, ?_, fun x hx z hz => ?_⟩
    · split
      · exact List.pairwise_singleton ..
      · exact List.Pairwise.nil
    · split at hz
      · obtain rfl := List.mem_singleton.1 hz
        exact .inl (h3 x hx)
      · cases hz
    · split
      · exact List.pairwise_singleton ..
      · exact List.Pairwise.nil
    · have ez : z.2.2.1 = (k : Int) ∧ z.2.1 = true := by
        split at hz
        · obtain rfl := List.mem_singleton.1 hz
          exact ⟨rfl, rfl⟩
        · cases hz
      rcases List.mem_append.1 hx with h | h
      · exact .inl (by rw [ez.1]; exact h3 x h)
      · split at h
        · obtain rfl := List.mem_singleton.1 h
          exact .inr ⟨ez.1.symm, rfl, ez.2⟩
        · cases h
theorem slG_cases (g : Int × Int × ByteArray) : slG g = [] ∨ ∃ R C : Nat, isG g = true ∧ g.1 = R ∧ g.2.1 = C ∧ 2 ≤ R ∧ R ≤ 6 ∧ 2 ≤ C ∧ C ≤ 6 ∧ g.2.2.size = R * C ∧ g.2.2.size ≤ 36 ∧ slG g = (slTo R C g.2.2 (R * C)).2 := by
  obtain ⟨r, c, s⟩ := g
  by_cases h : isG (r, c, s) = true
  · right
    obtain ⟨R, C, rfl, rfl, h1, h2, h3, h4, h5, h6⟩ := isG_nat h
    exact ⟨R, C, h, rfl, rfl, h1, h2, h3, h4, h5, h6, by unfold slG; rw [if_pos h]; rfl⟩
  · left
    unfold slG
    rw [if_neg h]
theorem slG_pw (g : Int × Int × ByteArray) : (slG g).Pairwise befS := by
  rcases slG_cases g with h | ⟨R, C, -, -, -, -, -, -, -, -, -, h⟩
  · rw [h]; exact List.Pairwise.nil
  · rw [h]; exact slTo_pw ..
theorem slG_nodup (g : Int × Int × ByteArray) : (slG g).Nodup :=
  (slG_pw g).imp (fun {x y} h e => by subst e; exact befS_irr x x h h)
theorem slG_length (g : Int × Int × ByteArray) : (slG g).length ≤ 72 := by
  rcases slG_cases g with h | ⟨R, C, -, -, -, -, -, -, -, h1, h2, h⟩
  · rw [h]; decide
  · have := (slTo_bound R C g.2.2 (R * C)).2
    rw [h]
    omega
/-- A slot of SlotsOf has small numbers. -/
theorem slG_small {g : Int × Int × ByteArray} {x : SlotV} (h : x ∈ slG g) : isG g = true ∧ (2 ≤ g.2.1 ∧ g.2.1 ≤ 6) ∧ (0 ≤ x.2.2.1 ∧ x.2.2.1 < 36) ∧ (2 ≤ x.2.2.2 ∧ x.2.2.2 ≤ 6) ∧ 1 ≤ x.1 := by
  rcases slG_cases g with h0 | ⟨R, C, hg, e1, e2, h1, h2, h3, h4, h5, h6, h7⟩
  · rw [h0] at h; cases h
  · rw [h7] at h
    obtain ⟨m, hm, e3, h9, ha, hd⟩ := slTo_mem _ _ _ _ _ h
    refine ⟨hg, by omega, by omega, ?_, h9⟩
    rcases hx : x.2.1 with _ | _
    · obtain ⟨e4, h8⟩ := ha hx
      have := acN_le C g.2.2 m
      omega
    · obtain ⟨e4, h8⟩ := hd hx
      have := dnN_le R C g.2.2 m
      omega
/-- The cells of a slot, c columns. -/
def cellsS (c : Int) (x : SlotV) : List Int := (List.range x.2.2.2.toNat).map fun (k : Nat) => x.2.2.1 + (k : Int) * (if x.2.1 = true then c else 1)
/-- What CellsOf answers. -/
def clG (g : Int × Int × ByteArray) (x : SlotV) : List Int := if x ∈ slG g then cellsS g.2.1 x else []
/-- What l8Has answers. -/
def hasI (l : List Int) (n : Int) : Bool := l.any fun y => decide (y = n)
theorem hasI_iff {l : List Int} {n : Int} : hasI l n = true ↔ n ∈ l := by
  unfold hasI
  rw [List.any_eq_true]
  constructor
  · rintro ⟨y, hy, h⟩
    rw [← of_decide_eq_true h]
    exact hy
  · exact fun h => ⟨n, h, by simp⟩
set_option maxHeartbeats 800000 in
theorem shasI_any (l : List Int) (x : Int) (hl : l.length ≤ 16777216) (v : Value) (w : World) (hv : Reads w.heap.size w v .i64 l) :
    Calls Tryz.prog 113 #[v, .int .i64 x] w fun e w' => e = .returned (.bool (hasI l x)) ∧ Below w.heap.size w w' := by
  obtain ⟨-, a0, cap, rfl, -, hc⟩ := hv
  have HC := Lib.hid hc
  clear hc
  go_enter Tryz.func113, Tryz.ntmps113
  go_wp2
  go_loopw [5] (fun i wr => ∃ k : Nat, k ≤ l.length ∧ i = .int .i64 k ∧ Hid (∀ y ∈ l.take k, y ≠ x) ∧ Below w.heap.size w wr) (fun i _ => l.length - (intOf i).toNat)
  case atStart => exact ⟨0, Nat.zero_le _, rfl, Lib.hid (by simp), Below.refl _ _⟩
  case round =>
    obtain ⟨k, hk, rfl, HN, hbl⟩ := hrel
    by_cases hlt : k < l.length
    · obtain ⟨b, off, rfl, hb, q0⟩ := HC.out k hlt
      have HT : Hid (l.take (k + 1) = l.take k ++ [l.getD k 0]) := Lib.hid (by rw [List.take_succ_eq_append_getElem hlt, List.getD_eq_getElem?_getD, List.getElem?_eq_getElem hlt]; rfl)
      have HM : Hid (l.getD k 0 ∈ l) := Lib.hid (by rw [List.getD_eq_getElem?_getD, List.getElem?_eq_getElem hlt]; exact List.getElem_mem hlt)
      obtain ⟨z, hz⟩ : ∃ z, z = l.getD k 0 := ⟨_, rfl⟩
      rw [← hz] at q0 HT HM
      have c0 := (hbl.cell (p := ⟨b, off + k, none⟩) hb).trans q0
      clear q0 hz
      by_cases he : z = x
      · subst he
        have HF : Hid (hasI l z = true) := Lib.hid (hasI_iff.2 HM.out)
        go_wp2
        go_ret
        exact ⟨by rw [HF.out]; rfl, hbl⟩
      · have hne : (z == x) = false := by simpa using he
        have HN2 : Hid (∀ y ∈ l.take (k + 1), y ≠ x) := Lib.hid (fun y hy => by
          rw [HT.out] at hy
          rcases List.mem_append.1 hy with h | h
          · exact HN.out y h
          · simp only [List.mem_singleton] at h; subst h; exact he)
        clear he
        go_wp2
        go_roundw
        case rel => exact ⟨k + 1, by omega, by go_num, HN2, hbl⟩
        case measure => simp [intOf]; omega
    · have HF : Hid (hasI l x = false) := Lib.hid (by
        rcases hb : hasI l x with _ | _
        · rfl
        · have h9 := hasI_iff.1 hb
          have h8 := HN.out
          rw [List.take_of_length_le (by omega)] at h8
          exact absurd rfl (h8 x h9))
      go_wp2
      go_ret
      exact ⟨by rw [HF.out]; rfl, hbl⟩
end Go.Proofs.YtgjijmcedonlmaaGreatDoor
namespace Go.Proofs.YtgjijmcedonlmaaGreatDoor
open Go.RowKit

theorem box_two (w : World) (r c : Int) (s : ByteArray) (x0 : Int) (x1 : Bool) (x2 x3 : Int) (t u : TypeId) : ∀ w', Below ((w.alloc (.cells #[.int .i64 r, .int .i64 c, .string s] t)).alloc (.cells #[.int .i64 x0, .bool x1, .int .i64 x2, .int .i64 x3] u)).heap.size ((w.alloc (.cells #[.int .i64 r, .int .i64 c, .string s] t)).alloc (.cells #[.int .i64 x0, .bool x1, .int .i64 x2, .int .i64 x3] u)) w' →
    w'.cell? ⟨w.heap.size, 0, none⟩ = some (.int .i64 r) ∧ w'.cell? ⟨w.heap.size, 1, none⟩ = some (.int .i64 c) ∧ w'.cell? ⟨w.heap.size, 2, none⟩ = some (.string s) ∧
    w'.cell? ⟨w.heap.size + 1, 0, none⟩ = some (.int .i64 x0) ∧ w'.cell? ⟨w.heap.size + 1, 1, none⟩ = some (.bool x1) ∧ w'.cell? ⟨w.heap.size + 1, 2, none⟩ = some (.int .i64 x2) ∧ w'.cell? ⟨w.heap.size + 1, 3, none⟩ = some (.int .i64 x3) ∧ Below w.heap.size w w' := fun w' h => by
  obtain ⟨h1, h2, h3⟩ := box33 h
  exact ⟨Joins.cell_of_block h1 0, Joins.cell_of_block h1 1, Joins.cell_of_block h1 2, Joins.cell_of_block h2 0, Joins.cell_of_block h2 1, Joins.cell_of_block h2 2, Joins.cell_of_block h2 3, h3⟩
theorem eql_slot (a b : SlotV) (w : World) : Sem.run Tryz.prog (binOp .eql 63 (.agg #[.int .i64 a.1, .bool a.2.1, .int .i64 a.2.2.1, .int .i64 a.2.2.2]) (.agg #[.int .i64 b.1, .bool b.2.1, .int .i64 b.2.2.1, .int .i64 b.2.2.2])) w = .ok (.bool (decide (a = b))) w := by
  have u3 := Tryz.underlying3
  have u4 := Tryz.underlying4
  have a3 := Tryz.isAgg3
  have a4 := Tryz.isAgg4
  have z3 := Tryz.sizeOf3
  have z4 := Tryz.sizeOf4
  have hS : Tryz.prog.underlying 63 = some (.struct (Tryz.prog.fieldsOf 63)) := by kernel_rfl
  have hp : Tryz.prog.stoodInHeld 63 = false := by kernel_rfl
  obtain ⟨a0, a1, a2, a3⟩ := a
  obtain ⟨b0, b1, b2, b3⟩ := b
  rw [run_eql_struct, show (10000 : Nat) = 9999 + 1 from rfl, run_equalIn_agg w 9999 63 _ _ hS hp]
  simp only [Program.fieldsOf, Tryz.underlying63]
  go_simp
  by_cases h1 : a0 = b0 <;> by_cases h2 : a1 = b1 <;> by_cases h3 : a2 = b2 <;> by_cases h4 : a3 = b3 <;> simp [h1, h2, h3, h4]
theorem slot_differ {a b : SlotV} (h : a ≠ b) : (a.1 == b.1) = false ∨ (b.1 = a.1 ∧ (a.2.1 == b.2.1) = false) ∨ (b.1 = a.1 ∧ b.2.1 = a.2.1 ∧ (a.2.2.1 == b.2.2.1) = false) ∨ (b.1 = a.1 ∧ b.2.1 = a.2.1 ∧ b.2.2.1 = a.2.2.1 ∧ (a.2.2.2 == b.2.2.2) = false) := by
  by_cases h1 : a.1 = b.1
  · right
    by_cases h2 : a.2.1 = b.2.1
    · right
      by_cases h3 : a.2.2.1 = b.2.2.1
      · right
        refine ⟨h1.symm, h2.symm, h3.symm, ?_⟩
        by_cases h4 : a.2.2.2 = b.2.2.2
        · exact absurd (Prod.ext h1 (Prod.ext h2 (Prod.ext h3 h4))) h
        · simpa using h4
      · exact .inl ⟨h1.symm, h2.symm, by simpa using h3⟩
    · exact .inl ⟨h1.symm, by simpa using h2⟩
  · exact .inl (by simpa using h1)
theorem cells_next (x : SlotV) (c : Int) (k : Nat) : ((List.range (k + 1)).map fun (k : Nat) => x.2.2.1 + (k : Int) * (if x.2.1 = true then c else 1)) = ((List.range k).map fun (k : Nat) => x.2.2.1 + (k : Int) * (if x.2.1 = true then c else 1)) ++ [x.2.2.1 + (k : Int) * (if x.2.1 = true then c else 1)] := by
  rw [List.range_succ, List.map_append]
  rfl
theorem info_int : (Tryz.prog.info? 3).map (fun i => (i.zero, i.size, i.bytes)) = some (some (.int .i64 0), 1, 8) := by kernel_rfl
theorem own_types {W : World} {base base' n m s s' : Nat} {e e' : TypeId} {v u : Value} {xs ys : List Value} (h : W.ownsRow base e s v n xs) (h' : W.ownsRow base' e' s' u m ys) (he : e ≠ e') : u.ownBlock = none ∨ u.ownBlock ≠ v.ownBlock := by
  rcases h'.2 with ⟨rfl, -⟩ | ⟨g', cap', cur', rfl, -, hg', -⟩
  · exact .inl rfl
  · right
    rcases h.2 with ⟨rfl, -⟩ | ⟨g, cap, cur, rfl, -, hg, -⟩
    · intro e; cases e
    · intro e9
      have e8 : g' = g := by simpa [Value.ownBlock] using e9
      subst e8
      rw [hg] at hg'
      cases hg'
      exact he rfl
theorem slot_cells {W : World} {base m cap : Nat} {e : TypeId} {a0 : Option Addr} {l : List SlotV} (h : W.ownsRow base e 4 (.slice a0 m cap) m (row_Slot l)) (hn : m = l.length) :
    ∀ j, j < l.length → ∃ b, a0 = some ⟨b, 0, none⟩ ∧ W.cell? ⟨b, j * 4, none⟩ = some (.int .i64 (l.getD j none_Slot).1) ∧ W.cell? ⟨b, j * 4 + 1, none⟩ = some (.bool (l.getD j none_Slot).2.1) ∧ W.cell? ⟨b, j * 4 + 2, none⟩ = some (.int .i64 (l.getD j none_Slot).2.2.1) ∧ W.cell? ⟨b, j * 4 + 3, none⟩ = some (.int .i64 (l.getD j none_Slot).2.2.2) := by
  subst hn
  intro j hj
  have h2 := h.2
  rcases h2 with ⟨e1, e2⟩ | ⟨g, cap', cur, e1, -⟩
  · omega
  · cases e1
    have hat : ∀ r, r < 4 → W.cell? ⟨g, j * 4 + r, none⟩ = (cells_Slot (l.getD j none_Slot))[r]? := fun r hr => by
      rw [h.cellAt (j * 4 + r) (by omega), row_Slot_at l j hj r hr]
      simp [List.getD, hj]
    exact ⟨g, rfl, hat 0 (by decide), hat 1 (by decide), hat 2 (by decide), hat 3 (by decide)⟩
theorem oneI (W : World) (v : Value) (t : TypeId) : ∀ j, j < 1 * 1 → ∃ b off, (some ⟨W.heap.size, 0, none⟩ : Option Addr) = some ⟨b, off, none⟩ ∧ (W.alloc (.cells #[v] t)).cell? ⟨b, off + j, none⟩ = [v][j]? := fun j hj => by
  obtain rfl : j = 0 := by omega
  exact ⟨W.heap.size, 0, rfl, by rw [World.cell?_alloc_mark]; rfl⟩
theorem take_getD {l : List SlotV} {k : Nat} (h : k < l.length) : l.take (k + 1) = l.take k ++ [l.getD k none_Slot] := by
  rw [List.take_succ_eq_append_getElem h, List.getD_eq_getElem?_getD, List.getElem?_eq_getElem h]
  rfl
theorem getD_in {l : List SlotV} {k : Nat} (h : k < l.length) : l.getD k none_Slot ∈ l := by
  rw [List.getD_eq_getElem?_getD, List.getElem?_eq_getElem h]
  exact List.getElem_mem h
theorem nodup_take {l : List SlotV} (hl : l.Nodup) {k : Nat} (h : k < l.length) : l.getD k none_Slot ∉ l.take k := by
  rw [← List.take_append_drop (k + 1) l, take_getD h] at hl
  have h2 := (List.nodup_append.1 hl).1
  intro h3
  exact (List.nodup_append.1 h2).2.2 _ h3 _ (List.mem_singleton_self _) rfl
set_option maxRecDepth 100000 in
set_option maxHeartbeats 3200000 in
theorem scl_any (r c : Int) (s : ByteArray) (x0 : Int) (x1 : Bool) (x2 x3 : Int) (hs : s.size ≤ 4194304) (w : World) :
    Calls Tryz.prog 99 #[.agg #[.int .i64 r, .int .i64 c, .string s], .agg #[.int .i64 x0, .bool x1, .int .i64 x2, .int .i64 x3]] w fun e w' => ∃ v, e = .returned v ∧ w'.ownsRow w.heap.size 3 1 v (clG (r, c, s) (x0, x1, x2, x3)).length ((clG (r, c, s) (x0, x1, x2, x3)).map (Value.int .i64)) ∧ Below w.heap.size w w' := by
  obtain ⟨i0, hi, hz0, hz1, hz2⟩ := info_parts info_int
  have HSL := Lib.hid (fun w => ssl_any r c s hs w)
  have HKP := Lib.hid (box_two w r c s x0 x1 x2 x3 25 63)
  obtain ⟨d0, d1, d2, e0, e1, e2, e3, hbw⟩ := HKP.out _ (Below.refl _ _)
  have HW := Lib.hid hbw
  have HLEN := Lib.hid (slG_length (r, c, s))
  have HND := Lib.hid (slG_nodup (r, c, s))
  have HSM := Lib.hid (fun x hx => slG_small (g := (r, c, s)) (x := x) hx)
  have HCL : Hid (clG (r, c, s) (x0, x1, x2, x3) = if (x0, x1, x2, x3) ∈ slG (r, c, s) then cellsS c (x0, x1, x2, x3) else []) := Lib.hid rfl
  obtain ⟨l, hl⟩ : ∃ l, l = slG (r, c, s) := ⟨_, rfl⟩
  rw [← hl] at HSL HLEN HND HSM HCL
  clear hbw hl
  have hl72 := HLEN.out
  go_enter Tryz.func99, Tryz.ntmps99
  go_wp2_with fail
  obtain ⟨W0, hW0⟩ : ∃ W0, W0 = (w.alloc (.cells #[.int .i64 r, .int .i64 c, .string s] 25)).alloc (.cells #[.int .i64 x0, .bool x1, .int .i64 x2, .int .i64 x3] 63) := ⟨_, rfl⟩
  have hws : W0.heap.size = w.heap.size + 2 := by rw [hW0]; simp
  rw [← hW0] at HKP HW d0 d1 d2 e0 e1 e2 e3 ⊢
  clear hW0
  have HO0 : Hid ((W0.alloc (.cells #[] 3)).ownsRow W0.heap.size 3 1 (.slice (some ⟨w.heap.size + 2, 0, none⟩) 0 0) 0 []) := Lib.hid (by rw [← hws]; exact own_zero W0 3 1)
  have HB0 := Lib.hid ((Below.refl W0.heap.size W0).alloc (Nat.le_refl _) (.cells #[] 3))
  go_wp2_with (go_at_call 59; refine (HSL.out _).mono ?_; rintro e w2 ⟨v2, rfl, o2, b2⟩; obtain ⟨a0, cap, rfl⟩ := ownV_slice o2; have HO2 := Lib.hid (ownV_later HO0.out b2); have HB2 := Lib.hid (HB0.out.trans (b2.mono HB0.out.size)); have HL2 := Lib.hid (own_widen o2 HB0.out.size); clear o2 b2)
  go_loopw [5, 7, 8] (fun o i q wr => ∃ k : Nat, k ≤ l.length ∧ i = .int .i64 k ∧ Hid (∃ A, A = (if (x0, x1, x2, x3) ∈ l.take k then cellsS c (x0, x1, x2, x3) else []) ∧ wr.ownsRow W0.heap.size 3 1 o A.length (A.map (Value.int .i64))) ∧ Hid (wr.ownsRow W0.heap.size 63 4 (.slice a0 l.length cap) l.length (row_Slot l)) ∧ Hid (Below W0.heap.size W0 wr)) (fun _ i _ _ => l.length - (intOf i).toNat)
  case atStart => exact ⟨0, Nat.zero_le _, rfl, Lib.hid ⟨[], by simp, HO2.out⟩, HL2, HB2⟩
  case round =>
    obtain ⟨k, hk, rfl, HO, HL, HB⟩ := hrel
    obtain ⟨y0, y1, y2, z0, z1, z2, z3, hbw⟩ := HKP.out _ HB.out
    clear hbw
    by_cases hlt : k < l.length
    · obtain ⟨b, rfl, q0, q1, q2, q3⟩ := slot_cells HL.out rfl k hlt
      have HT := Lib.hid (take_getD hlt)
      have HI := Lib.hid (getD_in hlt)
      have HNI := Lib.hid (nodup_take HND.out hlt)
      obtain ⟨y, hy⟩ : ∃ y, y = l.getD k none_Slot := ⟨_, rfl⟩
      rw [← hy] at q0 q1 q2 q3 HT HI HNI
      clear hy
      by_cases he : y = (x0, x1, x2, x3)
      · subst he
        simp only at q0 q1 q2 q3
        have HO1 : Hid (wr.ownsRow W0.heap.size 3 1 u5 0 []) := Lib.hid (by
          obtain ⟨A, hA, ho⟩ := HO.out
          rw [if_neg HNI.out] at hA
          subst hA
          exact ho)
        obtain ⟨-, ⟨hc1, hc2⟩, ⟨hm1, hm2⟩, ⟨hn1, hn2⟩, -⟩ := HSM.out _ HI.out
        simp only at hc1 hc2 hm1 hm2 hn1 hn2
        have HFULL : Hid (cellsS c (x0, x1, x2, x3) = (List.range x3.toNat).map fun (k : Nat) => x2 + (k : Int) * (if x1 = true then c else 1)) := Lib.hid rfl
        have HT2 : Hid ((x0, x1, x2, x3) ∈ l.take (k + 1)) := Lib.hid (by rw [HT.out]; simp)
        clear HNI HT HO
        go_wp2
        go_quiet (fail)
        obtain ⟨W, hW⟩ : ∃ W, W = wr.drewN nq := ⟨_, rfl⟩
        have HO1w : Hid (W.ownsRow W0.heap.size 3 1 u5 0 []) := Lib.hid (by rw [hW]; exact HO1.out)
        have HL1 : Hid (W.ownsRow W0.heap.size 63 4 (.slice (some ⟨b, 0, none⟩) l.length cap) l.length (row_Slot l)) := Lib.hid (by rw [hW]; exact HL.out)
        have HB1 : Hid (Below W0.heap.size W0 W) := Lib.hid (by rw [hW]; exact below_drewN HB.out _)
        rw [← hW]
        clear hW q0 q1 q2 q3 y0 y1 y2 z0 z1 z2 z3 HB HL HO1
        obtain ⟨n, rfl⟩ : ∃ n : Nat, x3 = (n : Int) := ⟨x3.toNat, by omega⟩
        have hn6 : n ≤ 6 := by omega
        rw [Int.toNat_natCast] at HFULL
        cases x1 with
        | true =>
          go_wp2
          clear wr
          go_loopw [5, 8] (fun o q wr => ∃ j : Nat, j ≤ n ∧ q = .int .i64 j ∧ Hid (wr.ownsRow W0.heap.size 3 1 o j (((List.range j).map fun (k : Nat) => x2 + (k : Int) * (if true = true then c else 1)).map (Value.int .i64))) ∧ Hid (wr.ownsRow W0.heap.size 63 4 (.slice (some ⟨b, 0, none⟩) l.length cap) l.length (row_Slot l)) ∧ Hid (Below W0.heap.size W0 wr)) (fun _ q _ => n - (intOf q).toNat)
          case atStart => exact ⟨0, Nat.zero_le _, rfl, HO1w, HL1, HB1⟩
          case round =>
            obtain ⟨j, hj, rfl, HJ, HLq, HBq⟩ := hrel
            obtain ⟨y0', y1', y2', z0', z1', z2', z3', hbw'⟩ := HKP.out _ HBq.out
            clear hbw'
            by_cases hjn : j < n
            · have hd : decide ((j : Int) < (n : Int)) = true := decide_eq_true (by omega)
              have hmul : 0 ≤ (j : Int) * c ∧ (j : Int) * c ≤ 36 := ⟨Int.mul_nonneg (by omega) (by omega), Int.le_trans (Int.mul_le_mul (show (j : Int) ≤ 6 by omega) hc2 (by omega) (by omega)) (by decide)⟩
              go_wp2_with (at_builtin; refine appendV_reads _ rfl _ _ 91 rfl W0.heap.size 3 i0 (.int .i64 0) 1 8 Tryz.underlying91 hi hz0 hz1 hz2 rfl (by decide) _ j _ rfl (HJ.out.alloc _) (some ⟨wr.heap.size, 0, none⟩) 1 1 [.int .i64 (x2 + (j : Int) * c)] rfl rfl (by simp [Value.oneCell']) (fun e => by cases e) (oneI wr _ _) (by omega) (by omega) (le_alloc HBq.out.size _) ?_; intro v4 w4 hown hgrow)
              have HB4 := Lib.hid (below_app (HBq.out.alloc HBq.out.size _) hgrow (HJ.out.alloc _) (Nat.le_refl _) (le_alloc HBq.out.size _))
              have HJ4 : Hid (w4.ownsRow W0.heap.size 3 1 v4 (j + 1) (((List.range (j + 1)).map fun (k : Nat) => x2 + (k : Int) * (if true = true then c else 1)).map (Value.int .i64))) := Lib.hid (by rw [show ((List.range (j + 1)).map fun (k : Nat) => x2 + (k : Int) * (if true = true then c else 1)) = _ from cells_next (x0, true, x2, (n : Int)) c j, List.map_append]; exact hown)
              have HL4 := Lib.hid ((HLq.out.alloc _).kept hgrow (own_types HJ.out HLq.out (by decide)))
              clear hown hgrow
              go_roundw
              case rel => exact ⟨j + 1, by omega, by go_num, HJ4, HL4, HB4⟩
              case measure => simp [intOf]; omega
            · have hd : decide ((j : Int) < (n : Int)) = false := decide_eq_false (by omega)
              have hj' : j = n := by omega
              have HO4 : Hid (∃ A, A = (if (x0, true, x2, (n : Int)) ∈ l.take (k + 1) then cellsS c (x0, true, x2, (n : Int)) else []) ∧ wr.ownsRow W0.heap.size 3 1 u5 A.length (A.map (Value.int .i64))) := Lib.hid ⟨_, rfl, by rw [if_pos HT2.out, HFULL.out, List.length_map, List.length_range]; rw [hj'] at HJ; exact HJ.out⟩
              clear hj'
              go_wp2
              go_roundw
              case rel => exact ⟨k + 1, by omega, by go_num, HO4, HLq, HBq⟩
              case measure => simp [intOf]; omega
        | false =>
          go_wp2
          clear wr
          go_loopw [5, 8] (fun o q wr => ∃ j : Nat, j ≤ n ∧ q = .int .i64 j ∧ Hid (wr.ownsRow W0.heap.size 3 1 o j (((List.range j).map fun (k : Nat) => x2 + (k : Int) * (if false = true then c else 1)).map (Value.int .i64))) ∧ Hid (wr.ownsRow W0.heap.size 63 4 (.slice (some ⟨b, 0, none⟩) l.length cap) l.length (row_Slot l)) ∧ Hid (Below W0.heap.size W0 wr)) (fun _ q _ => n - (intOf q).toNat)
          case atStart => exact ⟨0, Nat.zero_le _, rfl, HO1w, HL1, HB1⟩
          case round =>
            obtain ⟨j, hj, rfl, HJ, HLq, HBq⟩ := hrel
            obtain ⟨y0', y1', y2', z0', z1', z2', z3', hbw'⟩ := HKP.out _ HBq.out
            clear hbw'
            by_cases hjn : j < n
            · have hd : decide ((j : Int) < (n : Int)) = true := decide_eq_true (by omega)
              have hmul : 0 ≤ (j : Int) * c ∧ (j : Int) * c ≤ 36 := ⟨Int.mul_nonneg (by omega) (by omega), Int.le_trans (Int.mul_le_mul (show (j : Int) ≤ 6 by omega) hc2 (by omega) (by omega)) (by decide)⟩
              go_wp2_with (at_builtin; refine appendV_reads _ rfl _ _ 91 rfl W0.heap.size 3 i0 (.int .i64 0) 1 8 Tryz.underlying91 hi hz0 hz1 hz2 rfl (by decide) _ j _ rfl (HJ.out.alloc _) (some ⟨wr.heap.size, 0, none⟩) 1 1 [.int .i64 (x2 + (j : Int))] rfl rfl (by simp [Value.oneCell']) (fun e => by cases e) (oneI wr _ _) (by omega) (by omega) (le_alloc HBq.out.size _) ?_; intro v4 w4 hown hgrow)
              have HB4 := Lib.hid (below_app (HBq.out.alloc HBq.out.size _) hgrow (HJ.out.alloc _) (Nat.le_refl _) (le_alloc HBq.out.size _))
              have HJ4 : Hid (w4.ownsRow W0.heap.size 3 1 v4 (j + 1) (((List.range (j + 1)).map fun (k : Nat) => x2 + (k : Int) * (if false = true then c else 1)).map (Value.int .i64))) := Lib.hid (by rw [show ((List.range (j + 1)).map fun (k : Nat) => x2 + (k : Int) * (if false = true then c else 1)) = _ from cells_next (x0, false, x2, (n : Int)) c j, List.map_append]; simpa using hown)
              have HL4 := Lib.hid ((HLq.out.alloc _).kept hgrow (own_types HJ.out HLq.out (by decide)))
              clear hown hgrow
              go_roundw
              case rel => exact ⟨j + 1, by omega, by go_num, HJ4, HL4, HB4⟩
              case measure => simp [intOf]; omega
            · have hd : decide ((j : Int) < (n : Int)) = false := decide_eq_false (by omega)
              have hj' : j = n := by omega
              have HO4 : Hid (∃ A, A = (if (x0, false, x2, (n : Int)) ∈ l.take (k + 1) then cellsS c (x0, false, x2, (n : Int)) else []) ∧ wr.ownsRow W0.heap.size 3 1 u5 A.length (A.map (Value.int .i64))) := Lib.hid ⟨_, rfl, by rw [if_pos HT2.out, HFULL.out, List.length_map, List.length_range]; rw [hj'] at HJ; exact HJ.out⟩
              clear hj'
              go_wp2
              go_roundw
              case rel => exact ⟨k + 1, by omega, by go_num, HO4, HLq, HBq⟩
              case measure => simp [intOf]; omega
      · have hne := slot_differ he
        have HO9 : Hid (∃ A, A = (if (x0, x1, x2, x3) ∈ l.take (k + 1) then cellsS c (x0, x1, x2, x3) else []) ∧ wr.ownsRow W0.heap.size 3 1 u5 A.length (A.map (Value.int .i64))) := Lib.hid (by
          obtain ⟨A, hA, ho⟩ := HO.out
          refine ⟨A, ?_, ho⟩
          rw [hA]
          by_cases h : (x0, x1, x2, x3) ∈ l.take k
          · rw [if_pos h, if_pos (by rw [HT.out]; exact List.mem_append_left _ h)]
          · rw [if_neg h, if_neg]
            rw [HT.out]
            intro h9
            rcases List.mem_append.1 h9 with h8 | h8
            · exact h h8
            · exact he (List.mem_singleton.1 h8).symm)
        obtain ⟨t0, t1, t2, t3⟩ := y
        simp only at hne q0 q1 q2 q3
        clear he HT HI HNI HO
        rcases hne with hne | ⟨hn0, hne⟩ | ⟨hn0, hn1, hne⟩ | ⟨hn0, hn1, hn2, hne⟩
        · go_wp2
          go_quiet (fail)
          have HO8 : Hid (∃ A, A = (if (x0, x1, x2, x3) ∈ l.take (k + 1) then cellsS c (x0, x1, x2, x3) else []) ∧ (wr.drewN nq).ownsRow W0.heap.size 3 1 u5 A.length (A.map (Value.int .i64))) := Lib.hid (by
            obtain ⟨A, hA, ho⟩ := HO9.out
            exact ⟨A, hA, ho⟩)
          all_goals go_wp2
          go_roundw
          case rel => exact ⟨k + 1, by omega, by go_num, HO8, Lib.hid HL.out, Lib.hid (below_drewN HB.out _)⟩
          case measure => simp [intOf]; omega
        · subst hn0
          go_wp2
          go_quiet (fail)
          have HO8 : Hid (∃ A, A = (if (x0, x1, x2, x3) ∈ l.take (k + 1) then cellsS c (x0, x1, x2, x3) else []) ∧ (wr.drewN nq).ownsRow W0.heap.size 3 1 u5 A.length (A.map (Value.int .i64))) := Lib.hid (by
            obtain ⟨A, hA, ho⟩ := HO9.out
            exact ⟨A, hA, ho⟩)
          all_goals go_wp2
          go_roundw
          case rel => exact ⟨k + 1, by omega, by go_num, HO8, Lib.hid HL.out, Lib.hid (below_drewN HB.out _)⟩
          case measure => simp [intOf]; omega
        · subst hn0 hn1
          go_wp2
          go_quiet (fail)
          have HO8 : Hid (∃ A, A = (if (x0, x1, x2, x3) ∈ l.take (k + 1) then cellsS c (x0, x1, x2, x3) else []) ∧ (wr.drewN nq).ownsRow W0.heap.size 3 1 u5 A.length (A.map (Value.int .i64))) := Lib.hid (by
            obtain ⟨A, hA, ho⟩ := HO9.out
            exact ⟨A, hA, ho⟩)
          all_goals go_wp2
          go_roundw
          case rel => exact ⟨k + 1, by omega, by go_num, HO8, Lib.hid HL.out, Lib.hid (below_drewN HB.out _)⟩
          case measure => simp [intOf]; omega
        · subst hn0 hn1 hn2
          go_wp2
          go_quiet (fail)
          have HO8 : Hid (∃ A, A = (if (x0, x1, x2, x3) ∈ l.take (k + 1) then cellsS c (x0, x1, x2, x3) else []) ∧ (wr.drewN nq).ownsRow W0.heap.size 3 1 u5 A.length (A.map (Value.int .i64))) := Lib.hid (by
            obtain ⟨A, hA, ho⟩ := HO9.out
            exact ⟨A, hA, ho⟩)
          all_goals go_wp2
          go_roundw
          case rel => exact ⟨k + 1, by omega, by go_num, HO8, Lib.hid HL.out, Lib.hid (below_drewN HB.out _)⟩
          case measure => simp [intOf]; omega
    · have HF : Hid (wr.ownsRow w.heap.size 3 1 u5 (clG (r, c, s) (x0, x1, x2, x3)).length ((clG (r, c, s) (x0, x1, x2, x3)).map (Value.int .i64))) := Lib.hid (by
        obtain ⟨A, hA, ho⟩ := HO.out
        rw [List.take_of_length_le (by omega), ← HCL.out] at hA
        rw [← hA]
        exact own_widen ho (by omega))
      go_wp2
      go_ret
      exact ⟨_, rfl, HF.out, HW.out.trans (HB.out.mono HW.out.size)⟩
end Go.Proofs.YtgjijmcedonlmaaGreatDoor
namespace Go.Proofs.YtgjijmcedonlmaaGreatDoor
open Go.RowKit

/-- What SlotsAt answers, of a list of slots. -/
def atS (l : List SlotV) (c k : Int) : List Int := ((List.range l.length).filter fun i => hasI (cellsS c (l.getD i none_Slot)) k).map fun (i : Nat) => (i : Int)
def atSn (l : List SlotV) (c k : Int) (n : Nat) : List Int := ((List.range n).filter fun i => hasI (cellsS c (l.getD i none_Slot)) k).map fun (i : Nat) => (i : Int)
theorem atSn_next (l : List SlotV) (c k : Int) (n : Nat) : atSn l c k (n + 1) = atSn l c k n ++ (if hasI (cellsS c (l.getD n none_Slot)) k = true then [(n : Int)] else []) := by
  unfold atSn
  rw [List.range_succ, List.filter_append, List.map_append]
  congr 1
  by_cases h : hasI (cellsS c (l.getD n none_Slot)) k = true
  · rw [if_pos h, List.filter_cons_of_pos (p := fun i => hasI (cellsS c (l.getD i none_Slot)) k) h]; rfl
  · rw [if_neg h, List.filter_cons_of_neg (p := fun i => hasI (cellsS c (l.getD i none_Slot)) k) h]; rfl
theorem atSn_length (l : List SlotV) (c k : Int) (n : Nat) : (atSn l c k n).length ≤ n := by
  unfold atSn
  rw [List.length_map]
  refine Nat.le_trans (List.length_filter_le _ _) ?_
  rw [List.length_range]
  exact Nat.le_refl _
theorem clG_in {g : Int × Int × ByteArray} {x : SlotV} (h : x ∈ slG g) : clG g x = cellsS g.2.1 x := if_pos h
theorem cellsS_length (c : Int) (x : SlotV) : (cellsS c x).length = x.2.2.2.toNat := by
  unfold cellsS
  rw [List.length_map, List.length_range]
theorem clG_length (g : Int × Int × ByteArray) (x : SlotV) : (clG g x).length ≤ 6 := by
  unfold clG
  split
  · rename_i h
    obtain ⟨-, -, -, h1, -⟩ := slG_small h
    rw [cellsS_length]
    omega
  · exact Nat.zero_le _
theorem reads_ints {W : World} {base : Nat} {v : Value} {l : List Int} {e : TypeId} (h : W.ownsRow base e 1 v l.length (l.map (Value.int .i64))) (hl : l.length ≤ 140737488355328) : Reads W.heap.size W v .i64 l := reads_own h rfl hl
set_option maxRecDepth 100000 in
set_option maxHeartbeats 3200000 in
theorem ssat_any (r c : Int) (s : ByteArray) (q : Int) (hs : s.size ≤ 4194304) (w : World) :
    Calls Tryz.prog 97 #[.agg #[.int .i64 r, .int .i64 c, .string s], .int .i64 q] w fun e w' => ∃ v, e = .returned v ∧ w'.ownsRow w.heap.size 3 1 v (atS (slG (r, c, s)) c q).length ((atS (slG (r, c, s)) c q).map (Value.int .i64)) ∧ Below w.heap.size w w' := by
  obtain ⟨i0, hi, hz0, hz1, hz2⟩ := info_parts info_int
  have HSL := Lib.hid (fun w => ssl_any r c s hs w)
  have HCL := Lib.hid (fun (x : SlotV) (hx : x ∈ slG (r, c, s)) w => by
    have h := scl_any r c s x.1 x.2.1 x.2.2.1 x.2.2.2 hs w
    rw [show ((x.1, x.2.1, x.2.2.1, x.2.2.2) : SlotV) = x from rfl, clG_in hx] at h
    exact h)
  have HKP := Lib.hid (box3_all w r c s 25)
  have HW : Hid (Below w.heap.size w (w.alloc (.cells #[.int .i64 r, .int .i64 c, .string s] 25))) := Lib.hid ((Below.refl _ _).alloc (Nat.le_refl _) _)
  obtain ⟨d0, d1, d2⟩ := HKP.out _ (Below.refl _ _)
  have HLEN := Lib.hid (slG_length (r, c, s))
  have HSM := Lib.hid (fun x hx => slG_small (g := (r, c, s)) (x := x) hx)
  obtain ⟨l, hl⟩ : ∃ l, l = slG (r, c, s) := ⟨_, rfl⟩
  rw [← hl] at HSL HCL HLEN HSM ⊢
  clear hl
  have hl72 := HLEN.out
  have HAT : Hid (atS l c q = atSn l c q l.length) := Lib.hid rfl
  go_enter Tryz.func97, Tryz.ntmps97
  go_wp2_with fail
  obtain ⟨W0, hW0⟩ : ∃ W0, W0 = w.alloc (.cells #[.int .i64 r, .int .i64 c, .string s] 25) := ⟨_, rfl⟩
  have hws : W0.heap.size = w.heap.size + 1 := by rw [hW0]; simp
  rw [← hW0] at HKP HW d0 d1 d2 ⊢
  clear hW0
  have HO0 : Hid ((W0.alloc (.cells #[] 3)).ownsRow W0.heap.size 3 1 (.slice (some ⟨w.heap.size + 1, 0, none⟩) 0 0) 0 []) := Lib.hid (by rw [← hws]; exact own_zero W0 3 1)
  have HB0 := Lib.hid ((Below.refl W0.heap.size W0).alloc (Nat.le_refl _) (.cells #[] 3))
  go_wp2_with (go_at_call 59; refine (HSL.out _).mono ?_; rintro e w2 ⟨v2, rfl, o2, b2⟩; obtain ⟨a0, cap, rfl⟩ := ownV_slice o2; have HO2 := Lib.hid (ownV_later HO0.out b2); have HB2 := Lib.hid (HB0.out.trans (b2.mono HB0.out.size)); have HL2 := Lib.hid (own_widen o2 HB0.out.size); clear o2 b2)
  go_loopw [5, 7] (fun o i wr => ∃ k : Nat, k ≤ l.length ∧ i = .int .i64 k ∧ Hid (wr.ownsRow W0.heap.size 3 1 o (atSn l c q k).length ((atSn l c q k).map (Value.int .i64))) ∧ Hid (wr.ownsRow W0.heap.size 63 4 (.slice a0 l.length cap) l.length (row_Slot l)) ∧ Hid (Below W0.heap.size W0 wr)) (fun _ i _ => l.length - (intOf i).toNat)
  case atStart => exact ⟨0, Nat.zero_le _, rfl, HO2, HL2, HB2⟩
  case round =>
    obtain ⟨k, hk, rfl, HO, HL, HB⟩ := hrel
    obtain ⟨y0, y1, y2⟩ := HKP.out _ HB.out
    by_cases hlt : k < l.length
    · obtain ⟨b, rfl, q0, q1, q2, q3⟩ := slot_cells HL.out rfl k hlt
      have HI := Lib.hid (getD_in hlt)
      have HNX := Lib.hid (atSn_next l c q k)
      have HLN := Lib.hid (atSn_length l c q k)
      obtain ⟨y, hy⟩ : ∃ y, y = l.getD k none_Slot := ⟨_, rfl⟩
      rw [← hy] at q0 q1 q2 q3 HI HNX
      clear hy
      have HC1 := Lib.hid (HCL.out y HI.out)
      have HC6 : Hid ((cellsS c y).length ≤ 6) := Lib.hid (by rw [cellsS_length]; have := (HSM.out _ HI.out).2.2.2.1; omega)
      obtain ⟨t0, t1, t2, t3⟩ := y
      simp only at q0 q1 q2 q3 HC1
      obtain ⟨Z, hZ⟩ : ∃ Z, Z = cellsS c (t0, t1, t2, t3) := ⟨_, rfl⟩
      obtain ⟨A, hA⟩ : ∃ A, A = atSn l c q k := ⟨_, rfl⟩
      rw [← hZ] at HC1 HC6 HNX
      rw [← hA] at HO HNX HLN
      have ha72 : A.length ≤ 72 := by have := HLN.out; omega
      have HHS := Lib.hid (fun v w h => shasI_any Z q (by have := HC6.out; omega) v w h)
      obtain ⟨p, hp⟩ : ∃ p, p = hasI Z q := ⟨_, rfl⟩
      rw [← hp] at HHS HNX
      clear hZ hA hp HLN
      cases p with
      | true =>
        go_wp2
        go_region_with (first | (go_at_call 99; refine Calls.mono (HC1.out _) ?_; rintro e w3 ⟨v3, rfl, o3, b3⟩; have BT3 : Hid (Below wr.heap.size wr w3) := Lib.hid (by first | exact b3 | exact ((Below.refl wr.heap.size wr).drew).trans b3); have HR3 := Lib.hid (reads_ints o3 (by have := HC6.out; omega)); clear o3 b3) | (go_at_call 113; refine Calls.mono (HHS.out _ _ (by first | exact HR3.out | exact HR3.out.now ((Below.refl _ _).drew))) ?_; rintro e w4 ⟨rfl, b4⟩; have BT4 : Hid (Below wr.heap.size wr w4) := Lib.hid (BT3.out.trans ((by first | exact b4 | exact ((Below.refl _ _).drew).trans b4 : Below w3.heap.size w3 w4).mono BT3.out.size)); clear b4))
        all_goals have HO4 := Lib.hid (ownV_later HO.out BT4.out)
        all_goals have HL4 := Lib.hid (ownV_later HL.out BT4.out)
        all_goals have HB4 := Lib.hid (HB.out.trans (BT4.out.mono HB.out.size))
        all_goals clear HO HL HB BT3 BT4 HR3 q0 q1 q2 q3 y0 y1 y2
        all_goals go_wp2_with (at_builtin; refine appendV_reads _ rfl _ _ 91 rfl W0.heap.size 3 i0 (.int .i64 0) 1 8 Tryz.underlying91 hi hz0 hz1 hz2 rfl (by decide) _ A.length _ rfl (HO4.out.alloc _) (some ⟨w4.heap.size, 0, none⟩) 1 1 [.int .i64 (k : Int)] rfl rfl (by simp [Value.oneCell']) (fun e => by cases e) (oneI w4 _ _) (by omega) (by omega) (le_alloc HB4.out.size _) ?_; intro v5 w5 hown hgrow)
        all_goals have HB5 := Lib.hid (below_app (HB4.out.alloc HB4.out.size _) hgrow (HO4.out.alloc _) (Nat.le_refl _) (le_alloc HB4.out.size _))
        all_goals have HL5 := Lib.hid ((HL4.out.alloc _).kept hgrow (own_types HO4.out HL4.out (by decide)))
        all_goals have HO5 : Hid (w5.ownsRow W0.heap.size 3 1 v5 (atSn l c q (k + 1)).length ((atSn l c q (k + 1)).map (Value.int .i64))) := Lib.hid (by rw [HNX.out, if_pos (by trivial), List.length_append, List.map_append]; exact hown)
        all_goals clear hown hgrow
        all_goals go_roundw
        all_goals first | exact ⟨k + 1, by omega, by go_num, HO5, HL5, HB5⟩ | (simp [intOf]; omega)
      | false =>
        go_wp2
        go_region_with (first | (go_at_call 99; refine Calls.mono (HC1.out _) ?_; rintro e w3 ⟨v3, rfl, o3, b3⟩; have BT3 : Hid (Below wr.heap.size wr w3) := Lib.hid (by first | exact b3 | exact ((Below.refl wr.heap.size wr).drew).trans b3); have HR3 := Lib.hid (reads_ints o3 (by have := HC6.out; omega)); clear o3 b3) | (go_at_call 113; refine Calls.mono (HHS.out _ _ (by first | exact HR3.out | exact HR3.out.now ((Below.refl _ _).drew))) ?_; rintro e w4 ⟨rfl, b4⟩; have BT4 : Hid (Below wr.heap.size wr w4) := Lib.hid (BT3.out.trans ((by first | exact b4 | exact ((Below.refl _ _).drew).trans b4 : Below w3.heap.size w3 w4).mono BT3.out.size)); clear b4))
        all_goals have HO4 : Hid (w4.ownsRow W0.heap.size 3 1 u5 (atSn l c q (k + 1)).length ((atSn l c q (k + 1)).map (Value.int .i64))) := Lib.hid (by rw [HNX.out, if_neg (by simp), List.append_nil]; exact ownV_later HO.out BT4.out)
        all_goals have HL4 := Lib.hid (ownV_later HL.out BT4.out)
        all_goals have HB4 := Lib.hid (HB.out.trans (BT4.out.mono HB.out.size))
        all_goals clear HO HL HB BT3 BT4 HR3 q0 q1 q2 q3 y0 y1 y2
        all_goals go_wp2
        all_goals go_roundw
        all_goals first | exact ⟨k + 1, by omega, by go_num, HO4, HL4, HB4⟩ | (simp [intOf]; omega)
    · have HF : Hid (wr.ownsRow w.heap.size 3 1 u5 (atS l c q).length ((atS l c q).map (Value.int .i64))) := Lib.hid (by
        have h9 := HO.out
        rw [show k = l.length by omega, ← HAT.out] at h9
        exact own_widen h9 (by omega))
      go_wp2
      go_ret
      exact ⟨_, rfl, HF.out, HW.out.trans (HB.out.mono HW.out.size)⟩
end Go.Proofs.YtgjijmcedonlmaaGreatDoor
