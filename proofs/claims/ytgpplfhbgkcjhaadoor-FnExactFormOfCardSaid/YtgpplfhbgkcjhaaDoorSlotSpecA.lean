/-
  The model's contracts of chapter 8, first part: l8From.
-/
import Derived.Test.YtgpplfhbgkcjhaaDoorSlotPure
import Derived.Test.YtgpplfhbgkcjhaaDoorGridTwo
import Derived.Test.YtgpplfhbgkcjhaaDoorSlotS
namespace Go.Proofs.YtgpplfhbgkcjhaaDoor
open Go.RowKit

theorem whF_eq (s : ByteArray) (k : Nat) (h : k < s.size) : whF s k = decide (s[k] = 46) := by
  unfold whF
  rw [getD_byte s k h]
theorem white_eq {s : ByteArray} {k : Nat} (h : k < s.size) (hw : whF s k = true) : ((s[k].toNat : Int) == 46) = true ∧ ((s[k].toNat : Int) != 46) = false := by
  rw [whF_eq s k h] at hw
  rw [of_decide_eq_true hw]
  exact ⟨rfl, rfl⟩
theorem black_eq {s : ByteArray} {k : Nat} (h : k < s.size) (hw : whF s k = false) : ((s[k].toNat : Int) == 46) = false ∧ ((s[k].toNat : Int) != 46) = true := by
  rw [whF_eq s k h] at hw
  have h9 := of_decide_eq_false hw
  have h8 : ¬ ((s[k].toNat : Int) = 46) := fun e => h9 (UInt8.toNat_inj.1 (by show s[k].toNat = 46; omega))
  exact ⟨by simpa using h8, by simpa using h8⟩
theorem row_back {i c j : Nat} (h : 0 < i) : i * c + j = ((i - 1) * c + j) + c := by
  obtain ⟨k, rfl⟩ : ∃ k, i = k + 1 := ⟨i - 1, by omega⟩
  rw [Nat.succ_mul, Nat.add_sub_cancel]
  omega
theorem row_on (i c j n : Nat) : i * c + j + n * c = (i + n) * c + j := by
  rw [Nat.add_mul]
  omega
set_option maxHeartbeats 1600000 in
theorem sfromA_any (r c : Nat) (s : ByteArray) (i j : Nat) (hz : s.size ≤ 36) (hj : j < c) (hc : c ≤ 6) (hlast : ∀ x, x < c → i * c + x < s.size) (w : World) :
    Calls Tryd.prog 90 #[.agg #[.int .i64 (r : Int), .int .i64 (c : Int), .string s], .int .i64 ((i * c + j : Nat) : Int), .bool false] w fun e w' => e = .returned (.int .i64 ((runAt (rowB c s i) j : Nat) : Int)) ∧ Below w.heap.size w w' := by
  have HBOX := Lib.hid (box3 w r c s 25)
  have HW : Hid (Below w.heap.size w (w.alloc (.cells #[.int .i64 r, .int .i64 c, .string s] 25))) := Lib.hid ((Below.refl _ _).alloc (Nat.le_refl _) _)
  obtain ⟨q, hq⟩ : ∃ q, q = i * c + j := ⟨_, rfl⟩
  rw [← hq]
  have hqs : q < s.size := by rw [hq]; exact hlast j hj
  have HL := Lib.hid hlast
  have HP : Hid (j < c) := Lib.hid (by omega)
  have hl6 : c ≤ 6 := by omega
  have HG := Lib.hid (fun x (hx : x < c) => rowB_get c s i hx)
  have HGE := Lib.hid (fun x (hx : c ≤ x) => rowB_end c s i hx)
  have hmod : ((q : Int)) % (c : Int) = (j : Int) := by rw [hq]; exact_mod_cast (div_in (i := i) hj).2
  have hdiv : ((q : Int)) / (c : Int) = (i : Int) := by rw [hq]; exact_mod_cast (div_in (i := i) hj).1
  have hc0 : ((c : Int) == 0) = false := by simp; omega
  have hmb : 0 ≤ (q : Int) % (c : Int) ∧ (q : Int) % (c : Int) ≤ 5 := by rw [hmod]; omega
  have HM := Lib.hid hmod
  have HD := Lib.hid hdiv
  clear hmod hdiv
  have HQ := Lib.hid hq
  have HN1 := Lib.hid (fun h => runAt_no1 (bs := rowB c s i) (j := j) h)
  have HN2 := Lib.hid (fun h0 h => runAt_no2 (bs := rowB c s i) (j := j) h0 h)
  have HY := Lib.hid (fun n h h0 h1 h2 => runAt_yes (bs := rowB c s i) (j := j) (n := n) h h0 h1 h2)
  obtain ⟨bs, hbs⟩ : ∃ bs, bs = rowB c s i := ⟨_, rfl⟩
  rw [← hbs] at HN1 HN2 HY HG HGE ⊢
  have HGp := Lib.hid (HG.out j HP.out)
  rw [← HQ.out] at HGp
  clear hlast hq hbs
  obtain ⟨c0, c1, c2⟩ := HBOX.out
  by_cases hw : whF s q = true
  · obtain ⟨hw1, hw2⟩ := white_eq hqs hw
    have HB0 : Hid (bs.getD j false = true) := Lib.hid (HGp.out.trans hw)
    clear hw
    by_cases hp : 0 < j ∧ bs.getD (j - 1) false = true
    · -- a white cell stands ahead of it
      have HF := Lib.hid (HN2.out hp.1 hp.2)
      obtain ⟨p, hpq⟩ : ∃ p, p + 1 = q := ⟨q - 1, by have := HQ.out; omega⟩
      have hps : p < s.size := by omega
      have hpe : (q : Int) - (1 : Int) = (p : Int) := by omega
      have hpw : whF s p = true := by
        have h9 := HG.out (j - 1) (by have := HP.out; omega)
        rw [hp.2] at h9
        rw [h9]
        congr 1
        have h8 := HQ.out; omega
      obtain ⟨hw3, hw4⟩ := white_eq hps hpw
      have hgt : decide ((0 : Int) < (q : Int) % (c : Int)) = true := decide_eq_true (by rw [HM.out]; omega)
      have h00 : 0 < j := hp.1
      clear hp hpw hw4
      go_enter Tryd.func90, Tryd.ntmps90
      go_wp2
      go_ret
      exact ⟨by rw [HF.out]; rfl, HW.out⟩
    · have HB1 : Hid (j = 0 ∨ bs.getD (j - 1) false = false) := Lib.hid (by
        rcases Nat.eq_zero_or_pos j with h | h
        · exact .inl h
        · right
          rcases hb : bs.getD (j - 1) false with _ | _
          · rfl
          · exact absurd ⟨h, hb⟩ hp)
      clear hp
      have HST : Hid (Calls Tryd.prog 90 #[.agg #[.int .i64 (r : Int), .int .i64 (c : Int), .string s], .int .i64 (q : Int), .bool false] w fun e w' => e = .returned (.int .i64 ((runAt bs j : Nat) : Int)) ∧ Below w.heap.size w w') := Lib.hid (by
        rcases Nat.eq_zero_or_pos j with h0 | h0
        · have hgt : decide ((0 : Int) < (q : Int) % (c : Int)) = false := decide_eq_false (by rw [HM.out]; omega)
          have H0 := Lib.hid h0
          clear h0
          go_enter Tryd.func90, Tryd.ntmps90
          go_wp2
          obtain ⟨W0, hW0⟩ : ∃ W0, W0 = w.alloc (.cells #[.int .i64 r, .int .i64 c, .string s] 25) := ⟨_, rfl⟩
          rw [← hW0] at HW c0 c1 c2 ⊢
          clear hW0
          go_loopw [10] (fun v wr => ∃ n : Nat, j + n ≤ c ∧ v = .int .i64 n ∧ Hid (∀ x, x < n → bs.getD (j + x) false = true) ∧ W0 = wr) (fun v _ => c - (intOf v).toNat)
          case atStart => exact ⟨0, by have := HP.out; omega, rfl, Lib.hid (fun x hx => absurd hx (Nat.not_lt_zero _)), rfl⟩
          case round =>
            obtain ⟨n, hn, rfl, HN, rfl⟩ := hrel
            by_cases hlt : j + n < c
            · have hlt' : decide ((q : Int) % (c : Int) + (n : Int) < (c : Int)) = true := decide_eq_true (by rw [HM.out]; omega)
              obtain ⟨m, hm⟩ : ∃ m, m = q + n * 1 := ⟨_, rfl⟩
              have hmi : (q : Int) + (n : Int) = (m : Int) := by rw [hm]; simp
              have hms : m < s.size := by rw [hm, HQ.out, show i * c + j + n * 1 = i * c + (j + n) by omega]; exact HL.out _ hlt
              have HGn := Lib.hid (HG.out _ hlt)
              rw [show i * c + (j + n) = m by have := HQ.out; omega] at HGn
              clear hm
              by_cases hw9 : whF s m = true
              · obtain ⟨hv1, hv2⟩ := white_eq hms hw9
                have HN2' : Hid (∀ x, x < n + 1 → bs.getD (j + x) false = true) := Lib.hid (fun x hx => by
                  rcases Nat.lt_or_ge x n with h | h
                  · exact HN.out x h
                  · rw [show x = n by omega]; exact HGn.out.trans hw9)
                clear hw9 hv2
                go_wp2
                go_roundw
                case rel => exact ⟨n + 1, by omega, by go_num, HN2', by trivial⟩
                case measure => simp [intOf]; omega
              · have hb9 : whF s m = false := by simpa using hw9
                obtain ⟨hv1, hv2⟩ := black_eq hms hb9
                have HF := Lib.hid (HY.out n HB0.out HB1.out HN.out (HGn.out.trans hb9))
                clear hw9 hv2 hb9
                go_wp2
                go_ret
                exact ⟨by rw [HF.out]; rfl, HW.out⟩
            · have hlt' : decide ((q : Int) % (c : Int) + (n : Int) < (c : Int)) = false := decide_eq_false (by rw [HM.out]; omega)
              have HF := Lib.hid (HY.out n HB0.out HB1.out HN.out (HGE.out _ (by omega)))
              go_wp2
              go_ret
              exact ⟨by rw [HF.out]; rfl, HW.out⟩
        · obtain ⟨p, hpq⟩ : ∃ p, p + 1 = q := ⟨q - 1, by have := HQ.out; omega⟩
          have hps : p < s.size := by omega
          have hpe : (q : Int) - (1 : Int) = (p : Int) := by omega
          have hpw : whF s p = false := by
            have h9 := HG.out (j - 1) (by have := HP.out; omega)
            rw [HB1.out.resolve_left (by omega)] at h9
            rw [h9]
            congr 1
            have h8 := HQ.out; omega
          obtain ⟨hw3, hw4⟩ := black_eq hps hpw
          have hgt : decide ((0 : Int) < (q : Int) % (c : Int)) = true := decide_eq_true (by rw [HM.out]; omega)
          clear hpw hw4
          go_enter Tryd.func90, Tryd.ntmps90
          go_wp2
          obtain ⟨W0, hW0⟩ : ∃ W0, W0 = w.alloc (.cells #[.int .i64 r, .int .i64 c, .string s] 25) := ⟨_, rfl⟩
          rw [← hW0] at HW c0 c1 c2 ⊢
          clear hW0
          go_loopw [10] (fun v wr => ∃ n : Nat, j + n ≤ c ∧ v = .int .i64 n ∧ Hid (∀ x, x < n → bs.getD (j + x) false = true) ∧ W0 = wr) (fun v _ => c - (intOf v).toNat)
          case atStart => exact ⟨0, by have := HP.out; omega, rfl, Lib.hid (fun x hx => absurd hx (Nat.not_lt_zero _)), rfl⟩
          case round =>
            obtain ⟨n, hn, rfl, HN, rfl⟩ := hrel
            by_cases hlt : j + n < c
            · have hlt' : decide ((q : Int) % (c : Int) + (n : Int) < (c : Int)) = true := decide_eq_true (by rw [HM.out]; omega)
              obtain ⟨m, hm⟩ : ∃ m, m = q + n * 1 := ⟨_, rfl⟩
              have hmi : (q : Int) + (n : Int) = (m : Int) := by rw [hm]; simp
              have hms : m < s.size := by rw [hm, HQ.out, show i * c + j + n * 1 = i * c + (j + n) by omega]; exact HL.out _ hlt
              have HGn := Lib.hid (HG.out _ hlt)
              rw [show i * c + (j + n) = m by have := HQ.out; omega] at HGn
              clear hm
              by_cases hw9 : whF s m = true
              · obtain ⟨hv1, hv2⟩ := white_eq hms hw9
                have HN2' : Hid (∀ x, x < n + 1 → bs.getD (j + x) false = true) := Lib.hid (fun x hx => by
                  rcases Nat.lt_or_ge x n with h | h
                  · exact HN.out x h
                  · rw [show x = n by omega]; exact HGn.out.trans hw9)
                clear hw9 hv2
                go_wp2
                go_roundw
                case rel => exact ⟨n + 1, by omega, by go_num, HN2', by trivial⟩
                case measure => simp [intOf]; omega
              · have hb9 : whF s m = false := by simpa using hw9
                obtain ⟨hv1, hv2⟩ := black_eq hms hb9
                have HF := Lib.hid (HY.out n HB0.out HB1.out HN.out (HGn.out.trans hb9))
                clear hw9 hv2 hb9
                go_wp2
                go_ret
                exact ⟨by rw [HF.out]; rfl, HW.out⟩
            · have hlt' : decide ((q : Int) % (c : Int) + (n : Int) < (c : Int)) = false := decide_eq_false (by rw [HM.out]; omega)
              have HF := Lib.hid (HY.out n HB0.out HB1.out HN.out (HGE.out _ (by omega)))
              go_wp2
              go_ret
              exact ⟨by rw [HF.out]; rfl, HW.out⟩)
      exact HST.out
  · have hb : whF s q = false := by simpa using hw
    obtain ⟨hw1, hw2⟩ := black_eq hqs hb
    have HF := Lib.hid (HN1.out (HGp.out.trans hb))
    clear hw hb
    go_enter Tryd.func90, Tryd.ntmps90
    go_wp2
    go_ret
    exact ⟨by rw [HF.out]; rfl, HW.out⟩
set_option maxHeartbeats 1600000 in
theorem sfromD_any (r c : Nat) (s : ByteArray) (i j : Nat) (hz : s.size ≤ 36) (hj : j < c) (hc : c ≤ 6) (hlast : ∀ x, x < r → x * c + j < s.size) (hi : i < r) (hr : r ≤ 6) (w : World) :
    Calls Tryd.prog 90 #[.agg #[.int .i64 (r : Int), .int .i64 (c : Int), .string s], .int .i64 ((i * c + j : Nat) : Int), .bool true] w fun e w' => e = .returned (.int .i64 ((runAt (colB r c s j) i : Nat) : Int)) ∧ Below w.heap.size w w' := by
  have HBOX := Lib.hid (box3 w r c s 25)
  have HW : Hid (Below w.heap.size w (w.alloc (.cells #[.int .i64 r, .int .i64 c, .string s] 25))) := Lib.hid ((Below.refl _ _).alloc (Nat.le_refl _) _)
  obtain ⟨q, hq⟩ : ∃ q, q = i * c + j := ⟨_, rfl⟩
  rw [← hq]
  have hqs : q < s.size := by rw [hq]; exact hlast i hi
  have HL := Lib.hid hlast
  have HP : Hid (i < r) := Lib.hid (by omega)
  have hl6 : r ≤ 6 := by omega
  have HG := Lib.hid (fun x (hx : x < r) => colB_get r c s j hx)
  have HGE := Lib.hid (fun x (hx : r ≤ x) => colB_end r c s j hx)
  have hmod : ((q : Int)) % (c : Int) = (j : Int) := by rw [hq]; exact_mod_cast (div_in (i := i) hj).2
  have hdiv : ((q : Int)) / (c : Int) = (i : Int) := by rw [hq]; exact_mod_cast (div_in (i := i) hj).1
  have hc0 : ((c : Int) == 0) = false := by simp; omega
  have hmb : 0 ≤ (q : Int) % (c : Int) ∧ (q : Int) % (c : Int) ≤ 5 := by rw [hmod]; omega
  have hdb : 0 ≤ (q : Int) / (c : Int) ∧ (q : Int) / (c : Int) ≤ 36 := by rw [hdiv]; omega
  have HM := Lib.hid hmod
  have HD := Lib.hid hdiv
  clear hmod hdiv
  have HQ := Lib.hid hq
  have HN1 := Lib.hid (fun h => runAt_no1 (bs := colB r c s j) (j := i) h)
  have HN2 := Lib.hid (fun h0 h => runAt_no2 (bs := colB r c s j) (j := i) h0 h)
  have HY := Lib.hid (fun n h h0 h1 h2 => runAt_yes (bs := colB r c s j) (j := i) (n := n) h h0 h1 h2)
  obtain ⟨bs, hbs⟩ : ∃ bs, bs = colB r c s j := ⟨_, rfl⟩
  rw [← hbs] at HN1 HN2 HY HG HGE ⊢
  have HGp := Lib.hid (HG.out i HP.out)
  rw [← HQ.out] at HGp
  clear hlast hq hbs
  obtain ⟨c0, c1, c2⟩ := HBOX.out
  by_cases hw : whF s q = true
  · obtain ⟨hw1, hw2⟩ := white_eq hqs hw
    have HB0 : Hid (bs.getD i false = true) := Lib.hid (HGp.out.trans hw)
    clear hw
    by_cases hp : 0 < i ∧ bs.getD (i - 1) false = true
    · -- a white cell stands ahead of it
      have HF := Lib.hid (HN2.out hp.1 hp.2)
      obtain ⟨p, hpq⟩ : ∃ p, p + c = q := ⟨q - c, by rw [HQ.out, row_back hp.1]; omega⟩
      have hps : p < s.size := by omega
      have hpe : (q : Int) - (c : Int) = (p : Int) := by omega
      have hpw : whF s p = true := by
        have h9 := HG.out (i - 1) (by have := HP.out; omega)
        rw [hp.2] at h9
        rw [h9]
        congr 1
        have h8 := HQ.out; rw [row_back hp.1] at h8; omega
      obtain ⟨hw3, hw4⟩ := white_eq hps hpw
      have hgt : decide ((0 : Int) < (q : Int) / (c : Int)) = true := decide_eq_true (by rw [HD.out]; omega)
      have h00 : 0 < i := hp.1
      clear hp hpw hw4
      go_enter Tryd.func90, Tryd.ntmps90
      go_wp2
      go_ret
      exact ⟨by rw [HF.out]; rfl, HW.out⟩
    · have HB1 : Hid (i = 0 ∨ bs.getD (i - 1) false = false) := Lib.hid (by
        rcases Nat.eq_zero_or_pos i with h | h
        · exact .inl h
        · right
          rcases hb : bs.getD (i - 1) false with _ | _
          · rfl
          · exact absurd ⟨h, hb⟩ hp)
      clear hp
      have HST : Hid (Calls Tryd.prog 90 #[.agg #[.int .i64 (r : Int), .int .i64 (c : Int), .string s], .int .i64 (q : Int), .bool true] w fun e w' => e = .returned (.int .i64 ((runAt bs i : Nat) : Int)) ∧ Below w.heap.size w w') := Lib.hid (by
        rcases Nat.eq_zero_or_pos i with h0 | h0
        · have hgt : decide ((0 : Int) < (q : Int) / (c : Int)) = false := decide_eq_false (by rw [HD.out]; omega)
          have H0 := Lib.hid h0
          clear h0
          go_enter Tryd.func90, Tryd.ntmps90
          go_wp2
          obtain ⟨W0, hW0⟩ : ∃ W0, W0 = w.alloc (.cells #[.int .i64 r, .int .i64 c, .string s] 25) := ⟨_, rfl⟩
          rw [← hW0] at HW c0 c1 c2 ⊢
          clear hW0
          go_loopw [10] (fun v wr => ∃ n : Nat, i + n ≤ r ∧ v = .int .i64 n ∧ Hid (∀ x, x < n → bs.getD (i + x) false = true) ∧ W0 = wr) (fun v _ => r - (intOf v).toNat)
          case atStart => exact ⟨0, by have := HP.out; omega, rfl, Lib.hid (fun x hx => absurd hx (Nat.not_lt_zero _)), rfl⟩
          case round =>
            obtain ⟨n, hn, rfl, HN, rfl⟩ := hrel
            by_cases hlt : i + n < r
            · have hlt' : decide ((q : Int) / (c : Int) + (n : Int) < (r : Int)) = true := decide_eq_true (by rw [HD.out]; omega)
              obtain ⟨m, hm⟩ : ∃ m, m = q + n * c := ⟨_, rfl⟩
              have hmi : (q : Int) + (n : Int) * (c : Int) = (m : Int) := by rw [hm]; simp
              have hms : m < s.size := by rw [hm, HQ.out, row_on]; exact HL.out _ hlt
              have HGn := Lib.hid (HG.out _ hlt)
              rw [show (i + n) * c + j = m by rw [hm, HQ.out, row_on]] at HGn
              have hmul : (0 : Int) ≤ (n : Int) * (c : Int) ∧ (n : Int) * (c : Int) ≤ 36 := by have h7 : ((n * c : Nat) : Int) = (n : Int) * (c : Int) := (by simp); omega
              clear hm
              by_cases hw9 : whF s m = true
              · obtain ⟨hv1, hv2⟩ := white_eq hms hw9
                have HN2' : Hid (∀ x, x < n + 1 → bs.getD (i + x) false = true) := Lib.hid (fun x hx => by
                  rcases Nat.lt_or_ge x n with h | h
                  · exact HN.out x h
                  · rw [show x = n by omega]; exact HGn.out.trans hw9)
                clear hw9 hv2
                go_wp2
                go_roundw
                case rel => exact ⟨n + 1, by omega, by go_num, HN2', by trivial⟩
                case measure => simp [intOf]; omega
              · have hb9 : whF s m = false := by simpa using hw9
                obtain ⟨hv1, hv2⟩ := black_eq hms hb9
                have HF := Lib.hid (HY.out n HB0.out HB1.out HN.out (HGn.out.trans hb9))
                clear hw9 hv2 hb9
                go_wp2
                go_ret
                exact ⟨by rw [HF.out]; rfl, HW.out⟩
            · have hlt' : decide ((q : Int) / (c : Int) + (n : Int) < (r : Int)) = false := decide_eq_false (by rw [HD.out]; omega)
              have HF := Lib.hid (HY.out n HB0.out HB1.out HN.out (HGE.out _ (by omega)))
              go_wp2
              go_ret
              exact ⟨by rw [HF.out]; rfl, HW.out⟩
        · obtain ⟨p, hpq⟩ : ∃ p, p + c = q := ⟨q - c, by rw [HQ.out, row_back h0]; omega⟩
          have hps : p < s.size := by omega
          have hpe : (q : Int) - (c : Int) = (p : Int) := by omega
          have hpw : whF s p = false := by
            have h9 := HG.out (i - 1) (by have := HP.out; omega)
            rw [HB1.out.resolve_left (by omega)] at h9
            rw [h9]
            congr 1
            have h8 := HQ.out; rw [row_back h0] at h8; omega
          obtain ⟨hw3, hw4⟩ := black_eq hps hpw
          have hgt : decide ((0 : Int) < (q : Int) / (c : Int)) = true := decide_eq_true (by rw [HD.out]; omega)
          clear hpw hw4
          go_enter Tryd.func90, Tryd.ntmps90
          go_wp2
          obtain ⟨W0, hW0⟩ : ∃ W0, W0 = w.alloc (.cells #[.int .i64 r, .int .i64 c, .string s] 25) := ⟨_, rfl⟩
          rw [← hW0] at HW c0 c1 c2 ⊢
          clear hW0
          go_loopw [10] (fun v wr => ∃ n : Nat, i + n ≤ r ∧ v = .int .i64 n ∧ Hid (∀ x, x < n → bs.getD (i + x) false = true) ∧ W0 = wr) (fun v _ => r - (intOf v).toNat)
          case atStart => exact ⟨0, by have := HP.out; omega, rfl, Lib.hid (fun x hx => absurd hx (Nat.not_lt_zero _)), rfl⟩
          case round =>
            obtain ⟨n, hn, rfl, HN, rfl⟩ := hrel
            by_cases hlt : i + n < r
            · have hlt' : decide ((q : Int) / (c : Int) + (n : Int) < (r : Int)) = true := decide_eq_true (by rw [HD.out]; omega)
              obtain ⟨m, hm⟩ : ∃ m, m = q + n * c := ⟨_, rfl⟩
              have hmi : (q : Int) + (n : Int) * (c : Int) = (m : Int) := by rw [hm]; simp
              have hms : m < s.size := by rw [hm, HQ.out, row_on]; exact HL.out _ hlt
              have HGn := Lib.hid (HG.out _ hlt)
              rw [show (i + n) * c + j = m by rw [hm, HQ.out, row_on]] at HGn
              have hmul : (0 : Int) ≤ (n : Int) * (c : Int) ∧ (n : Int) * (c : Int) ≤ 36 := by have h7 : ((n * c : Nat) : Int) = (n : Int) * (c : Int) := (by simp); omega
              clear hm
              by_cases hw9 : whF s m = true
              · obtain ⟨hv1, hv2⟩ := white_eq hms hw9
                have HN2' : Hid (∀ x, x < n + 1 → bs.getD (i + x) false = true) := Lib.hid (fun x hx => by
                  rcases Nat.lt_or_ge x n with h | h
                  · exact HN.out x h
                  · rw [show x = n by omega]; exact HGn.out.trans hw9)
                clear hw9 hv2
                go_wp2
                go_roundw
                case rel => exact ⟨n + 1, by omega, by go_num, HN2', by trivial⟩
                case measure => simp [intOf]; omega
              · have hb9 : whF s m = false := by simpa using hw9
                obtain ⟨hv1, hv2⟩ := black_eq hms hb9
                have HF := Lib.hid (HY.out n HB0.out HB1.out HN.out (HGn.out.trans hb9))
                clear hw9 hv2 hb9
                go_wp2
                go_ret
                exact ⟨by rw [HF.out]; rfl, HW.out⟩
            · have hlt' : decide ((q : Int) / (c : Int) + (n : Int) < (r : Int)) = false := decide_eq_false (by rw [HD.out]; omega)
              have HF := Lib.hid (HY.out n HB0.out HB1.out HN.out (HGE.out _ (by omega)))
              go_wp2
              go_ret
              exact ⟨by rw [HF.out]; rfl, HW.out⟩)
      exact HST.out
  · have hb : whF s q = false := by simpa using hw
    obtain ⟨hw1, hw2⟩ := black_eq hqs hb
    have HF := Lib.hid (HN1.out (HGp.out.trans hb))
    clear hw hb
    go_enter Tryd.func90, Tryd.ntmps90
    go_wp2
    go_ret
    exact ⟨by rw [HF.out]; rfl, HW.out⟩
end Go.Proofs.YtgpplfhbgkcjhaaDoor
