/-
  Plain facts on patterns, and the model's contracts of IsPattern, FitsPattern, CountOpen.
-/
import Derived.Test.YthcbaiokomilaaaDoorWord
namespace Go.Proofs.YthcbaiokomilaaaDoor
open Go.RowKit

/-- A sign of a pattern. -/
def isPL (b : UInt8) : Prop := b.toNat = 63 ∨ isL b
instance (b : UInt8) : Decidable (isPL b) := inferInstanceAs (Decidable (_ ∨ _))
/-- A pattern. -/
def isP (s : ByteArray) : Bool := decide (1 ≤ s.size ∧ s.size ≤ 8 ∧ ∀ b ∈ s.data.toList, isPL b)
theorem isP_not {s : ByteArray} {k : Nat} (h : k < s.size) (hn : ¬ isPL s[k]) : isP s = false := decide_eq_false (fun hw => hn (hw.2.2 _ (byte_mem s k h)))
theorem isP_size {s : ByteArray} (h : isP s = true) : 1 ≤ s.size ∧ s.size ≤ 8 := by
  have h9 := of_decide_eq_true h
  exact ⟨h9.1, h9.2.1⟩
set_option maxHeartbeats 800000 in
theorem sip_same (s : ByteArray) (w : World) :
    Calls Tryd.prog 22 #[.string s] w fun e w' => e = .returned (.bool (isP s)) ∧ w = w' := by
  by_cases hs : 1 ≤ s.size ∧ s.size ≤ 8
  · obtain ⟨hs1, hs2⟩ := hs
    go_enter Tryd.func22, Tryd.ntmps22
    go_wp2_with (go_at_call 49; refine (lin_yes _ _ _ (by omega) (by omega) _).mono ?_; rintro e w1 ⟨rfl, rfl⟩)
    go_loopw [3] (fun i wr => ∃ k : Nat, k ≤ s.size ∧ i = .int .i64 k ∧ Hid (∀ b ∈ s.data.toList.take k, isPL b) ∧ w = wr) (fun i _ => s.size - (intOf i).toNat)
    case atStart => exact ⟨0, Nat.zero_le _, rfl, Lib.hid (by simp), rfl⟩
    case round =>
      obtain ⟨k, hk, rfl, HL, rfl⟩ := hrel
      by_cases hlt : k < s.size
      · by_cases hb : isPL s[k]
        · have HL2 : Hid (∀ b ∈ s.data.toList.take (k + 1), isPL b) := Lib.hid (fun b hb2 => by
            rw [take_snoc s k hlt] at hb2
            rcases List.mem_append.1 hb2 with h | h
            · exact HL.out b h
            · simp only [List.mem_singleton] at h; subst h; exact hb)
          rcases hb with h63 | ⟨h1, h2⟩
          · have hq : ((s[k].toNat : Int) != 63) = false := by simp; omega
            clear h63
            go_wp2
            go_roundw
            case rel => exact ⟨k + 1, by omega, by go_num, HL2, by trivial⟩
            case measure => simp [intOf]; omega
          · have hq : ((s[k].toNat : Int) != 63) = true := by simp; omega
            have hd1 : decide ((s[k].toNat : Int) < 97) = false := decide_eq_false (by omega)
            have hd2 : decide ((122 : Int) < (s[k].toNat : Int)) = false := decide_eq_false (by omega)
            go_wp2
            go_roundw
            case rel => exact ⟨k + 1, by omega, by go_num, HL2, by trivial⟩
            case measure => simp [intOf]; omega
        · have HF := Lib.hid (isP_not hlt hb)
          unfold isPL isL at hb
          have hq : ((s[k].toNat : Int) != 63) = true := by simp; omega
          by_cases h1 : s[k].toNat < 97
          · have hd1 : decide ((s[k].toNat : Int) < 97) = true := decide_eq_true (by omega)
            clear hb
            go_wp2
            go_ret
            exact ⟨by rw [HF.out]; rfl, rfl⟩
          · have hd1 : decide ((s[k].toNat : Int) < 97) = false := decide_eq_false (by omega)
            have hd2 : decide ((122 : Int) < (s[k].toNat : Int)) = true := decide_eq_true (by omega)
            clear hb
            go_wp2
            go_ret
            exact ⟨by rw [HF.out]; rfl, rfl⟩
      · have hk' : k = s.size := by omega
        have HT : Hid (isP s = true) := Lib.hid (decide_eq_true ⟨hs1, hs2, by have h9 := HL.out; rw [hk', ← size_list, List.take_length] at h9; exact h9⟩)
        clear hk'
        go_wp2
        go_ret
        exact ⟨by rw [HT.out]; rfl, rfl⟩
  · have HF : Hid (isP s = false) := Lib.hid (decide_eq_false (fun h => hs ⟨h.1, h.2.1⟩))
    have HS : Hid (¬ ((1 : Int) ≤ (s.size : Int) ∧ (s.size : Int) ≤ 8)) := Lib.hid (by omega)
    clear hs
    go_enter Tryd.func22, Tryd.ntmps22
    go_wp2_with (go_at_call 49; refine (lin_no _ _ _ HS.out _).mono ?_; rintro e w1 ⟨rfl, rfl⟩)
    go_ret
    exact ⟨by rw [HF.out]; rfl, rfl⟩

/-- The sign at k fits the letter at k. -/
def fitAt (p s : ByteArray) (k : Nat) : Prop := p.data.toList.getD k 0 = 63 ∨ p.data.toList.getD k 0 = s.data.toList.getD k 0
instance (p s : ByteArray) (k : Nat) : Decidable (fitAt p s k) := inferInstanceAs (Decidable (_ ∨ _))
/-- What FitsPattern answers. -/
def fitsP (p s : ByteArray) : Bool := isP p && isW s && decide (p.size = s.size ∧ ∀ k, k < p.size → fitAt p s k)
theorem getD_byte (s : ByteArray) (k : Nat) (h : k < s.size) : s.data.toList.getD k 0 = s[k] := by
  rw [List.getD_eq_getElem?_getD, List.getElem?_eq_getElem (by rw [size_list]; exact h), Option.getD_some]
  rfl
set_option maxHeartbeats 1600000 in
theorem sfits_any (p s : ByteArray) (w : World) :
    Calls Tryd.prog 23 #[.string p, .string s] w fun e w' => e = .returned (.bool (fitsP p s)) ∧ Below w.heap.size w w' := by
  obtain ⟨a, ha⟩ : ∃ a, a = isP p := ⟨_, rfl⟩
  obtain ⟨b, hb⟩ : ∃ b, b = isW s := ⟨_, rfl⟩
  have HA := Lib.hid (sip_same p)
  have HB := Lib.hid (siw_same s)
  rw [← ha] at HA
  rw [← hb] at HB
  have HE : Hid (fitsP p s = (a && b && decide (p.size = s.size ∧ ∀ k, k < p.size → fitAt p s k))) := Lib.hid (by rw [ha, hb]; rfl)
  have hp8 : a = true → p.size ≤ 8 := fun h => by rw [ha] at h; exact (isP_size h).2
  clear ha hb
  cases a with
  | false =>
    have HF : Hid (fitsP p s = false) := Lib.hid (by rw [HE.out]; rfl)
    clear hp8
    go_enter Tryd.func23, Tryd.ntmps23
    go_wp2_with (go_at_call 22; refine (HA.out _).mono ?_; rintro e w1 ⟨rfl, rfl⟩)
    go_ret
    exact ⟨by rw [HF.out]; rfl, Below.refl _ _⟩
  | true =>
    have hp := hp8 rfl
    clear hp8
    cases b with
    | false =>
      have HF : Hid (fitsP p s = false) := Lib.hid (by rw [HE.out]; rfl)
      go_enter Tryd.func23, Tryd.ntmps23
      go_wp2_with (first | (go_at_call 22; refine (HA.out _).mono ?_; rintro e w1 ⟨rfl, rfl⟩) | (go_at_call 50; refine (HB.out _).mono ?_; rintro e w1 ⟨rfl, rfl⟩))
      go_ret
      exact ⟨by rw [HF.out]; rfl, Below.refl _ _⟩
    | true =>
      by_cases hsz : p.size = s.size
      · have hn : ((p.size : Int) != s.size) = false := by simp; omega
        have HSZ := Lib.hid hsz
        have hps : s.size ≤ 8 := by omega
        clear hsz
        go_enter Tryd.func23, Tryd.ntmps23
        go_wp2_with (first | (go_at_call 22; refine (HA.out _).mono ?_; rintro e w1 ⟨rfl, rfl⟩) | (go_at_call 50; refine (HB.out _).mono ?_; rintro e w1 ⟨rfl, rfl⟩))
        go_loopw [5] (fun i wr => ∃ k : Nat, k ≤ p.size ∧ i = .int .i64 k ∧ Hid (∀ j, j < k → fitAt p s j) ∧ Below w.heap.size w wr) (fun i _ => p.size - (intOf i).toNat)
        case atStart => exact ⟨0, Nat.zero_le _, rfl, Lib.hid (by omega), Below.refl _ _⟩
        case round =>
          obtain ⟨k, hk, rfl, HK, hbl⟩ := hrel
          by_cases hlt : k < p.size
          · have hlt2 : k < s.size := by have := HSZ.out; omega
            have hg1 := getD_byte p k hlt
            have hg2 := getD_byte s k hlt2
            by_cases hf : fitAt p s k
            · have HK2 : Hid (∀ j, j < k + 1 → fitAt p s j) := Lib.hid (fun j hj => by
                rcases Nat.lt_or_ge j k with h | h
                · exact HK.out j h
                · obtain rfl : j = k := by omega
                  exact hf)
              unfold fitAt at hf
              rw [hg1, hg2] at hf
              clear hg1 hg2
              by_cases h63 : p[k] = 63
              · have hq : ((p[k].toNat : Int) != 63) = false := by simp [h63]
                clear h63 hf
                go_wp2
                go_quiet (fail)
                go_wp2
                go_roundw
                case rel => exact ⟨k + 1, by omega, by go_num, HK2, below_drewN hbl _⟩
                case measure => simp [intOf]; omega
              · have hq : ((p[k].toNat : Int) != 63) = true := by simp; intro h; exact h63 (UInt8.toNat_inj.1 (by show p[k].toNat = 63; omega))
                have hq2 : ((p[k].toNat : Int) != (s[k].toNat : Int)) = false := by simp; rw [hf.resolve_left h63]
                clear h63 hf
                go_wp2
                go_quiet (fail)
                go_wp2
                go_roundw
                case rel => exact ⟨k + 1, by omega, by go_num, HK2, below_drewN hbl _⟩
                case measure => simp [intOf]; omega
            · have HF : Hid (fitsP p s = false) := Lib.hid (by rw [HE.out]; simp only [Bool.true_and]; exact decide_eq_false (fun h => hf (h.2 k hlt)))
              unfold fitAt at hf
              rw [hg1, hg2] at hf
              clear hg1 hg2
              have hq : ((p[k].toNat : Int) != 63) = true := by simp; intro h; exact hf (Or.inl (UInt8.toNat_inj.1 (by show p[k].toNat = 63; omega)))
              have hq2 : ((p[k].toNat : Int) != (s[k].toNat : Int)) = true := by simp; intro h; exact hf (Or.inr (UInt8.toNat_inj.1 (by omega)))
              clear hf
              go_wp2
              go_quiet (fail)
              go_wp2
              go_ret
              exact ⟨by rw [HF.out]; rfl, below_drewN hbl _⟩
          · have HT : Hid (fitsP p s = true) := Lib.hid (by rw [HE.out]; simp only [Bool.true_and]; exact decide_eq_true ⟨HSZ.out, fun j hj => HK.out j (by omega)⟩)
            go_wp2
            go_ret
            exact ⟨by rw [HT.out]; rfl, hbl⟩
      · have hn : ((p.size : Int) != s.size) = true := by simp; omega
        have HF : Hid (fitsP p s = false) := Lib.hid (by rw [HE.out]; simp only [Bool.true_and]; exact decide_eq_false (fun h => hsz h.1))
        clear hsz
        go_enter Tryd.func23, Tryd.ntmps23
        go_wp2_with (first | (go_at_call 22; refine (HA.out _).mono ?_; rintro e w1 ⟨rfl, rfl⟩) | (go_at_call 50; refine (HB.out _).mono ?_; rintro e w1 ⟨rfl, rfl⟩))
        go_ret
        exact ⟨by rw [HF.out]; rfl, Below.refl _ _⟩

/-- What CountOpen answers. -/
def openN (p : ByteArray) : Int := if isP p = true then ((p.data.toList.count 63 : Nat) : Int) else -1
set_option maxHeartbeats 800000 in
theorem sopen_any (p : ByteArray) (w : World) :
    Calls Tryd.prog 31 #[.string p] w fun e w' => e = .returned (.int .i64 (openN p)) ∧ Below w.heap.size w w' := by
  obtain ⟨a, ha⟩ : ∃ a, a = isP p := ⟨_, rfl⟩
  have HA := Lib.hid (sip_same p)
  rw [← ha] at HA
  have HE : Hid (openN p = if a = true then ((p.data.toList.count 63 : Nat) : Int) else -1) := Lib.hid (by rw [ha]; rfl)
  have hp8 : a = true → p.size ≤ 8 := fun h => by rw [ha] at h; exact (isP_size h).2
  clear ha
  cases a with
  | false =>
    have HF : Hid (openN p = -1) := Lib.hid (by rw [HE.out]; rfl)
    clear hp8
    go_enter Tryd.func31, Tryd.ntmps31
    go_wp2_with (go_at_call 22; refine (HA.out _).mono ?_; rintro e w1 ⟨rfl, rfl⟩)
    go_ret
    exact ⟨by rw [HF.out]; rfl, Below.refl _ _⟩
  | true =>
    have hp := hp8 rfl
    clear hp8
    go_enter Tryd.func31, Tryd.ntmps31
    go_wp2_with (go_at_call 22; refine (HA.out _).mono ?_; rintro e w1 ⟨rfl, rfl⟩)
    go_loopw [3, 4] (fun nv i wr => ∃ k m : Nat, k ≤ p.size ∧ i = .int .i64 k ∧ nv = .int .i64 m ∧ m ≤ k ∧ Hid (m = (p.data.toList.take k).count 63) ∧ Below w.heap.size w wr) (fun _ i _ => p.size - (intOf i).toNat)
    case atStart => exact ⟨0, 0, Nat.zero_le _, rfl, rfl, Nat.le_refl _, Lib.hid (by simp), Below.refl _ _⟩
    case round =>
      obtain ⟨k, m, hk, rfl, rfl, hm, HM, hbl⟩ := hrel
      by_cases hlt : k < p.size
      · have HT := Lib.hid (take_snoc p k hlt)
        by_cases h63 : p[k] = 63
        · have hq : ((p[k].toNat : Int) == 63) = true := by simp [h63]
          have HM2 : Hid (m + 1 = (p.data.toList.take (k + 1)).count 63) := Lib.hid (by rw [HT.out, List.count_append, ← HM.out, h63]; simp)
          clear h63
          go_wp2
          go_roundw
          case rel => exact ⟨k + 1, m + 1, by omega, by go_num, by go_num, by omega, HM2, hbl⟩
          case measure => simp [intOf]; omega
        · have hq : ((p[k].toNat : Int) == 63) = false := by simp; intro h; exact h63 (UInt8.toNat_inj.1 (by show p[k].toNat = 63; omega))
          have HM2 : Hid (m = (p.data.toList.take (k + 1)).count 63) := Lib.hid (by rw [HT.out, List.count_append, ← HM.out, List.count_singleton]; simp [h63])
          clear h63
          go_wp2
          go_roundw
          case rel => exact ⟨k + 1, m, by omega, by go_num, rfl, by omega, HM2, hbl⟩
          case measure => simp [intOf]; omega
      · have HF : Hid (openN p = (m : Int)) := Lib.hid (by rw [HE.out, if_pos (by trivial), HM.out, List.take_of_length_le (by rw [size_list]; omega)])
        go_wp2
        go_ret
        exact ⟨by rw [HF.out]; rfl, hbl⟩
end Go.Proofs.YthcbaiokomilaaaDoor
