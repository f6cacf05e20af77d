/-
  Plain facts on words, and the model's contracts of chapter 4.
-/
import Derived.Test.YthcbaiokomilaaaDoorKit
import Derived.Test.YthcbaiokomilaaaDoorModC
import Derived.WalkKit
import Derived.WalkLawsBesides
import Derived.WalkSpells
import Derived.BigQuiet
namespace Go.Proofs.YthcbaiokomilaaaDoor
open Go.RowKit

theorem size_list (s : ByteArray) : s.data.toList.length = s.size := by rw [Array.length_toList]; rfl
theorem str_ext {s t : ByteArray} (h : s.data.toList = t.data.toList) : s = t := by
  cases s; cases t
  simp only [ByteArray.mk.injEq]
  exact Array.toList_inj.1 h
theorem take_snoc (s : ByteArray) (k : Nat) (h : k < s.size) : s.data.toList.take (k + 1) = s.data.toList.take k ++ [s[k]] := by
  rw [List.take_succ_eq_append_getElem (by simpa using h)]; rfl
theorem byte_mem (s : ByteArray) (k : Nat) (h : k < s.size) : s[k] ∈ s.data.toList := by
  show s.data[k] ∈ s.data.toList
  simp

/-- A letter. -/
def isL (b : UInt8) : Prop := 97 ≤ b.toNat ∧ b.toNat ≤ 122
instance (b : UInt8) : Decidable (isL b) := inferInstanceAs (Decidable (_ ∧ _))
/-- A word. -/
def isW (s : ByteArray) : Bool := decide (1 ≤ s.size ∧ s.size ≤ 8 ∧ ∀ b ∈ s.data.toList, isL b)
theorem isW_not {s : ByteArray} {k : Nat} (h : k < s.size) (hn : ¬ isL s[k]) : isW s = false := decide_eq_false (fun hw => hn (hw.2.2 _ (byte_mem s k h)))

set_option maxHeartbeats 800000 in
theorem siw_same (s : ByteArray) (w : World) :
    Calls Tryd.prog 50 #[.string s] w fun e w' => e = .returned (.bool (isW s)) ∧ w = w' := by
  by_cases hs : 1 ≤ s.size ∧ s.size ≤ 8
  · obtain ⟨hs1, hs2⟩ := hs
    go_enter Tryd.func50, Tryd.ntmps50
    go_wp2_with (go_at_call 49; refine (lin_yes _ _ _ (by omega) (by omega) _).mono ?_; rintro e w1 ⟨rfl, rfl⟩)
    go_loopw [3] (fun i wr => ∃ k : Nat, k ≤ s.size ∧ i = .int .i64 k ∧ Hid (∀ b ∈ s.data.toList.take k, isL b) ∧ w = wr) (fun i _ => s.size - (intOf i).toNat)
    case atStart => exact ⟨0, Nat.zero_le _, rfl, Lib.hid (by simp), rfl⟩
    case round =>
      obtain ⟨k, hk, rfl, HL, rfl⟩ := hrel
      by_cases hlt : k < s.size
      · by_cases hb : isL s[k]
        · have HL2 : Hid (∀ b ∈ s.data.toList.take (k + 1), isL b) := Lib.hid (fun b hb2 => by
            rw [take_snoc s k hlt] at hb2
            rcases List.mem_append.1 hb2 with h | h
            · exact HL.out b h
            · simp only [List.mem_singleton] at h; subst h; exact hb)
          obtain ⟨h1, h2⟩ : 97 ≤ s[k].toNat ∧ s[k].toNat ≤ 122 := hb
          have hd1 : decide ((s[k].toNat : Int) < 97) = false := decide_eq_false (by omega)
          have hd2 : decide ((122 : Int) < (s[k].toNat : Int)) = false := decide_eq_false (by omega)
          go_wp2
          go_roundw
          case rel => exact ⟨k + 1, by omega, by go_num, HL2, by trivial⟩
          case measure => simp [intOf]; omega
        · have HF := Lib.hid (isW_not hlt hb)
          unfold isL at hb
          by_cases h1 : s[k].toNat < 97
          · have hd1 : decide ((s[k].toNat : Int) < 97) = true := decide_eq_true (by omega)
            clear hb
            go_wp2
            go_ret
            exact ⟨by rw [HF.out]; rfl, rfl⟩
          · have hd1 : decide ((s[k].toNat : Int) < 97) = false := decide_eq_false (by omega)
            have hd2 : decide ((122 : Int) < (s[k].toNat : Int)) = true := decide_eq_true (by omega)
            clear hb
            go_wp2
            go_ret
            exact ⟨by rw [HF.out]; rfl, rfl⟩
      · have hk' : k = s.size := by omega
        have HT : Hid (isW s = true) := Lib.hid (decide_eq_true ⟨hs1, hs2, by have h9 := HL.out; rw [hk', ← size_list, List.take_length] at h9; exact h9⟩)
        clear hk'
        go_wp2
        go_ret
        exact ⟨by rw [HT.out]; rfl, rfl⟩
  · have HF : Hid (isW s = false) := Lib.hid (decide_eq_false (fun h => hs ⟨h.1, h.2.1⟩))
    have HS : Hid (¬ ((1 : Int) ≤ (s.size : Int) ∧ (s.size : Int) ≤ 8)) := Lib.hid (by omega)
    clear hs
    go_enter Tryd.func50, Tryd.ntmps50
    go_wp2_with (go_at_call 49; refine (lin_no _ _ _ HS.out _).mono ?_; rintro e w1 ⟨rfl, rfl⟩)
    go_ret
    exact ⟨by rw [HF.out]; rfl, rfl⟩
theorem siw_any (s : ByteArray) (w : World) :
    Calls Tryd.prog 50 #[.string s] w fun e w' => e = .returned (.bool (isW s)) ∧ Below w.heap.size w w' :=
  (siw_same s w).mono fun _ _ ⟨h1, h2⟩ => ⟨h1, h2 ▸ Below.refl _ _⟩
end Go.Proofs.YthcbaiokomilaaaDoor
