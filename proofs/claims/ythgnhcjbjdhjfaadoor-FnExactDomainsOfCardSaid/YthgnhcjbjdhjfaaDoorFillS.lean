/-
  The model's contracts of IsFill, EmptyFill, l11Open, IsFull.
-/
import Derived.Test.YthgnhcjbjdhjfaaDoorFillPure
import Derived.Test.YthgnhcjbjdhjfaaDoorGrid
import Derived.BigQuiet
namespace Go.Proofs.YthgnhcjbjdhjfaaDoor
open Go.RowKit

theorem isF_not {g : Int × Int × ByteArray} {f : ByteArray} (h : ¬ (isG g = true ∧ f.size = g.2.2.size)) : isF g f = false := by
  cases hf : isF g f with
  | false => rfl
  | true => exact absurd ⟨(isF_parts hf).1, (isF_parts hf).2.1⟩ h
theorem isF_bad {r c : Int} {s f : ByteArray} {k : Nat} (hk : k < f.size) (hk2 : k < s.size) (h : okF s[k] f[k] = false) : isF (r, c, s) f = false := by
  cases hf : isF (r, c, s) f with
  | false => rfl
  | true =>
    have h9 := (isF_parts hf).2.2.2 k hk
    rw [getD_byte f k hk, show ((r, c, s) : Int × Int × ByteArray).2.2 = s from rfl, getD_byte s k hk2, h] at h9
    cases h9
theorem u8_nat {a b : UInt8} : (a = b) ↔ a.toNat = b.toNat := UInt8.toNat_inj.symm
set_option maxHeartbeats 1600000 in
theorem sisf_any (r c : Int) (s f : ByteArray) (hs : s.size ≤ 4194304) (_hf : f.size ≤ 4194304) (w : World) :
    Calls Tryd.prog 56 #[.agg #[.int .i64 r, .int .i64 c, .string s], .string f] w fun e w' => e = .returned (.bool (isF (r, c, s) f)) ∧ Below w.heap.size w w' := by
  have HIG := Lib.hid (fun w => sisg_any r c s hs w)
  have HBX : Hid (Below w.heap.size w (w.alloc (.cells #[.int .i64 r, .int .i64 c, .string s] 48))) := Lib.hid ((Below.refl _ _).alloc (Nat.le_refl _) _)
  have HKP : Hid (∀ w', Below (w.alloc (.cells #[.int .i64 r, .int .i64 c, .string s] 48)).heap.size (w.alloc (.cells #[.int .i64 r, .int .i64 c, .string s] 48)) w' → w'.cell? ⟨w.heap.size, 0, none⟩ = some (.int .i64 r) ∧ w'.cell? ⟨w.heap.size, 1, none⟩ = some (.int .i64 c) ∧ w'.cell? ⟨w.heap.size, 2, none⟩ = some (.string s)) := Lib.hid (fun w' h => ⟨(box3_keep h).1, (box3_keep h).2.1, (box3_keep h).2.2.1⟩)
  cases hp : isG (r, c, s) with
  | false =>
    rw [hp] at HIG
    have HF : Hid (isF (r, c, s) f = false) := Lib.hid (isF_not (fun h => by rw [hp] at h; cases h.1))
    clear hp
    go_enter Tryd.func56, Tryd.ntmps56
    go_wp2_with (go_at_call 80; refine (HIG.out _).mono ?_; rintro e w2 ⟨rfl, b2⟩; have HB2 := Lib.hid b2; clear b2)
    go_ret
    exact ⟨by rw [HF.out]; rfl, HBX.out.trans (HB2.out.mono HBX.out.size)⟩
  | true =>
    rw [hp] at HIG
    by_cases hz : f.size = s.size
    · have hn : ((f.size : Int) != (s.size : Int)) = false := by simp [hz]
      have HZ := Lib.hid hz
      have HSG : Hid (∀ b ∈ s.data.toList, b = 35 ∨ b = 46) := Lib.hid (of_decide_eq_true hp).2.2.2
      have HOK : Hid (∀ k, k < f.size → ∀ h1 : k < f.size, ∀ h2 : k < s.size, okF s[k] f[k] = false → isF (r, c, s) f = false) := Lib.hid (fun k _ h1 h2 h => isF_bad h1 h2 h)
      have HYES : Hid ((∀ i, i < f.size → okF (s.data.toList.getD i 0) (f.data.toList.getD i 0) = true) → isF (r, c, s) f = true) := Lib.hid (fun h => isF_of hp hz h)
      clear hz hp
      go_enter Tryd.func56, Tryd.ntmps56
      go_wp2_with (go_at_call 80; refine (HIG.out _).mono ?_; rintro e w2 ⟨rfl, b2⟩; have HB2 := Lib.hid b2; clear b2; obtain ⟨d0, d1, d2⟩ := HKP.out _ HB2.out)
      go_loopw [5] (fun i wr => ∃ k : Nat, k ≤ f.size ∧ i = .int .i64 k ∧ Hid (∀ i, i < k → okF (s.data.toList.getD i 0) (f.data.toList.getD i 0) = true) ∧ w2 = wr) (fun i _ => f.size - (intOf i).toNat)
      case atStart => exact ⟨0, Nat.zero_le _, rfl, Lib.hid (fun i h => by omega), rfl⟩
      case round =>
        obtain ⟨k, hk, rfl, HL, rfl⟩ := hrel
        by_cases hlt : k < f.size
        · have hlt2 : k < s.size := by have := HZ.out; omega
          have HNX : Hid (okF s[k] f[k] = true → ∀ i, i < k + 1 → okF (s.data.toList.getD i 0) (f.data.toList.getD i 0) = true) := Lib.hid (fun h i hi => by
            by_cases he : i = k
            · subst he; rw [getD_byte s i hlt2, getD_byte f i hlt]; exact h
            · exact HL.out i (by omega))
          have HNO : Hid (okF s[k] f[k] = false → isF (r, c, s) f = false) := Lib.hid (HOK.out k hlt hlt hlt2)
          have hsk := HSG.out _ (byte_mem s k hlt2)
          obtain ⟨a, ha⟩ : ∃ a, a = s[k] := ⟨_, rfl⟩
          obtain ⟨b, hb⟩ : ∃ b, b = f[k] := ⟨_, rfl⟩
          rw [← ha, ← hb] at HNX HNO
          rw [← ha] at hsk
          have ha2 : (s[k].toNat : Int) = (a.toNat : Int) := by rw [ha]
          have hb2 : (f[k].toNat : Int) = (b.toNat : Int) := by rw [hb]
          have hb255 : b.toNat ≤ 255 := by have := b.toNat_lt; omega
          rcases hsk with rfl | rfl
          · have ha3 : (s[k].toNat : Int) = 35 := ha2
            by_cases h35 : b = 35
            · subst h35
              have hb3 : (f[k].toNat : Int) = 35 := hb2
              have HN := Lib.hid (HNX.out (by decide))
              clear ha hb ha2 hb2 HNX HNO
              have t1 : ((f[k].toNat : Int) == 63) = false := by rw [hb3]; decide
              have t2 : decide ((97 : Int) ≤ (f[k].toNat : Int)) = false := by rw [hb3]; decide
              have t2' : decide ((97 : Nat) ≤ f[k].toNat) = false := decide_eq_false (by omega)
              have t3 : ((s[k].toNat : Int) == 35) = true := by rw [ha3]; decide
              have t4 : ((f[k].toNat : Int) != 35) = false := by rw [hb3]; decide
              have t5 : ((s[k].toNat : Int) == 46) = false := by rw [ha3]; decide
              go_wp2
              go_roundw
              case rel => exact ⟨k + 1, by omega, by go_num, HN, by trivial⟩
              case measure => simp [intOf]; omega
            · have HF := Lib.hid (HNO.out (by unfold okF; rw [if_pos rfl]; exact decide_eq_false h35))
              have hne : ¬ b.toNat = 35 := fun e => h35 (u8_nat.2 e)
              clear HNX HNO
              have t3 : ((s[k].toNat : Int) == 35) = true := by rw [ha3]; decide
              have t4 : ((f[k].toNat : Int) != 35) = true := by rw [hb2]; simp; omega
              by_cases h63 : b.toNat = 63
              · have t1 : ((f[k].toNat : Int) == 63) = true := by rw [hb2, h63]; decide
                clear ha hb ha2 hb2
                go_wp2
                go_ret
                exact ⟨by rw [HF.out]; rfl, HBX.out.trans (HB2.out.mono HBX.out.size)⟩
              · have t1 : ((f[k].toNat : Int) == 63) = false := by rw [hb2]; simp; omega
                by_cases h97 : 97 ≤ b.toNat
                · have t2 : decide ((97 : Int) ≤ (f[k].toNat : Int)) = true := by rw [hb2]; exact decide_eq_true (by omega)
                  have t2' : decide ((97 : Nat) ≤ f[k].toNat) = true := decide_eq_true (by omega)
                  clear ha hb ha2 hb2
                  go_wp2
                  go_ret
                  exact ⟨by rw [HF.out]; rfl, HBX.out.trans (HB2.out.mono HBX.out.size)⟩
                · have t2 : decide ((97 : Int) ≤ (f[k].toNat : Int)) = false := by rw [hb2]; exact decide_eq_false (by omega)
                  have t2' : decide ((97 : Nat) ≤ f[k].toNat) = false := decide_eq_false (by omega)
                  clear ha hb ha2 hb2
                  go_wp2
                  go_ret
                  exact ⟨by rw [HF.out]; rfl, HBX.out.trans (HB2.out.mono HBX.out.size)⟩
          · have ha3 : (s[k].toNat : Int) = 46 := ha2
            have t3 : ((s[k].toNat : Int) == 35) = false := by rw [ha3]; decide
            have t5 : ((s[k].toNat : Int) == 46) = true := by rw [ha3]; decide
            by_cases h63 : b.toNat = 63
            · have HN := Lib.hid (HNX.out (by unfold okF; rw [if_neg (by decide)]; exact decide_eq_true (.inl h63)))
              have t1 : ((f[k].toNat : Int) == 63) = true := by rw [hb2, h63]; decide
              clear ha hb ha2 hb2 HNX HNO
              go_wp2
              go_roundw
              case rel => exact ⟨k + 1, by omega, by go_num, HN, by trivial⟩
              case measure => simp [intOf]; omega
            · have t1 : ((f[k].toNat : Int) == 63) = false := by rw [hb2]; simp; omega
              by_cases h97 : 97 ≤ b.toNat
              · have t2 : decide ((97 : Int) ≤ (f[k].toNat : Int)) = true := by rw [hb2]; exact decide_eq_true (by omega)
                have t2' : decide ((97 : Nat) ≤ f[k].toNat) = true := decide_eq_true (by omega)
                by_cases h122 : b.toNat ≤ 122
                · have t6 : decide ((f[k].toNat : Int) ≤ 122) = true := by rw [hb2]; exact decide_eq_true (by omega)
                  have t6' : decide (f[k].toNat ≤ 122) = true := decide_eq_true (by omega)
                  have HN := Lib.hid (HNX.out (by unfold okF; rw [if_neg (by decide)]; exact decide_eq_true (.inr ⟨h97, h122⟩)))
                  clear ha hb ha2 hb2 HNX HNO
                  go_wp2
                  go_roundw
                  case rel => exact ⟨k + 1, by omega, by go_num, HN, by trivial⟩
                  case measure => simp [intOf]; omega
                · have t6 : decide ((f[k].toNat : Int) ≤ 122) = false := by rw [hb2]; exact decide_eq_false (by omega)
                  have t6' : decide (f[k].toNat ≤ 122) = false := decide_eq_false (by omega)
                  have HF := Lib.hid (HNO.out (by unfold okF; rw [if_neg (by decide)]; exact decide_eq_false (by rintro (h | ⟨-, h⟩); exact h63 h; exact h122 h)))
                  clear ha hb ha2 hb2 HNX HNO
                  go_wp2
                  go_ret
                  exact ⟨by rw [HF.out]; rfl, HBX.out.trans (HB2.out.mono HBX.out.size)⟩
              · have t2 : decide ((97 : Int) ≤ (f[k].toNat : Int)) = false := by rw [hb2]; exact decide_eq_false (by omega)
                have t2' : decide ((97 : Nat) ≤ f[k].toNat) = false := decide_eq_false (by omega)
                have HF := Lib.hid (HNO.out (by unfold okF; rw [if_neg (by decide)]; exact decide_eq_false (by rintro (h | ⟨h, -⟩); exact h63 h; exact h97 h)))
                clear ha hb ha2 hb2 HNX HNO
                go_wp2
                go_ret
                exact ⟨by rw [HF.out]; rfl, HBX.out.trans (HB2.out.mono HBX.out.size)⟩
        · have HT := Lib.hid (HYES.out (fun i hi => HL.out i (by omega)))
          go_wp2
          go_ret
          exact ⟨by rw [HT.out]; rfl, HBX.out.trans (HB2.out.mono HBX.out.size)⟩
    · have hn : ((f.size : Int) != (s.size : Int)) = true := by simp; omega
      have HF : Hid (isF (r, c, s) f = false) := Lib.hid (isF_not (fun h => hz h.2))
      clear hz hp
      go_enter Tryd.func56, Tryd.ntmps56
      go_wp2_with (go_at_call 80; refine (HIG.out _).mono ?_; rintro e w2 ⟨rfl, b2⟩; have HB2 := Lib.hid b2; clear b2; obtain ⟨d0, d1, d2⟩ := HKP.out _ HB2.out)
      go_ret
      exact ⟨by rw [HF.out]; rfl, HBX.out.trans (HB2.out.mono HBX.out.size)⟩

theorem emF_not {g : Int × Int × ByteArray} (h : isG g = false) : emF g = ⟨#[]⟩ := by unfold emF; rw [h]; rfl
end Go.Proofs.YthgnhcjbjdhjfaaDoor
