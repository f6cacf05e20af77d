/-
  The model's contract of GridText.
-/
import Derived.Test.YtbickkphiofmlaaGridTwo
namespace Go.Proofs.Ytbickkphiofmlaa
open Go.RowKit

/-- The first k lines of a grid's text. -/
def linesG (c : Nat) (s : ByteArray) (k : Nat) : List UInt8 := (List.range k).flatMap fun i => (if i = 0 then [] else [47]) ++ ((s.data.toList.drop (i * c)).take c)
theorem linesG_next (c : Nat) (s : ByteArray) (k : Nat) : linesG c s (k + 1) = linesG c s k ++ ((if k = 0 then [] else [47]) ++ ((s.data.toList.drop (k * c)).take c)) := by
  unfold linesG
  rw [List.range_succ, List.flatMap_append]
  simp
theorem linesG_length (c : Nat) (s : ByteArray) (k : Nat) : (linesG c s k).length ≤ k * (c + 1) := by
  induction k with
  | zero => simp [linesG]
  | succ k ih =>
    rw [linesG_next, List.length_append, List.length_append, List.length_take, Nat.succ_mul]
    have : (if k = 0 then ([] : List UInt8) else [47]).length ≤ 1 := by split <;> simp
    omega
/-- What GridText answers. -/
def textG (g : Int × Int × ByteArray) : ByteArray := if isG g = true then ⟨(linesG g.2.1.toNat g.2.2 g.1.toNat).toArray⟩ else ⟨#[]⟩

set_option maxHeartbeats 1600000 in
theorem stext_any (r c : Int) (s : ByteArray) (hs : s.size ≤ 1048576) (w : World) :
    Calls Try.prog 27 #[.agg #[.int .i64 r, .int .i64 c, .string s]] w fun e w' => e = .returned (.string (textG (r, c, s))) ∧ Below w.heap.size w w' := by
  have HIG := Lib.hid (fun w => sisg_any r c s (by omega) w)
  have HTX : Hid (textG (r, c, s) = if isG (r, c, s) = true then ⟨(linesG c.toNat s r.toNat).toArray⟩ else ⟨#[]⟩) := Lib.hid rfl
  obtain ⟨p, hp⟩ : ∃ p, p = isG (r, c, s) := ⟨_, rfl⟩
  rw [← hp] at HIG HTX
  have HBX : Hid (Below w.heap.size w (w.alloc (.cells #[.int .i64 r, .int .i64 c, .string s] 25))) := Lib.hid ((Below.refl _ _).alloc (Nat.le_refl _) _)
  have HKP : Hid (∀ w', Below (w.alloc (.cells #[.int .i64 r, .int .i64 c, .string s] 25)).heap.size (w.alloc (.cells #[.int .i64 r, .int .i64 c, .string s] 25)) w' → w'.cell? ⟨w.heap.size, 0, none⟩ = some (.int .i64 r) ∧ w'.cell? ⟨w.heap.size, 1, none⟩ = some (.int .i64 c) ∧ w'.cell? ⟨w.heap.size, 2, none⟩ = some (.string s)) := Lib.hid (fun w' h => ⟨(box3_keep h).1, (box3_keep h).2.1, (box3_keep h).2.2.1⟩)
  cases p with
  | false =>
    have HF : Hid (textG (r, c, s) = ⟨#[]⟩) := Lib.hid (by rw [HTX.out]; rfl)
    clear HTX hp
    go_enter Try.func27, Try.ntmps27
    go_wp2
    obtain ⟨W1, hW1⟩ : ∃ W1, W1 = w.alloc (.cells #[.int .i64 r, .int .i64 c, .string s] 25) := ⟨_, rfl⟩
    rw [← hW1] at HBX HKP ⊢
    clear hW1
    go_loopw [3, 4] (fun o i wr => o = .string ⟨#[]⟩ ∧ i = .int .i64 0 ∧ Hid (Below W1.heap.size W1 wr)) (fun _ _ _ => 0)
    case atStart => exact ⟨rfl, rfl, Lib.hid (Below.refl _ _)⟩
    case round =>
      obtain ⟨rfl, rfl, HB⟩ := hrel
      obtain ⟨c0, c1, c2⟩ := HKP.out _ HB.out
      by_cases hr0 : 0 < r
      · go_wp2_with (go_at_call 15; refine (HIG.out _).mono ?_; rintro e w2 ⟨rfl, b2⟩; have HB2 : Hid (Below W1.heap.size W1 w2) := Lib.hid (HB.out.trans (b2.mono HB.out.size)); obtain ⟨d0, d1, d2⟩ := HKP.out _ HB2.out; clear b2)
        go_ret
        exact ⟨by rw [HF.out]; rfl, HBX.out.trans (HB2.out.mono HBX.out.size)⟩
      · go_wp2
        go_ret
        exact ⟨by rw [HF.out]; rfl, HBX.out.trans (HB.out.mono HBX.out.size)⟩
  | true =>
    obtain ⟨⟨hr1, hr2⟩, ⟨hc1, hc2⟩, hz, -⟩ := of_decide_eq_true hp.symm
    dsimp only at hr1 hr2 hc1 hc2 hz
    obtain ⟨R, rfl⟩ : ∃ R : Nat, r = (R : Int) := ⟨r.toNat, by omega⟩
    obtain ⟨C, rfl⟩ : ∃ C : Nat, c = (C : Int) := ⟨c.toNat, by omega⟩
    have hz2 : s.size = R * C := by rw [← Int.natCast_mul] at hz; omega
    have HF : Hid (textG ((R : Int), (C : Int), s) = ⟨(linesG C s R).toArray⟩) := Lib.hid (by rw [HTX.out, if_pos rfl]; rfl)
    have hs36 : s.size ≤ 36 := by have := (prod_in hr1 hr2 hc1 hc2).2; omega
    have HZ := Lib.hid hz2
    clear HTX hp hz hz2 hs
    go_enter Try.func27, Try.ntmps27
    go_wp2
    obtain ⟨W1, hW1⟩ : ∃ W1, W1 = w.alloc (.cells #[.int .i64 R, .int .i64 C, .string s] 25) := ⟨_, rfl⟩
    rw [← hW1] at HBX HKP ⊢
    clear hW1
    go_loopw [3, 4] (fun o i wr => ∃ (k : Nat) (t : ByteArray), k ≤ R ∧ i = .int .i64 k ∧ o = .string t ∧ Hid (t.data.toList = linesG C s k) ∧ t.size ≤ 42 ∧ Hid (Below W1.heap.size W1 wr)) (fun _ i _ => R - (intOf i).toNat)
    case atStart => exact ⟨0, ⟨#[]⟩, Nat.zero_le _, rfl, rfl, Lib.hid rfl, by decide, Lib.hid (Below.refl _ _)⟩
    case round =>
      obtain ⟨k, t, hk, rfl, rfl, HT, ht, HB⟩ := hrel
      obtain ⟨c0, c1, c2⟩ := HKP.out _ HB.out
      by_cases hlt : k < R
      · obtain ⟨m, hm⟩ : ∃ m, m = k * C := ⟨_, rfl⟩
        have hmz : m + C ≤ s.size := by
          rw [HZ.out, hm, ← Nat.succ_mul]
          exact Nat.mul_le_mul_right C hlt
        have hm1 : IntKind.i64.wrap ((k : Int) * (C : Int)) = (m : Int) := by rw [← Int.natCast_mul, ← hm]; exact IntWalk.i64_in _ (by omega)
        have hm2 : IntKind.i64.wrap (((k : Int) + 1) * (C : Int)) = (m + C : Int) := by
          rw [show ((k : Int) + 1) * (C : Int) = (m + C : Int) from by rw [Int.add_mul, Int.one_mul, ← Int.natCast_mul, ← hm]]; exact IntWalk.i64_in _ (by omega)
        have HNX := Lib.hid (linesG_next C s k)
        have HLN := Lib.hid (linesG_length C s (k + 1))
        have HRC : Hid ((k + 1) * (C + 1) ≤ 42) := Lib.hid (Nat.le_trans (Nat.mul_le_mul (show k + 1 ≤ 6 by omega) (show C + 1 ≤ 7 by omega)) (by decide))
        rw [← hm] at HNX
        have HM := Lib.hid hm
        clear hm
        have hex : (s.extract m (m + C)).data.toList = (s.data.toList.drop m).take C := by simp
        have HEX := Lib.hid hex
        clear hex
        by_cases hk0 : k = 0
        · skip
          obtain rfl : m = 0 := by rw [HM.out, hk0, Nat.zero_mul]
          rw [Nat.zero_add] at HEX
          have HT2 : Hid ((t ++ s.extract 0 C).data.toList = linesG C s (k + 1)) := Lib.hid (by
            rw [HNX.out, if_pos hk0]
            simp only [ByteArray.data_append, Array.toList_append, HT.out, HEX.out]
            rfl)
          have hts : (t ++ s.extract 0 C).size ≤ 42 := by
            have h9 := HLN.out
            rw [← HT2.out, size_list] at h9
            exact Nat.le_trans h9 HRC.out
          clear HNX HEX HLN HRC HM
          subst hk0
          go_wp2_with (go_at_call 15; refine (HIG.out _).mono ?_; rintro e w2 ⟨rfl, b2⟩; have HB2 : Hid (Below W1.heap.size W1 w2) := Lib.hid (HB.out.trans (b2.mono HB.out.size)); obtain ⟨d0, d1, d2⟩ := HKP.out _ HB2.out; clear b2)
          go_roundw
          case rel => exact ⟨1, _, by omega, by go_num, rfl, HT2, hts, HB2⟩
          case measure => simp [intOf]; omega
        · have hk1 : (0 : Int) < k := by omega
          have HT2 : Hid ((t ++ ⟨#[47]⟩ ++ s.extract m (m + C)).data.toList = linesG C s (k + 1)) := Lib.hid (by
            rw [HNX.out, if_neg hk0]
            simp only [ByteArray.data_append, Array.toList_append, HT.out, HEX.out, List.append_assoc])
          have hts : (t ++ ⟨#[47]⟩ ++ s.extract m (m + C)).size ≤ 42 := by
            have h9 := HLN.out
            rw [← HT2.out, size_list] at h9
            exact Nat.le_trans h9 HRC.out
          clear HNX HEX HLN HRC HM
          go_wp2_with (go_at_call 15; refine (HIG.out _).mono ?_; rintro e w2 ⟨rfl, b2⟩; have HB2 : Hid (Below W1.heap.size W1 w2) := Lib.hid (HB.out.trans (b2.mono HB.out.size)); obtain ⟨d0, d1, d2⟩ := HKP.out _ HB2.out; clear b2)
          go_roundw
          case rel => exact ⟨k + 1, _, by omega, by go_num, rfl, HT2, hts, HB2⟩
          case measure => simp [intOf]; omega
      · have hk' : k = R := by omega
        have HT2 : Hid (t = ⟨(linesG C s R).toArray⟩) := Lib.hid (by rw [← hk', ← HT.out])
        go_wp2
        go_ret
        exact ⟨by rw [HF.out, ← HT2.out]; rfl, HBX.out.trans (HB.out.mono HBX.out.size)⟩
end Go.Proofs.Ytbickkphiofmlaa
