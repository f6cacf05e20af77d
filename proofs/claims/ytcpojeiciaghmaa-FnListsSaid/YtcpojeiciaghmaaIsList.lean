/-
  The model's contract of IsList.
-/
import Derived.Test.YtcpojeiciaghmaaListSpec
import Derived.BigQuiet
namespace Go.Proofs.Ytcpojeiciaghmaa
open Go.RowKit

/-- A listed word is well made. -/
def okL (z : ByteArray × Int × Int × Int) : Bool := isW z.1 && !decide (z.2.1 < 0) && !decide (z.2.2.1 < z.2.1) && !decide (1000 < z.2.2.1) && decide (0 ≤ z.2.2.2 ∧ z.2.2.2 ≤ 99)
/-- The word at k stands right. -/
def atL (l : List (ByteArray × Int × Int × Int)) (k : Nat) : Prop := okL (l.getD k none_Listed) = true ∧ (0 < k → befW (l.getD (k - 1) none_Listed).1 (l.getD k none_Listed).1 = true)
instance (l : List (ByteArray × Int × Int × Int)) (k : Nat) : Decidable (atL l k) := inferInstanceAs (Decidable (_ ∧ _))
/-- What IsList answers. -/
def islW (l : List (ByteArray × Int × Int × Int)) : Bool := decide (l.length ≤ 40 ∧ ∀ k, k < l.length → atL l k)
theorem islW_no {l : List (ByteArray × Int × Int × Int)} {k : Nat} (hk : k < l.length) (h : ¬ atL l k) : islW l = false := decide_eq_false (fun h9 => h (h9.2 k hk))

set_option maxHeartbeats 3200000 in
theorem sislist_any (l : List (ByteArray × Int × Int × Int)) (hl : l.length ≤ 16777216) (v : Value) (w : World) (hv : ReadsListed w.heap.size w v l) :
    Calls Try.prog 22 #[v] w fun e w' => e = .returned (.bool (islW l)) ∧ Below w.heap.size w w' := by
  obtain ⟨-, a0, cap, rfl, -, hc⟩ := hv.cells
  have HC := Lib.hid hc
  clear hc hv
  go_enter Try.func22, Try.ntmps22
  go_wp2
  go_loopw [3] (fun i wr => ∃ k : Nat, k ≤ l.length ∧ i = .int .i64 k ∧ Hid (∀ j, j < k → atL l j) ∧ Below w.heap.size w wr) (fun i _ => l.length - (intOf i).toNat)
  case atStart => exact ⟨0, Nat.zero_le _, rfl, Lib.hid (by omega), Below.refl _ _⟩
  case round =>
    obtain ⟨k, hk, rfl, HN, hbl⟩ := hrel
    by_cases hlt : k < l.length
    · obtain ⟨b, off, rfl, hb, q0, q1, q2, q3⟩ := HC.out k hlt
      obtain ⟨z, hz⟩ : ∃ z, z = l.getD k none_Listed := ⟨_, rfl⟩
      rw [← hz] at q0 q1 q2 q3
      obtain ⟨x, f, u, s⟩ := z
      have c0 := (hbl.cell (p := ⟨b, off + k * 4, none⟩) hb).trans q0
      have c1 := (hbl.cell (p := ⟨b, off + k * 4 + 1, none⟩) hb).trans q1
      have c2 := (hbl.cell (p := ⟨b, off + k * 4 + 2, none⟩) hb).trans q2
      have c3 := (hbl.cell (p := ⟨b, off + k * 4 + 3, none⟩) hb).trans q3
      clear q0 q1 q2 q3
      obtain ⟨p, hp⟩ : ∃ p, p = isW x := ⟨_, rfl⟩
      obtain ⟨d1, hd1⟩ : ∃ d, d = decide (f < 0) := ⟨_, rfl⟩
      obtain ⟨d2, hd2⟩ : ∃ d, d = decide (u < f) := ⟨_, rfl⟩
      obtain ⟨d3, hd3⟩ : ∃ d, d = decide (1000 < u) := ⟨_, rfl⟩
      obtain ⟨q, hq⟩ : ∃ q, q = decide (0 ≤ s ∧ s ≤ 99) := ⟨_, rfl⟩
      have HOK : Hid (okL (l.getD k none_Listed) = (p && !d1 && !d2 && !d3 && q)) := Lib.hid (by rw [← hz]; unfold okL; rw [hp, hd1, hd2, hd3, hq])
      have HIW := Lib.hid (siw_same x)
      have HIN := Lib.hid (lin_any s 0 99)
      rw [← hp] at HIW
      rw [← hq] at HIN
      have HX : Hid ((l.getD k none_Listed).1 = x) := Lib.hid (by rw [← hz])
      clear hz hp hq
      rw [eq_comm] at hd1 hd2 hd3
      have hcase : (p = false ∨ p = true ∧ d1 = true ∨ p = true ∧ d1 = false ∧ d2 = true ∨ p = true ∧ d1 = false ∧ d2 = false ∧ d3 = true ∨ p = true ∧ d1 = false ∧ d2 = false ∧ d3 = false ∧ q = false) ∨ (p = true ∧ d1 = false ∧ d2 = false ∧ d3 = false ∧ q = true) := by
        cases p <;> cases d1 <;> cases d2 <;> cases d3 <;> cases q <;> simp
      rcases hcase with hbad | ⟨rfl, rfl, rfl, rfl, rfl⟩
      · have HF : Hid (islW l = false) := Lib.hid (islW_no hlt (fun h => by
          have h9 := h.1
          rw [HOK.out] at h9
          rcases hbad with rfl | ⟨rfl, rfl⟩ | ⟨rfl, rfl, rfl⟩ | ⟨rfl, rfl, rfl, rfl⟩ | ⟨rfl, rfl, rfl, rfl, rfl⟩ <;> simp at h9))
        clear HOK
        rcases hbad with rfl | ⟨rfl, rfl⟩ | ⟨rfl, rfl, rfl⟩ | ⟨rfl, rfl, rfl, rfl⟩ | ⟨rfl, rfl, rfl, rfl, rfl⟩
        all_goals
          go_wp2
          go_quiet (first | (go_at_call 54; exact Calls.quiet_of_same ((HIW.out _).mono fun _ _ h => ⟨h.1, h.2.symm⟩)) | (go_at_call 55; exact Calls.quiet_of_same ((HIN.out _).mono fun _ _ h => ⟨h.1, h.2.symm⟩)))
        all_goals go_wp2
        all_goals go_ret
        all_goals exact ⟨by rw [HF.out]; rfl, below_drewN (hbl.alloc hbl.size _) _⟩
      · cases k with
        | zero =>
          have HN2 : Hid (∀ j, j < 0 + 1 → atL l j) := Lib.hid (fun j hj => by
            obtain rfl : j = 0 := by omega
            exact ⟨by rw [HOK.out]; rfl, fun h => by omega⟩)
          clear HOK
          simp only [Nat.zero_mul, Nat.add_zero] at c0 c1 c2 c3
          go_wp2
          go_quiet (first | (go_at_call 54; exact Calls.quiet_of_same ((HIW.out _).mono fun _ _ h => ⟨h.1, h.2.symm⟩)) | (go_at_call 55; exact Calls.quiet_of_same ((HIN.out _).mono fun _ _ h => ⟨h.1, h.2.symm⟩)))
          all_goals go_wp2
          go_roundw
          case rel => exact ⟨1, by omega, by go_num, HN2, below_drewN (hbl.alloc hbl.size _) _⟩
          case measure => simp [intOf]; omega
        | succ k =>
          have hlt2 : k < l.length := by omega
          have hwr : IntKind.i64.wrap (k : Int) = k := by rw [IntKind.wrap_i64]; omega
          obtain ⟨b', off', e1, _, q0, -, -, -⟩ := HC.out k hlt2
          cases e1
          obtain ⟨z, hz⟩ : ∃ z, z = l.getD k none_Listed := ⟨_, rfl⟩
          rw [← hz] at q0
          obtain ⟨y, f', u', s'⟩ := z
          have e0 := ((hbl.alloc hbl.size (.cells #[.string x, .int .i64 f, .int .i64 u, .int .i64 s] 32)).cell (p := ⟨b, off + k * 4, none⟩) hb).trans q0
          clear q0
          obtain ⟨bb, hbb⟩ : ∃ bb, bb = befW y x := ⟨_, rfl⟩
          have HBW := Lib.hid (sbef_same y x)
          rw [← hbb] at HBW
          have HAT : Hid (atL l (k + 1) ↔ bb = true) := Lib.hid (by
            unfold atL
            rw [HOK.out, hbb, HX.out, show k + 1 - 1 = k by omega, ← hz]
            simp)
          clear HOK hz hbb
          cases bb with
          | false =>
            have HF : Hid (islW l = false) := Lib.hid (islW_no hlt (fun h => by have := HAT.out.1 h; cases this))
            go_wp2
            go_quiet (first | (go_at_call 54; exact Calls.quiet_of_same ((HIW.out _).mono fun _ _ h => ⟨h.1, h.2.symm⟩)) | (go_at_call 55; exact Calls.quiet_of_same ((HIN.out _).mono fun _ _ h => ⟨h.1, h.2.symm⟩)) | (go_at_call 56; exact Calls.quiet_of_same ((HBW.out _).mono fun _ _ h => ⟨h.1, h.2.symm⟩)))
            all_goals go_wp2
            go_ret
            exact ⟨by rw [HF.out]; rfl, below_drewN (hbl.alloc hbl.size _) _⟩
          | true =>
            have HN2 : Hid (∀ j, j < k + 1 + 1 → atL l j) := Lib.hid (fun j hj => by
              rcases Nat.lt_or_ge j (k + 1) with h | h
              · exact HN.out j h
              · obtain rfl : j = k + 1 := by omega
                exact HAT.out.2 rfl)
            go_wp2
            go_quiet (first | (go_at_call 54; exact Calls.quiet_of_same ((HIW.out _).mono fun _ _ h => ⟨h.1, h.2.symm⟩)) | (go_at_call 55; exact Calls.quiet_of_same ((HIN.out _).mono fun _ _ h => ⟨h.1, h.2.symm⟩)) | (go_at_call 56; exact Calls.quiet_of_same ((HBW.out _).mono fun _ _ h => ⟨h.1, h.2.symm⟩)))
            all_goals go_wp2
            go_roundw
            case rel => exact ⟨k + 1 + 1, by omega, by go_num, HN2, below_drewN (hbl.alloc hbl.size _) _⟩
            case measure => simp [intOf]; omega
    · have HF : Hid (islW l = decide ((l.length : Int) ≤ 40)) := Lib.hid (decide_eq_decide.2 ⟨fun h => by have := h.1; omega, fun h => ⟨by omega, fun j hj => HN.out j (by omega)⟩⟩)
      go_wp2
      go_ret
      exact ⟨by rw [HF.out]; rfl, hbl⟩
end Go.Proofs.Ytcpojeiciaghmaa
