/-
  Which slot has a name; SlotNamed of the model.
-/
import Derived.Test.YtdhjgaadfofkkaaDoorSlotName
import Derived.Test.YtdhjgaadfofkkaaDoorSlotSpecE
namespace Go.Proofs.YtdhjgaadfofkkaaDoor
open Go.RowKit

/-- The first slot of the name s is the i-th; -1 if there is none. -/
def NamedAt (l : List SlotV) (s : ByteArray) (i : Int) : Prop :=
  (i = -1 ∧ ∀ y ∈ l, nameB y.1 y.2.1 ≠ s) ∨ ∃ k : Nat, i = k ∧ k < l.length ∧ nameB (l.getD k none_Slot).1 (l.getD k none_Slot).2.1 = s ∧ ∀ y ∈ l.take k, nameB y.1 y.2.1 ≠ s
theorem NamedAt.unique {l : List SlotV} {s : ByteArray} {i j : Int} (h : NamedAt l s i) (h' : NamedAt l s j) : i = j := by
  have key : ∀ (k k' : Nat), k < l.length → k < k' → nameB (l.getD k none_Slot).1 (l.getD k none_Slot).2.1 = s → (∀ y ∈ l.take k', nameB y.1 y.2.1 ≠ s) → False := by
    intro k k' h1 h2 h3 h4
    refine h4 (l.getD k none_Slot) ?_ h3
    rw [List.mem_take_iff_getElem]
    exact ⟨k, by omega, by simp [List.getD, h1]⟩
  rcases h with ⟨rfl, h⟩ | ⟨k, rfl, h1, h2, h3⟩
  · rcases h' with ⟨rfl, _⟩ | ⟨k', rfl, g1, g2, g3⟩
    · rfl
    · exact absurd g2 (h _ (getD_in g1))
  · rcases h' with ⟨rfl, g⟩ | ⟨k', rfl, g1, g2, g3⟩
    · exact absurd h2 (g _ (getD_in h1))
    · rcases Nat.lt_trichotomy k k' with hk | rfl | hk
      · exact (key k k' h1 hk h2 g3).elim
      · rfl
      · exact (key k' k g1 hk g2 h3).elim
/-- A slot before another one has a smaller number, or the same number, and goes across where the other one goes down. -/
def numR (x y : SlotV) : Prop := x.1 < y.1 ∨ (x.1 = y.1 ∧ x.2.1 = false ∧ y.2.1 = true)
theorem slTo_numbers (r c : Nat) (s : ByteArray) : ∀ k, (∀ x ∈ (slTo r c s k).2, 1 ≤ x.1 ∧ x.1 ≤ ((slTo r c s k).1 : Int)) ∧ (slTo r c s k).2.Pairwise numR
  | 0 => ⟨(fun x hx => by cases hx), List.Pairwise.nil⟩
  | k + 1 => by
    obtain ⟨h1, h2⟩ := slTo_numbers r c s k
    show (∀ x ∈ (stepSl (slTo r c s k) k (acN c s k) (dnN r c s k)).2, 1 ≤ x.1 ∧ x.1 ≤ ((stepSl (slTo r c s k) k (acN c s k) (dnN r c s k)).1 : Int)) ∧ (stepSl (slTo r c s k) k (acN c s k) (dnN r c s k)).2.Pairwise numR
    generalize slTo r c s k = y at h1 h2 ⊢
    generalize acN c s k = a
    generalize dnN r c s k = d
    constructor
    · intro x hx
      have hn : (y.1 : Int) ≤ ((stepSl y k a d).1 : Int) ∧ ((2 ≤ a ∨ 2 ≤ d) → (stepSl y k a d).1 = y.1 + 1) := by
        unfold stepSl
        split
        · exact ⟨by simp; omega, fun _ => rfl⟩
        · rename_i h; exact ⟨by simp, fun h' => absurd h' h⟩
      rcases stepSl_mem hx with h | ⟨ha, rfl⟩ | ⟨hd, rfl⟩
      · have := h1 x h; omega
      · have := hn.2 (.inl ha); simp only; omega
      · have := hn.2 (.inr hd); simp only; omega
    · unfold stepSl
      have hm : (2 ≤ a ∨ 2 ≤ d) → (if 2 ≤ a ∨ 2 ≤ d then y.1 + 1 else y.1) = y.1 + 1 := fun h => if_pos h
      generalize (if 2 ≤ a ∨ 2 ≤ d then y.1 + 1 else y.1) = m at hm ⊢
      rw [List.pairwise_append, List.pairwise_append]
      refine ⟨⟨h2, ?_, fun x hx z hz => ?_⟩, ?_, fun x hx z hz => ?_⟩
      · split
        · exact List.pairwise_singleton ..
        · exact List.Pairwise.nil
      · split at hz
        · rename_i ha
          have e := hm (Or.inl ha)
          obtain rfl := List.mem_singleton.1 hz
          have := h1 x hx
          exact Or.inl (by simp only; omega)
        · cases hz
      · split
        · exact List.pairwise_singleton ..
        · exact List.Pairwise.nil
      · split at hz
        · rename_i hd
          have e := hm (Or.inr hd)
          obtain rfl := List.mem_singleton.1 hz
          rcases List.mem_append.1 hx with h | h
          · have := h1 x h
            exact Or.inl (by simp only; omega)
          · split at h
            · obtain rfl := List.mem_singleton.1 h
              exact Or.inr ⟨rfl, rfl, rfl⟩
            · cases h
        · cases hz
theorem slG_num {g : Int × Int × ByteArray} {x : SlotV} (h : x ∈ slG g) : 1 ≤ x.1 ∧ x.1 ≤ 36 := by
  rcases slG_cases g with h0 | ⟨R, C, hg, e1, e2, h1, h2, h3, h4, h5, h6, h7⟩
  · rw [h0] at h; cases h
  · rw [h7] at h
    have h8 := (slTo_numbers R C g.2.2 (R * C)).1 x h
    have h9 := (slTo_bound R C g.2.2 (R * C)).1
    have h10 : R * C ≤ 36 := Nat.mul_le_mul (show R ≤ 6 by omega) (show C ≤ 6 by omega)
    omega
theorem slG_numR (g : Int × Int × ByteArray) : (slG g).Pairwise numR := by
  rcases slG_cases g with h0 | ⟨R, C, hg, e1, e2, h1, h2, h3, h4, h5, h6, h7⟩
  · rw [h0]; exact List.Pairwise.nil
  · rw [h7]; exact (slTo_numbers R C g.2.2 (R * C)).2
theorem slot_num {g : Int × Int × ByteArray} {x : SlotV} (h : x ∈ slG g) : -9223372036854775808 ≤ x.1 ∧ x.1 ≤ 9223372036854775807 := by
  have := slG_num h
  omega
theorem text_differ {a b : ByteArray} (h : a ≠ b) : (a.toList == b.toList) = false := by rw [str_beq]; exact decide_eq_false h

set_option maxRecDepth 100000 in
set_option maxHeartbeats 3200000 in
/-- The model's SlotNamed. -/
theorem snamed_any (r c : Int) (s : ByteArray) (nm : ByteArray) (hs : s.size ≤ 4194304) (w : World) :
    Calls Tryd.prog 21 #[.agg #[.int .i64 r, .int .i64 c, .string s], .string nm] w fun e w' => ∃ i, NamedAt (slG (r, c, s)) nm i ∧ e = .returned (.int .i64 i) ∧ Below w.heap.size w w' := by
  have HSL := Lib.hid (fun w => ssl_any r c s hs w)
  have HKP := Lib.hid (box3_all w r c s 25)
  have HW : Hid (Below w.heap.size w (w.alloc (.cells #[.int .i64 r, .int .i64 c, .string s] 25))) := Lib.hid ((Below.refl _ _).alloc (Nat.le_refl _) _)
  obtain ⟨d0, d1, d2⟩ := HKP.out _ (Below.refl _ _)
  have HLEN := Lib.hid (slG_length (r, c, s))
  have HNUM := Lib.hid (fun x hx => slot_num (g := (r, c, s)) (x := x) hx)
  obtain ⟨l, hl⟩ : ∃ l, l = slG (r, c, s) := ⟨_, rfl⟩
  rw [← hl] at HSL HLEN HNUM ⊢
  clear hl
  have hl72 := HLEN.out
  go_enter Tryd.func21, Tryd.ntmps21
  go_wp2_with fail
  obtain ⟨W0, hW0⟩ : ∃ W0, W0 = w.alloc (.cells #[.int .i64 r, .int .i64 c, .string s] 25) := ⟨_, rfl⟩
  have hws : W0.heap.size = w.heap.size + 1 := by rw [hW0]; simp
  rw [← hW0] at HKP HW d0 d1 d2 ⊢
  clear hW0
  go_wp2_with (go_at_call 37; refine (HSL.out _).mono ?_; rintro e w2 ⟨v2, rfl, o2, b2⟩; obtain ⟨a0, cap, rfl⟩ := ownV_slice o2; have HB2 := Lib.hid b2; have HL2 := Lib.hid o2; clear o2 b2)
  go_loopw [6] (fun i wr => ∃ k : Nat, k ≤ l.length ∧ i = .int .i64 k ∧ Hid (∀ y ∈ l.take k, nameB y.1 y.2.1 ≠ nm) ∧ Hid (wr.ownsRow W0.heap.size 33 4 (.slice a0 l.length cap) l.length (row_Slot l)) ∧ Hid (Below W0.heap.size W0 wr)) (fun i _ => l.length - (intOf i).toNat)
  case atStart => exact ⟨0, Nat.zero_le _, rfl, Lib.hid (by simp), HL2, HB2⟩
  case round =>
    obtain ⟨k, hk, rfl, HN, HL, HB⟩ := hrel
    by_cases hlt : k < l.length
    · have hd : decide ((k : Int) < (l.length : Int)) = true := decide_eq_true (by omega)
      obtain ⟨b, rfl, q0, q1, q2, q3⟩ := slot_cells HL.out rfl k hlt
      have HT := Lib.hid (take_getD hlt)
      have HI := Lib.hid (getD_in hlt)
      have HY : Hid (nameB (l.getD k none_Slot).1 (l.getD k none_Slot).2.1 = nm → NamedAt l nm k) := Lib.hid (fun h => Or.inr ⟨k, rfl, hlt, h, HN.out⟩)
      obtain ⟨y, hy⟩ : ∃ y, y = l.getD k none_Slot := ⟨_, rfl⟩
      rw [← hy] at q0 q1 q2 q3 HT HI HY
      clear hy
      have hn := HNUM.out _ HI.out
      obtain ⟨t0, t1, t2, t3⟩ := y
      have HCN := Lib.hid (fun w => sname_any t0 t1 t2 t3 hn.1 hn.2 w)
      clear hn
      simp only at q0 q1 q2 q3 HCN HY
      obtain ⟨Z, hZ⟩ : ∃ Z, Z = nameB t0 t1 := ⟨_, rfl⟩
      have HT2 : Hid (¬ Z = nm → ∀ y ∈ l.take (k + 1), nameB y.1 y.2.1 ≠ nm) := Lib.hid (fun hne y hy => by
        rw [HT.out] at hy
        rcases List.mem_append.1 hy with h | h
        · exact HN.out y h
        · rw [List.mem_singleton.1 h]; rw [hZ] at hne; exact hne)
      rw [← hZ] at HCN HY
      clear hZ HT HI
      by_cases he : Z = nm
      · have HG := Lib.hid (HY.out he)
        subst he
        clear HY HT2
        go_wp2_with (go_at_call 18; refine (HCN.out _).mono ?_; rintro e w3 ⟨rfl, b3⟩; have HB3 := Lib.hid (HB.out.trans (b3.mono HB.out.size)); clear b3)
        go_ret
        exact ⟨_, HG.out, rfl, HW.out.trans (HB3.out.mono (by omega))⟩
      · have HN2 := Lib.hid (HT2.out he)
        have hbeq := text_differ he
        clear HY HT2 HN
        go_wp2_with (go_at_call 18; refine (HCN.out _).mono ?_; rintro e w3 ⟨rfl, b3⟩; have HB3 := Lib.hid (HB.out.trans (b3.mono HB.out.size)); have HL3 := Lib.hid (ownV_later HL.out b3); clear b3)
        go_roundw
        case rel => exact ⟨k + 1, by omega, by go_num, HN2, HL3, HB3⟩
        case measure => simp [intOf]; omega
    · have hd : decide ((k : Int) < (l.length : Int)) = false := decide_eq_false (by omega)
      obtain rfl : k = l.length := by omega
      have HG : Hid (NamedAt l nm (-1)) := Lib.hid (Or.inl ⟨rfl, fun y hy => HN.out y (by rw [List.take_length]; exact hy)⟩)
      go_wp2
      go_ret
      exact ⟨_, HG.out, rfl, HW.out.trans (HB.out.mono (by omega))⟩
end Go.Proofs.YtdhjgaadfofkkaaDoor
