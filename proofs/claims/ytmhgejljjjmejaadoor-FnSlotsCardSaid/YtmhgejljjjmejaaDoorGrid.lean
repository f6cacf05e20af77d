/-
  Plain facts on grids, and the model's contracts of IsGrid, IsWhite, TurnGrid.
  The model's contracts of TurnGrid, IsSymmetric.
-/
import Derived.Test.YtmhgejljjjmejaaDoorWordP
import Derived.BigQuiet
import Derived.Deep.RegionHeld3
import Derived.Deep.RegionWith
namespace Go.Proofs.YtmhgejljjjmejaaDoor
open Go.RowKit

theorem box3 (w : World) (r c : Int) (s : ByteArray) (t : TypeId) :
    (w.alloc (.cells #[.int .i64 r, .int .i64 c, .string s] t)).cell? ⟨w.heap.size, 0, none⟩ = some (.int .i64 r) ∧ (w.alloc (.cells #[.int .i64 r, .int .i64 c, .string s] t)).cell? ⟨w.heap.size, 1, none⟩ = some (.int .i64 c) ∧
    (w.alloc (.cells #[.int .i64 r, .int .i64 c, .string s] t)).cell? ⟨w.heap.size, 2, none⟩ = some (.string s) := by
  simp
/-- What IsGrid answers. -/
def isG (g : Int × Int × ByteArray) : Bool := decide ((2 ≤ g.1 ∧ g.1 ≤ 6) ∧ (2 ≤ g.2.1 ∧ g.2.1 ≤ 6) ∧ (g.2.2.size : Int) = g.1 * g.2.1 ∧ ∀ b ∈ g.2.2.data.toList, b = 35 ∨ b = 46)
theorem isG_not {r c : Int} {s : ByteArray} {k : Nat} (h : k < s.size) (hn : ¬ (s[k] = 35 ∨ s[k] = 46)) : isG (r, c, s) = false := decide_eq_false (fun hw => hn (hw.2.2.2 _ (byte_mem s k h)))
theorem isG_size {g : Int × Int × ByteArray} (h : isG g = true) : g.2.2.size ≤ 36 := by
  have h9 := of_decide_eq_true h
  obtain ⟨⟨h1, h2⟩, ⟨h3, h4⟩, h5, -⟩ := h9
  have : g.1 * g.2.1 ≤ 6 * 6 := Int.mul_le_mul h2 h4 (by omega) (by omega)
  omega
theorem prod_in {r c : Int} (h1 : 2 ≤ r) (h2 : r ≤ 6) (h3 : 2 ≤ c) (h4 : c ≤ 6) : 4 ≤ r * c ∧ r * c ≤ 36 :=
  ⟨Int.le_trans (by decide) (Int.mul_le_mul h1 h3 (by decide) (by omega)), Int.le_trans (Int.mul_le_mul h2 h4 (by omega) (by decide)) (by decide)⟩

set_option maxHeartbeats 1600000 in
theorem sisg_any (r c : Int) (s : ByteArray) (hs : s.size ≤ 4194304) (w : World) :
    Calls Tryd.prog 8 #[.agg #[.int .i64 r, .int .i64 c, .string s]] w fun e w' => e = .returned (.bool (isG (r, c, s))) ∧ Below w.heap.size w w' := by
  have HBOX := Lib.hid (box3 w r c s 25)
  have HW : Hid (Below w.heap.size w (w.alloc (.cells #[.int .i64 r, .int .i64 c, .string s] 25))) := Lib.hid ((Below.refl _ _).alloc (Nat.le_refl _) _)
  by_cases hr : 2 ≤ r ∧ r ≤ 6
  · by_cases hc : 2 ≤ c ∧ c ≤ 6
    · obtain ⟨hr1, hr2⟩ := hr
      obtain ⟨hc1, hc2⟩ := hc
      obtain ⟨hp1, hp2⟩ := prod_in hr1 hr2 hc1 hc2
      by_cases hz : (s.size : Int) = r * c
      · have hn : ((s.size : Int) != r * c) = false := by simp; omega
        have HZ := Lib.hid hz
        have hs36 : s.size ≤ 36 := by omega
        clear hz
        go_enter Tryd.func8, Tryd.ntmps8
        have FL := Lib.hid trivial
        go_wp2_with (first | (go_at_call 19; have FG := FL; refine (lin_yes r _ _ (by omega) (by omega) _).mono ?_; rintro e w1 ⟨rfl, rfl⟩; clear FL FG) | (go_at_call 19; refine (lin_yes c _ _ (by omega) (by omega) _).mono ?_; rintro e w1 ⟨rfl, rfl⟩))
        obtain ⟨W1, hW1⟩ : ∃ W1, W1 = w.alloc (.cells #[.int .i64 r, .int .i64 c, .string s] 25) := ⟨_, rfl⟩
        rw [← hW1] at HBOX HW ⊢
        clear hW1
        have c2 := HBOX.out.2.2
        go_loopw [3] (fun i wr => ∃ k : Nat, k ≤ s.size ∧ i = .int .i64 k ∧ Hid (∀ b ∈ s.data.toList.take k, b = 35 ∨ b = 46) ∧ W1 = wr) (fun i _ => s.size - (intOf i).toNat)
        case atStart => exact ⟨0, Nat.zero_le _, rfl, Lib.hid (by simp), rfl⟩
        case round =>
          obtain ⟨k, hk, rfl, HL, rfl⟩ := hrel
          by_cases hlt : k < s.size
          · by_cases hb : s[k] = 35 ∨ s[k] = 46
            · have HL2 : Hid (∀ b ∈ s.data.toList.take (k + 1), b = 35 ∨ b = 46) := Lib.hid (fun b hb2 => by
                rw [take_snoc s k hlt] at hb2
                rcases List.mem_append.1 hb2 with h | h
                · exact HL.out b h
                · simp only [List.mem_singleton] at h; subst h; exact hb)
              rcases hb with h35 | h46
              · have hq : ((s[k].toNat : Int) != 35) = false := by simp [h35]
                clear h35
                go_wp2
                go_roundw
                case rel => exact ⟨k + 1, by omega, by go_num, HL2, by trivial⟩
                case measure => simp [intOf]; omega
              · have hq : ((s[k].toNat : Int) != 35) = true := by simp [h46]
                have hq2 : ((s[k].toNat : Int) != 46) = false := by simp [h46]
                clear h46
                go_wp2
                go_roundw
                case rel => exact ⟨k + 1, by omega, by go_num, HL2, by trivial⟩
                case measure => simp [intOf]; omega
            · have HF := Lib.hid (isG_not (r := r) (c := c) hlt hb)
              have hq : ((s[k].toNat : Int) != 35) = true := by simp; intro h; exact hb (Or.inl (UInt8.toNat_inj.1 (by show s[k].toNat = 35; omega)))
              have hq2 : ((s[k].toNat : Int) != 46) = true := by simp; intro h; exact hb (Or.inr (UInt8.toNat_inj.1 (by show s[k].toNat = 46; omega)))
              clear hb
              go_wp2
              go_ret
              exact ⟨by rw [HF.out]; rfl, HW.out⟩
          · have hk' : k = s.size := by omega
            have HT : Hid (isG (r, c, s) = true) := Lib.hid (decide_eq_true ⟨⟨hr1, hr2⟩, ⟨hc1, hc2⟩, HZ.out, by have h9 := HL.out; rw [hk', ← size_list, List.take_length] at h9; exact h9⟩)
            clear hk'
            go_wp2
            go_ret
            exact ⟨by rw [HT.out]; rfl, HW.out⟩
      · have hn : ((s.size : Int) != r * c) = true := by simpa using hz
        have HF : Hid (isG (r, c, s) = false) := Lib.hid (decide_eq_false (fun h => hz h.2.2.1))
        clear hz
        go_enter Tryd.func8, Tryd.ntmps8
        have FL := Lib.hid trivial
        go_wp2_with (first | (go_at_call 19; have FG := FL; refine (lin_yes r _ _ (by omega) (by omega) _).mono ?_; rintro e w1 ⟨rfl, rfl⟩; clear FL FG) | (go_at_call 19; refine (lin_yes c _ _ (by omega) (by omega) _).mono ?_; rintro e w1 ⟨rfl, rfl⟩))
        go_ret
        exact ⟨by rw [HF.out]; rfl, HW.out⟩
    · have HF : Hid (isG (r, c, s) = false) := Lib.hid (decide_eq_false (fun h => hc h.2.1))
      have HN := Lib.hid hc
      clear hc
      go_enter Tryd.func8, Tryd.ntmps8
      have FL := Lib.hid trivial
      go_wp2_with (first | (go_at_call 19; have FG := FL; refine (lin_yes r _ _ (by omega) (by omega) _).mono ?_; rintro e w1 ⟨rfl, rfl⟩; clear FL FG) | (go_at_call 19; refine (lin_no c _ _ HN.out _).mono ?_; rintro e w1 ⟨rfl, rfl⟩))
      go_ret
      exact ⟨by rw [HF.out]; rfl, HW.out⟩
  · have HF : Hid (isG (r, c, s) = false) := Lib.hid (decide_eq_false (fun h => hr h.1))
    have HN := Lib.hid hr
    clear hr
    go_enter Tryd.func8, Tryd.ntmps8
    go_wp2_with (go_at_call 19; refine (lin_no r _ _ HN.out _).mono ?_; rintro e w1 ⟨rfl, rfl⟩)
    go_ret
    exact ⟨by rw [HF.out]; rfl, HW.out⟩

/-- What IsWhite answers. -/
def isWh (g : Int × Int × ByteArray) (k : Int) : Bool := isG g && decide (0 ≤ k ∧ k ≤ (g.2.2.size : Int) - 1) && decide (g.2.2.data.toList.getD k.toNat 0 = 46)
theorem box3_keep {w w' : World} {r c : Int} {s : ByteArray} {t : TypeId} (h : Below (w.alloc (.cells #[.int .i64 r, .int .i64 c, .string s] t)).heap.size (w.alloc (.cells #[.int .i64 r, .int .i64 c, .string s] t)) w') :
    w'.cell? ⟨w.heap.size, 0, none⟩ = some (.int .i64 r) ∧ w'.cell? ⟨w.heap.size, 1, none⟩ = some (.int .i64 c) ∧ w'.cell? ⟨w.heap.size, 2, none⟩ = some (.string s) ∧ Below w.heap.size w w' := by
  have hb := box3 w r c s t
  have hz : (w.alloc (.cells #[.int .i64 r, .int .i64 c, .string s] t)).heap.size = w.heap.size + 1 := by simp
  exact ⟨(h.cell (p := ⟨w.heap.size, 0, none⟩) (by show w.heap.size < _; omega)).trans hb.1, (h.cell (p := ⟨w.heap.size, 1, none⟩) (by show w.heap.size < _; omega)).trans hb.2.1, (h.cell (p := ⟨w.heap.size, 2, none⟩) (by show w.heap.size < _; omega)).trans hb.2.2, ((Below.refl _ _).alloc (Nat.le_refl _) _).trans (h.mono (by omega))⟩
end Go.Proofs.YtmhgejljjjmejaaDoor
namespace Go.Proofs.YtmhgejljjjmejaaDoor
open Go.RowKit

/-- What TurnGrid answers. -/
def turnG (g : Int × Int × ByteArray) : Int × Int × ByteArray := if isG g = true then (g.1, g.2.1, backL g.2.2) else (0, 0, ⟨#[]⟩)
def aggG (g : Int × Int × ByteArray) : Value := .agg #[.int .i64 g.1, .int .i64 g.2.1, .string g.2.2]

theorem new_block (w : World) (o : Obj) : (w.alloc o).heap[w.heap.size]? = some o := by
  show (w.heap.push o)[w.heap.size]? = some o
  simp
theorem box33 {w w' : World} {A Z : Array Value} {t u : TypeId} (h : Below ((w.alloc (.cells A t)).alloc (.cells Z u)).heap.size ((w.alloc (.cells A t)).alloc (.cells Z u)) w') :
    w'.heap[w.heap.size]? = some (.cells A t) ∧ w'.heap[w.heap.size + 1]? = some (.cells Z u) ∧ Below w.heap.size w w' := by
  have hz : (w.alloc (.cells A t)).heap.size = w.heap.size + 1 := by simp
  have hz2 : ((w.alloc (.cells A t)).alloc (.cells Z u)).heap.size = w.heap.size + 2 := by simp
  refine ⟨?_, ?_, (((Below.refl _ _).alloc (Nat.le_refl _) _).alloc (by omega) _).trans (h.mono (by omega))⟩
  · rw [h.block w.heap.size (by omega), ((Below.refl (w.heap.size + 1) (w.alloc (.cells A t))).alloc (by omega) (.cells Z u)).block w.heap.size (by omega)]
    exact new_block w _
  · rw [h.block (w.heap.size + 1) (by omega), ← hz]
    exact new_block _ _
theorem cells3 {w : World} {b : Nat} {x y z : Value} {t : TypeId} (h : w.heap[b]? = some (.cells #[x, y, z] t (0, 0))) :
    w.cell? ⟨b, 0, none⟩ = some x ∧ w.cell? ⟨b, 1, none⟩ = some y ∧ w.cell? ⟨b, 2, none⟩ = some z ∧ w.frozen? ⟨b, 0, none⟩ = false ∧ w.frozen? ⟨b, 1, none⟩ = false ∧ w.frozen? ⟨b, 2, none⟩ = false :=
  ⟨Joins.cell_of_block h 0, Joins.cell_of_block h 1, Joins.cell_of_block h 2, Joins.unfrozen_of_block h 0, Joins.unfrozen_of_block h 1, Joins.unfrozen_of_block h 2⟩

theorem size_of_heap {w : World} {b : Nat} {o : Obj} (h : w.heap[b]? = some o) : b < w.heap.size := by
  rcases Nat.lt_or_ge b w.heap.size with h9 | h9
  · exact h9
  · rw [Array.getElem?_eq_none h9] at h; cases h

theorem toList_ne {a b : ByteArray} (h : a ≠ b) : ¬ a.toList = b.toList := by
  intro e
  apply h
  have h9 : (a.toList == b.toList) = decide (a = b) := str_beq a b
  rw [e, beq_self_eq_true] at h9
  exact of_decide_eq_true h9.symm
/-- What IsSymmetric answers. -/
def symG (g : Int × Int × ByteArray) : Bool := isG g && decide (backL g.2.2 = g.2.2)
end Go.Proofs.YtmhgejljjjmejaaDoor
