/-
  The model's contracts of TurnGrid, IsSymmetric.
-/
import Derived.Test.YtgpplfhbgkcjhaaDoorGrid
import Derived.Deep.RegionWith
namespace Go.Proofs.YtgpplfhbgkcjhaaDoor
open Go.RowKit

/-- What TurnGrid answers. -/
def turnG (g : Int × Int × ByteArray) : Int × Int × ByteArray := if isG g = true then (g.1, g.2.1, backL g.2.2) else (0, 0, ⟨#[]⟩)
def aggG (g : Int × Int × ByteArray) : Value := .agg #[.int .i64 g.1, .int .i64 g.2.1, .string g.2.2]

theorem new_block (w : World) (o : Obj) : (w.alloc o).heap[w.heap.size]? = some o := by
  show (w.heap.push o)[w.heap.size]? = some o
  simp
theorem box33 {w w' : World} {A Z : Array Value} {t u : TypeId} (h : Below ((w.alloc (.cells A t)).alloc (.cells Z u)).heap.size ((w.alloc (.cells A t)).alloc (.cells Z u)) w') :
    w'.heap[w.heap.size]? = some (.cells A t) ∧ w'.heap[w.heap.size + 1]? = some (.cells Z u) ∧ Below w.heap.size w w' := by
  have hz : (w.alloc (.cells A t)).heap.size = w.heap.size + 1 := by simp
  have hz2 : ((w.alloc (.cells A t)).alloc (.cells Z u)).heap.size = w.heap.size + 2 := by simp
  refine ⟨?_, ?_, (((Below.refl _ _).alloc (Nat.le_refl _) _).alloc (by omega) _).trans (h.mono (by omega))⟩
  · rw [h.block w.heap.size (by omega), ((Below.refl (w.heap.size + 1) (w.alloc (.cells A t))).alloc (by omega) (.cells Z u)).block w.heap.size (by omega)]
    exact new_block w _
  · rw [h.block (w.heap.size + 1) (by omega), ← hz]
    exact new_block _ _
theorem cells3 {w : World} {b : Nat} {x y z : Value} {t : TypeId} (h : w.heap[b]? = some (.cells #[x, y, z] t (0, 0))) :
    w.cell? ⟨b, 0, none⟩ = some x ∧ w.cell? ⟨b, 1, none⟩ = some y ∧ w.cell? ⟨b, 2, none⟩ = some z ∧ w.frozen? ⟨b, 0, none⟩ = false ∧ w.frozen? ⟨b, 1, none⟩ = false ∧ w.frozen? ⟨b, 2, none⟩ = false :=
  ⟨Joins.cell_of_block h 0, Joins.cell_of_block h 1, Joins.cell_of_block h 2, Joins.unfrozen_of_block h 0, Joins.unfrozen_of_block h 1, Joins.unfrozen_of_block h 2⟩

theorem size_of_heap {w : World} {b : Nat} {o : Obj} (h : w.heap[b]? = some o) : b < w.heap.size := by
  rcases Nat.lt_or_ge b w.heap.size with h9 | h9
  · exact h9
  · rw [Array.getElem?_eq_none h9] at h; cases h

set_option maxHeartbeats 1600000 in
theorem sturn_any (r c : Int) (s : ByteArray) (hs : s.size ≤ 1048576) (w : World) :
    Calls Tryd.prog 68 #[.agg #[.int .i64 r, .int .i64 c, .string s]] w fun e w' => e = .returned (aggG (turnG (r, c, s))) ∧ Below w.heap.size w w' := by
  obtain ⟨p, hp⟩ : ∃ p, p = isG (r, c, s) := ⟨_, rfl⟩
  have HIG := Lib.hid (fun w => sisg_any r c s (by omega) w)
  rw [← hp] at HIG
  have HE : Hid (turnG (r, c, s) = if p = true then (r, c, backL s) else (0, 0, ⟨#[]⟩)) := Lib.hid (by rw [hp]; rfl)
  clear hp
  cases p with
  | false =>
    have HF : Hid (turnG (r, c, s) = (0, 0, ⟨#[]⟩)) := Lib.hid (by rw [HE.out]; rfl)
    clear HE
    go_enter Tryd.func68, Tryd.ntmps68
    go_wp2_with (go_at_call 12; refine (HIG.out _).mono ?_; rintro e w1 ⟨rfl, b1⟩; obtain ⟨hA, hZ, HB⟩ := box33 b1; obtain ⟨d0, d1, d2, g0, g1, g2⟩ := cells3 hA; obtain ⟨z0, z1, z2, f0, f1, f2⟩ := cells3 hZ)
    exact bodyPost_ret (v := .agg #[.int .i64 0, .int .i64 0, .string ⟨#[]⟩]) (by simp [results, Tryd.results68, go_sem, z0, z1, z2]) rfl ⟨by rw [HF.out]; rfl, (((HB.setCell (p := ⟨w.heap.size + 1, 0, none⟩) (by simp) _).setCell (p := ⟨w.heap.size + 1, 1, none⟩) (by simp) _).setCell (p := ⟨w.heap.size + 1, 2, none⟩) (by simp) _)⟩
  | true =>
    have HF : Hid (turnG (r, c, s) = (r, c, backL s)) := Lib.hid (by rw [HE.out]; rfl)
    clear HE
    have HBK := Lib.hid (fun w => sback_any s w hs)
    go_enter Tryd.func68, Tryd.ntmps68
    go_wp2_with (first | (go_at_call 12; refine (HIG.out _).mono ?_; rintro e w1 ⟨rfl, b1⟩; obtain ⟨hA, hZ, HB⟩ := box33 b1; obtain ⟨d0, d1, d2, g0, g1, g2⟩ := cells3 hA; obtain ⟨z0, z1, z2, f0, f1, f2⟩ := cells3 hZ) | (go_at_call 89; refine (HBK.out _).mono ?_; rintro e w2 ⟨rfl, b2⟩; have HB2 := Lib.hid (HB.trans (b2.mono HB.size)); have hA2 := (b2.block w.heap.size (size_of_heap hA)).trans hA; have hZ2 := (b2.block (w.heap.size + 1) (size_of_heap hZ)).trans hZ; obtain ⟨d0', d1', d2', g0', g1', g2'⟩ := cells3 hA2; obtain ⟨z0', z1', z2', f0', f1', f2'⟩ := cells3 hZ2))
    exact bodyPost_ret (v := .agg #[.int .i64 r, .int .i64 c, .string (backL s)]) (by simp [results, Tryd.results68, go_sem, z0', z1', z2']) rfl ⟨by rw [HF.out]; rfl, ((((HB2.out.setCell (p := ⟨w.heap.size, 2, none⟩) (by simp) _).setCell (p := ⟨w.heap.size + 1, 0, none⟩) (by simp) _).setCell (p := ⟨w.heap.size + 1, 1, none⟩) (by simp) _).setCell (p := ⟨w.heap.size + 1, 2, none⟩) (by simp) _)⟩
theorem toList_ne {a b : ByteArray} (h : a ≠ b) : ¬ a.toList = b.toList := by
  intro e
  apply h
  have h9 : (a.toList == b.toList) = decide (a = b) := str_beq a b
  rw [e, beq_self_eq_true] at h9
  exact of_decide_eq_true h9.symm
/-- What IsSymmetric answers. -/
def symG (g : Int × Int × ByteArray) : Bool := isG g && decide (backL g.2.2 = g.2.2)
set_option maxHeartbeats 1600000 in
theorem ssym_any (r c : Int) (s : ByteArray) (hs : s.size ≤ 1048576) (w : World) :
    Calls Tryd.prog 43 #[.agg #[.int .i64 r, .int .i64 c, .string s]] w fun e w' => e = .returned (.bool (symG (r, c, s))) ∧ Below w.heap.size w w' := by
  obtain ⟨p, hp⟩ : ∃ p, p = isG (r, c, s) := ⟨_, rfl⟩
  have HIG := Lib.hid (fun w => sisg_any r c s (by omega) w)
  have HTG := Lib.hid (fun w => sturn_any r c s hs w)
  rw [show turnG (r, c, s) = if p = true then (r, c, backL s) else (0, 0, ⟨#[]⟩) from by rw [hp]; rfl] at HTG
  rw [← hp] at HIG
  have HE : Hid (symG (r, c, s) = (p && decide (backL s = s))) := Lib.hid (by rw [hp]; rfl)
  clear hp
  go_enter Tryd.func43, Tryd.ntmps43
  have HBX : Hid (Below w.heap.size w (w.alloc (.cells #[.int .i64 r, .int .i64 c, .string s] 25))) := Lib.hid ((Below.refl _ _).alloc (Nat.le_refl _) _)
  have HKP : Hid (∀ w', Below (w.alloc (.cells #[.int .i64 r, .int .i64 c, .string s] 25)).heap.size (w.alloc (.cells #[.int .i64 r, .int .i64 c, .string s] 25)) w' → w'.cell? ⟨w.heap.size, 0, none⟩ = some (.int .i64 r) ∧ w'.cell? ⟨w.heap.size, 1, none⟩ = some (.int .i64 c) ∧ w'.cell? ⟨w.heap.size, 2, none⟩ = some (.string s)) := Lib.hid (fun w' h => ⟨(box3_keep h).1, (box3_keep h).2.1, (box3_keep h).2.2.1⟩)
  obtain ⟨e0, e1, e2⟩ := HKP.out _ (Below.refl _ _)
  go_wp2
  obtain ⟨W0, hW0⟩ : ∃ W0, W0 = w.alloc (.cells #[.int .i64 r, .int .i64 c, .string s] 25) := ⟨_, rfl⟩
  rw [← hW0] at HBX HKP e0 e1 e2 ⊢
  clear hW0
  cases p with
  | false =>
    have HF : Hid (symG (r, c, s) = false) := Lib.hid (by rw [HE.out]; rfl)
    clear HE HTG
    go_region_with (first | (go_at_call 12; refine (HIG.out _).mono ?_; rintro e w1 ⟨rfl, b1⟩; have B1 : Hid (Below W0.heap.size W0 w1) := Lib.hid (((Below.refl W0.heap.size W0).drew).trans b1); obtain ⟨e0', e1', e2'⟩ := HKP.out _ B1.out; clear b1))
    all_goals (go_wp2; go_ret; exact ⟨by rw [HF.out]; rfl, HBX.out.trans (B1.out.mono HBX.out.size)⟩)
  | true =>
    rw [if_pos rfl] at HTG
    by_cases hb : backL s = s
    · have HF : Hid (symG (r, c, s) = true) := Lib.hid (by rw [HE.out, decide_eq_true hb]; rfl)
      rw [hb] at HTG
      clear HE hb
      go_region_with (first | (go_at_call 12; refine (HIG.out _).mono ?_; rintro e w1 ⟨rfl, b1⟩; have B1 : Hid (Below W0.heap.size W0 w1) := Lib.hid (((Below.refl W0.heap.size W0).drew).trans b1); obtain ⟨e0', e1', e2'⟩ := HKP.out _ B1.out; clear b1) | (go_at_call 68; refine (HTG.out _).mono ?_; rintro e w2 ⟨rfl, b2⟩; simp only [aggG]; have B2 : Hid (Below W0.heap.size W0 w2) := Lib.hid (B1.out.trans (b2.mono B1.out.size)); obtain ⟨e0'', e1'', e2''⟩ := HKP.out _ B2.out; clear b2))
      all_goals (go_wp2; go_ret; exact ⟨by rw [HF.out]; rfl, HBX.out.trans (B2.out.mono HBX.out.size)⟩)
    · have HF : Hid (symG (r, c, s) = false) := Lib.hid (by rw [HE.out, decide_eq_false hb]; rfl)
      clear HE
      have hb2 := toList_ne hb
      clear hb
      go_region_with (first | (go_at_call 12; refine (HIG.out _).mono ?_; rintro e w1 ⟨rfl, b1⟩; have B1 : Hid (Below W0.heap.size W0 w1) := Lib.hid (((Below.refl W0.heap.size W0).drew).trans b1); obtain ⟨e0', e1', e2'⟩ := HKP.out _ B1.out; clear b1) | (go_at_call 68; refine (HTG.out _).mono ?_; rintro e w2 ⟨rfl, b2⟩; simp only [aggG]; have B2 : Hid (Below W0.heap.size W0 w2) := Lib.hid (B1.out.trans (b2.mono B1.out.size)); obtain ⟨e0'', e1'', e2''⟩ := HKP.out _ B2.out; clear b2))
      all_goals (go_wp2; go_ret; exact ⟨by rw [HF.out]; rfl, HBX.out.trans (B2.out.mono HBX.out.size)⟩)
end Go.Proofs.YtgpplfhbgkcjhaaDoor