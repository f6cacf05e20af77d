/-
  The model's contracts of chapter 9, first part: l9Place, IsChecked, l9Put.
  The model's contracts of chapter 9, second part: UncheckedIn, CheckedShare.
-/
import Derived.Test.YtmhgejljjjmejaaCrossPure
import Derived.Test.YtmhgejljjjmejaaSlotSpecE
import Derived.Test.YtmhgejljjjmejaaKit
import Derived.Test.YtmhgejljjjmejaaSlotImplI
import Derived.Deep.RegionHeld3
import Derived.Deep.RegionWith
import Derived.Deep.DeepCutAuto
namespace Go.Proofs.Ytmhgejljjjmejaa
open Go.RowKit

theorem placeI_lt {l : List Int} {x : Int} (h : x ∈ l) : placeI l x < l.length := List.findIdx_lt_length_of_exists ⟨x, h, by simp⟩
theorem placeI_at {l : List Int} {x : Int} (h : x ∈ l) : l.getD (placeI l x) 0 = x := by
  have h1 := placeI_lt h
  have h2 := List.findIdx_getElem (xs := l) (p := fun y => decide (y = x)) (w := h1)
  have h3 : l[placeI l x] = x := of_decide_eq_true h2
  rw [List.getD_eq_getElem?_getD, List.getElem?_eq_getElem h1]
  exact h3
theorem placeI_hit {l : List Int} {x : Int} {k : Nat} (hk : k < l.length) (h : k ≤ placeI l x) (e : l.getD k 0 = x) : placeI l x = k := by
  rcases Nat.lt_or_eq_of_le h with h1 | h1
  · exfalso
    have h2 := List.not_of_lt_findIdx (xs := l) (p := fun y => decide (y = x)) h1
    rw [List.getD_eq_getElem?_getD, List.getElem?_eq_getElem hk] at e
    simp at h2
    exact h2 e
  · exact h1.symm
theorem placeI_miss {l : List Int} {x : Int} {k : Nat} (hx : x ∈ l) (h : k ≤ placeI l x) (e : l.getD k 0 ≠ x) : k + 1 ≤ placeI l x := by
  rcases Nat.lt_or_eq_of_le h with h1 | h1
  · exact h1
  · exact absurd (by rw [h1]; exact placeI_at hx) e
set_option maxHeartbeats 800000 in
theorem splace_any (l : List Int) (x : Int) (hx : x ∈ l) (hl : l.length ≤ 16777216) (v : Value) (w : World) (hv : Reads w.heap.size w v .i64 l) :
    Calls Try.prog 34 #[v, .int .i64 x] w fun e w' => e = .returned (.int .i64 (placeI l x : Nat)) ∧ Below w.heap.size w w' := by
  obtain ⟨-, a0, cap, rfl, -, hc⟩ := hv
  have HC := Lib.hid hc
  have HX := Lib.hid hx
  have hpl := placeI_lt hx
  clear hc hx
  go_enter Try.func34, Try.ntmps34
  go_wp2
  go_loopw [5] (fun i wr => ∃ k : Nat, k ≤ placeI l x ∧ i = .int .i64 k ∧ Below w.heap.size w wr) (fun i _ => l.length - (intOf i).toNat)
  case atStart => exact ⟨0, Nat.zero_le _, rfl, Below.refl _ _⟩
  case round =>
    obtain ⟨k, hk, rfl, hbl⟩ := hrel
    have hlt : k < l.length := by omega
    obtain ⟨b, off, rfl, hb, q0⟩ := HC.out k hlt
    have HHIT := Lib.hid (placeI_hit (x := x) hlt hk)
    have HMISS := Lib.hid (placeI_miss HX.out hk)
    obtain ⟨z, hz⟩ : ∃ z, z = l.getD k 0 := ⟨_, rfl⟩
    rw [← hz] at q0 HHIT HMISS
    have c0 := (hbl.cell (p := ⟨b, off + k, none⟩) hb).trans q0
    clear q0 hz
    by_cases he : z = x
    · have HF := Lib.hid (HHIT.out he)
      subst he
      go_wp2
      go_ret
      exact ⟨by rw [HF.out]; rfl, hbl⟩
    · have hne : (z == x) = false := by simpa using he
      have HM2 := Lib.hid (HMISS.out he)
      have hk2 : k + 1 ≤ placeI l x := HM2.out
      clear he
      go_wp2
      go_roundw
      case rel => exact ⟨k + 1, hk2, by go_num, hbl⟩
      case measure => simp [intOf]; omega
theorem chkL_atS (l : List SlotV) (c q : Int) : chkL l c q = decide ((atS l c q).length = 2) := by
  rw [atS_inS, List.length_map]
  rfl
end Go.Proofs.Ytmhgejljjjmejaa
namespace Go.Proofs.Ytmhgejljjjmejaa
open Go.RowKit

theorem sint_cell {W : World} {base m cap : Nat} {e : TypeId} {a0 : Option Addr} {l : List Int} (h : W.ownsRow base e 1 (.slice a0 m cap) m (l.map (Value.int .i64))) (hn : m = l.length) (j : Nat) (hj : j < l.length) :
    ∃ b, a0 = some ⟨b, 0, none⟩ ∧ W.cell? ⟨b, j, none⟩ = some (.int .i64 (l.getD j 0)) := by
  subst hn
  rcases h.2 with ⟨e9, hl⟩ | ⟨g, cap', cur, e9, -⟩
  · exfalso
    injection e9 with _ e8 _
    omega
  · cases e9
    refine ⟨g, rfl, ?_⟩
    rw [h.cellAt j (by omega)]
    simp [List.getD, hj]
theorem stake_getDI {l : List Int} {k : Nat} (h : k < l.length) : l.take (k + 1) = l.take k ++ [l.getD k 0] := by
  rw [List.take_succ_eq_append_getElem h, List.getD_eq_getElem?_getD, List.getElem?_eq_getElem h]
  rfl
end Go.Proofs.Ytmhgejljjjmejaa
