/-
  Support of the program; Support as the exact law's walk takes it.
-/
import Derived.Test.YtmhgejljjjmejaaCandJ
import Derived.Test.YtmhgejljjjmejaaBoxN
import Derived.Test.YtmhgejljjjmejaaGridS
namespace Go.Proofs.Ytmhgejljjjmejaa
open Go.RowKit

theorem xfor_len (g : Int × Int × ByteArray) {slot : Nat} (hs : slot < (slG g).length) : XFor (crossS g) (slG g).length slot ((slG g).getD slot none_Slot).2.2.2.toNat := by
  intro y hy
  obtain ⟨i, j, p, r, q, rfl, -, hi, hj, hp, -, hr, -⟩ := cross_facts hy
  have h1 := (len_at hi).2
  have h2 := (len_at hj).2
  have h3 := (len_at hs).1
  exact ⟨i, j, p, r, q, rfl, hi, hj, by omega, by omega, fun e => by subst e; omega, fun e => by subst e; omega⟩
theorem meet_facts {X : List CrossV} {n slot size : Nat} (h : XFor X n slot size) {m : Nat × Nat × Nat} (hm : m ∈ meetS X slot) : m.1 < size ∧ m.2.1 < n := by
  unfold meetS at hm
  obtain ⟨x, hx, hmx⟩ := List.mem_flatMap.1 hm
  obtain ⟨i, j, p, r, q, rfl, hi, hj, -, -, hp, hr⟩ := h x hx
  rw [meetX_parts] at hmx
  rcases List.mem_append.1 hmx with h1 | h1
  · split at h1
    · rename_i e
      rw [List.mem_singleton.1 h1]
      exact ⟨hp e, hj⟩
    · cases h1
  · split at h1
    · rename_i e
      rw [List.mem_singleton.1 h1]
      exact ⟨hr e, hi⟩
    · cases h1
theorem bit_dom {D : List ByteArray} {r c : Nat} {b : UInt8} (hb : b.toNat = 97 + c) (hc : c < 26) : (lsS D (r : Int)).testBit c = domAt D r b := by
  rw [lsS_bit _ _ _ hc]
  unfold lsF domAt
  rw [decide_eq_true (show (0 : Int) ≤ r by omega), Bool.true_and]
  refine congrArg (fun f => D.any f) (funext fun z => ?_)
  unfold lsAt1
  rw [Int.toNat_natCast]
  congr 1
  rw [← hb]
  by_cases e : z.data.toList.getD r 0 = b
  · rw [decide_eq_true e, decide_eq_true (by rw [e])]
  · rw [decide_eq_false e, decide_eq_false (fun h => e (UInt8.toNat_inj.1 h))]
theorem ok_dems {l : List SlotV} {X : List CrossV} {D : List (List ByteArray)} {slot n : Nat} {x : ByteArray} (h : XFor X n slot (l.getD slot none_Slot).2.2.2.toNat) : okQ x (l.getD slot none_Slot).2.2.2 (demsOf D (meetS X slot)) = okX l X D slot x := by
  unfold okQ okX okW
  cases hw : isW x
  · rfl
  · by_cases hl : (x.size : Int) = (l.getD slot none_Slot).2.2.2
    · rw [decide_eq_true hl]
      simp only [Bool.true_and]
      unfold demsOf supM
      rw [List.all_map, Bool.eq_iff_iff, List.all_eq_true, List.all_eq_true]
      have he : ∀ m ∈ meetS X slot, demQ x (m.1, lsS (D.getD m.2.1 []) (m.2.2 : Int)) = metM D x m := fun m hm => by
        have h1 := (meet_facts h hm).1
        have hp : m.1 < x.size := by omega
        obtain ⟨h2, h3⟩ := lt_word hw hp
        unfold demQ metM
        rw [bit_dom (b := x.data.toList.getD m.1 0) (by rw [getD_byte x m.1 hp]; exact h2) h3]
      exact ⟨fun h9 m hm => by rw [← he m hm]; exact h9 m hm, fun h9 m hm => by show demQ x _ = true; rw [he m hm]; exact h9 m hm⟩
    · rw [decide_eq_false hl]
      rfl
theorem dem_ok {l : List SlotV} {X : List CrossV} {D : List (List ByteArray)} {slot n : Nat} {size : Nat} (h : XFor X n slot (l.getD slot none_Slot).2.2.2.toNat) (hl : (size : Int) = (l.getD slot none_Slot).2.2.2) : DemOk (demsOf D (meetS X slot)) size := by
  intro q hq
  unfold demsOf at hq
  obtain ⟨m, hm, rfl⟩ := List.mem_map.1 hq
  exact ⟨by have := (meet_facts h hm).1; show m.1 < size; omega, lsS_lt _ _⟩
theorem u_Support {g : Int × Int × ByteArray} {l : List (List ByteArray)} {k : Int} {x : ByteArray} {b b' : Bool} (h : b = supF g l k x) (h' : b' = supF g l k x) : b = b' := h.trans h'.symm
end Go.Proofs.Ytmhgejljjjmejaa
