/-
  What the answers of chapter 5 have to do with one another: for the law FnLists.
-/
import Derived.Test.YtcpojeiciaghmaaListPure
namespace Go.Proofs.Ytcpojeiciaghmaa
open Go.RowKit

theorem getD_at {α : Type} {l : List α} {k : Nat} {d : α} (h : k < l.length) : l.getD k d = l[k] := by simp [List.getD, h]
/-- The words of a list differ. -/
theorem wd_inj {l : LZ} (h : Ord l) {i j : Nat} (hi : i < l.length) (hj : j < l.length) (e : wd l i = wd l j) : i = j := by
  rcases Nat.lt_trichotomy i j with h1 | h1 | h1
  · exact absurd e (bef_ne (ord_lt h i j h1 hj))
  · exact h1
  · exact absurd e.symm (bef_ne (ord_lt h j i h1 hi))
theorem atW_has {l : LZ} {t : Int} {k : Nat} (h : islW l = true) (hk : k < l.length) : hasW (atW l t) (wd l k) = onL t (l.getD k none_Listed) := by
  unfold atW
  rw [if_pos h]
  cases ho : onL t (l.getD k none_Listed) with
  | true =>
    exact hasW_yes (List.mem_map.2 ⟨l.getD k none_Listed, List.mem_filter.2 ⟨getD_mem l k none_Listed hk, ho⟩, rfl⟩)
  | false =>
    refine hasW_no (fun y hy e => ?_)
    obtain ⟨z, hz, rfl⟩ := List.mem_map.1 hy
    obtain ⟨hz1, hz2⟩ := List.mem_filter.1 hz
    obtain ⟨j, hj, rfl⟩ := List.mem_iff_getElem.1 hz1
    have e2 : wd l j = wd l k := by
      rw [← e]
      unfold wd
      rw [getD_at hj]
    have hjk := wd_inj (ord_of h) hj hk e2
    subst hjk
    rw [getD_at hj] at ho
    rw [ho] at hz2
    cases hz2
theorem islW_ok {l : LZ} (h : islW l = true) {z : ByteArray × Int × Int × Int} (hz : z ∈ l) : okL z = true := by
  obtain ⟨j, hj, rfl⟩ := List.mem_iff_getElem.1 hz
  have h9 := (of_decide_eq_true h).2 j hj
  have h8 := h9.1
  rw [getD_at hj] at h8
  exact h8
/-- A word that was added is there from its first tick. -/
theorem addW_yes {l : LZ} {x : ByteArray} {f u s : Int} (h : (addW l (x, f, u, s)).2 = true) :
    islW (addW l (x, f, u, s)).1 = true ∧ (addW l (x, f, u, s)).1.length = l.length + 1 ∧ hasW (atW (addW l (x, f, u, s)).1 f) x = true := by
  unfold addW at h ⊢
  by_cases h1 : 0 ≤ findL l x
  · rw [if_pos h1] at h; cases h
  · rw [if_neg h1] at h ⊢
    by_cases h2 : islW (insW l (x, f, u, s)) = true
    · rw [if_pos h2] at h ⊢
      have hm : (x, f, u, s) ∈ insW l (x, f, u, s) := by unfold insW; simp
      have ho := islW_ok h2 hm
      refine ⟨h2, ?_, ?_⟩
      · unfold insW
        have hp : posW l x ≤ l.length := List.findIdx_le_length
        simp
        omega
      · unfold atW
        rw [if_pos h2]
        refine hasW_yes (List.mem_map.2 ⟨(x, f, u, s), List.mem_filter.2 ⟨hm, ?_⟩, rfl⟩)
        unfold okL at ho
        simp at ho
        unfold onL
        simp
        omega
    · rw [if_neg h2] at h; cases h
theorem addW_no {l : LZ} {x : ByteArray × Int × Int × Int} (h : (addW l x).2 = false) : (addW l x).1.length = l.length := by
  unfold addW at h ⊢
  by_cases h1 : 0 ≤ findL l x.1
  · rw [if_pos h1]
  · rw [if_neg h1] at h ⊢
    by_cases h2 : islW (insW l x) = true
    · rw [if_pos h2] at h; cases h
    · rw [if_neg h2]
/-- A word that was ended is not there at the tick behind. -/
theorem endW_yes {l : LZ} {x : ByteArray} {t : Int} (h : (endW l x t).2 = true) :
    islW (endW l x t).1 = true ∧ hasW (atW (endW l x t).1 (t + 1)) x = false := by
  unfold endW at h ⊢
  rcases findL_range l x with e | ⟨k, hk, e⟩
  · rw [if_pos (by omega)] at h; cases h
  · have hx : (l.getD k none_Listed).1 = x := by
      unfold findL at e
      by_cases h9 : l.findIdx (fun y => decide (y.1 = x)) < l.length
      · rw [if_pos h9] at e
        have e2 : l.findIdx (fun y => decide (y.1 = x)) = k := by omega
        have h8 := List.findIdx_getElem (w := h9)
        simp only [e2] at h8
        rw [getD_at hk]
        exact of_decide_eq_true h8
      · rw [if_neg h9] at e; omega
    rw [if_neg (by omega)] at h ⊢
    by_cases h1 : (l.getD (findL l x).toNat none_Listed).2.2.1 < t
    · rw [if_pos h1] at h; cases h
    · rw [if_neg h1] at h ⊢
      by_cases h2 : islW (setU l (findL l x).toNat t) = true
      · rw [if_pos h2] at h ⊢
        have ek : (findL l x).toNat = k := by omega
        rw [ek] at h2 ⊢
        refine ⟨h2, ?_⟩
        have hk2 : k < (setU l k t).length := by rw [setU_length]; exact hk
        have h3 := atW_has (t := t + 1) h2 hk2
        rw [wd_setU] at h3
        rw [show wd l k = x from hx] at h3
        rw [show ((setU l k t, true) : LZ × Bool).1 = setU l k t from rfl, h3]
        unfold setU onL
        rw [getD_at (by rw [List.length_set]; exact hk), List.getElem_set_self]
        simp
        omega
      · rw [if_neg h2] at h; cases h
theorem scoreW_nonneg (l : LZ) (ws : List ByteArray) : 0 ≤ scoreW l ws := by
  unfold scoreW
  by_cases h : islW l = true
  · rw [if_pos h]
    unfold scoreSum
    induction ws with
    | nil => simp
    | cons y ws ih =>
      rw [List.map_cons, List.sum_cons]
      have := (scoreAt_range h y).1
      omega
  · rw [if_neg h]; omega
theorem scoreW_nil (l : LZ) : scoreW l [] = 0 := by
  unfold scoreW scoreSum
  simp
end Go.Proofs.Ytcpojeiciaghmaa
