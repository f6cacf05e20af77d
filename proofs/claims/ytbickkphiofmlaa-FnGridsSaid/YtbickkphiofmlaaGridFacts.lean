/-
  ParseGrid reads back what GridText writes.
-/
import Derived.Test.YtbickkphiofmlaaParseGrid
namespace Go.Proofs.Ytbickkphiofmlaa

/-- One byte of ParseGrid's loop: bytes read, lines, columns, cells. -/
def stp (x : Nat × Nat × Nat × List UInt8) (b : UInt8) : Nat × Nat × Nat × List UInt8 := if b = 47 then (x.1 + 1, x.2.1 + 1, x.2.2.1, x.2.2.2) else (x.1 + 1, x.2.1, (if x.2.1 = 1 then x.1 + 1 else x.2.2.1), x.2.2.2 ++ [b])
theorem pst_fold (s : List UInt8) (k : Nat) (h : k ≤ s.length) : (s.take k).foldl stp (0, 1, 0, []) = (k, pst s k) := by
  induction k with
  | zero => rfl
  | succ k ih =>
    have hk : k < s.length := h
    rw [List.take_succ_eq_append_getElem hk, List.foldl_append, ih (by omega)]
    have hg : s.getD k 0 = s[k] := by rw [List.getD_eq_getElem?_getD, List.getElem?_eq_getElem hk]; rfl
    show stp (k, pst s k) s[k] = _
    unfold stp
    rw [pst, hg]
    split <;> rfl
theorem stp_row (l : List UInt8) (hl : ∀ b ∈ l, b ≠ 47) (i r c : Nat) (t : List UInt8) (hr : r ≠ 1) : l.foldl stp (i, r, c, t) = (i + l.length, r, c, t ++ l) := by
  induction l generalizing i t with
  | nil => simp
  | cons b l ih =>
    rw [List.foldl_cons]
    have h1 : stp (i, r, c, t) b = (i + 1, r, c, t ++ [b]) := by unfold stp; rw [if_neg (hl b (by simp))]; simp [hr]
    rw [h1, ih (fun x hx => hl x (by simp [hx]))]
    simp
    omega
theorem stp_first (l : List UInt8) (hl : ∀ b ∈ l, b ≠ 47) (i c : Nat) (t : List UInt8) : l.foldl stp (i, 1, c, t) = (i + l.length, 1, (if l = [] then c else i + l.length), t ++ l) := by
  induction l generalizing i c t with
  | nil => simp
  | cons b l ih =>
    rw [List.foldl_cons]
    have h1 : stp (i, 1, c, t) b = (i + 1, 1, i + 1, t ++ [b]) := by unfold stp; rw [if_neg (hl b (by simp))]; simp
    rw [h1, ih (fun x hx => hl x (by simp [hx]))]
    by_cases hn : l = []
    · subst hn; simp
    · simp [hn]; omega
theorem lines_fold (C : Nat) (s : ByteArray) (hC : 0 < C) (hs : ∀ b ∈ s.data.toList, b ≠ 47) (k : Nat) (hk : (k + 1) * C ≤ s.data.toList.length) :
    (linesG C s (k + 1)).foldl stp (0, 1, 0, []) = (k + (k + 1) * C, k + 1, C, s.data.toList.take ((k + 1) * C)) := by
  induction k with
  | zero =>
    have h1 : linesG C s 1 = s.data.toList.take C := by simp [linesG]
    have hlen : (s.data.toList.take C).length = C := by rw [List.length_take]; omega
    rw [h1, stp_first _ (fun b hb => hs b (List.mem_of_mem_take hb)), hlen, if_neg (by intro h; rw [h] at hlen; simp at hlen; omega)]
    simp
  | succ k ih =>
    have hk2 : (k + 1 + 1) * C = (k + 1) * C + C := Nat.succ_mul ..
    have hlen : ((s.data.toList.drop ((k + 1) * C)).take C).length = C := by rw [List.length_take, List.length_drop]; omega
    rw [linesG_next, List.foldl_append, ih (by omega), if_neg (by omega), List.foldl_append]
    have h1 : List.foldl stp (k + (k + 1) * C, k + 1, C, s.data.toList.take ((k + 1) * C)) [47] = (k + (k + 1) * C + 1, k + 2, C, s.data.toList.take ((k + 1) * C)) := rfl
    rw [h1, stp_row _ (fun b hb => hs b (List.mem_of_mem_drop (List.mem_of_mem_take hb))) _ _ _ _ (by omega), hlen, hk2, List.take_add]
    congr 1
    omega
/-- What ParseGrid reads off a grid's text is the grid. -/
theorem parse_text {g : Int × Int × ByteArray} (h : isG g = true) : parseG (textG g) = (g, true) := by
  obtain ⟨r, c, s⟩ := g
  obtain ⟨⟨hr1, hr2⟩, ⟨hc1, hc2⟩, hz, hb⟩ := of_decide_eq_true h
  dsimp only at hr1 hr2 hc1 hc2 hz hb
  obtain ⟨R, rfl⟩ : ∃ R : Nat, r = (R : Int) := ⟨r.toNat, by omega⟩
  obtain ⟨C, rfl⟩ : ∃ C : Nat, c = (C : Int) := ⟨c.toNat, by omega⟩
  have hz2 : s.size = R * C := by rw [← Int.natCast_mul] at hz; omega
  have hn : ∀ b ∈ s.data.toList, b ≠ 47 := fun b hm => by rcases hb b hm with rfl | rfl <;> decide
  have hT : textG ((R : Int), (C : Int), s) = ⟨(linesG C s R).toArray⟩ := by unfold textG; rw [if_pos h]; rfl
  obtain ⟨K, rfl⟩ : ∃ K, R = K + 1 := ⟨R - 1, by omega⟩
  have hsl : s.data.toList.length = (K + 1) * C := by rw [size_list, hz2]
  have hF := lines_fold C s (by omega) hn K (by omega)
  have hP := pst_fold (linesG C s (K + 1)) (linesG C s (K + 1)).length (Nat.le_refl _)
  rw [List.take_length, hF] at hP
  have hP2 : pst (linesG C s (K + 1)) (linesG C s (K + 1)).length = (K + 1, C, s.data.toList) := by
    rw [← (Prod.mk.inj hP).2, ← hsl, List.take_length]
  have hG : gridP ⟨(linesG C s (K + 1)).toArray⟩ = (((K + 1 : Nat) : Int), (C : Int), s) := by
    have hsz : (⟨(linesG C s (K + 1)).toArray⟩ : ByteArray).size = (linesG C s (K + 1)).length := by rw [← size_list]
    unfold gridP
    rw [hsz]
    show (((pst (linesG C s (K + 1)) _).1 : Int), ((pst (linesG C s (K + 1)) _).2.1 : Int), (⟨(pst (linesG C s (K + 1)) _).2.2.toArray⟩ : ByteArray)) = _
    rw [hP2]
  have hO : okP (textG (((K + 1 : Nat) : Int), (C : Int), s)) = true := by
    unfold okP
    rw [hT, hG, hT, h]
    simp
  unfold parseG
  rw [if_pos hO, hT, hG]
theorem parse_yes {s : ByteArray} (h : (parseG s).2 = true) : isG (parseG s).1 = true ∧ textG (parseG s).1 = s := by
  unfold parseG at h ⊢
  by_cases ho : okP s = true
  · rw [if_pos ho]
    unfold okP at ho
    rw [Bool.and_eq_true] at ho
    exact ⟨ho.2, of_decide_eq_true ho.1⟩
  · rw [if_neg ho] at h
    cases h
theorem parse_no {s : ByteArray} (h : (parseG s).2 = false) : (parseG s).1 = (0, 0, ⟨#[]⟩) ∧ ∀ g, isG g = true → textG g ≠ s := by
  refine ⟨?_, fun g hg e => ?_⟩
  · unfold parseG at h ⊢
    by_cases ho : okP s = true
    · rw [if_pos ho] at h; cases h
    · rw [if_neg ho]
  · rw [← e, parse_text hg] at h
    cases h
end Go.Proofs.Ytbickkphiofmlaa
