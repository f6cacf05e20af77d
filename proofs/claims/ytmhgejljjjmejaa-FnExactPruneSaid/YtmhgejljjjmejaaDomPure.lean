/-
  Candidates: support, and what pruning leaves: the greatest family of words that all have support.
-/
import Derived.Test.YtmhgejljjjmejaaCrossPure
namespace Go.Proofs.Ytmhgejljjjmejaa
open Go.RowKit

/-- Some string of a domain has this byte at a place. -/
def domAt (D : List ByteArray) (p : Nat) (b : UInt8) : Bool := D.any fun z => decide (p < z.size) && decide (z.data.toList.getD p 0 = b)
/-- What a crossing asks of the words of a slot: a place, the other slot, the place there. -/
def meetX (slot : Nat) (x : CrossV) : List (Nat × Nat × Nat) :=
  (if x.1 = (slot : Int) then [(x.2.2.1.toNat, x.2.1.toNat, x.2.2.2.1.toNat)] else []) ++ (if x.2.1 = (slot : Int) then [(x.2.2.2.1.toNat, x.1.toNat, x.2.2.1.toNat)] else [])
def meetS (X : List CrossV) (slot : Nat) : List (Nat × Nat × Nat) := X.flatMap (meetX slot)
theorem meetS_next (X : List CrossV) (x : CrossV) (slot : Nat) : meetS (X ++ [x]) slot = meetS X slot ++ meetX slot x := by
  unfold meetS
  rw [List.flatMap_append]
  simp
def metM (D : List (List ByteArray)) (w : ByteArray) (m : Nat × Nat × Nat) : Bool := domAt (D.getD m.2.1 []) m.2.2 (w.data.toList.getD m.1 0)
def supM (M : List (Nat × Nat × Nat)) (D : List (List ByteArray)) (w : ByteArray) : Bool := M.all (metM D w)
/-- A word of a slot: its length and its letters. -/
def okW (l : List SlotV) (slot : Nat) (w : ByteArray) : Bool := isW w && decide ((w.size : Int) = (l.getD slot none_Slot).2.2.2)
def okX (l : List SlotV) (X : List CrossV) (D : List (List ByteArray)) (slot : Nat) (w : ByteArray) : Bool := okW l slot w && supM (meetS X slot) D w
def supF (g : Int × Int × ByteArray) (D : List (List ByteArray)) (slot : Int) (w : ByteArray) : Bool :=
  decide (D.length = (slG g).length ∧ 0 ≤ slot ∧ slot < ((slG g).length : Int)) && okX (slG g) (crossS g) D slot.toNat w
/-- A family of some of the words. -/
def subF (p : Nat → ByteArray → Bool) (D : List (List ByteArray)) : List (List ByteArray) := (List.range D.length).map fun i => (D.getD i []).filter (p i)
theorem subF_length (p : Nat → ByteArray → Bool) (D : List (List ByteArray)) : (subF p D).length = D.length := by simp [subF]
theorem subF_at (p : Nat → ByteArray → Bool) (D : List (List ByteArray)) {i : Nat} (h : i < D.length) : (subF p D).getD i [] = (D.getD i []).filter (p i) := by simp [subF, List.getD, h]
theorem subF_out (p : Nat → ByteArray → Bool) (D : List (List ByteArray)) {i : Nat} (h : ¬ i < D.length) : (subF p D).getD i [] = [] := by simp [subF, List.getD, h]
theorem dom_ext {D E : List (List ByteArray)} (hl : D.length = E.length) (h : ∀ i, i < D.length → D.getD i [] = E.getD i []) : D = E := by
  refine List.ext_getElem hl fun i h1 h2 => ?_
  have h9 := h i h1
  simpa [List.getD, h1, h2] using h9
theorem subF_all (D : List (List ByteArray)) : subF (fun _ _ => true) D = D := by
  refine dom_ext (subF_length _ _) fun i hi => ?_
  rw [subF_length] at hi
  rw [subF_at _ _ hi]
  simp
def closedF (l : List SlotV) (X : List CrossV) (E : List (List ByteArray)) : Prop := ∀ i, i < E.length → ∀ w ∈ E.getD i [], okX l X E i w = true
/-- p strikes only what no closed family has. -/
def CutS (l : List SlotV) (X : List CrossV) (D : List (List ByteArray)) (p : Nat → ByteArray → Bool) : Prop := ∀ q, closedF l X (subF q D) → ∀ i, i < D.length → ∀ w ∈ D.getD i [], q i w = true → p i w = true
def PruS (l : List SlotV) (X : List CrossV) (D E : List (List ByteArray)) : Prop := ∃ p, E = subF p D ∧ closedF l X E ∧ CutS l X D p
def PruF (g : Int × Int × ByteArray) (D E : List (List ByteArray)) : Prop := (D.length = (slG g).length → PruS (slG g) (crossS g) D E) ∧ (D.length ≠ (slG g).length → E = D)
theorem cut_all (l : List SlotV) (X : List CrossV) (D : List (List ByteArray)) : CutS l X D (fun _ _ => true) := fun _ _ _ _ _ _ _ => rfl
theorem PruS.only {l : List SlotV} {X : List CrossV} {D E E' : List (List ByteArray)} (h : PruS l X D E) (h' : PruS l X D E') : E = E' := by
  obtain ⟨p, rfl, hc, hm⟩ := h
  obtain ⟨p', rfl, hc', hm'⟩ := h'
  refine dom_ext (by rw [subF_length, subF_length]) fun i hi => ?_
  rw [subF_length] at hi
  rw [subF_at _ _ hi, subF_at _ _ hi]
  refine List.filter_congr fun w hw => ?_
  have h1 := hm p' hc' i hi w hw
  have h2 := hm' p hc i hi w hw
  cases e1 : p i w <;> cases e2 : p' i w <;> simp_all
theorem PruF.only {g : Int × Int × ByteArray} {D E E' : List (List ByteArray)} (h : PruF g D E) (h' : PruF g D E') : E = E' := by
  by_cases e : D.length = (slG g).length
  · exact (h.1 e).only (h'.1 e)
  · rw [h.2 e, h'.2 e]
theorem domAt_mono {D E : List ByteArray} (h : ∀ z ∈ D, z ∈ E) {p : Nat} {b : UInt8} (hh : domAt D p b = true) : domAt E p b = true := by
  unfold domAt at hh ⊢
  rw [List.any_eq_true] at hh ⊢
  obtain ⟨z, hz, hp⟩ := hh
  exact ⟨z, h z hz, hp⟩
theorem okX_mono {l : List SlotV} {X : List CrossV} {D E : List (List ByteArray)} (h : ∀ i, ∀ z ∈ D.getD i [], z ∈ E.getD i []) {i : Nat} {w : ByteArray} (hh : okX l X D i w = true) : okX l X E i w = true := by
  unfold okX supM at hh ⊢
  rw [Bool.and_eq_true, List.all_eq_true] at hh ⊢
  exact ⟨hh.1, fun m hm => domAt_mono (h _) (hh.2 m hm)⟩
/-- Words without support are struck from one domain. -/
def strikeP (l : List SlotV) (X : List CrossV) (C : List (List ByteArray)) (i : Nat) (p : Nat → ByteArray → Bool) : Nat → ByteArray → Bool := fun j w => if j = i then p j w && okX l X C i w else p j w
theorem cut_step {l : List SlotV} {X : List CrossV} {D : List (List ByteArray)} {p : Nat → ByteArray → Bool} (h : CutS l X D p) (i : Nat) : CutS l X D (strikeP l X (subF p D) i p) := by
  intro q hq j hj w hw hqw
  unfold strikeP
  have h1 := h q hq j hj w hw hqw
  split
  · rename_i e
    subst e
    rw [h1, Bool.true_and]
    refine okX_mono (D := subF q D) (fun k z hz => ?_) (hq j (by rw [subF_length]; exact hj) w (by rw [subF_at _ _ hj]; exact List.mem_filter.2 ⟨hw, hqw⟩))
    by_cases hk : k < D.length
    · rw [subF_at _ _ hk] at hz ⊢
      have hz' := List.mem_filter.1 hz
      exact List.mem_filter.2 ⟨hz'.1, h q hq k hk z hz'.1 hz'.2⟩
    · rw [subF_out _ _ hk] at hz
      cases hz
  · exact h1
theorem sub_strike {l : List SlotV} {X : List CrossV} {D : List (List ByteArray)} {p : Nat → ByteArray → Bool} {i : Nat} (hi : i < D.length) :
    subF (strikeP l X (subF p D) i p) D = (subF p D).set i (((subF p D).getD i []).filter (okX l X (subF p D) i)) := by
  refine dom_ext (by rw [List.length_set, subF_length, subF_length]) fun j hj => ?_
  rw [subF_length] at hj
  rw [subF_at _ _ hj]
  by_cases e : j = i
  · subst e
    rw [show ((subF p D).set j (((subF p D).getD j []).filter (okX l X (subF p D) j))).getD j [] = ((subF p D).getD j []).filter (okX l X (subF p D) j) by simp [List.getD, subF_length, hj]]
    rw [subF_at _ _ hj, List.filter_filter]
    refine List.filter_congr fun w _ => ?_
    unfold strikeP
    rw [if_pos rfl, Bool.and_comm]
  · rw [show ((subF p D).set i (((subF p D).getD i []).filter (okX l X (subF p D) i))).getD j [] = (subF p D).getD j [] by simp [List.getD, List.getElem?_set_ne (Ne.symm e)]]
    rw [subF_at _ _ hj]
    refine List.filter_congr fun w _ => ?_
    unfold strikeP
    rw [if_neg e]
/-- A family that is D's with some words struck, and none that a closed one has. -/
def PartS (l : List SlotV) (X : List CrossV) (D C : List (List ByteArray)) : Prop := ∃ p, C = subF p D ∧ CutS l X D p
theorem PartS.all (l : List SlotV) (X : List CrossV) (D : List (List ByteArray)) : PartS l X D D := ⟨_, (subF_all D).symm, cut_all l X D⟩
theorem PartS.strike {l : List SlotV} {X : List CrossV} {D C : List (List ByteArray)} (h : PartS l X D C) (i : Nat) (hi : i < D.length) : PartS l X D (C.set i ((C.getD i []).filter (okX l X C i))) := by
  obtain ⟨p, rfl, hm⟩ := h
  exact ⟨_, (sub_strike hi).symm, cut_step hm i⟩
theorem PartS.ends {l : List SlotV} {X : List CrossV} {D C : List (List ByteArray)} (h : PartS l X D C) (hc : closedF l X C) : PruS l X D C := by
  obtain ⟨p, rfl, hm⟩ := h
  exact ⟨p, rfl, hc, hm⟩
theorem PartS.length {l : List SlotV} {X : List CrossV} {D C : List (List ByteArray)} (h : PartS l X D C) : C.length = D.length := by
  obtain ⟨p, rfl, -⟩ := h
  exact subF_length _ _
theorem PartS.mem {l : List SlotV} {X : List CrossV} {D C : List (List ByteArray)} (h : PartS l X D C) (i : Nat) : (C.getD i []).Sublist (D.getD i []) := by
  obtain ⟨p, rfl, -⟩ := h
  by_cases hi : i < D.length
  · rw [subF_at _ _ hi]; exact List.filter_sublist
  · rw [subF_out _ _ hi]; exact List.nil_sublist _
/-- The number of all words. -/
def sumL (C : List (List ByteArray)) : Nat := (C.map List.length).sum
theorem sumL_set : ∀ (C : List (List ByteArray)) (i : Nat) (m : List ByteArray), i < C.length → sumL (C.set i m) + (C.getD i []).length = sumL C + m.length
  | x :: C, 0, m, _ => by simp [sumL]; omega
  | x :: C, i + 1, m, h => by
    have h9 := sumL_set C i m (by simpa using h)
    simp only [sumL, List.set_cons_succ, List.map_cons, List.sum_cons, List.getD_cons_succ] at h9 ⊢
    omega
theorem sumL_le : ∀ (C : List (List ByteArray)) (b : Nat), (∀ m ∈ C, m.length ≤ b) → sumL C ≤ C.length * b
  | [], _, _ => by simp [sumL]
  | x :: C, b, h => by
    have h1 := sumL_le C b (fun m hm => h m (List.mem_cons_of_mem _ hm))
    have h2 := h x (List.mem_cons_self ..)
    simp only [sumL, List.map_cons, List.sum_cons, List.length_cons, Nat.add_mul, Nat.one_mul] at h1 ⊢
    omega
theorem filter_all {α : Type} {p : α → Bool} {l : List α} (h : ∀ x ∈ l, p x = true) : l.filter p = l := List.filter_eq_self.2 h
theorem filter_len_eq {α : Type} {p : α → Bool} : ∀ {l : List α}, l.length ≤ (l.filter p).length → ∀ x ∈ l, p x = true
  | a :: l, h, x, hx => by
    by_cases e : p a = true
    · rw [List.filter_cons_of_pos e, List.length_cons, List.length_cons] at h
      rcases List.mem_cons.1 hx with rfl | hx
      · exact e
      · exact filter_len_eq (by omega) x hx
    · rw [List.filter_cons_of_neg e, List.length_cons] at h
      have := List.length_filter_le p l
      omega
/-- What a strike at i leaves as it was for j. -/
theorem okX_set {l : List SlotV} {X : List CrossV} {C : List (List ByteArray)} {i j : Nat} {m : List ByteArray} {w : ByteArray} (h : ∀ u ∈ meetS X j, u.2.1 ≠ i) : okX l X (C.set i m) j w = okX l X C j w := by
  unfold okX supM
  congr 1
  have h9 : ∀ M : List (Nat × Nat × Nat), (∀ u ∈ M, u.2.1 ≠ i) → M.all (metM (C.set i m) w) = M.all (metM C w) := by
    intro M
    induction M with
    | nil => intro _; rfl
    | cons a M ih =>
      intro hM
      rw [List.all_cons, List.all_cons, ih (fun u hu => hM u (List.mem_cons_of_mem _ hu))]
      congr 1
      unfold metM
      have := hM a (List.mem_cons_self ..)
      rw [show (C.set i m).getD a.2.1 [] = C.getD a.2.1 [] by simp [List.getD, List.getElem?_set_ne (Ne.symm this)]]
  exact h9 _ h
/-- A pruned family pruned again stays. -/
theorem pru_again {l : List SlotV} {X : List CrossV} {E : List (List ByteArray)} (h : closedF l X E) : PruS l X E E := (PartS.all l X E).ends h
end Go.Proofs.Ytmhgejljjjmejaa
