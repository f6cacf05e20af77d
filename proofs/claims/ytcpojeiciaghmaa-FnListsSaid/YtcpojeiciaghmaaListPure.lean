/-
  Facts of ordered word lists, of no program: what a search by halving finds; what a list with one more word, or with another end, keeps.
-/
import Derived.Test.YtcpojeiciaghmaaListStd
namespace Go.Proofs.Ytcpojeiciaghmaa
open Go.RowKit

theorem less_trans : ∀ (x y z : List UInt8), Op.bytesLess x y = true → Op.bytesLess y z = true → Op.bytesLess x z = true
  | [], [], _, h, _ => by simp [Op.bytesLess] at h
  | _ :: _, [], _, h, _ => by simp [Op.bytesLess] at h
  | _, _ :: _, [], _, h => by simp [Op.bytesLess] at h
  | [], _ :: _, _ :: _, _, _ => by simp [Op.bytesLess]
  | a :: x, b :: y, c :: z, h, k => by
    have ih := less_trans x y z
    simp only [Op.bytesLess, Bool.or_eq_true, Bool.and_eq_true, decide_eq_true_eq, beq_iff_eq] at h k ⊢
    rcases h with h | ⟨rfl, h⟩
    · rcases k with k | ⟨rfl, k⟩
      · exact Or.inl (UInt8.lt_trans h k)
      · exact Or.inl h
    · rcases k with k | ⟨rfl, k⟩
      · exact Or.inl k
      · exact Or.inr ⟨rfl, ih h k⟩
theorem bef_trans {a b c : ByteArray} (h : befW a b = true) (k : befW b c = true) : befW a c = true := by
  unfold befW at h k ⊢
  by_cases e : a.size = b.size
  · rw [if_pos e] at h
    by_cases e2 : b.size = c.size
    · rw [if_pos e2] at k
      rw [if_pos (e.trans e2)]
      exact less_trans _ _ _ h k
    · rw [if_neg e2] at k
      rw [if_neg (by omega)]
      have := of_decide_eq_true k
      exact decide_eq_true (by omega)
  · rw [if_neg e] at h
    have h1 := of_decide_eq_true h
    by_cases e2 : b.size = c.size
    · rw [if_pos e2] at k
      rw [if_neg (by omega)]
      exact decide_eq_true (by omega)
    · rw [if_neg e2] at k
      have := of_decide_eq_true k
      rw [if_neg (by omega)]
      exact decide_eq_true (by omega)
theorem bef_self (a : ByteArray) : befW a a = false := by
  cases h : befW a a
  · rfl
  · exact (bef_asymm h).symm.trans h |>.symm ▸ rfl

abbrev LZ := List (ByteArray × Int × Int × Int)
/-- The word at k. -/
def wd (l : LZ) (k : Nat) : ByteArray := (l.getD k none_Listed).1
/-- The words stand in order. -/
def Ord (l : LZ) : Prop := ∀ k, k + 1 < l.length → befW (wd l k) (wd l (k + 1)) = true
theorem ord_of {l : LZ} (h : islW l = true) : Ord l := fun k hk => by
  have := ((of_decide_eq_true h).2 (k + 1) hk).2 (by omega)
  simpa [wd] using this
theorem not_isl {l : LZ} (h : ¬ Ord l) : islW l = false := by
  cases e : islW l
  · rfl
  · exact absurd (ord_of e) h
theorem ord_lt {l : LZ} (h : Ord l) (i j : Nat) (hi : i < j) (hj : j < l.length) : befW (wd l i) (wd l j) = true := by
  induction j with
  | zero => omega
  | succ j ih =>
    by_cases e : i = j
    · subst e; exact h i hj
    · exact bef_trans (ih (by omega) (by omega)) (h j hj)
/-- What the search by halving says of its place. -/
structure Place (l : LZ) (x : ByteArray) (p : Nat) : Prop where
  le : p ≤ l.length
  left : 0 < p → befW (wd l (p - 1)) x = true
  right : p < l.length → befW (wd l p) x = false
theorem Place.before {l : LZ} {x : ByteArray} {p : Nat} (h : Place l x p) (o : Ord l) (j : Nat) (hj : j < p) : befW (wd l j) x = true := by
  have h1 := h.left (by omega)
  by_cases e : j = p - 1
  · subst e; exact h1
  · exact bef_trans (ord_lt o j (p - 1) (by omega) (by have := h.le; omega)) h1
theorem Place.pos {l : LZ} {x : ByteArray} {p : Nat} (h : Place l x p) (o : Ord l) : posW l x = p := by
  by_cases e : p < l.length
  · exact posW_at e (fun j hj => h.before o j hj) (h.right e)
  · have e2 : p = l.length := by have := h.le; omega
    rw [e2]
    exact posW_end (fun j hj => h.before o j (by omega))
theorem bef_ne {a b : ByteArray} (h : befW a b = true) : a ≠ b := fun e => by
  rw [e, bef_self] at h; cases h
theorem wd_mem {l : LZ} {y : ByteArray × Int × Int × Int} (hy : y ∈ l) : ∃ j, j < l.length ∧ y.1 = wd l j := by
  obtain ⟨j, hj, rfl⟩ := List.mem_iff_getElem.1 hy
  exact ⟨j, hj, by simp [wd, List.getD, hj]⟩
theorem Place.found {l : LZ} {x : ByteArray} {p : Nat} (h : Place l x p) (o : Ord l) (e : p < l.length) (hx : wd l p = x) : findL l x = p := by
  refine findL_at e (fun y hy => ?_) hx
  obtain ⟨j, hj, rfl⟩ := List.mem_take_iff_getElem.1 hy
  have := h.before o j (by omega)
  have hw : wd l j = l[j].1 := by simp [wd, List.getD, show j < l.length by omega]
  rw [hw] at this
  exact bef_ne this
theorem Place.lost {l : LZ} {x : ByteArray} {p : Nat} (h : Place l x p) (o : Ord l) (hx : ¬ (p < l.length ∧ wd l p = x)) : findL l x = -1 := by
  refine findL_no (fun y hy => ?_)
  obtain ⟨j, hj, e⟩ := wd_mem hy
  rw [e]
  by_cases c : j < p
  · exact bef_ne (h.before o j c)
  · have hp : p < l.length := by omega
    have hne : wd l p ≠ x := fun e => hx ⟨hp, e⟩
    have hlt : befW x (wd l p) = true := by
      cases q : befW x (wd l p)
      · exact absurd (bef_total (h.right hp) q) hne
      · rfl
    by_cases c2 : j = p
    · rw [c2]; exact hne
    · exact fun e2 => bef_ne (bef_trans hlt (ord_lt o p j (by omega) hj)) e2.symm
/-- Is the word there? -/
def atP (l : LZ) (x : ByteArray) (p : Nat) : Bool := decide (p < l.length) && decide (wd l p = x)
theorem atP_iff {l : LZ} {x : ByteArray} {p : Nat} : atP l x p = true ↔ p < l.length ∧ wd l p = x := by simp [atP]

theorem wd_setU (l : LZ) (k j : Nat) (t : Int) : wd (setU l k t) j = wd l j := by
  unfold wd setU
  by_cases hj : j < l.length
  · by_cases e : k = j
    · subst e; simp [List.getD, hj]
    · simp [List.getD, hj, e]
  · simp [List.getD, hj]
theorem ord_setU {l : LZ} {k : Nat} {t : Int} : Ord (setU l k t) ↔ Ord l := by
  unfold Ord
  rw [setU_length]
  simp only [wd_setU]
/-- What the landed EndWord answers. -/
def endI (l : LZ) (x : ByteArray) (t : Int) (p : Nat) : LZ × Bool :=
  if atP l x p = false ∨ (l.getD p none_Listed).2.2.1 < t then (l, false) else if islW (setU l p t) = true then (setU l p t, true) else (l, false)
theorem endI_eq {l : LZ} {x : ByteArray} {t : Int} {p : Nat} (h : Place l x p) : endI l x t p = endW l x t := by
  by_cases o : Ord l
  · unfold endI endW
    cases e : atP l x p
    · have := h.lost o (by rw [← atP_iff, e]; decide)
      rw [if_pos (Or.inl rfl), this, if_pos (by decide)]
    · have e2 := atP_iff.1 e
      rw [h.found o e2.1 e2.2, if_neg (show ¬ ((p : Int) < 0) by omega), Int.toNat_natCast]
      by_cases c : (l.getD p none_Listed).2.2.1 < t
      · rw [if_pos (Or.inr c), if_pos c]
      · rw [if_neg (by simp only [Bool.true_eq_false, false_or]; exact c), if_neg c]
  · have hn : ∀ k, islW (setU l k t) = false := fun k => not_isl (fun q => o (ord_setU.1 q))
    have h1 : endI l x t p = (l, false) := by
      unfold endI
      split
      · rfl
      · rw [hn, if_neg (by decide)]
    have h2 : endW l x t = (l, false) := by
      unfold endW
      split
      · rfl
      · split
        · rfl
        · rw [hn, if_neg (by decide)]
    rw [h1, h2]
/-- A list with x put at p. -/
def insAt (l : LZ) (p : Nat) (x : ByteArray × Int × Int × Int) : LZ := l.take p ++ [x] ++ l.drop p
theorem insAt_length {l : LZ} {p : Nat} {x : ByteArray × Int × Int × Int} (h : p ≤ l.length) : (insAt l p x).length = l.length + 1 := by
  unfold insAt; simp; omega
theorem wd_ins_lo {l : LZ} {p : Nat} {x : ByteArray × Int × Int × Int} (h : p ≤ l.length) (k : Nat) (hk : k < p) : wd (insAt l p x) k = wd l k := by
  unfold wd insAt
  rw [List.append_assoc, List.getD_eq_getElem?_getD, List.getElem?_append_left (by simp; omega), List.getElem?_take, if_pos hk, ← List.getD_eq_getElem?_getD]
theorem wd_ins_at {l : LZ} {p : Nat} {x : ByteArray × Int × Int × Int} (h : p ≤ l.length) : wd (insAt l p x) p = x.1 := by
  unfold wd insAt
  rw [List.append_assoc, List.getD_eq_getElem?_getD, List.getElem?_append_right (by simp; omega)]
  have e : p - (l.take p).length = 0 := by rw [List.length_take]; omega
  rw [e]
  rfl
theorem wd_ins_hi {l : LZ} {p : Nat} {x : ByteArray × Int × Int × Int} (h : p ≤ l.length) (k : Nat) (hk : p ≤ k) : wd (insAt l p x) (k + 1) = wd l k := by
  unfold wd insAt
  rw [List.getD_eq_getElem?_getD, List.getElem?_append_right (by simp; omega)]
  have e : k + 1 - (l.take p ++ [x]).length = k - p := by simp; omega
  rw [e, List.getElem?_drop, show p + (k - p) = k by omega, ← List.getD_eq_getElem?_getD]
theorem ord_ins {l : LZ} {p : Nat} {x : ByteArray × Int × Int × Int} (h : p ≤ l.length) (o : Ord (insAt l p x)) : Ord l := fun k hk => by
  have hL := insAt_length (x := x) h
  by_cases c1 : k + 1 < p
  · have := o k (by omega)
    rwa [wd_ins_lo h k (by omega), wd_ins_lo h (k + 1) c1] at this
  · by_cases c2 : k + 1 = p
    · have h1 := o k (by omega)
      have h2 := o p (by omega)
      rw [c2, wd_ins_lo h k (by omega), wd_ins_at h] at h1
      rw [wd_ins_at h, wd_ins_hi h p (Nat.le_refl _)] at h2
      rw [c2]
      exact bef_trans h1 h2
    · have := o (k + 1) (by omega)
      rwa [wd_ins_hi h k (by omega), wd_ins_hi h (k + 1) (by omega)] at this
/-- What the landed AddWord answers. -/
def addI (l : LZ) (x : ByteArray × Int × Int × Int) (p : Nat) : LZ × Bool := if islW (insAt l p x) = true then (insAt l p x, true) else (l, false)
theorem addI_eq {l : LZ} {x : ByteArray × Int × Int × Int} {p : Nat} (h : Place l x.1 p) : addI l x p = addW l x := by
  by_cases o : Ord l
  · have hp := h.pos o
    have hi : insW l x = insAt l p x := by unfold insW insAt; rw [hp]
    unfold addI addW
    rw [hi]
    by_cases c : p < l.length ∧ wd l p = x.1
    · rw [h.found o c.1 c.2, if_pos (show (0 : Int) ≤ (p : Int) by omega)]
      have hn : islW (insAt l p x) = false := not_isl (fun q => by
        have h9 := q p (by have := insAt_length (x := x) h.le; omega)
        rw [wd_ins_at h.le, wd_ins_hi h.le p (Nat.le_refl _), c.2, bef_self] at h9
        cases h9)
      rw [hn, if_neg (by decide)]
    · rw [h.lost o c, if_neg (show ¬ (0 : Int) ≤ -1 by decide)]
  · have h1 : addI l x p = (l, false) := by
      unfold addI
      rw [not_isl (fun q => o (ord_ins h.le q)), if_neg (by decide)]
    have h2 : addW l x = (l, false) := by
      unfold addW
      split
      · rfl
      · have hle : posW l x.1 ≤ l.length := List.findIdx_le_length
        rw [show insW l x = insAt l (posW l x.1) x from rfl, not_isl (fun q => o (ord_ins hle q)), if_neg (by decide)]
    rw [h1, h2]
/-- What a word found adds to the score. -/
theorem score_found {l : LZ} {x : ByteArray} {p : Nat} (h : Place l x p) (o : Ord l) : scoreAt l x = if atP l x p = true then (l.getD p none_Listed).2.2.2 else 0 := by
  unfold scoreAt
  cases e : atP l x p
  · rw [h.lost o (by rw [← atP_iff, e]; decide), if_pos (by decide), if_neg (by decide)]
  · have e2 := atP_iff.1 e
    rw [h.found o e2.1 e2.2, if_neg (show ¬ ((p : Int) < 0) by omega), Int.toNat_natCast, if_pos rfl]
/-- A round of the search by halving. -/
structure Halving (l : LZ) (x : ByteArray) (lo hi : Nat) : Prop where
  le : lo ≤ hi
  top : hi ≤ l.length
  left : 0 < lo → befW (wd l (lo - 1)) x = true
  right : hi < l.length → befW (wd l hi) x = false
theorem Halving.start (l : LZ) (x : ByteArray) : Halving l x 0 l.length := ⟨Nat.zero_le _, Nat.le_refl _, fun h => by omega, fun h => by omega⟩
theorem Halving.up {l : LZ} {x : ByteArray} {lo hi m : Nat} (h : Halving l x lo hi) (h2 : m < hi) (hb : befW (wd l m) x = true) : Halving l x (m + 1) hi := ⟨h2, h.top, fun _ => hb, h.right⟩
theorem Halving.down {l : LZ} {x : ByteArray} {lo hi m : Nat} (h : Halving l x lo hi) (h1 : lo ≤ m) (h2 : m < hi) (hb : befW (wd l m) x = false) : Halving l x lo m := ⟨h1, by have := h.top; omega, h.left, fun _ => hb⟩
theorem Halving.done {l : LZ} {x : ByteArray} {lo hi : Nat} (h : Halving l x lo hi) (e : ¬ lo < hi) : Place l x lo := by
  have e2 : lo = hi := by have := h.le; omega
  exact ⟨by rw [e2]; exact h.top, h.left, by rw [e2]; exact h.right⟩
end Go.Proofs.Ytcpojeiciaghmaa
