/-
  Plain facts on slots: the runs of a line, the slots of a grid in the order of their cells and line by line, numbers; what a stable sort makes of a list.
-/
import Derived.Test.YtmhgejljjjmejaaDoorGrid
namespace Go.Proofs.YtmhgejljjjmejaaDoor
open Go.RowKit

/-- What exchanges of neighbours that stand in the wrong order (the right one is less) make of a list. -/
inductive Bub {α : Type} (lt : α → α → Bool) : List α → List α → Prop
  | refl (l : List α) : Bub lt l l
  | step (p : List α) (x y : α) (q l : List α) : lt y x = true → Bub lt (p ++ y :: x :: q) l → Bub lt (p ++ x :: y :: q) l
theorem Bub.trans {α : Type} {lt : α → α → Bool} {a b c : List α} (h : Bub lt a b) (h2 : Bub lt b c) : Bub lt a c := by
  induction h with
  | refl => exact h2
  | step p x y q l hl _ ih => exact .step p x y q _ hl (ih h2)
theorem Bub.one {α : Type} {lt : α → α → Bool} (p : List α) (x y : α) (q : List α) (h : lt y x = true) : Bub lt (p ++ x :: y :: q) (p ++ y :: x :: q) := .step p x y q _ h (.refl _)
theorem Bub.ctx {α : Type} {lt : α → α → Bool} {a b : List α} (h : Bub lt a b) (p q : List α) : Bub lt (p ++ a ++ q) (p ++ b ++ q) := by
  induction h with
  | refl => exact .refl _
  | step p' x y q' l hl _ ih =>
    have h9 := Bub.step (p ++ p') x y (q' ++ q) (p ++ l ++ q) hl (by simpa using ih)
    simpa using h9
theorem Bub.perm {α : Type} {lt : α → α → Bool} {a b : List α} (h : Bub lt a b) : a.Perm b := by
  induction h with
  | refl => exact .refl _
  | step p x y q l _ _ ih => exact (List.Perm.append_left p (List.Perm.swap y x q)).trans ih
theorem Bub.length {α : Type} {lt : α → α → Bool} {a b : List α} (h : Bub lt a b) : a.length = b.length := h.perm.length_eq
/-- One element passes a block of greater ones, to the left. -/
theorem Bub.pass {α : Type} {lt : α → α → Bool} (A : List α) (y : α) (h : ∀ x ∈ A, lt y x = true) : Bub lt (A ++ [y]) (y :: A) := by
  induction A with
  | nil => exact .refl _
  | cons x A ih =>
    have h1 := (ih (fun z hz => h z (List.mem_cons_of_mem _ hz))).ctx [x] []
    simp only [List.append_nil] at h1
    exact Bub.trans h1 (Bub.one [] x y A (h x (List.mem_cons_self ..)))
theorem Bub.block {α : Type} {lt : α → α → Bool} (A B : List α) (h : ∀ x ∈ A, ∀ y ∈ B, lt y x = true) : Bub lt (A ++ B) (B ++ A) := by
  induction B with
  | nil => simpa using Bub.refl A
  | cons y B ih =>
    have h1 := (Bub.pass A y (fun x hx => h x hx y (List.mem_cons_self ..))).ctx [] B
    have h2 := (ih (fun x hx z hz => h x hx z (List.mem_cons_of_mem _ hz))).ctx [y] []
    simp only [List.nil_append, List.append_nil, List.append_assoc, List.cons_append] at h1 h2 ⊢
    exact Bub.trans h1 h2
/-- What keeps equals in their order is kept. -/
theorem Bub.keeps {α : Type} {lt : α → α → Bool} {R : α → α → Prop} (hR : ∀ x y, lt y x = true → R y x) {a b : List α} (h : Bub lt a b) (h0 : a.Pairwise R) : b.Pairwise R := by
  induction h with
  | refl => exact h0
  | step p x y q l hl _ ih =>
    refine ih ?_
    rw [List.pairwise_append] at h0 ⊢
    obtain ⟨h1, h2, h3⟩ := h0
    rw [List.pairwise_cons, List.pairwise_cons] at h2
    obtain ⟨h4, h5, h6⟩ := h2
    refine ⟨h1, ?_, ?_⟩
    · rw [List.pairwise_cons, List.pairwise_cons]
      refine ⟨fun z hz => ?_, fun z hz => h4 z (List.mem_cons_of_mem _ hz), h6⟩
      rcases List.mem_cons.1 hz with rfl | hz
      · exact hR _ _ hl
      · exact h5 z hz
    · intro u hu z hz
      refine h3 u hu z ?_
      simp only [List.mem_cons] at hz ⊢
      rcases hz with h | h | h
      · exact .inr (.inl h)
      · exact .inl h
      · exact .inr (.inr h)
/-- A list in a strict order is the only one of its elements. -/
theorem perm_strict {α : Type} {R : α → α → Prop} (hi : ∀ x y, R x y → R y x → False) {a b : List α} (hp : a.Perm b) (ha : a.Pairwise R) (hb : b.Pairwise R) : a = b :=
  List.Perm.eq_of_pairwise (fun x y _ _ h1 h2 => (hi x y h1 h2).elim) ha hb hp
abbrev SlotV := Int × Bool × Int × Int
/-- How many white cells follow one another from a place of a line on, if a longest part of them begins there. -/
def runAt (bs : List Bool) (j : Nat) : Nat :=
  if bs.getD j false && !(decide (0 < j) && bs.getD (j - 1) false) then ((bs.drop j).takeWhile id).length else 0
def whF (s : ByteArray) (k : Nat) : Bool := decide (s.data.toList.getD k 0 = 46)
def rowB (c : Nat) (s : ByteArray) (i : Nat) : List Bool := (List.range c).map fun j => whF s (i * c + j)
def colB (r c : Nat) (s : ByteArray) (j : Nat) : List Bool := (List.range r).map fun i => whF s (i * c + j)
def acN (c : Nat) (s : ByteArray) (k : Nat) : Nat := runAt (rowB c s (k / c)) (k % c)
def dnN (r c : Nat) (s : ByteArray) (k : Nat) : Nat := runAt (colB r c s (k % c)) (k / c)
def oneS (d : Bool) (k n : Nat) : List SlotV := if 2 ≤ n then [(0, d, (k : Int), (n : Int))] else []
/-- The slots before they have numbers. -/
def rawS (r c : Nat) (s : ByteArray) : List SlotV := (List.range (r * c)).flatMap fun k => oneS false k (acN c s k) ++ oneS true k (dnN r c s k)
/-- The slots across, row by row, then those down, column by column. -/
def linesS (r c : Nat) (s : ByteArray) : List SlotV :=
  ((List.range r).flatMap fun i => (List.range c).flatMap fun j => oneS false (i * c + j) (runAt (rowB c s i) j)) ++
  ((List.range c).flatMap fun j => (List.range r).flatMap fun i => oneS true (i * c + j) (runAt (colB r c s j) i))
/-- Numbers for slots whose first cells are in order. -/
def numS : Int → Int → List SlotV → List SlotV
  | _, _, [] => []
  | p, n, x :: l => (if x.2.2.1 = p then n else n + 1, x.2.1, x.2.2.1, x.2.2.2) :: numS x.2.2.1 (if x.2.2.1 = p then n else n + 1) l

theorem flatMap_split {α β : Type} (l : List α) (f g : α → List β) : (l.flatMap fun x => f x ++ g x).Perm (l.flatMap f ++ l.flatMap g) := by
  induction l with
  | nil => exact .refl _
  | cons x l ih =>
    simp only [List.flatMap_cons, List.append_assoc]
    refine List.Perm.append_left _ ?_
    refine (List.Perm.append_left _ ih).trans ?_
    rw [← List.append_assoc, ← List.append_assoc]
    exact List.Perm.append_right _ List.perm_append_comm
theorem flatMap_swap {α β γ : Type} (l : List α) (m : List β) (f : α → β → List γ) : (l.flatMap fun x => m.flatMap fun y => f x y).Perm (m.flatMap fun y => l.flatMap fun x => f x y) := by
  induction l with
  | nil => simp
  | cons x l ih =>
    simp only [List.flatMap_cons]
    exact (List.Perm.append_left _ ih).trans (flatMap_split m (fun y => f x y) (fun y => l.flatMap fun x => f x y)).symm
theorem range_mul {β : Type} (r c : Nat) (f : Nat → List β) : ((List.range (r * c)).flatMap f) = (List.range r).flatMap fun i => (List.range c).flatMap fun j => f (i * c + j) := by
  induction r with
  | zero => simp
  | succ r ih =>
    rw [Nat.succ_mul, List.range_add, List.flatMap_append, ih, List.range_succ, List.flatMap_append]
    congr 1
    simp only [List.flatMap_cons, List.flatMap_nil, List.append_nil, List.flatMap_map]
theorem div_in {c i j : Nat} (h : j < c) : (i * c + j) / c = i ∧ (i * c + j) % c = j := by
  have hc : 0 < c := by omega
  constructor
  · rw [Nat.mul_comm, Nat.mul_add_div hc, Nat.div_eq_of_lt h, Nat.add_zero]
  · rw [Nat.mul_comm, Nat.mul_add_mod, Nat.mod_eq_of_lt h]
theorem flatMap_congr' {α β : Type} {l : List α} {f g : α → List β} (h : ∀ x ∈ l, f x = g x) : l.flatMap f = l.flatMap g := by
  induction l with
  | nil => rfl
  | cons x l ih =>
    simp only [List.flatMap_cons]
    rw [h x (List.mem_cons_self ..), ih (fun y hy => h y (List.mem_cons_of_mem _ hy))]
theorem raw_lines (r c : Nat) (s : ByteArray) : (linesS r c s).Perm (rawS r c s) := by
  refine List.Perm.symm ?_
  unfold rawS linesS
  refine (flatMap_split _ _ _).trans ?_
  have h1 : ((List.range (r * c)).flatMap fun k => oneS false k (acN c s k)) = (List.range r).flatMap fun i => (List.range c).flatMap fun j => oneS false (i * c + j) (runAt (rowB c s i) j) := by
    rw [range_mul]
    refine flatMap_congr' fun i _ => flatMap_congr' fun j hj => ?_
    obtain ⟨e1, e2⟩ := div_in (i := i) (List.mem_range.1 hj)
    unfold acN
    rw [e1, e2]
  have h2 : ((List.range (r * c)).flatMap fun k => oneS true k (dnN r c s k)) = (List.range r).flatMap fun i => (List.range c).flatMap fun j => oneS true (i * c + j) (runAt (colB r c s j) i) := by
    rw [range_mul]
    refine flatMap_congr' fun i _ => flatMap_congr' fun j hj => ?_
    obtain ⟨e1, e2⟩ := div_in (i := i) (List.mem_range.1 hj)
    unfold dnN
    rw [e1, e2]
  rw [h1, h2]
  exact List.Perm.append_left _ (flatMap_swap _ _ _)
/-- The order of slots: by the first cell, across before down. -/
def befS (x y : SlotV) : Prop := x.2.2.1 < y.2.2.1 ∨ x.2.2.1 = y.2.2.1 ∧ x.2.1 = false ∧ y.2.1 = true
theorem befS_irr (x y : SlotV) (h : befS x y) (h2 : befS y x) : False := by
  unfold befS at h h2
  rcases h with h | ⟨h, h3, h4⟩ <;> rcases h2 with h2 | ⟨h2, h5, h6⟩
  · omega
  · omega
  · omega
  · rw [h3] at h6; cases h6
theorem oneS_mem {d : Bool} {k n : Nat} {x : SlotV} (h : x ∈ oneS d k n) : x = (0, d, (k : Int), (n : Int)) ∧ 2 ≤ n := by
  unfold oneS at h
  split at h
  · exact ⟨by simpa using h, by assumption⟩
  · cases h
theorem oneS_pw {d : Bool} {k n : Nat} {R : SlotV → SlotV → Prop} : (oneS d k n).Pairwise R := by
  unfold oneS
  split
  · exact List.pairwise_singleton ..
  · exact List.Pairwise.nil
theorem flatMap_pw {α β : Type} {R : β → β → Prop} {S : α → α → Prop} {l : List α} {f : α → List β} (hl : l.Pairwise S) (h1 : ∀ x ∈ l, (f x).Pairwise R) (h2 : ∀ x y, S x y → ∀ u ∈ f x, ∀ v ∈ f y, R u v) : (l.flatMap f).Pairwise R := by
  induction l with
  | nil => exact List.Pairwise.nil
  | cons x l ih =>
    rw [List.pairwise_cons] at hl
    rw [List.flatMap_cons, List.pairwise_append]
    refine ⟨h1 x (List.mem_cons_self ..), ih hl.2 (fun y hy => h1 y (List.mem_cons_of_mem _ hy)), fun u hu v hv => ?_⟩
    obtain ⟨y, hy, hv⟩ := List.mem_flatMap.1 hv
    exact h2 x y (hl.1 y hy) u hu v hv
theorem raw_sorted (r c : Nat) (s : ByteArray) : (rawS r c s).Pairwise befS := by
  unfold rawS
  refine flatMap_pw (S := (· < ·)) List.pairwise_lt_range (fun k _ => ?_) (fun k m hkm u hu v hv => ?_)
  · rw [List.pairwise_append]
    refine ⟨oneS_pw, oneS_pw, fun u hu v hv => ?_⟩
    obtain ⟨rfl, -⟩ := oneS_mem hu
    obtain ⟨rfl, -⟩ := oneS_mem hv
    exact .inr ⟨rfl, rfl, rfl⟩
  · have e1 : u.2.2.1 = (k : Int) := by
      rcases List.mem_append.1 hu with h | h <;> (obtain ⟨rfl, -⟩ := oneS_mem h; rfl)
    have e2 : v.2.2.1 = (m : Int) := by
      rcases List.mem_append.1 hv with h | h <;> (obtain ⟨rfl, -⟩ := oneS_mem h; rfl)
    left
    rw [e1, e2]
    omega
/-- What a stable sort by the first cell keeps: of two slots with one first cell the one across stands before the one down. -/
def eqS (x y : SlotV) : Prop := x.2.2.1 = y.2.2.1 → x.2.1 = false ∧ y.2.1 = true
theorem lines_eqS (r c : Nat) (s : ByteArray) : (linesS r c s).Pairwise eqS := by
  unfold linesS
  rw [List.pairwise_append]
  refine ⟨?_, ?_, fun u hu v hv => ?_⟩
  · refine flatMap_pw (S := (· < ·)) List.pairwise_lt_range (fun i _ => ?_) (fun i i' hi u hu v hv => ?_)
    · refine flatMap_pw (S := (· < ·)) List.pairwise_lt_range (fun _ _ => oneS_pw) (fun j j' hj u hu v hv => ?_)
      obtain ⟨rfl, -⟩ := oneS_mem hu
      obtain ⟨rfl, -⟩ := oneS_mem hv
      intro e
      simp only at e
      omega
    · obtain ⟨j, hj, hu⟩ := List.mem_flatMap.1 hu
      obtain ⟨j', hj', hv⟩ := List.mem_flatMap.1 hv
      obtain ⟨rfl, -⟩ := oneS_mem hu
      obtain ⟨rfl, -⟩ := oneS_mem hv
      rw [List.mem_range] at hj hj'
      intro e
      have e2 : i * c + j = i' * c + j' := Int.ofNat.inj e
      have e3 := congrArg (· / c) e2
      simp only [(div_in hj).1, (div_in hj').1] at e3
      omega
  · refine flatMap_pw (S := fun j j' => j < j' ∧ j < c ∧ j' < c) ?_ (fun j _ => ?_) (fun j j' hj u hu v hv => ?_)
    · refine List.Pairwise.imp_of_mem (R := (· < ·)) (fun {a b} ha hb h => ⟨h, List.mem_range.1 ha, List.mem_range.1 hb⟩) List.pairwise_lt_range
    · rename_i hj9
      have hj := List.mem_range.1 hj9
      refine flatMap_pw (S := (· < ·)) List.pairwise_lt_range (fun _ _ => oneS_pw) (fun i i' hi u hu v hv => ?_)
      obtain ⟨rfl, -⟩ := oneS_mem hu
      obtain ⟨rfl, -⟩ := oneS_mem hv
      intro e
      have e2 : i * c + j = i' * c + j := Int.ofNat.inj e
      have e3 := congrArg (· / c) e2
      simp only [(div_in hj).1] at e3
      omega
    · obtain ⟨i, hi, hu⟩ := List.mem_flatMap.1 hu
      obtain ⟨i', hi', hv⟩ := List.mem_flatMap.1 hv
      obtain ⟨rfl, -⟩ := oneS_mem hu
      obtain ⟨rfl, -⟩ := oneS_mem hv
      intro e
      have e2 : i * c + j = i' * c + j' := Int.ofNat.inj e
      have e3 := congrArg (· % c) e2
      simp only [(div_in hj.2.1).2, (div_in hj.2.2).2] at e3
      omega
  · obtain ⟨i, hi, hu⟩ := List.mem_flatMap.1 hu
    obtain ⟨j, hj, hu⟩ := List.mem_flatMap.1 hu
    obtain ⟨i', hi', hv⟩ := List.mem_flatMap.1 hv
    obtain ⟨j', hj', hv⟩ := List.mem_flatMap.1 hv
    obtain ⟨rfl, -⟩ := oneS_mem hu
    obtain ⟨rfl, -⟩ := oneS_mem hv
    intro _
    exact ⟨rfl, rfl⟩

theorem run_len : ∀ (bs : List Bool) (j n : Nat), (∀ i, i < n → bs.getD (j + i) false = true) → bs.getD (j + n) false = false → ((bs.drop j).takeWhile id).length = n := by
  intro bs
  induction bs with
  | nil =>
    intro j n h _
    rcases n with _ | n
    · simp
    · have := h 0 (by omega)
      simp at this
  | cons b bs ih =>
    intro j n h h2
    rcases j with _ | j
    · rcases n with _ | n
      · have hb : b = false := by simpa using h2
        simp [hb]
      · have hb : b = true := by simpa using h 0 (by omega)
        have h9 := ih 0 n (fun i hi => by have := h (i + 1) (by omega); simpa [Nat.add_assoc] using this) (by simpa using h2)
        simp only [List.drop_zero] at h9 ⊢
        rw [List.takeWhile_cons_of_pos (by simpa using hb), List.length_cons, h9]
    · refine ih j n (fun i hi => ?_) ?_
      · have := h i hi
        rwa [show j + 1 + i = (j + i) + 1 by omega, List.getD_cons_succ] at this
      · rwa [show j + 1 + n = (j + n) + 1 by omega, List.getD_cons_succ] at h2
theorem runAt_no1 {bs : List Bool} {j : Nat} (h : bs.getD j false = false) : runAt bs j = 0 := by
  unfold runAt
  rw [h]
  rfl
theorem runAt_no2 {bs : List Bool} {j : Nat} (h0 : 0 < j) (h : bs.getD (j - 1) false = true) : runAt bs j = 0 := by
  unfold runAt
  rw [h, decide_eq_true h0]
  simp
theorem runAt_yes {bs : List Bool} {j n : Nat} (h : bs.getD j false = true) (h0 : j = 0 ∨ bs.getD (j - 1) false = false) (h1 : ∀ i, i < n → bs.getD (j + i) false = true) (h2 : bs.getD (j + n) false = false) : runAt bs j = n := by
  unfold runAt
  rw [if_pos, run_len bs j n h1 h2]
  rw [h, Bool.true_and]
  rcases h0 with rfl | h0
  · rfl
  · rw [h0, Bool.and_false]; rfl
theorem rowB_get (c : Nat) (s : ByteArray) (i : Nat) {x : Nat} (h : x < c) : (rowB c s i).getD x false = whF s (i * c + x) := by
  unfold rowB
  rw [List.getD_eq_getElem?_getD, List.getElem?_map, List.getElem?_range h]
  rfl
theorem rowB_end (c : Nat) (s : ByteArray) (i : Nat) {x : Nat} (h : c ≤ x) : (rowB c s i).getD x false = false := by
  unfold rowB
  rw [List.getD_eq_getElem?_getD, List.getElem?_eq_none (by simpa using h)]
  rfl
theorem colB_get (r c : Nat) (s : ByteArray) (j : Nat) {x : Nat} (h : x < r) : (colB r c s j).getD x false = whF s (x * c + j) := by
  unfold colB
  rw [List.getD_eq_getElem?_getD, List.getElem?_map, List.getElem?_range h]
  rfl
theorem colB_end (r c : Nat) (s : ByteArray) (j : Nat) {x : Nat} (h : r ≤ x) : (colB r c s j).getD x false = false := by
  unfold colB
  rw [List.getD_eq_getElem?_getD, List.getElem?_eq_none (by simpa using h)]
  rfl
end Go.Proofs.YtmhgejljjjmejaaDoor
