/-
  Plain facts on slots, second part: what the finder makes of a line; numbers; the two orders are one.
-/
import Derived.Test.YtmhgejljjjmejaaDoorSlotImplD
import Derived.Test.YtmhgejljjjmejaaDoorSlotSort
namespace Go.Proofs.YtmhgejljjjmejaaDoor
open Go.RowKit

/-- The finder over places of a line. -/
abbrev PM := Nat × Nat × Nat × List (Nat × Nat)
def pend (m : PM) : PM := (0, m.2.1, m.2.2.1, if m.1 = 2 then m.2.2.2 ++ [(m.2.1, m.2.2.1)] else m.2.2.2)
def pstep (j : Nat) (wh : Bool) (m : PM) : PM := if wh = true then (if m.1 = 0 then (1, j, 1, m.2.2.2) else (2, m.2.1, m.2.2.1 + 1, m.2.2.2)) else pend m
def prun : List Bool → Nat → PM → PM
  | [], _, m => m
  | b :: bs, j, m => prun bs (j + 1) (pstep j b m)
def runsP (bs : List Bool) : List (Nat × Nat) := (List.range bs.length).flatMap fun j => if 2 ≤ runAt bs j then [(j, runAt bs j)] else []
def chkP (bs : List Bool) : Bool := decide ((pend (prun bs 0 (0, 0, 0, []))).2.2.2 = runsP bs) && decide ((runsP bs).length ≤ 2) && decide ((runsP bs.reverse).length = (runsP bs).length)
theorem chk0 : chkP [] = true := by decide +kernel
theorem chk1 : ∀ a, chkP [a] = true := by decide +kernel
theorem chk2 : ∀ a b, chkP [a, b] = true := by decide +kernel
theorem chk3 : ∀ a b c, chkP [a, b, c] = true := by decide +kernel
theorem chk4 : ∀ a b c d, chkP [a, b, c, d] = true := by decide +kernel
theorem chk5 : ∀ a b c d e, chkP [a, b, c, d, e] = true := by decide +kernel
theorem chk6 : ∀ a b c d e f, chkP [a, b, c, d, e, f] = true := by decide +kernel
theorem chk_all (bs : List Bool) (h : bs.length ≤ 6) : chkP bs = true := by
  match bs, h with
  | [], _ => exact chk0
  | [a], _ => exact chk1 a
  | [a, b], _ => exact chk2 a b
  | [a, b, c], _ => exact chk3 a b c
  | [a, b, c, d], _ => exact chk4 a b c d
  | [a, b, c, d, e], _ => exact chk5 a b c d e
  | [a, b, c, d, e, f], _ => exact chk6 a b c d e f
  | _ :: _ :: _ :: _ :: _ :: _ :: _ :: _, h => simp at h
theorem runs_facts (bs : List Bool) (h : bs.length ≤ 6) : (pend (prun bs 0 (0, 0, 0, []))).2.2.2 = runsP bs ∧ (runsP bs).length ≤ 2 ∧ (runsP bs.reverse).length = (runsP bs).length := by
  have h9 := chk_all bs h
  unfold chkP at h9
  rw [Bool.and_eq_true, Bool.and_eq_true] at h9
  exact ⟨of_decide_eq_true h9.1.1, of_decide_eq_true h9.1.2, of_decide_eq_true h9.2⟩
/-- The finder over a list of Booleans. -/
def frunB (dn : Bool) (f st : Nat) : List Bool → Nat → FM → FM
  | [], _, m => m
  | b :: bs, j, m => frunB dn f st bs (j + 1) (fstep dn (((f + j * st : Nat)) : Int) b m)
theorem frun_bits (dn : Bool) (wb : Int → Bool) (f st : Nat) : ∀ (n j : Nat) (m : FM), frun dn wb ((List.range' j n).map fun (k : Nat) => (f : Int) + (k : Int) * (st : Int)) m = frunB dn f st ((List.range' j n).map fun k => wb (((f + k * st : Nat)) : Int)) j m
  | 0, j, m => rfl
  | n + 1, j, m => by
    have e : (f : Int) + (j : Int) * (st : Int) = ((f + j * st : Nat) : Int) := by simp
    rw [List.range'_succ, List.map_cons, List.map_cons]
    show frun dn wb (_ :: _) m = frunB dn f st _ (j + 1) _
    rw [← frun_bits dn wb f st n (j + 1)]
    show List.foldl _ _ _ = _
    rw [List.foldl_cons, e]
    rfl
def toS (dn : Bool) (f st : Nat) (x : Nat × Nat) : SlotV := (0, dn, ((f + x.1 * st : Nat) : Int), (x.2 : Int))
def PRel (dn : Bool) (f st : Nat) (L : List SlotV) (m : FM) (p : PM) : Prop := m.1 = (p.1 : Int) ∧ (p.1 ≠ 0 → m.2.1 = ((f + p.2.1 * st : Nat) : Int) ∧ m.2.2.1 = (p.2.2.1 : Int)) ∧ m.2.2.2 = L ++ p.2.2.2.map (toS dn f st)
theorem prel_end {dn : Bool} {f st : Nat} {L : List SlotV} {m : FM} {p : PM} (h : PRel dn f st L m p) : PRel dn f st L (fend dn m) (pend p) := by
  obtain ⟨h1, h2, h3⟩ := h
  unfold fend pend
  refine ⟨rfl, fun e => absurd rfl e, ?_⟩
  show (if m.1 = 2 then _ else _ : List SlotV) = L ++ (if p.1 = 2 then _ else _ : List (Nat × Nat)).map _
  by_cases e : p.1 = 2
  · rw [if_pos (by omega), if_pos e, List.map_append, h3]
    obtain ⟨e1, e2⟩ := h2 (by omega)
    rw [e1, e2, List.append_assoc]
    rfl
  · rw [if_neg (by omega), if_neg e, h3]
theorem prel_step {dn : Bool} {f st : Nat} {L : List SlotV} {m : FM} {p : PM} (h : PRel dn f st L m p) (j : Nat) (b : Bool) : PRel dn f st L (fstep dn (((f + j * st : Nat)) : Int) b m) (pstep j b p) := by
  unfold fstep pstep
  cases b with
  | false =>
    rw [if_neg (by simp), if_neg (by simp)]
    exact prel_end h
  | true =>
    rw [if_pos rfl, if_pos rfl]
    obtain ⟨h1, h2, h3⟩ := h
    unfold fext
    by_cases e : p.1 = 0
    · rw [if_pos (by omega), if_pos e]
      exact ⟨rfl, fun _ => ⟨rfl, rfl⟩, h3⟩
    · obtain ⟨e1, e2⟩ := h2 e
      rw [if_neg (by omega), if_neg e]
      exact ⟨rfl, fun _ => ⟨e1, by show m.2.2.1 + 1 = ((p.2.2.1 + 1 : Nat) : Int); rw [e2]; simp⟩, h3⟩
theorem prel_run {dn : Bool} {f st : Nat} {L : List SlotV} : ∀ (bs : List Bool) (j : Nat) (m : FM) (p : PM), PRel dn f st L m p → PRel dn f st L (frunB dn f st bs j m) (prun bs j p)
  | [], _, _, _, h => h
  | b :: bs, j, _, _, h => prel_run bs (j + 1) _ _ (prel_step h j b)
/-- What the finder makes of a line of at most six cells. -/
theorem line_found (dn : Bool) (wb : Int → Bool) (f st n : Nat) (hn : n ≤ 6) (m : FM) (hm : m.1 = 0) :
    (fend dn (frun dn wb (stepL (f : Int) (st : Int) n) m)).1 = 0 ∧ (fend dn (frun dn wb (stepL (f : Int) (st : Int) n) m)).2.2.2 = m.2.2.2 ++ (List.range n).flatMap fun j => oneS dn (f + j * st) (runAt ((List.range n).map fun j => wb ((f + j * st : Nat) : Int)) j) := by
  refine ⟨rfl, ?_⟩
  unfold stepL
  rw [List.range_eq_range', frun_bits dn wb f st n 0 m]
  obtain ⟨bs, hbs⟩ : ∃ bs, bs = (List.range' 0 n).map fun k => wb ((f + k * st : Nat) : Int) := ⟨_, rfl⟩
  have hl : bs.length = n := by rw [hbs]; simp
  rw [← hbs]
  have h := prel_end (prel_run (dn := dn) (f := f) (st := st) (L := m.2.2.2) bs 0 m (0, 0, 0, []) ⟨hm, fun e => absurd rfl e, by simp⟩)
  rw [h.2.2, (runs_facts bs (by omega)).1]
  unfold runsP
  rw [hl, List.map_flatMap, ← List.range_eq_range']
  congr 1
  refine flatMap_congr' fun j _ => ?_
  unfold oneS
  split
  · rfl
  · rfl
/-- The cell and the number behind a list of slots. -/
def numE : Int → Int → List SlotV → Int × Int
  | p, n, [] => (p, n)
  | p, n, x :: l => numE x.2.2.1 (if x.2.2.1 = p then n else n + 1) l
theorem numS_append : ∀ (l m : List SlotV) (p n : Int), numS p n (l ++ m) = numS p n l ++ numS (numE p n l).1 (numE p n l).2 m
  | [], _, _, _ => rfl
  | x :: l, m, p, n => by
    show (_ :: numS _ _ (l ++ m)) = (_ :: numS _ _ l) ++ _
    rw [numS_append l m]
    rfl
theorem numE_append : ∀ (l m : List SlotV) (p n : Int), numE p n (l ++ m) = numE (numE p n l).1 (numE p n l).2 m
  | [], _, _, _ => rfl
  | _ :: l, m, _, _ => numE_append l m _ _
theorem numS_length : ∀ (l : List SlotV) (p n : Int), (numS p n l).length = l.length
  | [], _, _ => rfl
  | _ :: l, _, _ => by
    show (numS _ _ l).length + 1 = _
    rw [numS_length l]
    rfl
def rawTo (r c : Nat) (s : ByteArray) (k : Nat) : List SlotV := (List.range k).flatMap fun k => oneS false k (acN c s k) ++ oneS true k (dnN r c s k)
theorem rawTo_next (r c : Nat) (s : ByteArray) (k : Nat) : rawTo r c s (k + 1) = rawTo r c s k ++ (oneS false k (acN c s k) ++ oneS true k (dnN r c s k)) := by
  unfold rawTo
  rw [List.range_succ, List.flatMap_append]
  simp
theorem slTo_num (r c : Nat) (s : ByteArray) : ∀ k, (slTo r c s k).2 = numS (-1) 0 (rawTo r c s k) ∧ ((slTo r c s k).1 : Int) = (numE (-1) 0 (rawTo r c s k)).2 ∧ (numE (-1) 0 (rawTo r c s k)).1 < (k : Int)
  | 0 => ⟨rfl, rfl, by show (-1 : Int) < 0; decide⟩
  | k + 1 => by
    obtain ⟨h1, h2, h3⟩ := slTo_num r c s k
    rw [rawTo_next, numS_append, numE_append, ← h1, ← h2]
    show (stepSl (slTo r c s k) k _ _).2 = _ ∧ ((stepSl (slTo r c s k) k _ _).1 : Int) = _ ∧ _
    obtain ⟨p, hp⟩ : ∃ p, p = (numE (-1) 0 (rawTo r c s k)).1 := ⟨_, rfl⟩
    rw [← hp] at h3 ⊢
    generalize slTo r c s k = y
    generalize acN c s k = a
    generalize dnN r c s k = d
    have hne : ¬ ((k : Int) = p) := by omega
    have hlt : (k : Int) < ((k + 1 : Nat) : Int) := by omega
    by_cases ha : 2 ≤ a <;> by_cases hd : 2 ≤ d <;> simp [stepSl, oneS, numS, numE, ha, hd, hne] <;> omega
theorem slTo_raw (r c : Nat) (s : ByteArray) : (slTo r c s (r * c)).2 = numS (-1) 0 (rawS r c s) := (slTo_num r c s (r * c)).1
/-- What is sorted by the first cell, and keeps the order of equals, is the slots in their order. -/
theorem sorted_raw {r c : Nat} {s : ByteArray} {M : List SlotV} (hb : Bub ltS (linesS r c s) M) (hs : M.Pairwise leS) : M = rawS r c s := by
  have h1 : M.Pairwise eqS := Bub.keeps (R := eqS) (fun x y h e => by have := ltS_iff.1 h; omega) hb (lines_eqS r c s)
  have h2 : M.Pairwise befS := by
    have h3 := List.Pairwise.and hs h1
    refine h3.imp ?_
    rintro x y ⟨h4, h5⟩
    unfold leS at h4
    unfold befS
    rcases Int.lt_or_eq_of_le h4 with h6 | h6
    · exact .inl h6
    · exact .inr ⟨h6, h5 h6⟩
  exact perm_strict befS_irr (hb.perm.symm.trans (raw_lines r c s)) h2 (raw_sorted r c s)
theorem lines_length (r c : Nat) (s : ByteArray) (hr : r ≤ 6) (hc : c ≤ 6) : (linesS r c s).length ≤ 24 := by
  have h1 : ∀ (dn : Bool) (g : Nat → Nat) (bs : List Bool), bs.length ≤ 6 → ((List.range bs.length).flatMap fun j => oneS dn (g j) (runAt bs j)).length ≤ 2 := fun dn g bs h => by
    have h2 := (runs_facts bs h).2.1
    unfold runsP at h2
    rw [List.length_flatMap] at h2 ⊢
    refine Nat.le_trans (Nat.le_of_eq ?_) h2
    congr 1
    refine List.map_congr_left fun j _ => ?_
    unfold oneS
    split <;> rfl
  have h2 : ∀ (n : Nat) (g : Nat → List SlotV), (∀ i, (g i).length ≤ 2) → ((List.range n).flatMap g).length ≤ 2 * n := fun n g h => by
    induction n with
    | zero => simp
    | succ n ih =>
      rw [List.range_succ, List.flatMap_append, List.length_append]
      have := h n
      rw [List.flatMap_cons, List.flatMap_nil, List.append_nil]
      omega
  unfold linesS
  rw [List.length_append]
  have h3 := h2 r (fun i => (List.range c).flatMap fun j => oneS false (i * c + j) (runAt (rowB c s i) j)) (fun i => by
    have h9 := h1 false (fun j => i * c + j) (rowB c s i) (by unfold rowB; simp; omega)
    have e : (rowB c s i).length = c := by unfold rowB; simp
    rw [e] at h9
    exact h9)
  have h4 := h2 c (fun j => (List.range r).flatMap fun i => oneS true (i * c + j) (runAt (colB r c s j) i)) (fun j => by
    have h9 := h1 true (fun i => i * c + j) (colB r c s j) (by unfold colB; simp; omega)
    have e : (colB r c s j).length = r := by unfold colB; simp
    rw [e] at h9
    exact h9)
  omega
end Go.Proofs.YtmhgejljjjmejaaDoor
