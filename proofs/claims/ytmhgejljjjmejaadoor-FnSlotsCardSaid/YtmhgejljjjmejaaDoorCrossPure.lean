/-
  Plain facts on slots: the cells of a slot are white; at most two slots have a cell.
  Plain facts on crossings: the spots of a cell, the pairs of spots, the crossings in the order of their cells, the slots that cross one.
-/
import Derived.Test.YtmhgejljjjmejaaDoorSlotSpecE
import Derived.Test.YtmhgejljjjmejaaDoorSlotFacts
namespace Go.Proofs.YtmhgejljjjmejaaDoor
open Go.RowKit

theorem tw_white : ∀ (bs : List Bool) (j i : Nat), i < ((bs.drop j).takeWhile id).length → bs.getD (j + i) false = true := by
  intro bs
  induction bs with
  | nil => intro j i h; simp at h
  | cons b bs ih =>
    intro j i h
    rcases j with _ | j
    · rw [List.drop_zero] at h
      cases b with
      | false => simp at h
      | true =>
        rw [List.takeWhile_cons_of_pos (by rfl), List.length_cons] at h
        rcases i with _ | i
        · rfl
        · have := ih 0 i (by rw [List.drop_zero]; omega)
          rw [show 0 + (i + 1) = (0 + i) + 1 by omega, List.getD_cons_succ]
          exact this
    · have := ih j i (by simpa using h)
      rw [show j + 1 + i = (j + i) + 1 by omega, List.getD_cons_succ]
      exact this
theorem run_white {bs : List Bool} {j i : Nat} (h : i < runAt bs j) : bs.getD (j + i) false = true := by
  unfold runAt at h
  split at h
  · exact tw_white bs j i h
  · omega
theorem run_disj {bs : List Bool} {j j' i i' : Nat} (h : i < runAt bs j) (h' : i' < runAt bs j') (e : j + i = j' + i') : j = j' := by
  rcases Nat.lt_trichotomy j j' with hj | hj | hj
  · have h1 : bs.getD (j' - 1) false = true := by
      have := run_white (bs := bs) (j := j) (i := j' - 1 - j) (by omega)
      rwa [show j + (j' - 1 - j) = j' - 1 by omega] at this
    rw [runAt_no2 (by omega) h1] at h'
    omega
  · exact hj
  · have h1 : bs.getD (j - 1) false = true := by
      have := run_white (bs := bs) (j := j') (i := j - 1 - j') (by omega)
      rwa [show j' + (j - 1 - j') = j - 1 by omega] at this
    rw [runAt_no2 (by omega) h1] at h
    omega
theorem row_in {c : Nat} {s : ByteArray} {q x : Nat} (h : (rowB c s q).getD x false = true) : x < c := by
  refine Nat.lt_of_not_le fun h9 => ?_
  rw [rowB_end c s q h9] at h
  cases h
theorem col_in {r c : Nat} {s : ByteArray} {q x : Nat} (h : (colB r c s q).getD x false = true) : x < r := by
  refine Nat.lt_of_not_le fun h9 => ?_
  rw [colB_end r c s q h9] at h
  cases h
/-- A cell of a slot, in rows and columns. -/
theorem slot_cell {R C : Nat} {s : ByteArray} {x : SlotV} (hC : 2 ≤ C) (h : SlotAt R C s (R * C) x) (k : Nat) (hk : k < x.2.2.2.toNat) :
    ∃ m : Nat, m < R * C ∧ x.2.2.1 = m ∧ (x.2.1 = false → k < runAt (rowB C s (m / C)) (m % C) ∧ m % C + k < C ∧ whF s (m + k) = true ∧ m + k < R * C) ∧ (x.2.1 = true → k < runAt (colB R C s (m % C)) (m / C) ∧ m / C + k < R ∧ whF s (m + k * C) = true ∧ m + k * C < R * C) := by
  obtain ⟨m, hm, e1, -, ha, hd⟩ := h
  refine ⟨m, hm, e1, fun hx => ?_, fun hx => ?_⟩
  · obtain ⟨e2, -⟩ := ha hx
    have h1 : k < runAt (rowB C s (m / C)) (m % C) := by
      have e3 : acN C s m = runAt (rowB C s (m / C)) (m % C) := rfl
      omega
    have h2 := run_white h1
    have h3 := row_in h2
    rw [rowB_get C s _ h3] at h2
    have h4 : m / C * C + (m % C + k) = m + k := by
      have := Nat.div_add_mod m C
      rw [Nat.mul_comm] at this
      omega
    rw [h4] at h2
    refine ⟨h1, h3, h2, ?_⟩
    have h5 : m / C < R := Nat.div_lt_of_lt_mul (by rw [Nat.mul_comm]; exact hm)
    have h6 : (m / C + 1) * C ≤ R * C := Nat.mul_le_mul_right C h5
    rw [Nat.add_mul] at h6
    omega
  · obtain ⟨e2, -⟩ := hd hx
    have h1 : k < runAt (colB R C s (m % C)) (m / C) := by
      have e3 : dnN R C s m = runAt (colB R C s (m % C)) (m / C) := rfl
      omega
    have h2 := run_white h1
    have h3 := col_in h2
    rw [colB_get R C s _ h3] at h2
    have h4 : (m / C + k) * C + m % C = m + k * C := by
      have := Nat.div_add_mod m C
      rw [Nat.mul_comm] at this
      rw [Nat.add_mul]
      omega
    rw [h4] at h2
    refine ⟨h1, h3, h2, ?_⟩
    have h6 : (m / C + k + 1) * C ≤ R * C := Nat.mul_le_mul_right C h3
    have h7 : m % C < C := Nat.mod_lt _ (by omega)
    rw [Nat.add_mul] at h6
    omega
theorem isWh_of {g : Int × Int × ByteArray} {n : Nat} (hg : isG g = true) (h1 : n < g.2.2.size) (h2 : whF g.2.2 n = true) : isWh g (n : Int) = true := by
  unfold isWh
  rw [hg, decide_eq_true (show (0 : Int) ≤ n ∧ (n : Int) ≤ (g.2.2.size : Int) - 1 by omega)]
  unfold whF at h2
  simpa using h2
theorem slG_at {g : Int × Int × ByteArray} {x : SlotV} (h : x ∈ slG g) : ∃ R C : Nat, isG g = true ∧ g.1 = R ∧ g.2.1 = C ∧ 2 ≤ R ∧ R ≤ 6 ∧ 2 ≤ C ∧ C ≤ 6 ∧ g.2.2.size = R * C ∧ SlotAt R C g.2.2 (R * C) x := by
  rcases slG_cases g with h0 | ⟨R, C, hg, e1, e2, h1, h2, h3, h4, h5, h6, h7⟩
  · rw [h0] at h; cases h
  · rw [h7] at h
    exact ⟨R, C, hg, e1, e2, h1, h2, h3, h4, h5, slTo_mem _ _ _ _ _ h⟩
/-- The cells of a slot are white. -/
theorem slot_white {g : Int × Int × ByteArray} {x : SlotV} (h : x ∈ slG g) (k : Nat) (hk : k < x.2.2.2.toNat) : isWh g (x.2.2.1 + (k : Int) * (if x.2.1 = true then g.2.1 else 1)) = true := by
  obtain ⟨R, C, hg, e1, e2, h1, h2, h3, h4, h5, h6⟩ := slG_at h
  obtain ⟨m, hm, e3, ha, hd⟩ := slot_cell h3 h6 k hk
  rcases hx : x.2.1 with _ | _
  · obtain ⟨-, -, h7, h8⟩ := ha hx
    rw [e3, show (m : Int) + (k : Int) * (if false = true then g.2.1 else 1) = ((m + k : Nat) : Int) by simp]
    exact isWh_of hg (by omega) h7
  · obtain ⟨-, -, h7, h8⟩ := hd hx
    rw [e3, e2, show (m : Int) + (k : Int) * (if true = true then (C : Int) else 1) = ((m + k * C : Nat) : Int) by simp]
    exact isWh_of hg (by omega) h7
/-- Two slots of one direction with a cell in common begin at the same cell. -/
theorem slots_apart {g : Int × Int × ByteArray} {x y : SlotV} (hx : x ∈ slG g) (hy : y ∈ slG g) (hd : x.2.1 = y.2.1) {q : Int} (hxq : q ∈ cellsS g.2.1 x) (hyq : q ∈ cellsS g.2.1 y) : x.2.2.1 = y.2.2.1 := by
  obtain ⟨R, C, hg, e1, e2, h1, h2, h3, h4, h5, h6⟩ := slG_at hx
  obtain ⟨R', C', -, f1, f2, -, -, -, -, -, g6⟩ := slG_at hy
  obtain rfl : R' = R := by omega
  obtain rfl : C' = C := by omega
  unfold cellsS at hxq hyq
  obtain ⟨k, hk, ek⟩ := List.mem_map.1 hxq
  obtain ⟨k', hk', ek'⟩ := List.mem_map.1 hyq
  rw [List.mem_range] at hk hk'
  obtain ⟨m, hm, e3, ha, hb⟩ := slot_cell h3 h6 k hk
  obtain ⟨m', hm', e3', ha', hb'⟩ := slot_cell h3 g6 k' hk'
  have hdm := Nat.div_add_mod m C'
  have hdm' := Nat.div_add_mod m' C'
  rcases hx1 : x.2.1 with _ | _
  · rw [hx1] at ek hd
    rw [← hd] at ek'
    obtain ⟨p1, p2, -, -⟩ := ha hx1
    obtain ⟨q1, q2, -, -⟩ := ha' hd.symm
    have e9 : m + k = m' + k' := by
      have e8 : (m : Int) + k = m' + k' := by
        rw [e3] at ek; rw [e3'] at ek'
        simp at ek ek'
        omega
      omega
    have e10 : m / C' = m' / C' := by
      have a1 : (m + k) / C' = m / C' := by
        rw [show m + k = C' * (m / C') + (m % C' + k) by omega, Nat.mul_add_div (by omega), Nat.div_eq_of_lt p2, Nat.add_zero]
      have a2 : (m' + k') / C' = m' / C' := by
        rw [show m' + k' = C' * (m' / C') + (m' % C' + k') by omega, Nat.mul_add_div (by omega), Nat.div_eq_of_lt q2, Nat.add_zero]
      rw [← a1, ← a2, e9]
    rw [← e10] at q1
    have e11 := run_disj p1 q1 (by rw [← e10] at hdm'; omega)
    rw [e3, e3']
    rw [e10, e11] at hdm
    omega
  · rw [hx1] at ek hd
    rw [← hd] at ek'
    obtain ⟨p1, p2, -, -⟩ := hb hx1
    obtain ⟨q1, q2, -, -⟩ := hb' hd.symm
    have e9 : m + k * C' = m' + k' * C' := by
      have e8 : (m : Int) + k * C' = m' + k' * C' := by
        rw [e3, e2] at ek; rw [e3', e2] at ek'
        simp at ek ek'
        omega
      exact Int.ofNat.inj (by simpa using e8)
    have e10 : m % C' = m' % C' := by
      have a1 := congrArg (· % C') e9
      simpa using a1
    have e12 : m / C' + k = m' / C' + k' := by
      have a1 := congrArg (· / C') e9
      rwa [Nat.add_mul_div_right _ _ (by omega), Nat.add_mul_div_right _ _ (by omega)] at a1
    rw [← e10] at q1
    have e11 := run_disj p1 q1 e12
    rw [e3, e3']
    rw [e10, e11] at hdm
    omega
/-- At most two slots have a cell. -/
theorem atS_two (g : Int × Int × ByteArray) (q : Int) : (atS (slG g) g.2.1 q).length ≤ 2 := by
  have hP : ∀ i j : Nat, i < j → i < (slG g).length → j < (slG g).length → hasI (cellsS g.2.1 ((slG g).getD i none_Slot)) q = true → hasI (cellsS g.2.1 ((slG g).getD j none_Slot)) q = true → ((slG g).getD i none_Slot).2.1 ≠ ((slG g).getD j none_Slot).2.1 := by
    intro i j hij hi hj h1 h2 hd
    have e1 := slots_apart (getD_in hi) (getD_in hj) hd (hasI_iff.1 h1) (hasI_iff.1 h2)
    have h3 := slG_pw g
    rw [List.pairwise_iff_getElem] at h3
    have h4 := h3 i j hi hj hij
    have e2 : (slG g)[i] = (slG g).getD i none_Slot := by simp [List.getD, hi]
    have e3 : (slG g)[j] = (slG g).getD j none_Slot := by simp [List.getD, hj]
    rw [e2, e3] at h4
    rcases h4 with h4 | ⟨h4, h5, h6⟩
    · omega
    · rw [h5, h6] at hd; cases hd
  unfold atS
  rw [List.length_map]
  have hpw : ((List.range (slG g).length).filter fun i => hasI (cellsS g.2.1 ((slG g).getD i none_Slot)) q).Pairwise fun i j => ((slG g).getD i none_Slot).2.1 ≠ ((slG g).getD j none_Slot).2.1 := by
    have h1 : ((List.range (slG g).length).filter fun i => hasI (cellsS g.2.1 ((slG g).getD i none_Slot)) q).Pairwise (· < ·) := List.Pairwise.filter _ List.pairwise_lt_range
    refine List.Pairwise.imp_of_mem (fun {a b} ha hb hab => ?_) h1
    rw [List.mem_filter, List.mem_range] at ha hb
    exact hP a b hab ha.1 hb.1 ha.2 hb.2
  revert hpw
  generalize ((List.range (slG g).length).filter fun i => hasI (cellsS g.2.1 ((slG g).getD i none_Slot)) q) = L
  intro hpw
  match L, hpw with
  | [], _ => simp
  | [_], _ => simp
  | [_, _], _ => simp
  | a :: b :: c :: L, hpw =>
    exfalso
    rw [List.pairwise_cons, List.pairwise_cons] at hpw
    have h1 := hpw.1 b (by simp)
    have h2 := hpw.1 c (by simp)
    have h3 := hpw.2.1 c (by simp)
    revert h1 h2 h3
    generalize ((slG g).getD a none_Slot).2.1 = x
    generalize ((slG g).getD b none_Slot).2.1 = y
    generalize ((slG g).getD c none_Slot).2.1 = z
    cases x <;> cases y <;> cases z <;> simp
/-- A cell that a slot has is white. -/
theorem cells_white {g : Int × Int × ByteArray} {x : SlotV} (h : x ∈ slG g) {q : Int} (hq : q ∈ cellsS g.2.1 x) : isWh g q = true := by
  unfold cellsS at hq
  obtain ⟨k, hk, rfl⟩ := List.mem_map.1 hq
  rw [List.mem_range] at hk
  exact slot_white h k hk
theorem atS_white {g : Int × Int × ByteArray} {q : Int} (h : 0 < (atS (slG g) g.2.1 q).length) : isWh g q = true := by
  obtain ⟨y, hy⟩ := List.exists_mem_of_length_pos h
  unfold atS at hy
  obtain ⟨i, hi, -⟩ := List.mem_map.1 hy
  rw [List.mem_filter, List.mem_range] at hi
  exact cells_white (getD_in hi.1) (hasI_iff.1 hi.2)
/-- SlotsAt finds a slot by each of its cells. -/
theorem atS_has {g : Int × Int × ByteArray} {i : Nat} (hi : i < (slG g).length) {q : Int} (hq : q ∈ cellsS g.2.1 ((slG g).getD i none_Slot)) : (i : Int) ∈ atS (slG g) g.2.1 q := by
  unfold atS
  refine List.mem_map.2 ⟨i, ?_, rfl⟩
  rw [List.mem_filter, List.mem_range]
  exact ⟨hi, hasI_iff.2 hq⟩
end Go.Proofs.YtmhgejljjjmejaaDoor
namespace Go.Proofs.YtmhgejljjjmejaaDoor
open Go.RowKit

abbrev PairV := (Nat × Nat) × (Nat × Nat)
def stepP (o : Option PairV) (x : Nat × Nat) : Option PairV := match o with
  | none => some (x, (0, 0))
  | some p => some (p.1, x)
/-- What is known of a cell behind a list of spots (cell, slot, place). -/
def pairQ (L : List (Int × Nat × Nat)) (q : Int) : Option PairV := (L.filter fun x => decide (x.1 = q)).foldl (fun o x => stepP o x.2) none
theorem pairQ_nil (q : Int) : pairQ [] q = none := rfl
theorem pairQ_same (L : List (Int × Nat × Nat)) (x : Int × Nat × Nat) : pairQ (L ++ [x]) x.1 = stepP (pairQ L x.1) x.2 := by
  unfold pairQ
  rw [List.filter_append, List.foldl_append, List.filter_cons_of_pos (by simp)]
  rfl
theorem pairQ_other (L : List (Int × Nat × Nat)) (x : Int × Nat × Nat) {q : Int} (h : x.1 ≠ q) : pairQ (L ++ [x]) q = pairQ L q := by
  unfold pairQ
  rw [List.filter_append, List.filter_cons_of_neg (by simpa using h)]
  simp
/-- The spots of the slot of index i, in order. -/
def spotsOf (c : Int) (i : Nat) (x : SlotV) : List (Int × Nat × Nat) := (List.range (cellsS c x).length).map fun k => ((cellsS c x).getD k 0, i, k)
def spotsTo (c : Int) (l : List SlotV) (n : Nat) : List (Int × Nat × Nat) := (List.range n).flatMap fun i => spotsOf c i (l.getD i none_Slot)
def spotsIn (c : Int) (i : Nat) (x : SlotV) (m : Nat) : List (Int × Nat × Nat) := (List.range m).map fun k => ((cellsS c x).getD k 0, i, k)
theorem spotsTo_next (c : Int) (l : List SlotV) (n : Nat) : spotsTo c l (n + 1) = spotsTo c l n ++ spotsIn c n (l.getD n none_Slot) (cellsS c (l.getD n none_Slot)).length := by
  unfold spotsTo
  rw [List.range_succ, List.flatMap_append]
  simp [spotsOf, spotsIn]
theorem spotsIn_next (c : Int) (i : Nat) (x : SlotV) (m : Nat) : spotsIn c i x (m + 1) = spotsIn c i x m ++ [((cellsS c x).getD m 0, i, m)] := by
  unfold spotsIn
  rw [List.range_succ, List.map_append]
  rfl
/-- The place of a number in a list; the list's length if it is not there. -/
def placeI (l : List Int) (q : Int) : Nat := l.findIdx fun y => decide (y = q)
theorem one_hit (l : List Int) (hn : l.Nodup) (q : Int) : ((List.range l.length).filter fun k => decide (l.getD k 0 = q)) = if hasI l q = true then [placeI l q] else [] := by
  induction l with
  | nil => simp [hasI]
  | cons a l ih =>
    rw [List.nodup_cons] at hn
    have ih2 := ih hn.2
    have e : (List.range (a :: l).length) = 0 :: (List.range l.length).map (· + 1) := by
      rw [List.length_cons, List.range_succ_eq_map]
    rw [e, List.filter_cons, List.filter_map]
    have e2 : ((List.range l.length).filter ((fun k => decide ((a :: l).getD k 0 = q)) ∘ fun x => x + 1)) = (List.range l.length).filter fun k => decide (l.getD k 0 = q) := by
      apply List.filter_congr
      intro k _
      simp
    rw [e2, ih2]
    by_cases ha : a = q
    · subst ha
      have h0 : hasI l a = false := by
        rw [Bool.eq_false_iff]
        intro h
        exact hn.1 (hasI_iff.1 h)
      have h1 : hasI (a :: l) a = true := hasI_iff.2 (by simp)
      rw [h0, h1]
      simp [placeI, List.findIdx_cons]
    · have h1 : hasI (a :: l) q = hasI l q := by
        unfold hasI
        rw [List.any_cons, decide_eq_false ha, Bool.false_or]
      rw [h1]
      have hz : decide ((a :: l).getD 0 0 = q) = false := decide_eq_false (by simpa using ha)
      rw [hz]
      by_cases h : hasI l q = true
      · rw [if_pos h]
        simp [h, placeI, List.findIdx_cons, ha]
      · rw [if_neg h]
        simp [h]
theorem spots_hit (c : Int) (i : Nat) (x : SlotV) (hn : (cellsS c x).Nodup) (q : Int) : ((spotsOf c i x).filter fun y => decide (y.1 = q)).map (·.2) = if hasI (cellsS c x) q = true then [(i, placeI (cellsS c x) q)] else [] := by
  unfold spotsOf
  rw [List.filter_map]
  have h := one_hit (cellsS c x) hn q
  have e : ((fun y : Int × Nat × Nat => decide (y.1 = q)) ∘ fun k => ((cellsS c x).getD k 0, i, k)) = fun k => decide ((cellsS c x).getD k 0 = q) := rfl
  rw [e, h]
  by_cases h9 : hasI (cellsS c x) q = true
  · rw [if_pos h9, if_pos h9]; rfl
  · rw [if_neg h9, if_neg h9]; rfl
/-- The indices of the slots that have a cell. -/
def inS (l : List SlotV) (c q : Int) : List Nat := (List.range l.length).filter fun i => hasI (cellsS c (l.getD i none_Slot)) q
theorem atS_inS (l : List SlotV) (c q : Int) : atS l c q = (inS l c q).map fun (i : Nat) => (i : Int) := rfl
theorem spots_all (c : Int) (l : List SlotV) (hn : ∀ x ∈ l, (cellsS c x).Nodup) (q : Int) : ∀ n, n ≤ l.length → ((spotsTo c l n).filter fun y => decide (y.1 = q)).map (·.2) = ((List.range n).filter fun i => hasI (cellsS c (l.getD i none_Slot)) q).map fun i => (i, placeI (cellsS c (l.getD i none_Slot)) q)
  | 0, _ => rfl
  | n + 1, h => by
    have h1 := spots_all c l hn q n (by omega)
    have h2 : spotsTo c l (n + 1) = spotsTo c l n ++ spotsOf c n (l.getD n none_Slot) := by
      unfold spotsTo
      rw [List.range_succ, List.flatMap_append]
      simp
    rw [h2, List.filter_append, List.map_append, h1, spots_hit c n _ (hn _ (getD_in (by omega))) q, List.range_succ, List.filter_append, List.map_append]
    congr 1
    by_cases h9 : hasI (cellsS c (l.getD n none_Slot)) q = true
    · rw [if_pos h9, List.filter_cons_of_pos (p := fun i => hasI (cellsS c (l.getD i none_Slot)) q) h9]; rfl
    · rw [if_neg h9, List.filter_cons_of_neg (p := fun i => hasI (cellsS c (l.getD i none_Slot)) q) h9]; rfl
theorem foldP (L : List (Int × Nat × Nat)) : ∀ o, L.foldl (fun o x => stepP o x.2) o = (L.map (·.2)).foldl stepP o := by
  induction L with
  | nil => intro o; rfl
  | cons x L ih => intro o; exact ih _
/-- A crossing: the two slots, their places, the cell. -/
abbrev CrossV := Int × Int × Int × Int × Int
def pairOf (l : List SlotV) (c q : Int) : Option PairV := pairQ (spotsTo c l l.length) q
def chkL (l : List SlotV) (c q : Int) : Bool := decide ((inS l c q).length = 2)
def crossAt (l : List SlotV) (c q : Int) : List CrossV := match inS l c q with
  | [i, j] => [((i : Int), (j : Int), (placeI (cellsS c (l.getD i none_Slot)) q : Int), (placeI (cellsS c (l.getD j none_Slot)) q : Int), q)]
  | _ => []
theorem pairOf_eq (l : List SlotV) (c q : Int) (hn : ∀ x ∈ l, (cellsS c x).Nodup) : pairOf l c q = ((inS l c q).map fun i => (i, placeI (cellsS c (l.getD i none_Slot)) q)).foldl stepP none := by
  unfold pairOf pairQ
  rw [foldP, spots_all c l hn q l.length (Nat.le_refl _)]
  rfl
theorem inS_pw (l : List SlotV) (c q : Int) : (inS l c q).Pairwise (· < ·) := List.Pairwise.filter _ List.pairwise_lt_range
theorem inS_mem {l : List SlotV} {c q : Int} {i : Nat} (h : i ∈ inS l c q) : i < l.length ∧ q ∈ cellsS c (l.getD i none_Slot) := by
  unfold inS at h
  rw [List.mem_filter, List.mem_range] at h
  exact ⟨h.1, hasI_iff.1 h.2⟩
theorem inS_of {l : List SlotV} {c q : Int} {i : Nat} (h : i < l.length) (hq : q ∈ cellsS c (l.getD i none_Slot)) : i ∈ inS l c q := by
  unfold inS
  rw [List.mem_filter, List.mem_range]
  exact ⟨h, hasI_iff.2 hq⟩
/-- Whether the pair has a second spot. -/
def secP (p : PairV) : Bool := !(decide (p.2.1 = 0) && decide (p.2.2 = 0))
theorem pair_cross (l : List SlotV) (c q : Int) (hn : ∀ x ∈ l, (cellsS c x).Nodup) (h2 : (inS l c q).length ≤ 2) :
    secP ((pairOf l c q).getD ((0, 0), (0, 0))) = chkL l c q ∧ crossAt l c q = if secP ((pairOf l c q).getD ((0, 0), (0, 0))) = true then [((((pairOf l c q).getD ((0, 0), (0, 0))).1.1 : Int), (((pairOf l c q).getD ((0, 0), (0, 0))).2.1 : Int), (((pairOf l c q).getD ((0, 0), (0, 0))).1.2 : Int), (((pairOf l c q).getD ((0, 0), (0, 0))).2.2 : Int), q)] else [] := by
  rw [pairOf_eq l c q hn]
  unfold crossAt chkL
  have hp := inS_pw l c q
  revert h2 hp
  generalize inS l c q = A
  intro h2 hp
  match A, h2, hp with
  | [], _, _ => exact ⟨rfl, rfl⟩
  | [i], _, _ => exact ⟨rfl, rfl⟩
  | [i, j], _, hp =>
    have hij : i < j := by simpa using hp
    have e : secP (((i, placeI (cellsS c (l.getD i none_Slot)) q), (j, placeI (cellsS c (l.getD j none_Slot)) q))) = true := by
      unfold secP
      rw [decide_eq_false (show ¬ j = 0 by omega)]
      rfl
    refine ⟨e, ?_⟩
    show _ = if secP (((i, placeI (cellsS c (l.getD i none_Slot)) q), (j, placeI (cellsS c (l.getD j none_Slot)) q))) = true then _ else _
    rw [if_pos e]
    rfl
  | _ :: _ :: _ :: _, h2, _ => simp at h2
theorem cellsS_nodup (c : Int) (hc : 1 ≤ c) (x : SlotV) : (cellsS c x).Nodup := by
  unfold cellsS
  rw [List.nodup_iff_pairwise_ne, List.pairwise_map]
  refine List.Pairwise.imp (fun {a b} hab he => ?_) List.pairwise_lt_range
  split at he
  · have h1 : ((b : Int) - a) * c = 0 := by rw [Int.sub_mul]; omega
    rcases Int.mul_eq_zero.1 h1 with h1 | h1 <;> omega
  · omega
theorem slG_cells_nodup {g : Int × Int × ByteArray} : ∀ x ∈ slG g, (cellsS g.2.1 x).Nodup := fun x h => by
  obtain ⟨R, C, -, -, e2, -, -, h3, -⟩ := slG_at h
  exact cellsS_nodup _ (by omega) x
theorem inS_two (g : Int × Int × ByteArray) (q : Int) : (inS (slG g) g.2.1 q).length ≤ 2 := by
  have h := atS_two g q
  rw [atS_inS, List.length_map] at h
  exact h
/-- Two slots of one cell have different directions. -/
theorem dirs_apart {g : Int × Int × ByteArray} {i j : Nat} (hij : i < j) (hi : i < (slG g).length) (hj : j < (slG g).length) {q : Int} (h1 : q ∈ cellsS g.2.1 ((slG g).getD i none_Slot)) (h2 : q ∈ cellsS g.2.1 ((slG g).getD j none_Slot)) : ((slG g).getD i none_Slot).2.1 ≠ ((slG g).getD j none_Slot).2.1 := by
  intro hd
  have e1 := slots_apart (getD_in hi) (getD_in hj) hd h1 h2
  have h3 := slG_pw g
  rw [List.pairwise_iff_getElem] at h3
  have h4 := h3 i j hi hj hij
  have e2 : (slG g)[i] = (slG g).getD i none_Slot := by simp [List.getD, hi]
  have e3 : (slG g)[j] = (slG g).getD j none_Slot := by simp [List.getD, hj]
  rw [e2, e3] at h4
  rcases h4 with h4 | ⟨h4, h5, h6⟩
  · omega
  · rw [h5, h6] at hd; cases hd
/-- Two slots have one cell in common at most. -/
theorem cross_once0 {g : Int × Int × ByteArray} {x y : SlotV} (hx : x ∈ slG g) (hy : y ∈ slG g) (dx : x.2.1 = false) (dy : y.2.1 = true) {q q' : Int} (h1 : q ∈ cellsS g.2.1 x) (h2 : q ∈ cellsS g.2.1 y) (h3 : q' ∈ cellsS g.2.1 x) (h4 : q' ∈ cellsS g.2.1 y) : q = q' := by
  obtain ⟨R, C, hg, e1, e2, -, -, g3, g4, g5, g6⟩ := slG_at hx
  obtain ⟨R', C', -, f1, f2, -, -, -, -, -, k6⟩ := slG_at hy
  obtain rfl : R' = R := by omega
  obtain rfl : C' = C := by omega
  unfold cellsS at h1 h2 h3 h4
  obtain ⟨k1, hk1, r1⟩ := List.mem_map.1 h1
  obtain ⟨k2, hk2, r2⟩ := List.mem_map.1 h2
  obtain ⟨k3, hk3, r3⟩ := List.mem_map.1 h3
  obtain ⟨k4, hk4, r4⟩ := List.mem_map.1 h4
  rw [List.mem_range] at hk1 hk2 hk3 hk4
  rw [dx] at r1 r3
  rw [dy, e2] at r2 r4
  obtain ⟨m1, -, p1, a1, -⟩ := slot_cell g3 g6 k1 hk1
  obtain ⟨m3, -, p3, a3, -⟩ := slot_cell g3 g6 k3 hk3
  obtain ⟨m2, -, p2, -, b2⟩ := slot_cell g3 k6 k2 hk2
  obtain ⟨m4, -, p4, -, b4⟩ := slot_cell g3 k6 k4 hk4
  obtain ⟨-, l1, -, -⟩ := a1 dx
  obtain ⟨-, l3, -, -⟩ := a3 dx
  obtain rfl : m3 = m1 := by omega
  obtain rfl : m4 = m2 := by omega
  rw [p1] at r1 r3
  rw [p2] at r2 r4
  simp at r1 r2 r3 r4
  obtain ⟨Q, rfl⟩ : ∃ Q : Nat, q = Q := ⟨m3 + k1, by omega⟩
  obtain ⟨Q', rfl⟩ : ∃ Q' : Nat, q' = Q' := ⟨m3 + k3, by omega⟩
  have hdm := Nat.div_add_mod m3 C'
  have s1 : Q / C' = m3 / C' := by
    rw [show Q = C' * (m3 / C') + (m3 % C' + k1) by omega, Nat.mul_add_div (by omega), Nat.div_eq_of_lt l1, Nat.add_zero]
  have s3 : Q' / C' = m3 / C' := by
    rw [show Q' = C' * (m3 / C') + (m3 % C' + k3) by omega, Nat.mul_add_div (by omega), Nat.div_eq_of_lt l3, Nat.add_zero]
  have t2 : Q = m4 + k2 * C' := by
    have : ((m4 + k2 * C' : Nat) : Int) = (Q : Int) := by rw [← r2]; simp
    omega
  have t4 : Q' = m4 + k4 * C' := by
    have : ((m4 + k4 * C' : Nat) : Int) = (Q' : Int) := by rw [← r4]; simp
    omega
  have u2 : Q % C' = m4 % C' := by rw [t2]; simp
  have u4 : Q' % C' = m4 % C' := by rw [t4]; simp
  have v := Nat.div_add_mod Q C'
  have v' := Nat.div_add_mod Q' C'
  rw [s1, u2] at v
  rw [s3, u4] at v'
  omega
theorem cross_once {g : Int × Int × ByteArray} {x y : SlotV} (hx : x ∈ slG g) (hy : y ∈ slG g) (hd : x.2.1 ≠ y.2.1) {q q' : Int} (h1 : q ∈ cellsS g.2.1 x) (h2 : q ∈ cellsS g.2.1 y) (h3 : q' ∈ cellsS g.2.1 x) (h4 : q' ∈ cellsS g.2.1 y) : q = q' := by
  rcases dx : x.2.1 with _ | _ <;> rcases dy : y.2.1 with _ | _
  · rw [dx, dy] at hd; exact absurd rfl hd
  · exact cross_once0 hx hy dx dy h1 h2 h3 h4
  · exact cross_once0 hy hx dy dx h2 h1 h4 h3
  · rw [dx, dy] at hd; exact absurd rfl hd
/-- The crossings up to a cell. -/
def crossTo (l : List SlotV) (c : Int) (n : Nat) : List CrossV := (List.range n).flatMap fun (k : Nat) => crossAt l c (k : Int)
theorem crossTo_next (l : List SlotV) (c : Int) (n : Nat) : crossTo l c (n + 1) = crossTo l c n ++ crossAt l c (n : Int) := by
  unfold crossTo
  rw [List.range_succ, List.flatMap_append]
  simp
def crossS (g : Int × Int × ByteArray) : List CrossV := crossTo (slG g) g.2.1 g.2.2.size
theorem crossAt_mem {l : List SlotV} {c q : Int} {x : CrossV} (h : x ∈ crossAt l c q) : ∃ i j : Nat, inS l c q = [i, j] ∧ x = ((i : Int), (j : Int), (placeI (cellsS c (l.getD i none_Slot)) q : Int), (placeI (cellsS c (l.getD j none_Slot)) q : Int), q) ∧ i < j ∧ i < l.length ∧ j < l.length ∧ q ∈ cellsS c (l.getD i none_Slot) ∧ q ∈ cellsS c (l.getD j none_Slot) := by
  unfold crossAt at h
  split at h
  · rename_i i j e
    have hp := inS_pw l c q
    have hi := inS_mem (l := l) (c := c) (q := q) (i := i) (by rw [e]; simp)
    have hj := inS_mem (l := l) (c := c) (q := q) (i := j) (by rw [e]; simp)
    rw [e] at hp
    exact ⟨i, j, e, by simpa using h, by simpa using hp, hi.1, hj.1, hi.2, hj.2⟩
  · cases h
theorem crossAt_len (l : List SlotV) (c q : Int) : (crossAt l c q).length = if chkL l c q = true then 1 else 0 := by
  unfold crossAt chkL
  split
  · rename_i i j e; rw [e]; rfl
  · rename_i h
    rw [if_neg]
    · rfl
    · intro h9
      have h8 := of_decide_eq_true h9
      match h7 : inS l c q with
      | [] => rw [h7] at h8; simp at h8
      | [_] => rw [h7] at h8; simp at h8
      | [i, j] => exact h i j h7
      | _ :: _ :: _ :: _ => rw [h7] at h8; simp at h8
/-- What a crossing says of the slots that cross one. -/
def otherX (slot : Int) (x : CrossV) : List Int := if x.1 = slot then [x.2.1] else if x.2.1 = slot then [x.1] else []
def othersL (slot : Int) (L : List CrossV) : List Int := L.flatMap (otherX slot)
theorem othersL_next (slot : Int) (L : List CrossV) (x : CrossV) : othersL slot (L ++ [x]) = othersL slot L ++ otherX slot x := by
  unfold othersL
  rw [List.flatMap_append]
  simp
theorem others_nodup (g : Int × Int × ByteArray) (slot : Int) : (othersL slot (crossS g)).Nodup := by
  unfold othersL crossS crossTo
  rw [List.flatMap_assoc, List.nodup_iff_pairwise_ne]
  refine flatMap_pw (S := (· < ·)) List.pairwise_lt_range (fun k _ => ?_) (fun k k' hk u hu v hv huv => ?_)
  · have h1 := crossAt_len (slG g) g.2.1 (k : Int)
    match h2 : crossAt (slG g) g.2.1 (k : Int) with
    | [] => exact List.Pairwise.nil
    | [x] =>
      simp only [List.flatMap_cons, List.flatMap_nil, List.append_nil]
      unfold otherX
      split
      · exact List.pairwise_singleton ..
      · split
        · exact List.pairwise_singleton ..
        · exact List.Pairwise.nil
    | _ :: _ :: _ => rw [h2] at h1; split at h1 <;> simp at h1
  · subst huv
    obtain ⟨x, hx, hux⟩ := List.mem_flatMap.1 hu
    obtain ⟨y, hy, huy⟩ := List.mem_flatMap.1 hv
    obtain ⟨i, j, -, rfl, hij, hi, hj, q1, q2⟩ := crossAt_mem hx
    obtain ⟨i', j', -, rfl, hij', hi', hj', r1, r2⟩ := crossAt_mem hy
    have hd := dirs_apart hij hi hj q1 q2
    have key : i = i' ∧ j = j' := by
      unfold otherX at hux huy
      simp only at hux huy
      split at hux
      · rename_i h1
        split at huy
        · rename_i h2
          simp at hux huy
          omega
        · split at huy
          · rename_i h3
            simp at hux huy
            omega
          · cases huy
      · split at hux
        · rename_i h1
          split at huy
          · rename_i h2
            simp at hux huy
            omega
          · split at huy
            · rename_i h3
              simp at hux huy
              omega
            · cases huy
        · cases hux
    obtain ⟨rfl, rfl⟩ := key
    have h9 := cross_once (getD_in hi) (getD_in hj) hd q1 q2 r1 r2
    omega
/-- A number put into an ascending list. -/
def putI (l : List Int) (n : Int) : List Int := let k := l.findIdx fun y => decide (n ≤ y)
  if l.getD k 0 = n ∧ k < l.length then l else l.take k ++ [n] ++ l.drop k
theorem putI_new {l : List Int} {n : Int} (hs : l.Pairwise (· < ·)) (hn : n ∉ l) : (putI l n).Perm (n :: l) ∧ (putI l n).Pairwise (· < ·) := by
  unfold putI
  simp only
  generalize hk : l.findIdx (fun y => decide (n ≤ y)) = k
  have h1 : ¬ (l.getD k 0 = n ∧ k < l.length) := fun ⟨h, h9⟩ => by
    apply hn
    rw [← h]
    have : l.getD k 0 = l[k] := by simp [List.getD, h9]
    rw [this]
    exact List.getElem_mem h9
  rw [if_neg h1]
  have hlo : ∀ y ∈ l.take k, y < n := by
    intro y hy
    obtain ⟨j, hj, rfl⟩ := List.getElem_of_mem hy
    rw [List.length_take] at hj
    rw [List.getElem_take]
    have := List.not_of_lt_findIdx (xs := l) (p := fun y => decide (n ≤ y)) (i := j) (by omega)
    simp at this
    omega
  have hhi : ∀ y ∈ l.drop k, n < y := by
    intro y hy
    have hkl : k < l.length := by
      rcases Nat.lt_or_ge k l.length with h | h
      · exact h
      · rw [List.drop_eq_nil_of_le h] at hy; cases hy
    have h2 := List.findIdx_getElem (xs := l) (p := fun y => decide (n ≤ y)) (w := by rw [hk]; exact hkl)
    have h3 : n ≤ l[k] := by
      have h4 := of_decide_eq_true h2
      simp only [hk] at h4
      exact h4
    obtain ⟨j, hj, rfl⟩ := List.getElem_of_mem hy
    rw [List.length_drop] at hj
    rw [List.getElem_drop]
    rw [List.pairwise_iff_getElem] at hs
    have hne : n ≠ l[k + j]'(by omega) := fun e => hn (by rw [e]; exact List.getElem_mem _)
    rcases Nat.eq_zero_or_pos j with rfl | hj0
    · simp only [Nat.add_zero] at hne ⊢
      omega
    · have := hs k (k + j) hkl (by omega) (by omega)
      omega
  constructor
  · have e : l.take k ++ l.drop k = l := List.take_append_drop ..
    have h2 : (l.take k ++ [n] ++ l.drop k).Perm ([n] ++ l.take k ++ l.drop k) := List.Perm.append_right _ List.perm_append_comm
    refine h2.trans ?_
    simp [e]
  · rw [List.pairwise_append, List.pairwise_append]
    refine ⟨⟨hs.sublist (List.take_sublist ..), List.pairwise_singleton .., fun a ha b hb => ?_⟩, hs.sublist (List.drop_sublist ..), fun a ha b hb => ?_⟩
    · simp at hb; subst hb; exact hlo a ha
    · rcases List.mem_append.1 ha with ha | ha
      · have h2 := hlo a ha
        have h3 := hhi b hb
        omega
      · simp at ha; subst ha; exact hhi b hb
/-- What the model makes: each number put in its place. -/
def putAll (L : List Int) : List Int := L.foldl putI []
theorem putAll_next (L : List Int) (n : Int) : putAll (L ++ [n]) = putI (putAll L) n := by
  unfold putAll
  rw [List.foldl_append]
  rfl
theorem putAll_sorted0 : ∀ (M : List Int), M.reverse.Nodup → (putAll M.reverse).Perm M ∧ (putAll M.reverse).Pairwise (· < ·)
  | [] => fun _ => ⟨List.Perm.nil, List.Pairwise.nil⟩
  | n :: M => fun h => by
    rw [List.reverse_cons] at h ⊢
    rw [putAll_next]
    rw [List.nodup_append] at h
    obtain ⟨h1, h2⟩ := putAll_sorted0 M h.1
    have h3 : n ∉ putAll M.reverse := fun hm => by
      have h4 := h1.mem_iff.1 hm
      exact h.2.2 n (List.mem_reverse.2 h4) n (by simp) rfl
    obtain ⟨h5, h6⟩ := putI_new h2 h3
    exact ⟨h5.trans (List.Perm.cons n h1), h6⟩
theorem putAll_sorted {L : List Int} (h : L.Nodup) : (putAll L).Perm L ∧ (putAll L).Pairwise (· < ·) := by
  have h1 := putAll_sorted0 L.reverse (by rw [List.reverse_reverse]; exact h)
  rw [List.reverse_reverse] at h1
  exact ⟨h1.1.trans (List.reverse_perm L), h1.2⟩
/-- The slots that cross one, ascending. -/
def crossedS (g : Int × Int × ByteArray) (slot : Int) : List Int := putAll (othersL slot (crossS g))
/-- An ascending list of the same numbers is the same list. -/
theorem sorted_is {L M : List Int} (h : L.Nodup) (hp : M.Perm L) (hs : M.Pairwise (· ≤ ·)) : M = putAll L := by
  obtain ⟨h1, h2⟩ := putAll_sorted h
  have h3 : M.Nodup := hp.nodup_iff.2 h
  refine perm_strict (R := (· < ·)) (fun x y a b => by omega) (hp.trans h1.symm) ?_ h2
  rw [List.nodup_iff_pairwise_ne] at h3
  exact List.Pairwise.imp₂ (fun a b h1 h2 => by omega) hs h3
/-- How many cells of a list are not checked. -/
def unchN (l : List SlotV) (c : Int) (L : List Int) : Nat := (L.filter fun q => !chkL l c q).length
theorem unchN_next (l : List SlotV) (c : Int) (L : List Int) (q : Int) : unchN l c (L ++ [q]) = unchN l c L + if chkL l c q = true then 0 else 1 := by
  unfold unchN
  rw [List.filter_append, List.length_append]
  congr 1
  cases h : chkL l c q
  · simp [h]
  · simp [h]
def unchS (g : Int × Int × ByteArray) (slot : Int) : Int := if 0 ≤ slot ∧ slot < ((slG g).length : Int) then (unchN (slG g) g.2.1 (cellsS g.2.1 ((slG g).getD slot.toNat none_Slot)) : Nat) else -1
/-- How many checked cells there are up to a cell, and how many white ones. -/
def chkTo (l : List SlotV) (c : Int) (n : Nat) : Nat := ((List.range n).filter fun (k : Nat) => chkL l c (k : Int)).length
theorem chkTo_next (l : List SlotV) (c : Int) (n : Nat) : chkTo l c (n + 1) = chkTo l c n + if chkL l c (n : Int) = true then 1 else 0 := by
  unfold chkTo
  rw [List.range_succ, List.filter_append, List.length_append]
  congr 1
  cases h : chkL l c (n : Int)
  · simp [h]
  · simp [h]
theorem chkTo_cross (l : List SlotV) (c : Int) : ∀ n, (crossTo l c n).length = chkTo l c n
  | 0 => rfl
  | n + 1 => by rw [crossTo_next, chkTo_next, List.length_append, crossAt_len, chkTo_cross l c n]
def whTo (s : ByteArray) (n : Nat) : Nat := ((List.range n).filter fun (k : Nat) => whF s k).length
theorem whTo_next (s : ByteArray) (n : Nat) : whTo s (n + 1) = whTo s n + if whF s n = true then 1 else 0 := by
  unfold whTo
  rw [List.range_succ, List.filter_append, List.length_append]
  congr 1
  cases h : whF s n
  · simp [h]
  · simp [h]
/-- How many cells are checked, and how many are white. -/
def shareS (g : Int × Int × ByteArray) : Int × Int := if isG g = true then ((chkTo (slG g) g.2.1 g.2.2.size : Nat), (whTo g.2.2 g.2.2.size : Nat)) else (0, 0)
theorem chkTo_le (l : List SlotV) (c : Int) (n : Nat) : chkTo l c n ≤ n := by
  unfold chkTo
  refine Nat.le_trans (List.length_filter_le _ _) ?_
  rw [List.length_range]
  exact Nat.le_refl _
theorem crossS_len (g : Int × Int × ByteArray) (h : g.2.2.size ≤ 1048576) : (crossS g).length ≤ 16777216 := by
  unfold crossS
  rw [chkTo_cross]
  have := chkTo_le (slG g) g.2.1 g.2.2.size
  omega
theorem othersL_len (slot : Int) (L : List CrossV) : (othersL slot L).length ≤ L.length := by
  induction L with
  | nil => exact Nat.le_refl _
  | cons x L ih =>
    unfold othersL at ih ⊢
    rw [List.flatMap_cons, List.length_append, List.length_cons]
    have : (otherX slot x).length ≤ 1 := by
      unfold otherX
      split
      · simp
      · split <;> simp
    omega
theorem crossedS_perm (g : Int × Int × ByteArray) (slot : Int) : (crossedS g slot).Perm (othersL slot (crossS g)) := (putAll_sorted (others_nodup g slot)).1
theorem crossedS_len (g : Int × Int × ByteArray) (slot : Int) (h : g.2.2.size ≤ 1048576) : (crossedS g slot).length ≤ 16777216 := by
  rw [(crossedS_perm g slot).length_eq]
  exact Nat.le_trans (othersL_len slot _) (crossS_len g h)
theorem slG_no {g : Int × Int × ByteArray} (h : isG g = false) : slG g = [] := by
  unfold slG
  rw [h]
  rfl
theorem chkL_nil (c q : Int) : chkL [] c q = false := rfl
theorem crossTo_nil (c : Int) : ∀ n, crossTo [] c n = []
  | 0 => rfl
  | n + 1 => by rw [crossTo_next, crossTo_nil c n]; rfl
theorem crossS_no {g : Int × Int × ByteArray} (h : isG g = false) : crossS g = [] := by
  unfold crossS
  rw [slG_no h]
  exact crossTo_nil _ _
end Go.Proofs.YtmhgejljjjmejaaDoor
