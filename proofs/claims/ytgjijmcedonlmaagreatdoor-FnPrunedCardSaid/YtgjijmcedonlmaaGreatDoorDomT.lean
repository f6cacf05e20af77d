/-
  Candidates: support, and what pruning leaves: the greatest family of words that all have support.
  The model's contracts of chapter 12: l12Letter, l12Support, Support.
  The model's contracts of chapter 12: Support, l12Copy.
-/
import Derived.Test.YtgjijmcedonlmaaGreatDoorCrossPure
import Derived.Test.YtgjijmcedonlmaaGreatDoorNest
import Derived.Test.YtgjijmcedonlmaaGreatDoorCrossSpecE
import Derived.Deep.RegionWith
namespace Go.Proofs.YtgjijmcedonlmaaGreatDoor
open Go.RowKit

/-- Some string of a domain has this byte at a place. -/
def domAt (D : List ByteArray) (p : Nat) (b : UInt8) : Bool := D.any fun z => decide (p < z.size) && decide (z.data.toList.getD p 0 = b)
/-- What a crossing asks of the words of a slot: a place, the other slot, the place there. -/
def meetX (slot : Nat) (x : CrossV) : List (Nat × Nat × Nat) :=
  (if x.1 = (slot : Int) then [(x.2.2.1.toNat, x.2.1.toNat, x.2.2.2.1.toNat)] else []) ++ (if x.2.1 = (slot : Int) then [(x.2.2.2.1.toNat, x.1.toNat, x.2.2.1.toNat)] else [])
def meetS (X : List CrossV) (slot : Nat) : List (Nat × Nat × Nat) := X.flatMap (meetX slot)
theorem meetS_next (X : List CrossV) (x : CrossV) (slot : Nat) : meetS (X ++ [x]) slot = meetS X slot ++ meetX slot x := by
  unfold meetS
  rw [List.flatMap_append]
  simp
def metM (D : List (List ByteArray)) (w : ByteArray) (m : Nat × Nat × Nat) : Bool := domAt (D.getD m.2.1 []) m.2.2 (w.data.toList.getD m.1 0)
def supM (M : List (Nat × Nat × Nat)) (D : List (List ByteArray)) (w : ByteArray) : Bool := M.all (metM D w)
/-- A word of a slot: its length and its letters. -/
def okW (l : List SlotV) (slot : Nat) (w : ByteArray) : Bool := isW w && decide ((w.size : Int) = (l.getD slot none_Slot).2.2.2)
def okX (l : List SlotV) (X : List CrossV) (D : List (List ByteArray)) (slot : Nat) (w : ByteArray) : Bool := okW l slot w && supM (meetS X slot) D w
def supF (g : Int × Int × ByteArray) (D : List (List ByteArray)) (slot : Int) (w : ByteArray) : Bool :=
  decide (D.length = (slG g).length ∧ 0 ≤ slot ∧ slot < ((slG g).length : Int)) && okX (slG g) (crossS g) D slot.toNat w
/-- A family of some of the words. -/
def subF (p : Nat → ByteArray → Bool) (D : List (List ByteArray)) : List (List ByteArray) := (List.range D.length).map fun i => (D.getD i []).filter (p i)
theorem subF_length (p : Nat → ByteArray → Bool) (D : List (List ByteArray)) : (subF p D).length = D.length := by simp [subF]
theorem subF_at (p : Nat → ByteArray → Bool) (D : List (List ByteArray)) {i : Nat} (h : i < D.length) : (subF p D).getD i [] = (D.getD i []).filter (p i) := by simp [subF, List.getD, h]
theorem subF_out (p : Nat → ByteArray → Bool) (D : List (List ByteArray)) {i : Nat} (h : ¬ i < D.length) : (subF p D).getD i [] = [] := by simp [subF, List.getD, h]
theorem dom_ext {D E : List (List ByteArray)} (hl : D.length = E.length) (h : ∀ i, i < D.length → D.getD i [] = E.getD i []) : D = E := by
  refine List.ext_getElem hl fun i h1 h2 => ?_
  have h9 := h i h1
  simpa [List.getD, h1, h2] using h9
theorem subF_all (D : List (List ByteArray)) : subF (fun _ _ => true) D = D := by
  refine dom_ext (subF_length _ _) fun i hi => ?_
  rw [subF_length] at hi
  rw [subF_at _ _ hi]
  simp
def closedF (l : List SlotV) (X : List CrossV) (E : List (List ByteArray)) : Prop := ∀ i, i < E.length → ∀ w ∈ E.getD i [], okX l X E i w = true
/-- p strikes only what no closed family has. -/
def CutS (l : List SlotV) (X : List CrossV) (D : List (List ByteArray)) (p : Nat → ByteArray → Bool) : Prop := ∀ q, closedF l X (subF q D) → ∀ i, i < D.length → ∀ w ∈ D.getD i [], q i w = true → p i w = true
def PruS (l : List SlotV) (X : List CrossV) (D E : List (List ByteArray)) : Prop := ∃ p, E = subF p D ∧ closedF l X E ∧ CutS l X D p
def PruF (g : Int × Int × ByteArray) (D E : List (List ByteArray)) : Prop := (D.length = (slG g).length → PruS (slG g) (crossS g) D E) ∧ (D.length ≠ (slG g).length → E = D)
theorem cut_all (l : List SlotV) (X : List CrossV) (D : List (List ByteArray)) : CutS l X D (fun _ _ => true) := fun _ _ _ _ _ _ _ => rfl
theorem PruS.only {l : List SlotV} {X : List CrossV} {D E E' : List (List ByteArray)} (h : PruS l X D E) (h' : PruS l X D E') : E = E' := by
  obtain ⟨p, rfl, hc, hm⟩ := h
  obtain ⟨p', rfl, hc', hm'⟩ := h'
  refine dom_ext (by rw [subF_length, subF_length]) fun i hi => ?_
  rw [subF_length] at hi
  rw [subF_at _ _ hi, subF_at _ _ hi]
  refine List.filter_congr fun w hw => ?_
  have h1 := hm p' hc' i hi w hw
  have h2 := hm' p hc i hi w hw
  cases e1 : p i w <;> cases e2 : p' i w <;> simp_all
theorem PruF.only {g : Int × Int × ByteArray} {D E E' : List (List ByteArray)} (h : PruF g D E) (h' : PruF g D E') : E = E' := by
  by_cases e : D.length = (slG g).length
  · exact (h.1 e).only (h'.1 e)
  · rw [h.2 e, h'.2 e]
theorem domAt_mono {D E : List ByteArray} (h : ∀ z ∈ D, z ∈ E) {p : Nat} {b : UInt8} (hh : domAt D p b = true) : domAt E p b = true := by
  unfold domAt at hh ⊢
  rw [List.any_eq_true] at hh ⊢
  obtain ⟨z, hz, hp⟩ := hh
  exact ⟨z, h z hz, hp⟩
theorem okX_mono {l : List SlotV} {X : List CrossV} {D E : List (List ByteArray)} (h : ∀ i, ∀ z ∈ D.getD i [], z ∈ E.getD i []) {i : Nat} {w : ByteArray} (hh : okX l X D i w = true) : okX l X E i w = true := by
  unfold okX supM at hh ⊢
  rw [Bool.and_eq_true, List.all_eq_true] at hh ⊢
  exact ⟨hh.1, fun m hm => domAt_mono (h _) (hh.2 m hm)⟩
/-- Words without support are struck from one domain. -/
def strikeP (l : List SlotV) (X : List CrossV) (C : List (List ByteArray)) (i : Nat) (p : Nat → ByteArray → Bool) : Nat → ByteArray → Bool := fun j w => if j = i then p j w && okX l X C i w else p j w
theorem cut_step {l : List SlotV} {X : List CrossV} {D : List (List ByteArray)} {p : Nat → ByteArray → Bool} (h : CutS l X D p) (i : Nat) : CutS l X D (strikeP l X (subF p D) i p) := by
  intro q hq j hj w hw hqw
  unfold strikeP
  have h1 := h q hq j hj w hw hqw
  split
  · rename_i e
    subst e
    rw [h1, Bool.true_and]
    refine okX_mono (D := subF q D) (fun k z hz => ?_) (hq j (by rw [subF_length]; exact hj) w (by rw [subF_at _ _ hj]; exact List.mem_filter.2 ⟨hw, hqw⟩))
    by_cases hk : k < D.length
    · rw [subF_at _ _ hk] at hz ⊢
      have hz' := List.mem_filter.1 hz
      exact List.mem_filter.2 ⟨hz'.1, h q hq k hk z hz'.1 hz'.2⟩
    · rw [subF_out _ _ hk] at hz
      cases hz
  · exact h1
theorem sub_strike {l : List SlotV} {X : List CrossV} {D : List (List ByteArray)} {p : Nat → ByteArray → Bool} {i : Nat} (hi : i < D.length) :
    subF (strikeP l X (subF p D) i p) D = (subF p D).set i (((subF p D).getD i []).filter (okX l X (subF p D) i)) := by
  refine dom_ext (by rw [List.length_set, subF_length, subF_length]) fun j hj => ?_
  rw [subF_length] at hj
  rw [subF_at _ _ hj]
  by_cases e : j = i
  · subst e
    rw [show ((subF p D).set j (((subF p D).getD j []).filter (okX l X (subF p D) j))).getD j [] = ((subF p D).getD j []).filter (okX l X (subF p D) j) by simp [List.getD, subF_length, hj]]
    rw [subF_at _ _ hj, List.filter_filter]
    refine List.filter_congr fun w _ => ?_
    unfold strikeP
    rw [if_pos rfl, Bool.and_comm]
  · rw [show ((subF p D).set i (((subF p D).getD i []).filter (okX l X (subF p D) i))).getD j [] = (subF p D).getD j [] by simp [List.getD, List.getElem?_set_ne (Ne.symm e)]]
    rw [subF_at _ _ hj]
    refine List.filter_congr fun w _ => ?_
    unfold strikeP
    rw [if_neg e]
/-- A family that is D's with some words struck, and none that a closed one has. -/
def PartS (l : List SlotV) (X : List CrossV) (D C : List (List ByteArray)) : Prop := ∃ p, C = subF p D ∧ CutS l X D p
theorem PartS.all (l : List SlotV) (X : List CrossV) (D : List (List ByteArray)) : PartS l X D D := ⟨_, (subF_all D).symm, cut_all l X D⟩
theorem PartS.strike {l : List SlotV} {X : List CrossV} {D C : List (List ByteArray)} (h : PartS l X D C) (i : Nat) (hi : i < D.length) : PartS l X D (C.set i ((C.getD i []).filter (okX l X C i))) := by
  obtain ⟨p, rfl, hm⟩ := h
  exact ⟨_, (sub_strike hi).symm, cut_step hm i⟩
theorem PartS.ends {l : List SlotV} {X : List CrossV} {D C : List (List ByteArray)} (h : PartS l X D C) (hc : closedF l X C) : PruS l X D C := by
  obtain ⟨p, rfl, hm⟩ := h
  exact ⟨p, rfl, hc, hm⟩
theorem PartS.length {l : List SlotV} {X : List CrossV} {D C : List (List ByteArray)} (h : PartS l X D C) : C.length = D.length := by
  obtain ⟨p, rfl, -⟩ := h
  exact subF_length _ _
theorem PartS.mem {l : List SlotV} {X : List CrossV} {D C : List (List ByteArray)} (h : PartS l X D C) (i : Nat) : (C.getD i []).Sublist (D.getD i []) := by
  obtain ⟨p, rfl, -⟩ := h
  by_cases hi : i < D.length
  · rw [subF_at _ _ hi]; exact List.filter_sublist
  · rw [subF_out _ _ hi]; exact List.nil_sublist _
/-- The number of all words. -/
def sumL (C : List (List ByteArray)) : Nat := (C.map List.length).sum
theorem sumL_set : ∀ (C : List (List ByteArray)) (i : Nat) (m : List ByteArray), i < C.length → sumL (C.set i m) + (C.getD i []).length = sumL C + m.length
  | x :: C, 0, m, _ => by simp [sumL]; omega
  | x :: C, i + 1, m, h => by
    have h9 := sumL_set C i m (by simpa using h)
    simp only [sumL, List.set_cons_succ, List.map_cons, List.sum_cons, List.getD_cons_succ] at h9 ⊢
    omega
theorem sumL_le : ∀ (C : List (List ByteArray)) (b : Nat), (∀ m ∈ C, m.length ≤ b) → sumL C ≤ C.length * b
  | [], _, _ => by simp [sumL]
  | x :: C, b, h => by
    have h1 := sumL_le C b (fun m hm => h m (List.mem_cons_of_mem _ hm))
    have h2 := h x (List.mem_cons_self ..)
    simp only [sumL, List.map_cons, List.sum_cons, List.length_cons, Nat.add_mul, Nat.one_mul] at h1 ⊢
    omega
theorem filter_all {α : Type} {p : α → Bool} {l : List α} (h : ∀ x ∈ l, p x = true) : l.filter p = l := List.filter_eq_self.2 h
theorem filter_len_eq {α : Type} {p : α → Bool} : ∀ {l : List α}, l.length ≤ (l.filter p).length → ∀ x ∈ l, p x = true
  | a :: l, h, x, hx => by
    by_cases e : p a = true
    · rw [List.filter_cons_of_pos e, List.length_cons, List.length_cons] at h
      rcases List.mem_cons.1 hx with rfl | hx
      · exact e
      · exact filter_len_eq (by omega) x hx
    · rw [List.filter_cons_of_neg e, List.length_cons] at h
      have := List.length_filter_le p l
      omega
/-- What a strike at i leaves as it was for j. -/
theorem okX_set {l : List SlotV} {X : List CrossV} {C : List (List ByteArray)} {i j : Nat} {m : List ByteArray} {w : ByteArray} (h : ∀ u ∈ meetS X j, u.2.1 ≠ i) : okX l X (C.set i m) j w = okX l X C j w := by
  unfold okX supM
  congr 1
  have h9 : ∀ M : List (Nat × Nat × Nat), (∀ u ∈ M, u.2.1 ≠ i) → M.all (metM (C.set i m) w) = M.all (metM C w) := by
    intro M
    induction M with
    | nil => intro _; rfl
    | cons a M ih =>
      intro hM
      rw [List.all_cons, List.all_cons, ih (fun u hu => hM u (List.mem_cons_of_mem _ hu))]
      congr 1
      unfold metM
      have := hM a (List.mem_cons_self ..)
      rw [show (C.set i m).getD a.2.1 [] = C.getD a.2.1 [] by simp [List.getD, List.getElem?_set_ne (Ne.symm this)]]
  exact h9 _ h
/-- A pruned family pruned again stays. -/
theorem pru_again {l : List SlotV} {X : List CrossV} {E : List (List ByteArray)} (h : closedF l X E) : PruS l X E E := (PartS.all l X E).ends h
end Go.Proofs.YtgjijmcedonlmaaGreatDoor
namespace Go.Proofs.YtgjijmcedonlmaaGreatDoor
open Go.RowKit

theorem domAt_snoc (l : List ByteArray) (x : ByteArray) (p : Nat) (b : UInt8) : domAt (l ++ [x]) p b = (domAt l p b || (decide (p < x.size) && decide (x.data.toList.getD p 0 = b))) := by
  unfold domAt
  rw [List.any_append]
  simp
theorem domAt_hit {l : List ByteArray} {k p : Nat} {b : UInt8} (hk : k < l.length) (h : p < (l.getD k ⟨#[]⟩).size) (h2 : (l.getD k ⟨#[]⟩).data.toList.getD p 0 = b) : domAt l p b = true :=
  List.any_eq_true.2 ⟨l.getD k ⟨#[]⟩, by simp [List.getD, hk], by rw [decide_eq_true h, decide_eq_true h2]; rfl⟩
set_option maxRecDepth 100000 in
set_option maxHeartbeats 1600000 in
theorem sl12l_any (l : List ByteArray) (hl : l.length ≤ 16777216) (p : Nat) (b : UInt8) (v : Value) (w : World) (hv : ReadsS w.heap.size w v l) (hzs : ∀ z ∈ l, z.size ≤ 1048576) :
    Calls Tryz.prog 101 #[v, .int .i64 p, .int .u8 b.toNat] w fun e w' => e = .returned (.bool (domAt l p b)) ∧ w = w' := by
  obtain ⟨-, a0, cap, rfl, -, hc⟩ := hv.cells
  have HC := Lib.hid hc
  have HZS := Lib.hid hzs
  clear hc hv hzs
  go_enter Tryz.func101, Tryz.ntmps101
  go_wp2
  go_loopw [7] (fun i wr => ∃ k : Nat, k ≤ l.length ∧ i = .int .i64 k ∧ Hid (domAt (l.take k) p b = false) ∧ w = wr) (fun i _ => l.length - (intOf i).toNat)
  case atStart => exact ⟨0, Nat.zero_le _, rfl, Lib.hid (by simp [domAt]), rfl⟩
  case round =>
    obtain ⟨k, hk, rfl, HN, rfl⟩ := hrel
    by_cases hlt : k < l.length
    · have hd : decide ((k : Int) < (l.length : Int)) = true := decide_eq_true (by omega)
      obtain ⟨bb, off, rfl, hb, q0⟩ := HC.out k hlt
      have hxs := HZS.out _ (by simp [List.getD, hlt] : l.getD k ⟨#[]⟩ ∈ l)
      have HT : Hid (l.take (k + 1) = l.take k ++ [l.getD k ⟨#[]⟩]) := Lib.hid (by rw [List.take_succ_eq_append_getElem hlt]; simp [List.getD, hlt])
      have HHIT := Lib.hid (fun h h2 => domAt_hit (p := p) (b := b) hlt h h2)
      obtain ⟨x, hx⟩ : ∃ x, x = l.getD k ⟨#[]⟩ := ⟨_, rfl⟩
      rw [← hx] at q0 hxs HT HHIT
      clear hx
      by_cases hin : p < x.size
      · have hpd : decide ((p : Int) < (x.size : Int)) = true := decide_eq_true (by omega)
        have h255 : x[p].toNat ≤ 255 := by have := x[p].toNat_lt; omega
        have HGD := Lib.hid (getD_byte x p hin)
        by_cases he : x[p] = b
        · have HF := Lib.hid (HHIT.out hin (by rw [HGD.out]; exact he))
          have hbe : ((x[p].toNat : Int) == (b.toNat : Int)) = true := by rw [he]; exact beq_self_eq_true _
          clear HHIT he
          go_wp2
          go_ret
          exact ⟨by rw [HF.out]; rfl, rfl⟩
        · have HN2 : Hid (domAt (l.take (k + 1)) p b = false) := Lib.hid (by rw [HT.out, domAt_snoc, HN.out, HGD.out, decide_eq_false he]; simp)
          have hbe : ((x[p].toNat : Int) == (b.toNat : Int)) = false := beq_eq_false_iff_ne.2 (fun h => he (UInt8.toNat_inj.1 (by omega)))
          clear HHIT he
          go_wp2
          go_roundw
          case rel => exact ⟨k + 1, by omega, by go_num, HN2, by trivial⟩
          case measure => simp [intOf]; omega
      · have hpd : decide ((p : Int) < (x.size : Int)) = false := decide_eq_false (by omega)
        have HN2 : Hid (domAt (l.take (k + 1)) p b = false) := Lib.hid (by rw [HT.out, domAt_snoc, HN.out, decide_eq_false hin]; simp)
        clear HHIT
        go_wp2
        go_roundw
        case rel => exact ⟨k + 1, by omega, by go_num, HN2, by trivial⟩
        case measure => simp [intOf]; omega
    · have hd : decide ((k : Int) < (l.length : Int)) = false := decide_eq_false (by omega)
      have HF : Hid (domAt l p b = false) := Lib.hid (by have h9 := HN.out; rw [List.take_of_length_le (by omega)] at h9; exact h9)
      go_wp2
      go_ret
      exact ⟨by rw [HF.out]; rfl, rfl⟩
/-- What a list of crossings keeps to, for a slot's word and domains. -/
def XFor (X : List CrossV) (n slot size : Nat) : Prop := ∀ x ∈ X, ∃ i j p r q : Nat, x = ((i : Int), (j : Int), (p : Int), (r : Int), (q : Int)) ∧ i < n ∧ j < n ∧ p ≤ 1048576 ∧ r ≤ 1048576 ∧ (i = slot → p < size) ∧ (j = slot → r < size)
theorem supM_app (M N : List (Nat × Nat × Nat)) (D : List (List ByteArray)) (w : ByteArray) : supM (M ++ N) D w = (supM M D w && supM N D w) := by
  unfold supM
  rw [List.all_append]
theorem supX_take_no {X : List CrossV} {D : List (List ByteArray)} {slot k : Nat} {w : ByteArray} (hk : k < X.length) (h : supM (meetX slot (X.getD k none_Crossing)) D w = false) : supM (meetS X slot) D w = false := by
  have h1 : X = X.take k ++ [X.getD k none_Crossing] ++ X.drop (k + 1) := by
    conv => lhs; rw [← List.take_append_drop (k + 1) X]
    rw [List.take_succ_eq_append_getElem hk]
    simp [List.getD, hk]
  rw [h1]
  unfold meetS
  rw [List.flatMap_append, List.flatMap_append, supM_app, supM_app, List.flatMap_cons, List.flatMap_nil, List.append_nil, h, Bool.and_false, Bool.false_and]
theorem meetX_parts (slot : Nat) (i j p r q : Nat) : meetX slot ((i : Int), (j : Int), (p : Int), (r : Int), (q : Int)) = (if i = slot then [(p, j, r)] else []) ++ (if j = slot then [(r, i, p)] else []) := by
  unfold meetX
  simp only [Int.toNat_natCast]
  by_cases h1 : i = slot <;> by_cases h2 : j = slot
  · rw [if_pos (show (i : Int) = slot by omega), if_pos (show (j : Int) = slot by omega), if_pos h1, if_pos h2]
  · rw [if_pos (show (i : Int) = slot by omega), if_neg (show ¬ (j : Int) = slot by omega), if_pos h1, if_neg h2]
  · rw [if_neg (show ¬ (i : Int) = slot by omega), if_pos (show (j : Int) = slot by omega), if_neg h1, if_pos h2]
  · rw [if_neg (show ¬ (i : Int) = slot by omega), if_neg (show ¬ (j : Int) = slot by omega), if_neg h1, if_neg h2]
/-- The first test of a crossing, the second. -/
def tstA (D : List (List ByteArray)) (w : ByteArray) (slot i p j r : Nat) : Bool := decide (i = slot) && !domAt (D.getD j []) r (w.data.toList.getD p 0)
theorem tst_meet (D : List (List ByteArray)) (w : ByteArray) (slot i j p r q : Nat) : supM (meetX slot ((i : Int), (j : Int), (p : Int), (r : Int), (q : Int))) D w = (!tstA D w slot i p j r && !tstA D w slot j r i p) := by
  rw [meetX_parts, supM_app]
  unfold tstA
  congr 1
  · by_cases h1 : i = slot
    · rw [if_pos h1, decide_eq_true h1]; simp [supM, metM]
    · rw [if_neg h1, decide_eq_false h1]; rfl
  · by_cases h1 : j = slot
    · rw [if_pos h1, decide_eq_true h1]; simp [supM, metM]
    · rw [if_neg h1, decide_eq_false h1]; rfl
set_option maxRecDepth 100000 in
set_option maxHeartbeats 3200000 in
theorem sl12s_any (X : List CrossV) (D : List (List ByteArray)) (slot : Nat) (x : ByteArray) (hX : X.length ≤ 16777216) (hm : ∀ m ∈ D, m.length ≤ 1048576 ∧ ∀ z ∈ m, z.size ≤ 1048576) (hf : XFor X D.length slot x.size) (u v : Value) (w : World)
    (hu : ReadsCrossing w.heap.size w u X) (hv : ReadsN w.heap.size w v D) :
    Calls Tryz.prog 62 #[u, v, .int .i64 slot, .string x] w fun e w' => e = .returned (.bool (supM (meetS X slot) D x)) ∧ Below w.heap.size w w' := by
  obtain ⟨-, a0, cap, rfl, -, hc⟩ := hu.cells
  obtain ⟨-, a1, cap1, rfl, -, hd⟩ := hv.cells
  have HC := Lib.hid hc
  have HD := Lib.hid hd
  have HF := Lib.hid hf
  have HM := Lib.hid hm
  clear hc hd hu hv hf hm
  go_enter Tryz.func62, Tryz.ntmps62
  go_wp2
  go_loopw [9] (fun i wr => ∃ k : Nat, k ≤ X.length ∧ i = .int .i64 k ∧ Hid (supM (meetS (X.take k) slot) D x = true) ∧ Hid (Below w.heap.size w wr)) (fun i _ => X.length - (intOf i).toNat)
  case atStart => exact ⟨0, Nat.zero_le _, rfl, Lib.hid (by simp [supM, meetS]), Lib.hid (Below.refl _ _)⟩
  case round =>
    obtain ⟨k, hk, rfl, HN, HB⟩ := hrel
    by_cases hlt : k < X.length
    · have hd : decide ((k : Int) < (X.length : Int)) = true := decide_eq_true (by omega)
      obtain ⟨b, off, rfl, hb, q0, q1, q2, q3, q4⟩ := HC.out k hlt
      have q0 := (HB.out.cell (p := ⟨b, off + k * 5, none⟩) hb).trans q0
      have q1 := (HB.out.cell (p := ⟨b, off + k * 5 + 1, none⟩) hb).trans q1
      have q2 := (HB.out.cell (p := ⟨b, off + k * 5 + 2, none⟩) hb).trans q2
      have q3 := (HB.out.cell (p := ⟨b, off + k * 5 + 3, none⟩) hb).trans q3
      have HT : Hid (X.take (k + 1) = X.take k ++ [X.getD k none_Crossing]) := Lib.hid (by rw [List.take_succ_eq_append_getElem hlt]; simp [List.getD, hlt])
      have HNO := Lib.hid (fun h => supX_take_no (D := D) (slot := slot) (w := x) hlt h)
      obtain ⟨i, j, p, r, qq, hx, hi, hj, hp, hr, hpi, hrj⟩ := HF.out (X.getD k none_Crossing) (by simp [List.getD, hlt])
      rw [hx] at q0 q1 q2 q3 HT HNO
      rw [tst_meet] at HNO
      simp only at q0 q1 q2 q3
      clear hx
      obtain ⟨bi, oi, ui, ei, hbi, ci, hui⟩ := HD.out i hi
      obtain ⟨bj, oj, uj, ej, hbj, cj, huj⟩ := HD.out j hj
      subst ei
      injection ej with ej
      injection ej with ej1 ej2
      subst ej1 ej2
      have ci := (HB.out.cell (p := ⟨bi, oi + i, none⟩) hbi).trans ci
      have cj := (HB.out.cell (p := ⟨bi, oi + j, none⟩) hbi).trans cj
      have HUI : Hid (∀ n, ReadsS (wr.drewN n).heap.size (wr.drewN n) ui (D.getD i [])) := Lib.hid (fun n => ReadsV.now (ReadsV.now hui HB.out) (Joins.below_draws _ wr n))
      have HUJ : Hid (∀ n, ReadsS (wr.drewN n).heap.size (wr.drewN n) uj (D.getD j [])) := Lib.hid (fun n => ReadsV.now (ReadsV.now huj HB.out) (Joins.below_draws _ wr n))
      have HMI := Lib.hid (HM.out (D.getD i []) (by simp [List.getD, hi]))
      have HMJ := Lib.hid (HM.out (D.getD j []) (by simp [List.getD, hj]))
      obtain ⟨tA, hA⟩ : ∃ t, t = tstA D x slot i p j r := ⟨_, rfl⟩
      obtain ⟨tB, hB⟩ : ∃ t, t = tstA D x slot j r i p := ⟨_, rfl⟩
      have HTM := Lib.hid (tst_meet D x slot i j p r qq)
      rw [← hA, ← hB] at HNO HTM
      have HA := Lib.hid hA
      have HB' := Lib.hid hB
      clear hui huj hA hB
      go_wp2_with fail
      go_cut [46] (fun s wx => s = .bool tA ∧ Hid (Below wr.heap.size wr wx))
      case first =>
        by_cases e : i = slot
        · have hp' := hpi e
          have hie : ((i : Int) == (slot : Int)) = true := by rw [e]; exact beq_self_eq_true _
          have h255 : x[p].toNat ≤ 255 := by have := x[p].toNat_lt; omega
          have HCL := Lib.hid (fun (w : World) h => sl12l_any (D.getD j []) (by have := HMJ.out.1; omega) r x[p] uj w h HMJ.out.2)
          have HAE : Hid (tA = !domAt (D.getD j []) r x[p]) := Lib.hid (by rw [HA.out]; unfold tstA; rw [decide_eq_true e, getD_byte x p hp']; rfl)
          obtain ⟨t, ht⟩ : ∃ t, t = domAt (D.getD j []) r x[p] := ⟨_, rfl⟩
          rw [← ht] at HCL HAE
          clear ht HC HD
          go_quiet (first | (go_at_call 101; exact (HCL.out _ (HUJ.out _)).mono fun _ _ h => ⟨h.1, ⟨_, h.2.symm⟩⟩))
          all_goals (go_wp2_with fail; go_meet; exact ⟨by rw [HAE.out], Lib.hid (by first | exact Below.refl _ _ | exact Joins.below_draws _ _ _)⟩)
        · have hie : ((i : Int) == (slot : Int)) = false := beq_eq_false_iff_ne.2 (by omega)
          have HAE : Hid (tA = false) := Lib.hid (by rw [HA.out]; unfold tstA; rw [decide_eq_false e]; rfl)
          clear HC HD
          go_quiet (fail)
          all_goals (go_wp2_with fail; go_meet; exact ⟨by rw [HAE.out], Lib.hid (by first | exact Below.refl _ _ | exact Joins.below_draws _ _ _)⟩)
      case rest =>
        obtain ⟨rfl, HB1⟩ := hcut
        have HB := Lib.hid (HB.out.trans (HB1.out.mono HB.out.size))
        cases tA with
        | true =>
          have HG := Lib.hid (HNO.out rfl)
          go_wp2
          go_ret
          exact ⟨by rw [HG.out]; rfl, HB.out⟩
        | false =>
          obtain ⟨wy, hwy⟩ : ∃ wy, wy = wc := ⟨_, rfl⟩
          rw [← hwy] at HB1 HB ⊢
          clear hwy
          have hbw : b < wr.heap.size := World.block_lt_of_cell? wr _ q0
          have q0 := (HB1.out.cell (p := ⟨b, off + k * 5, none⟩) hbw).trans q0
          have q1 := (HB1.out.cell (p := ⟨b, off + k * 5 + 1, none⟩) hbw).trans q1
          have q2 := (HB1.out.cell (p := ⟨b, off + k * 5 + 2, none⟩) hbw).trans q2
          have q3 := (HB1.out.cell (p := ⟨b, off + k * 5 + 3, none⟩) hbw).trans q3
          have hbz : bi < wr.heap.size := World.block_lt_of_cell? wr _ ci
          have ci := (HB1.out.cell (p := ⟨bi, oi + i, none⟩) hbz).trans ci
          have HUI2 : Hid (∀ n, ReadsS (wy.drewN n).heap.size (wy.drewN n) ui (D.getD i [])) := Lib.hid (fun n => ReadsV.now (ReadsV.now (HUI.out 0) HB1.out) (Joins.below_draws _ wy n))
          go_wp2_with fail
          go_cut [77] (fun s wz => s = .bool tB ∧ Hid (Below wy.heap.size wy wz))
          case first =>
            by_cases e : j = slot
            · have hp' := hrj e
              have hie : ((j : Int) == (slot : Int)) = true := by rw [e]; exact beq_self_eq_true _
              have h255 : x[r].toNat ≤ 255 := by have := x[r].toNat_lt; omega
              have HCL := Lib.hid (fun (w : World) h => sl12l_any (D.getD i []) (by have := HMI.out.1; omega) p x[r] ui w h HMI.out.2)
              have HAE : Hid (tB = !domAt (D.getD i []) p x[r]) := Lib.hid (by rw [HB'.out]; unfold tstA; rw [decide_eq_true e, getD_byte x r hp']; rfl)
              obtain ⟨t, ht⟩ : ∃ t, t = domAt (D.getD i []) p x[r] := ⟨_, rfl⟩
              rw [← ht] at HCL HAE
              clear ht HC HD
              go_quiet (first | (go_at_call 101; exact (HCL.out _ (HUI2.out _)).mono fun _ _ h => ⟨h.1, ⟨_, h.2.symm⟩⟩))
              all_goals (go_wp2_with fail; go_meet; exact ⟨by rw [HAE.out], Lib.hid (by first | exact Below.refl _ _ | exact Joins.below_draws _ _ _)⟩)
            · have hie : ((j : Int) == (slot : Int)) = false := beq_eq_false_iff_ne.2 (by omega)
              have HAE : Hid (tB = false) := Lib.hid (by rw [HB'.out]; unfold tstA; rw [decide_eq_false e]; rfl)
              clear HC HD
              go_quiet (fail)
              all_goals (go_wp2_with fail; go_meet; exact ⟨by rw [HAE.out], Lib.hid (by first | exact Below.refl _ _ | exact Joins.below_draws _ _ _)⟩)
          case rest =>
            obtain ⟨rfl, HB2⟩ := hcut
            have HBF := Lib.hid (HB.out.trans (HB2.out.mono HB.out.size))
            cases tB with
            | true =>
              have HG := Lib.hid (HNO.out rfl)
              go_wp2
              go_ret
              exact ⟨by rw [HG.out]; rfl, HBF.out⟩
            | false =>
              have HNX : Hid (supM (meetS (X.take (k + 1)) slot) D x = true) := Lib.hid (by rw [HT.out, meetS_next, supM_app, HN.out, HTM.out]; rfl)
              go_wp2
              go_roundw
              case rel => exact ⟨k + 1, by omega, by go_num, HNX, HBF⟩
              case measure => simp [intOf]; omega
    · have hd : decide ((k : Int) < (X.length : Int)) = false := decide_eq_false (by omega)
      have HG : Hid (supM (meetS X slot) D x = true) := Lib.hid (by have h9 := HN.out; rw [List.take_of_length_le (by omega)] at h9; exact h9)
      go_wp2
      go_ret
      exact ⟨by rw [HG.out]; rfl, HB.out⟩
end Go.Proofs.YtgjijmcedonlmaaGreatDoor
namespace Go.Proofs.YtgjijmcedonlmaaGreatDoor
open Go.RowKit

/-- The boxed grid's cells at later worlds. -/
theorem gbox_keep (w : World) (r c : Int) (s : ByteArray) (t : TypeId) : ∀ w', Below (w.alloc (.cells #[.int .i64 r, .int .i64 c, .string s] t)).heap.size (w.alloc (.cells #[.int .i64 r, .int .i64 c, .string s] t)) w' → w'.cell? ⟨w.heap.size, 0, none⟩ = some (.int .i64 r) ∧ w'.cell? ⟨w.heap.size, 1, none⟩ = some (.int .i64 c) ∧ w'.cell? ⟨w.heap.size, 2, none⟩ = some (.string s) :=
  fun w' h => ⟨(h.cell (p := ⟨w.heap.size, 0, none⟩) (by simp)).trans (by simp), (h.cell (p := ⟨w.heap.size, 1, none⟩) (by simp)).trans (by simp), (h.cell (p := ⟨w.heap.size, 2, none⟩) (by simp)).trans (by simp)⟩
theorem xfor_cross (g : Int × Int × ByteArray) {slot : Nat} {x : ByteArray} (hl : (x.size : Int) = ((slG g).getD slot none_Slot).2.2.2) (hs : slot < (slG g).length) : XFor (crossS g) (slG g).length slot x.size := by
  intro y hy
  obtain ⟨i, j, p, r, q, rfl, -, hi, hj, hp, -, hr, -⟩ := cross_facts hy
  have h1 := (len_at hi).2
  have h2 := (len_at hj).2
  have h3 := (len_at hs).1
  exact ⟨i, j, p, r, q, rfl, hi, hj, by omega, by omega, fun e => by subst e; omega, fun e => by subst e; omega⟩
end Go.Proofs.YtgjijmcedonlmaaGreatDoor
