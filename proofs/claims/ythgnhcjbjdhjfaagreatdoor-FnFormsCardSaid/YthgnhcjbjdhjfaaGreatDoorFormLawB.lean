/-
  Plain facts on the parts of a grid: each part has one cell that stands for it; a half turn keeps the number of parts.
  Plain facts on grids of the right form: what their code says, each slot crosses another one, there are two slots at least.
-/
import Derived.Test.YthgnhcjbjdhjfaaGreatDoorFormPure
import Derived.Test.YthgnhcjbjdhjfaaGreatDoorCrossLaw
namespace Go.Proofs.YthgnhcjbjdhjfaaGreatDoor
open Go.RowKit

theorem near_symm {c n i k : Nat} (hc : 2 ≤ c) (hi : i < n) (h : nearN c n i k) : nearN c n k i := by
  rcases h with ⟨h1, h2⟩ | ⟨h1, h2⟩ | ⟨h1, h2⟩ | ⟨h1, h2⟩
  · subst h2
    refine .inr (.inl ⟨?_, rfl⟩)
    exact Classical.byContradiction fun h => by have := (mod_succ (j := k) hc).2 h; omega
  · subst h2
    refine .inl ⟨?_, rfl⟩
    exact Nat.pos_of_ne_zero fun h => (mod_succ hc).1 h h1
  · exact .inr (.inr (.inr ⟨by omega, h2.symm⟩))
  · exact .inr (.inr (.inl ⟨by omega, h2.symm⟩))
theorem near_lt {c n i k : Nat} (hc : 2 ≤ c) {r : Nat} (hn : n = r * c) (hi : i < n) (h : nearN c n i k) : k < n := by
  rcases h with ⟨h1, h2⟩ | ⟨h1, h2⟩ | ⟨h1, h2⟩ | ⟨h1, h2⟩
  · omega
  · subst h2
    refine Nat.lt_of_le_of_ne hi fun h9 => ?_
    have h3 : (i + 1) % c = 0 := by rw [h9, hn]; simp
    exact (mod_succ hc).1 h3 h1
  · omega
  · omega
theorem reach_trans {W : Nat → Bool} {c n i j k : Nat} (h : Reach W c n i j) (h2 : Reach W c n j k) : Reach W c n i k := by
  induction h2 with
  | base => exact h
  | step k j _ h3 h4 h5 ih => exact .step k j ih h3 h4 h5
theorem reach_one {W : Nat → Bool} {c n j k : Nat} (h1 : nearN c n j k) (h2 : j < n) (h3 : W j = true) : Reach W c n k j := .step k j .base h1 h2 h3
theorem reach_symm {W : Nat → Bool} {c n i : Nat} (hc : 2 ≤ c) (hi : i < n) (hW : W i = true) {j : Nat} (h : Reach W c n i j) : Reach W c n j i := by
  induction h with
  | base => exact .base
  | step k j h1 h2 h3 h4 ih => exact reach_trans (reach_one (near_symm hc h3 h2) (reach_lt hi h1) (reach_white hW h1)) ih
/-- The parts have one cell each, apart from one another, that lead to all others. -/
theorem parts_reps (W : Nat → Bool) (c n : Nat) (L : List Nat) : ∃ D : List Nat, D.length = (partsQ W c n L).2 ∧ (∀ d ∈ D, d ∈ L) ∧ D.Pairwise (fun a b => ¬ Reach W c n a b) ∧ (∀ k, (partsQ W c n L).1 k = true ↔ ∃ d ∈ D, Reach W c n d k) ∧ ∀ i ∈ L, ∃ d ∈ D, Reach W c n d i := by
  suffices h : ∀ M : List Nat, ∃ D : List Nat, D.length = (partsQ W c n M.reverse).2 ∧ (∀ d ∈ D, d ∈ M.reverse) ∧ D.Pairwise (fun a b => ¬ Reach W c n a b) ∧ (∀ k, (partsQ W c n M.reverse).1 k = true ↔ ∃ d ∈ D, Reach W c n d k) ∧ ∀ i ∈ M.reverse, ∃ d ∈ D, Reach W c n d i by
    have := h L.reverse
    rwa [List.reverse_reverse] at this
  intro M
  induction M with
  | nil => exact ⟨[], rfl, by simp, List.Pairwise.nil, by simp [partsQ], by simp⟩
  | cons i M ih =>
    obtain ⟨D, h1, h2, h3, h4, h5⟩ := ih
    rw [List.reverse_cons, partsQ_snoc]
    unfold stepQ
    by_cases hm : (partsQ W c n M.reverse).1 i = true
    · rw [if_pos hm]
      refine ⟨D, h1, fun d hd => List.mem_append_left _ (h2 d hd), h3, h4, fun j hj => ?_⟩
      rcases List.mem_append.1 hj with hj | hj
      · exact h5 j hj
      · rw [List.mem_singleton] at hj; subst hj; exact (h4 _).1 hm
    · rw [if_neg hm]
      refine ⟨D ++ [i], by rw [List.length_append, h1]; rfl, fun d hd => ?_, ?_, fun k => ?_, fun j hj => ?_⟩
      · rcases List.mem_append.1 hd with hd | hd
        · exact List.mem_append_left _ (h2 d hd)
        · exact List.mem_append_right _ hd
      · rw [List.pairwise_append]
        refine ⟨h3, List.pairwise_singleton _ _, fun a ha b hb hr => ?_⟩
        rw [List.mem_singleton] at hb
        subst hb
        exact hm ((h4 _).2 ⟨a, ha, hr⟩)
      · show ((partsQ W c n M.reverse).1 k || reachB W c n i k) = true ↔ _
        rw [Bool.or_eq_true, h4, reachB_iff]
        constructor
        · rintro (⟨d, hd, hr⟩ | hr)
          · exact ⟨d, List.mem_append_left _ hd, hr⟩
          · exact ⟨i, by simp, hr⟩
        · rintro ⟨d, hd, hr⟩
          rcases List.mem_append.1 hd with hd | hd
          · exact .inl ⟨d, hd, hr⟩
          · rw [List.mem_singleton] at hd; subst hd; exact .inr hr
      · rcases List.mem_append.1 hj with hj | hj
        · obtain ⟨d, hd, hr⟩ := h5 j hj
          exact ⟨d, List.mem_append_left _ hd, hr⟩
        · rw [List.mem_singleton] at hj; subst hj; exact ⟨j, by simp, .base⟩
theorem nodup_le : ∀ (A B : List Nat), A.Nodup → (∀ a ∈ A, a ∈ B) → A.length ≤ B.length
  | [], _, _, _ => Nat.zero_le _
  | a :: A, B, hn, hs => by
    rw [List.nodup_cons] at hn
    have h1 := nodup_le A (B.erase a) hn.2 (fun x hx => (List.mem_erase_of_ne (fun e => hn.1 (by rw [← e]; exact hx))).2 (hs x (List.mem_cons_of_mem _ hx)))
    have h2 := hs a List.mem_cons_self
    rw [List.length_erase_of_mem h2] at h1
    have h3 : 0 < B.length := List.length_pos_of_mem h2
    rw [List.length_cons]
    omega
/-- Cells that are apart from one another are no more than cells that lead to all of them. -/
theorem reps_le {E : Nat → Nat → Prop} (A B : List Nat) (hA : A.Pairwise fun a b => ¬ E a b) (hs : ∀ a b d, a ∈ A → b ∈ A → d ∈ B → E d a → E d b → E a b) (hB : ∀ a ∈ A, ∃ d ∈ B, E d a) : A.length ≤ B.length := by
  have hf : ∃ f : Nat → Nat, ∀ a ∈ A, f a ∈ B ∧ E (f a) a := ⟨fun a => open Classical in if h : a ∈ A then (hB a h).choose else 0, fun a ha => by
    simp only [ha, dif_pos]
    exact (hB a ha).choose_spec⟩
  obtain ⟨f, hf⟩ := hf
  have h1 : (A.map f).Nodup := by
    unfold List.Nodup
    rw [List.pairwise_map]
    refine List.Pairwise.imp_of_mem (fun {a b} ha hb hab e => hab ?_) hA
    exact hs a b (f a) ha hb (hf a ha).1 (hf a ha).2 (by rw [e]; exact (hf b hb).2)
  have h2 := nodup_le (A.map f) B h1 (fun x hx => by
    obtain ⟨a, ha, rfl⟩ := List.mem_map.1 hx
    exact (hf a ha).1)
  rwa [List.length_map] at h2
theorem near_flip {c n r i k : Nat} (hc : 2 ≤ c) (hn : n = r * c) (hi : i < n) (h : nearN c n i k) : nearN c n (n - 1 - i) (n - 1 - k) := by
  have hk := near_lt hc hn hi h
  have hm : (n - 1 - i) % c = c - 1 - i % c := by
    have h1 := Nat.div_add_mod i c
    have h2 := Nat.mod_lt i (show 0 < c by omega)
    have h3 : i / c < r := (Nat.div_lt_iff_lt_mul (by omega)).2 (by rw [← hn]; exact hi)
    obtain ⟨q, hq⟩ : ∃ q, r = i / c + 1 + q := ⟨r - (i / c + 1), by omega⟩
    have h4 : n = c * (i / c) + c + c * q := by rw [hn, hq, Nat.mul_comm, Nat.mul_add, Nat.mul_add]; omega
    have h5 : n - 1 - i = (c - 1 - i % c) + c * q := by omega
    rw [h5, Nat.add_mul_mod_self_left, Nat.mod_eq_of_lt (by omega)]
  have h2 := Nat.mod_lt i (show 0 < c by omega)
  unfold nearN
  rw [hm]
  rcases h with ⟨h1, h2⟩ | ⟨h1, h2⟩ | ⟨h1, h2⟩ | ⟨h1, h2⟩
  · exact .inr (.inl ⟨by omega, by omega⟩)
  · exact .inl ⟨by omega, by omega⟩
  · exact .inr (.inr (.inr ⟨by omega, by omega⟩))
  · exact .inr (.inr (.inl ⟨by omega, by omega⟩))
theorem reach_flip {W V : Nat → Bool} {c n r i : Nat} (hc : 2 ≤ c) (hn : n = r * c) (hV : ∀ k, k < n → V (n - 1 - k) = W k) {j : Nat} (h : Reach W c n i j) : Reach V c n (n - 1 - i) (n - 1 - j) := by
  induction h with
  | base => exact .base
  | step k j h1 h2 h3 h4 ih => exact .step _ _ ih (near_flip hc hn h3 h2) (by omega) (by rw [hV j h3]; exact h4)
theorem parts_le {W V : Nat → Bool} {c n r : Nat} (hc : 2 ≤ c) (hn : n = r * c) (hV : ∀ k, k < n → V (n - 1 - k) = W k) (hW : ∀ k, k < n → W (n - 1 - k) = V k) : (partsQ W c n ((List.range n).filter W)).2 ≤ (partsQ V c n ((List.range n).filter V)).2 := by
  obtain ⟨A, a1, a2, a3, -, -⟩ := parts_reps W c n ((List.range n).filter W)
  obtain ⟨B, b1, b2, -, -, b5⟩ := parts_reps V c n ((List.range n).filter V)
  have hA : ∀ a ∈ A, a < n ∧ W a = true := fun a ha => by
    have := a2 a ha
    rwa [List.mem_filter, List.mem_range] at this
  have hB : ∀ a ∈ B, a < n ∧ V a = true := fun a ha => by
    have := b2 a ha
    rwa [List.mem_filter, List.mem_range] at this
  rw [← a1, ← b1]
  have h := reps_le (E := fun a b => Reach W c n a b) A (B.map fun b => n - 1 - b) a3 (fun a b d ha hb hd h1 h2 => ?_) (fun a ha => ?_)
  · rwa [List.length_map] at h
  · obtain ⟨e, he, rfl⟩ := List.mem_map.1 hd
    have h3 := hB e he
    exact reach_trans (reach_symm hc (by omega) (by rw [hW e h3.1]; exact h3.2) h1) h2
  · have h1 := hA a ha
    have h2 : n - 1 - a ∈ (List.range n).filter V := by
      rw [List.mem_filter, List.mem_range]
      exact ⟨by omega, by rw [hV a h1.1]; exact h1.2⟩
    obtain ⟨d, hd, hr⟩ := b5 _ h2
    refine ⟨n - 1 - d, List.mem_map.2 ⟨d, hd, rfl⟩, ?_⟩
    have h3 := reach_flip hc hn hW hr
    rwa [show n - 1 - (n - 1 - a) = a by omega] at h3
/-- A half turn keeps the number of parts. -/
theorem parts_flip {W V : Nat → Bool} {c n r : Nat} (hc : 2 ≤ c) (hn : n = r * c) (hV : ∀ k, k < n → V (n - 1 - k) = W k) : (partsQ W c n ((List.range n).filter W)).2 = (partsQ V c n ((List.range n).filter V)).2 := by
  have hW : ∀ k, k < n → W (n - 1 - k) = V k := fun k hk => by
    have := hV (n - 1 - k) (by omega)
    rw [show n - 1 - (n - 1 - k) = k by omega] at this
    exact this.symm
  exact Nat.le_antisymm (parts_le hc hn hV hW) (parts_le hc hn hW hV)
end Go.Proofs.YthgnhcjbjdhjfaaGreatDoor
namespace Go.Proofs.YthgnhcjbjdhjfaaGreatDoor
open Go.RowKit

theorem fine_facts {g : Int × Int × ByteArray} (h : formG g = 0) : isG g = true ∧ symG g = true ∧ partsG g = 1 ∧ shortG g = false ∧ halfG g = false ∧ looseG g = false := by
  unfold formG at h
  split at h
  · cases h
  · split at h
    · cases h
    · split at h
      · split at h
        · cases h
        · split at h
          · cases h
          · rename_i h1 h2 h3 h4 h5
            simp only [Bool.not_eq_false, Bool.not_eq_true, Bool.or_eq_false_iff] at h1 h2 h4 h5
            exact ⟨h1, h2, h3, h4, h5.1, h5.2⟩
      · cases h
theorem fine_slot {g : Int × Int × ByteArray} (h : formG g = 0) {i : Nat} (hi : i < (slG g).length) : 3 ≤ ((slG g).getD i none_Slot).2.2.2 ∧ 2 * unchS g (i : Int) ≤ ((slG g).getD i none_Slot).2.2.2 := by
  obtain ⟨-, -, -, h1, h2, -⟩ := fine_facts h
  have h3 := List.any_eq_false.1 h1 _ (getD_in hi)
  have h4 := List.any_eq_false.1 h2 i (List.mem_range.2 hi)
  simp only [decide_eq_true_eq] at h3 h4
  exact ⟨by omega, by omega⟩
theorem fine_cross {g : Int × Int × ByteArray} (h : formG g = 0) {i : Nat} (hi : i < (slG g).length) : 0 < (crossedS g (i : Int)).length ∧ 2 ≤ (slG g).length := by
  obtain ⟨h1, h2⟩ := fine_slot h hi
  rw [unch_at g hi] at h2
  rw [(len_at hi).1] at h1 h2
  have h3 := ch_unch (slG g) g.2.1 (cellsS g.2.1 ((slG g).getD i none_Slot))
  have h4 : 0 < chN (slG g) g.2.1 (cellsS g.2.1 ((slG g).getD i none_Slot)) := by omega
  unfold chN at h4
  obtain ⟨q, hq⟩ := List.exists_mem_of_length_pos h4
  rw [List.mem_filter] at hq
  obtain ⟨hq1, hq2⟩ := hq
  have hr := slot_range (getD_in hi) hq1
  have hin : i ∈ inS (slG g) g.2.1 q := by
    unfold inS
    rw [List.mem_filter, List.mem_range]
    exact ⟨hi, hasI_iff.2 hq1⟩
  have h5 : (inS (slG g) g.2.1 q).length = 2 := by
    unfold chkL at hq2
    exact of_decide_eq_true hq2
  obtain ⟨a, b, hab⟩ : ∃ a b, inS (slG g) g.2.1 q = [a, b] := by
    match hI : inS (slG g) g.2.1 q, h5 with
    | [a, b], _ => exact ⟨a, b, rfl⟩
  have hx : ((a : Int), (b : Int), (placeI (cellsS g.2.1 ((slG g).getD a none_Slot)) q : Int), (placeI (cellsS g.2.1 ((slG g).getD b none_Slot)) q : Int), q) ∈ crossS g := by
    unfold crossS crossTo
    refine List.mem_flatMap.2 ⟨q.toNat, List.mem_range.2 (by omega), ?_⟩
    rw [show ((q.toNat : Nat) : Int) = q by omega]
    unfold crossAt
    rw [hab]
    simp
  obtain ⟨a', b', p', r', q', e, hab', ha, hb, -⟩ := cross_facts hx
  simp only [Prod.mk.injEq] at e
  obtain rfl : a = a' := by omega
  obtain rfl : b = b' := by omega
  refine ⟨?_, by omega⟩
  rw [(crossedS_perm g (i : Int)).length_eq]
  rw [hab] at hin
  simp only [List.mem_cons, List.not_mem_nil, or_false] at hin
  rcases hin with rfl | rfl
  · refine List.length_pos_of_mem (a := (b : Int)) (List.mem_flatMap.2 ⟨_, hx, ?_⟩)
    unfold otherX
    rw [if_pos rfl]
    simp
  · refine List.length_pos_of_mem (a := (a : Int)) (List.mem_flatMap.2 ⟨_, hx, ?_⟩)
    unfold otherX
    rw [if_neg (by show ¬ (a : Int) = (i : Int); omega), if_pos rfl]
    simp
theorem fine_two {g : Int × Int × ByteArray} (h : formG g = 0) : 2 ≤ (slG g).length := by
  obtain ⟨hg, -, h1, -, -, h2⟩ := fine_facts h
  unfold partsG at h1
  rw [if_pos hg] at h1
  have h3 : ((List.range g.2.2.size).filter (whF g.2.2)) ≠ [] := fun e => by
    unfold partsTo at h1
    rw [e] at h1
    simp [partsQ] at h1
  obtain ⟨k, hk⟩ := List.exists_mem_of_ne_nil _ h3
  rw [List.mem_filter, List.mem_range] at hk
  have h4 := List.any_eq_false.1 h2 k (List.mem_range.2 hk.1)
  rw [isWh_of hg hk.1 hk.2, Bool.true_and, decide_eq_true_eq] at h4
  have h5 : 0 < (slG g).length := by
    refine Nat.pos_of_ne_zero fun h9 => h4 ?_
    unfold atS
    rw [h9]
    rfl
  exact (fine_cross h h5).2
theorem long_ge (l : List SlotV) : ∀ n : Int, n ≤ l.foldl (fun n x => max n x.2.2.2) n ∧ ∀ x ∈ l, x.2.2.2 ≤ l.foldl (fun n x => max n x.2.2.2) n := by
  induction l with
  | nil => intro n; exact ⟨Int.le_refl _, by simp⟩
  | cons y l ih =>
    intro n
    obtain ⟨h1, h2⟩ := ih (max n y.2.2.2)
    rw [List.foldl_cons]
    refine ⟨by omega, fun x hx => ?_⟩
    rcases List.mem_cons.1 hx with rfl | hx
    · omega
    · exact h2 x hx
theorem long_all {g : Int × Int × ByteArray} {i : Nat} (hi : i < (slG g).length) : ((slG g).getD i none_Slot).2.2.2 ≤ longG g := (long_ge _ 0).2 _ (getD_in hi)
/-- A symmetric grid is its own half turn. -/
theorem turn_same {g : Int × Int × ByteArray} (h : symG g = true) : turnG g = g := by
  unfold symG at h
  simp only [Bool.and_eq_true, decide_eq_true_eq] at h
  unfold turnG
  rw [if_pos h.1, h.2]
theorem isG_turn2 {g : Int × Int × ByteArray} (h : isG g = true) : isG (turnG g) = true := by
  have hs := isG_size h
  have h1 : turnG g = (g.1, g.2.1, backL g.2.2) := by unfold turnG; rw [if_pos h]
  rw [h1]
  obtain ⟨a, b, c, d⟩ := of_decide_eq_true h
  exact decide_eq_true ⟨a, b, by show ((backL g.2.2).size : Int) = _; rw [back_size (by omega)]; exact c, fun x hx => by
    have hx2 : x ∈ (backL g.2.2).data.toList := hx
    rw [back_list (by omega)] at hx2
    exact d x (List.mem_reverse.1 hx2)⟩
theorem parts_turn {g : Int × Int × ByteArray} (hg : isG g = true) : partsG (turnG g) = partsG g := by
  obtain ⟨r, c, s⟩ := g
  obtain ⟨R, C, rfl, rfl, h1, h2, h3, h4, h5, h6⟩ := isG_nat hg
  have ht : turnG ((R : Int), (C : Int), s) = ((R : Int), (C : Int), backL s) := by unfold turnG; rw [if_pos hg]
  have hg2 : isG (turnG ((R : Int), (C : Int), s)) = true := isG_turn2 hg
  unfold partsG
  rw [if_pos hg, if_pos hg2, ht]
  have hsz : (backL s).size = s.size := by
    exact back_size (by omega)
  have h36 : s.size ≤ 36 := isG_size hg
  have h9 := parts_flip (W := whF s) (V := whF (backL s)) (c := C) (n := s.size) (r := R) h3 h5 (fun k hk => by
    unfold whF
    rw [back_list (by omega), List.getD_eq_getElem?_getD, List.getD_eq_getElem?_getD, List.getElem?_reverse (by rw [size_list]; omega), size_list, show s.size - 1 - (s.size - 1 - k) = k by omega])
  unfold partsTo
  simp only [Int.toNat_natCast, hsz]
  rw [h9]
end Go.Proofs.YthgnhcjbjdhjfaaGreatDoor
