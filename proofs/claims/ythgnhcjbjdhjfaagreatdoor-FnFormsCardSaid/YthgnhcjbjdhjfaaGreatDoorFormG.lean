/-
  The model's contracts of chapter 10, second part: what one cell leads to.
  The model's contracts of chapter 10, third part: PartsOf.
-/
import Derived.Test.YthgnhcjbjdhjfaaGreatDoorFormD
import Derived.Test.YthgnhcjbjdhjfaaGreatDoorCrossPure
import Derived.Test.YthgnhcjbjdhjfaaGreatDoorPatB
import Derived.Deep.DeepCutAuto
namespace Go.Proofs.YthgnhcjbjdhjfaaGreatDoor
open Go.RowKit

def isFls : Option Value → Bool
  | some (.bool false) => true
  | _ => false
def boolN : Value → Nat
  | .bool true => 1
  | _ => 0
/-- How many cells of a row are false. -/
def falses (w : World) (g n : Nat) : Nat := ((List.range n).filter fun k => isFls (w.cell? ⟨g, k, none⟩)).length
def nf (B : List Bool) : Nat := ((List.range B.length).filter fun k => !B.getD k false).length
theorem falses_is {w : World} {base g n cap : Nat} {e : TypeId} {B : List Bool} (h : w.ownsRow base e 1 (.slice (some ⟨g, 0, none⟩) n cap) n (B.map Value.bool)) (hn : B.length = n) : falses w g n = nf B := by
  unfold falses nf
  rw [hn]
  congr 1
  apply List.filter_congr
  intro k hk
  rw [List.mem_range] at hk
  rw [h.cellAt k (by omega)]
  have hk2 : k < B.length := by omega
  simp only [List.getElem?_map, List.getElem?_eq_getElem hk2, Option.map_some, List.getD_eq_getElem?_getD, Option.getD_some]
  cases B[k] <;> rfl
theorem near_ltF {c n i k : Nat} (hc : 2 ≤ c) {r : Nat} (hn : n = r * c) (hi : i < n) (h : nearN c n i k) : k < n := by
  rcases h with ⟨h1, h2⟩ | ⟨h1, h2⟩ | ⟨h1, h2⟩ | ⟨h1, h2⟩
  · omega
  · subst h2
    refine Nat.lt_of_le_of_ne hi fun h9 => ?_
    have h3 : (i + 1) % c = 0 := by rw [h9, hn]; simp
    exact (mod_succ hc).1 h3 h1
  · omega
  · omega
theorem bool_cell {w : World} {base g n cap : Nat} {e : TypeId} {B : List Bool} (h : w.ownsRow base e 1 (.slice (some ⟨g, 0, none⟩) n cap) n (B.map Value.bool)) (hn : B.length = n) {k : Nat} (hk : k < n) : w.cell? ⟨g, k, none⟩ = some (.bool (B.getD k false)) := by
  rw [h.cellAt k (by omega)]
  have hk2 : k < B.length := by omega
  simp only [List.getElem?_map, List.getElem?_eq_getElem hk2, Option.map_some, List.getD_eq_getElem?_getD, Option.getD_some]
theorem set_getD (B : List Bool) (m k : Nat) (hm : m < B.length) : (B.set m true).getD k false = (decide (k = m) || B.getD k false) := by
  rw [List.getD_eq_getElem?_getD, List.getElem?_set, List.getD_eq_getElem?_getD]
  by_cases h : m = k
  · subst h; simp [hm]
  · rw [if_neg h, decide_eq_false (fun e => h e.symm), Bool.false_or]
theorem filter_oneF (p q : Nat → Bool) (k : Nat) (hq : ∀ i, i ≠ k → q i = p i) (hk : q k = true) : ∀ n, ((List.range n).filter q).length = ((List.range n).filter p).length + if k < n ∧ p k = false then 1 else 0
  | 0 => by simp
  | n + 1 => by
    rw [List.range_succ, List.filter_append, List.filter_append, List.length_append, List.length_append, filter_oneF p q k hq hk n]
    by_cases e : n = k
    · subst e
      rw [List.filter_cons_of_pos hk]
      cases hp : p n
      · rw [List.filter_cons_of_neg (by rw [hp]; decide)]; simp
      · rw [List.filter_cons_of_pos hp]; simp
    · have h1 : ([n].filter q).length = ([n].filter p).length := by rw [List.filter_cons, List.filter_cons, hq n e]; rfl
      rw [h1]
      by_cases h2 : k < n ∧ p k = false
      · rw [if_pos h2, if_pos ⟨by omega, h2.2⟩]; omega
      · rw [if_neg h2, if_neg (fun h => h2 ⟨by omega, h.2⟩)]; omega
theorem nf_set (B : List Bool) (m : Nat) (hm : m < B.length) (h : B.getD m false = false) : nf (B.set m true) + 1 = nf B := by
  unfold nf
  rw [List.length_set]
  have h1 := filter_oneF (fun k => !(B.set m true).getD k false) (fun k => !B.getD k false) m (fun i hi => by
    simp only [set_getD B m i hm, decide_eq_false hi, Bool.false_or]) (by simp only [h]; rfl) B.length
  rw [h1, if_pos ⟨hm, by simp only [set_getD B m m hm]; simp⟩]
theorem store_bool {B : List Bool} {m : Nat} : (B.map Value.bool).set m (.bool true) = (B.set m true).map Value.bool := by rw [List.map_set]
theorem block_grown {W W' : World} {b g : Nat} {o : Obj} (h : W.heap[b]? = some o) (hg : W.grownBy W' (some g)) (hne : g ≠ b) : W'.heap[b]? = some o :=
  (hg.block b (Array.getElem?_eq_some_iff.1 h).1 (fun e => hne (by simp at e; exact e.symm))).trans h
/-- A row of marks of what one cell leads to. -/
def ReachRow (W : World) (s : ByteArray) (C i base g cap : Nat) : Prop := ∃ B : List Bool, B.length = s.size ∧ (∀ k, B.getD k false = reachB (whF s) C s.size i k) ∧ W.ownsRow base 4 1 (.slice (some ⟨g, 0, none⟩) s.size cap) s.size (B.map Value.bool)
end Go.Proofs.YthgnhcjbjdhjfaaGreatDoor
namespace Go.Proofs.YthgnhcjbjdhjfaaGreatDoor
open Go.RowKit

theorem infoBoolP : (Tryz.prog.info? 4).map (fun i => (i.zero, i.size, i.bytes)) = some (some (.bool false), 1, 1) := by kernel_rfl
theorem block_app {W W' : World} {b base n : Nat} {o : Obj} {e : TypeId} {v : Value} {xs : List Value} (h : W.heap[b]? = some o) (ho : W.ownsRow base e 1 v n xs) (hg : W.grownBy W' v.ownBlock) (hb : b < base) : W'.heap[b]? = some o :=
  (hg.block b (Array.getElem?_eq_some_iff.1 h).1 (fun e => by have := (ho.lt b e.symm).1; omega)).trans h
theorem rep_snoc (k : Nat) : (List.replicate k false).map Value.bool ++ [.bool false] = (List.replicate (k + 1) false).map Value.bool := by
  rw [List.replicate_succ', List.map_append]; rfl
theorem bool_some {W : World} {base n : Nat} {e : TypeId} {v : Value} {xs : List Value} (h : W.ownsRow base e 1 v n xs) (h0 : 0 < n) : ∃ g cap, v = .slice (some ⟨g, 0, none⟩) n cap ∧ base ≤ g ∧ g < W.heap.size := by
  rcases h.2 with ⟨e9, hl⟩ | ⟨g, cap', cur, e9, h1, h2, -⟩
  · omega
  · exact ⟨g, cap', e9, h1, (Array.getElem?_eq_some_iff.1 h2).1⟩
theorem one_bytes (k : Nat) (hk : k ≤ 4194304) : (k + 1) * 1 ≤ 140737488355328 := by omega
/-- Two rows of marks joined up to a place. -/
def joinB (A O : List Bool) (k : Nat) : List Bool := (List.range A.length).map fun j => if j < k then A.getD j false || O.getD j false else A.getD j false
theorem joinB_len (A O : List Bool) (k : Nat) : (joinB A O k).length = A.length := by simp [joinB]
theorem joinB_get (A O : List Bool) (k j : Nat) : (joinB A O k).getD j false = if j < A.length then (if j < k then A.getD j false || O.getD j false else A.getD j false) else false := by
  unfold joinB
  rw [List.getD_eq_getElem?_getD, List.getElem?_map]
  by_cases h : j < A.length
  · rw [List.getElem?_range h, if_pos h]; rfl
  · rw [if_neg h, List.getElem?_eq_none (by simpa using h)]; rfl
theorem joinB_zero (A O : List Bool) : joinB A O 0 = A := by
  apply List.ext_getElem
  · simp [joinB]
  · intro j h1 h2
    simp [joinB, List.getD, h2]
theorem joinB_next (A O : List Bool) (k : Nat) (_hk : k < A.length) : (joinB A O k).set k (A.getD k false || O.getD k false) = joinB A O (k + 1) := by
  apply List.ext_getElem
  · simp [joinB]
  · intro j h1 h2
    rw [List.getElem_set]
    by_cases e : k = j
    · subst e; simp [joinB]
    · rw [if_neg e]
      simp only [joinB, List.getElem_map, List.getElem_range]
      by_cases h : j < k
      · rw [if_pos h, if_pos (by omega)]
      · rw [if_neg h, if_neg (by omega)]
theorem store_boolV {B : List Bool} {m : Nat} {b : Bool} : (B.map Value.bool).set m (.bool b) = (B.set m b).map Value.bool := by rw [List.map_set]
theorem keep_row {W W' : World} {base n g : Nat} {e : TypeId} {v : Value} {xs : List Value} (h : W.ownsRow base e 1 v n xs) (hg : W.grownBy W' (some g)) (hne : v.ownBlock ≠ some g) : W'.ownsRow base e 1 v n xs := h.kept hg (.inr hne)
/-- The parts have one cell each, apart from one another, that lead to all others. -/
theorem parts_repsG (W : Nat → Bool) (c n : Nat) (L : List Nat) : ∃ D : List Nat, D.length = (partsQ W c n L).2 ∧ (∀ d ∈ D, d ∈ L) ∧ D.Pairwise (fun a b => ¬ Reach W c n a b) ∧ (∀ k, (partsQ W c n L).1 k = true ↔ ∃ d ∈ D, Reach W c n d k) ∧ ∀ i ∈ L, ∃ d ∈ D, Reach W c n d i := by
  suffices h : ∀ M : List Nat, ∃ D : List Nat, D.length = (partsQ W c n M.reverse).2 ∧ (∀ d ∈ D, d ∈ M.reverse) ∧ D.Pairwise (fun a b => ¬ Reach W c n a b) ∧ (∀ k, (partsQ W c n M.reverse).1 k = true ↔ ∃ d ∈ D, Reach W c n d k) ∧ ∀ i ∈ M.reverse, ∃ d ∈ D, Reach W c n d i by
    have := h L.reverse
    rwa [List.reverse_reverse] at this
  intro M
  induction M with
  | nil => exact ⟨[], rfl, by simp, List.Pairwise.nil, by simp [partsQ], by simp⟩
  | cons i M ih =>
    obtain ⟨D, h1, h2, h3, h4, h5⟩ := ih
    rw [List.reverse_cons, partsQ_snoc]
    unfold stepQ
    by_cases hm : (partsQ W c n M.reverse).1 i = true
    · rw [if_pos hm]
      refine ⟨D, h1, fun d hd => List.mem_append_left _ (h2 d hd), h3, h4, fun j hj => ?_⟩
      rcases List.mem_append.1 hj with hj | hj
      · exact h5 j hj
      · rw [List.mem_singleton] at hj; subst hj; exact (h4 _).1 hm
    · rw [if_neg hm]
      refine ⟨D ++ [i], by rw [List.length_append, h1]; rfl, fun d hd => ?_, ?_, fun k => ?_, fun j hj => ?_⟩
      · rcases List.mem_append.1 hd with hd | hd
        · exact List.mem_append_left _ (h2 d hd)
        · exact List.mem_append_right _ hd
      · rw [List.pairwise_append]
        refine ⟨h3, List.pairwise_singleton _ _, fun a ha b hb hr => ?_⟩
        rw [List.mem_singleton] at hb
        subst hb
        exact hm ((h4 _).2 ⟨a, ha, hr⟩)
      · show ((partsQ W c n M.reverse).1 k || reachB W c n i k) = true ↔ _
        rw [Bool.or_eq_true, h4, reachB_iff]
        constructor
        · rintro (⟨d, hd, hr⟩ | hr)
          · exact ⟨d, List.mem_append_left _ hd, hr⟩
          · exact ⟨i, by simp, hr⟩
        · rintro ⟨d, hd, hr⟩
          rcases List.mem_append.1 hd with hd | hd
          · exact .inl ⟨d, hd, hr⟩
          · rw [List.mem_singleton] at hd; subst hd; exact .inr hr
      · rcases List.mem_append.1 hj with hj | hj
        · obtain ⟨d, hd, hr⟩ := h5 j hj
          exact ⟨d, List.mem_append_left _ hd, hr⟩
        · rw [List.mem_singleton] at hj; subst hj; exact ⟨j, by simp, .base⟩
theorem met_lt (g : Int × Int × ByteArray) (k : Nat) (hk : k ≤ g.2.2.size) : ∀ j, (partsTo g k).1 j = true → j < g.2.2.size := by
  intro j hj
  obtain ⟨D, -, d2, -, d4, -⟩ := parts_repsG (whF g.2.2) g.2.1.toNat g.2.2.size ((List.range k).filter (whF g.2.2))
  obtain ⟨d, hd, hr⟩ := (d4 j).1 hj
  have h1 := d2 d hd
  rw [List.mem_filter, List.mem_range] at h1
  exact reach_lt (by omega) hr
end Go.Proofs.YthgnhcjbjdhjfaaGreatDoor
