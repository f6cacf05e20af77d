/-
  Rows of rows, of no program: a slice of slices of strings that reads as a list of lists; a row of rows of the call's own.
  Contracts of the exact laws' helpers on slices of slices of strings: toStringSS, eqStringSS, szStringSS, markStringSS, heldStringSS.
  append onto a row of the call's own, elements of any number of cells, and where the new row lies; the step of a list and of a region that draws. A row that begins behind its block's head.
-/
import Derived.Test.YtgjijmcedonlmaaGreatDoorVals
namespace Go.Proofs.YtgjijmcedonlmaaGreatDoor
open Go.RowKit

theorem own_empty2 (w : World) (e : TypeId) (s : Nat) : (w.alloc (.cells #[] e)).ownsRow w.heap.size e s (.slice (some ⟨w.heap.size, 0, none⟩) 0 0) 0 [] :=
  World.ownsRow_made w #[] 0 (Nat.le_refl _) (by decide) (by simp)
theorem srcV2 {W : World} {a0 : Option Addr} {s n cap : Nat} {xs : List Value} (h : ReadsV W.heap.size W (.slice a0 n cap) s n xs) (o : Obj) : ∀ j, j < n * s → ∃ b off, a0 = some ⟨b, off, none⟩ ∧ (W.alloc o).cell? ⟨b, off + j, none⟩ = xs[j]? := by
  obtain ⟨-, hx, a1, c1, e, -, h⟩ := h
  cases e
  intro j hj
  obtain ⟨b, off, e1, -, e3⟩ := h j hj
  obtain ⟨u, hu⟩ : ∃ u, xs[j]? = some u := ⟨_, List.getElem?_eq_getElem (by omega)⟩
  rw [hu] at e3
  exact ⟨b, off, e1, by rw [hu]; exact (World.grownBy_alloc W o none).cell e3 (by simp)⟩
theorem nilV2 {B : Nat} {W : World} {a0 : Option Addr} {s n cap : Nat} {xs : List Value} (h : ReadsV B W (.slice a0 n cap) s n xs) : a0 = none → cap = 0 := by
  obtain ⟨-, -, a1, c1, e, hc, -⟩ := h
  cases e
  exact hc.1


/-- v reads as a list of slices of strings. -/
def ReadsN (B : Nat) (W : World) (v : Value) (L : List (List ByteArray)) : Prop :=
  ∃ us : List Value, ReadsV B W v 1 L.length us ∧ ∀ j, j < L.length → ReadsS B W (us.getD j undef) (L.getD j [])
theorem ReadsN.cells {B : Nat} {W : World} {v : Value} {L : List (List ByteArray)} (h : ReadsN B W v L) :
    L.length ≤ 9223372036854775807 ∧ ∃ a0 cap, v = .slice a0 L.length cap ∧ CapOk a0 L.length cap ∧ ∀ j, j < L.length → ∃ b off u, a0 = some ⟨b, off, none⟩ ∧ b < B ∧ W.cell? ⟨b, off + j, none⟩ = some u ∧ ReadsS B W u (L.getD j []) := by
  obtain ⟨us, ⟨h0, hx, a0, cap, rfl, hc, h⟩, hi⟩ := h
  refine ⟨h0, a0, cap, rfl, hc, fun j hj => ?_⟩
  obtain ⟨b, off, e1, e2, e3⟩ := h j (by omega)
  have hj' : j < us.length := by omega
  refine ⟨b, off, us.getD j undef, e1, e2, ?_, hi j hj⟩
  rw [e3]
  simp [List.getD, hj']
theorem ReadsN.later {B : Nat} {W W' : World} {v : Value} {L : List (List ByteArray)} (h : ReadsN B W v L) (hb : Below B W W') : ReadsN B W' v L := by
  obtain ⟨us, h1, h2⟩ := h
  exact ⟨us, h1.later hb, fun j hj => ReadsV.later (h2 j hj) hb⟩
theorem ReadsN.wide {B B' : Nat} {W : World} {v : Value} {L : List (List ByteArray)} (h : ReadsN B W v L) (hB : B ≤ B') : ReadsN B' W v L := by
  obtain ⟨us, h1, h2⟩ := h
  exact ⟨us, h1.wide hB, fun j hj => ReadsV.wide (h2 j hj) hB⟩
theorem ReadsN.now {W W' : World} {v : Value} {L : List (List ByteArray)} (h : ReadsN W.heap.size W v L) (hb : Below W.heap.size W W') : ReadsN W'.heap.size W' v L := (h.later hb).wide hb.size

/-- An owned row hangs on its block alone. -/
theorem ownV_block {W W' : World} {base s n : Nat} {e : TypeId} {v : Value} {xs : List Value} (h : W.ownsRow base e s v n xs) (hb : ∀ k, v.ownBlock = some k → W'.heap[k]? = W.heap[k]?) : W'.ownsRow base e s v n xs := by
  refine ⟨h.1, ?_⟩
  rcases h.2 with hn | ⟨g, cap, cur, rfl, hbg, hg, rest⟩
  · exact .inl hn
  · exact .inr ⟨g, cap, cur, rfl, hbg, (hb g rfl).trans hg, rest⟩
theorem ownV_base {W : World} {base base' s n : Nat} {e : TypeId} {v : Value} {xs : List Value} (h : W.ownsRow base e s v n xs) (hb : ∀ k, v.ownBlock = some k → base' ≤ k) : W.ownsRow base' e s v n xs := by
  refine ⟨h.1, ?_⟩
  rcases h.2 with hn | ⟨g, cap, cur, rfl, hbg, hg, rest⟩
  · exact .inl hn
  · exact .inr ⟨g, cap, cur, rfl, hb g rfl, hg, rest⟩

section
variable {α : Type}
/-- A row of rows of the call's own: v's cells are us, and us's rows are L's lists; each block but one's own lies at base or behind, ahead of top. -/
structure OwnN (f : α → List Value) (s : Nat) (eo ei : TypeId) (W : World) (base top : Nat) (v : Value) (us : List Value) (L : List (List α)) : Prop where
  row : W.ownsRow base eo 1 v L.length us
  inner : ∀ j, j < L.length → W.ownsRow base ei s (us.getD j undef) (L.getD j []).length ((L.getD j []).flatMap f)
  topv : ∀ k, v.ownBlock = some k → k < top
  tops : ∀ j, j < L.length → ∀ k, (us.getD j undef).ownBlock = some k → k < top
  apart : ∀ j, j < L.length → ∀ k, v.ownBlock = some k → (us.getD j undef).ownBlock ≠ some k
  aparts : ∀ i j, i < L.length → j < L.length → i ≠ j → ∀ k, (us.getD i undef).ownBlock = some k → (us.getD j undef).ownBlock ≠ some k
variable {f : α → List Value} {s : Nat} {eo ei : TypeId} {W W' : World} {base top : Nat} {v : Value} {us : List Value} {L : List (List α)}
theorem OwnN.len (h : OwnN f s eo ei W base top v us L) : us.length = L.length := by
  have := h.row.1
  omega
theorem OwnN.low (h : OwnN f s eo ei W base top v us L) : ∀ k, v.ownBlock = some k → base ≤ k ∧ k < W.heap.size := h.row.lt
theorem OwnN.lows (h : OwnN f s eo ei W base top v us L) (j : Nat) (hj : j < L.length) : ∀ k, (us.getD j undef).ownBlock = some k → base ≤ k ∧ k < W.heap.size := (h.inner j hj).lt
/-- Blocks from base to top are kept. -/
theorem OwnN.kept (h : OwnN f s eo ei W base top v us L) (hk : ∀ k, base ≤ k → k < top → W'.heap[k]? = W.heap[k]?) : OwnN f s eo ei W' base top v us L :=
  ⟨ownV_block h.row fun k e => hk k (h.row.lt k e).1 (h.topv k e), fun j hj => ownV_block (h.inner j hj) fun k e => hk k ((h.inner j hj).lt k e).1 (h.tops j hj k e), h.topv, h.tops, h.apart, h.aparts⟩
theorem OwnN.later (h : OwnN f s eo ei W base top v us L) (ht : top ≤ W.heap.size) (hb : Below W.heap.size W W') : OwnN f s eo ei W' base top v us L := h.kept fun k _ h2 => hb.block k (by omega)
theorem OwnN.wide {top' : Nat} (h : OwnN f s eo ei W base top v us L) (ht : top ≤ top') : OwnN f s eo ei W base top' v us L :=
  ⟨h.row, h.inner, fun k e => by have := h.topv k e; omega, fun j hj k e => by have := h.tops j hj k e; omega, h.apart, h.aparts⟩
theorem OwnN.now (h : OwnN f s eo ei W base W.heap.size v us L) (hb : Below W.heap.size W W') : OwnN f s eo ei W' base W'.heap.size v us L := (h.later (Nat.le_refl _) hb).wide hb.size
theorem OwnN.under {base' : Nat} (h : OwnN f s eo ei W base top v us L) (hb : base' ≤ base) : OwnN f s eo ei W base' top v us L :=
  ⟨ownV_base h.row fun k e => Nat.le_trans hb (h.row.lt k e).1, fun j hj => ownV_base (h.inner j hj) fun k e => Nat.le_trans hb ((h.inner j hj).lt k e).1, h.topv, h.tops, h.apart, h.aparts⟩
theorem OwnN.full (h : OwnN f s eo ei W base top v us L) : OwnN f s eo ei W base W.heap.size v us L :=
  ⟨h.row, h.inner, fun k e => (h.row.lt k e).2, fun j hj k e => ((h.inner j hj).lt k e).2, h.apart, h.aparts⟩
theorem OwnN.drew (h : OwnN f s eo ei W base top v us L) : OwnN f s eo ei W.drew base top v us L := h.kept fun _ _ _ => rfl
theorem getD_set_eq {β : Type} {l : List β} {j : Nat} {x d : β} (h : j < l.length) : (l.set j x).getD j d = x := by simp [List.getD, h]
theorem getD_set_ne {β : Type} {l : List β} {i j : Nat} {x d : β} (h : j ≠ i) : (l.set j x).getD i d = l.getD i d := by simp [List.getD, List.getElem?_set_ne h]
/-- A row at j is written anew where it stands: its value as before, or another one on the same block or a new one. -/
theorem OwnN.put {j : Nat} {u : Value} {m : List α} (h : OwnN f s eo ei W base top v us L) (hj : j < L.length)
    (hrow : W'.ownsRow base eo 1 v L.length (us.set j u)) (hu : W'.ownsRow base ei s u m.length (m.flatMap f))
    (hk : ∀ k, k < W.heap.size → v.ownBlock ≠ some k → u.ownBlock ≠ some k → (us.getD j undef).ownBlock ≠ some k → W'.heap[k]? = W.heap[k]?)
    (ha : u.ownBlock = (us.getD j undef).ownBlock ∨ ∀ k, u.ownBlock = some k → top ≤ k) : OwnN f s eo ei W' base W'.heap.size v (us.set j u) (L.set j m) := by
  have hl := h.len
  have hv : ∀ k, v.ownBlock = some k → u.ownBlock ≠ some k := by
    intro k e1 e2
    rcases ha with ha | ha
    · exact h.apart j hj k e1 (ha ▸ e2)
    · have := ha k e2; have := h.topv k e1; omega
  have hi : ∀ i, i < L.length → i ≠ j → ∀ k, (us.getD i undef).ownBlock = some k → u.ownBlock ≠ some k := by
    intro i hi hne k e1 e2
    rcases ha with ha | ha
    · exact h.aparts i j hi hj hne k e1 (ha ▸ e2)
    · have := ha k e2; have := h.tops i hi k e1; omega
  have hin : ∀ i, i < (L.set j m).length → W'.ownsRow base ei s ((us.set j u).getD i undef) ((L.set j m).getD i []).length (((L.set j m).getD i []).flatMap f) := by
    intro i hl'
    rw [List.length_set] at hl'
    by_cases e : i = j
    · subst e
      rw [getD_set_eq (by omega), getD_set_eq (by omega)]
      exact hu
    · rw [getD_set_ne (Ne.symm e), getD_set_ne (Ne.symm e)]
      exact ownV_block (h.inner i hl') fun k e1 => hk k ((h.inner i hl').lt k e1).2 (fun e2 => h.apart i hl' k e2 e1) (hi i hl' e k e1) (fun e2 => h.aparts i j hl' hj e k e1 e2)
  refine ⟨by rw [List.length_set]; exact hrow, hin, fun k e => (hrow.lt k e).2, fun i hl' k e => ((hin i hl').lt k e).2, fun i hl' k e1 e2 => ?_, fun i i' hl' hl'' hne k e1 e2 => ?_⟩
  · rw [List.length_set] at hl'
    by_cases e : i = j
    · subst e
      rw [getD_set_eq (by omega)] at e2
      exact hv k e1 e2
    · rw [getD_set_ne (Ne.symm e)] at e2
      exact h.apart i hl' k e1 e2
  · rw [List.length_set] at hl' hl''
    by_cases e : i = j
    · subst e
      rw [getD_set_eq (by omega)] at e1
      rw [getD_set_ne hne] at e2
      exact hi i' hl'' (Ne.symm hne) k e2 e1
    · rw [getD_set_ne (Ne.symm e)] at e1
      by_cases e' : i' = j
      · subst e'
        rw [getD_set_eq (by omega)] at e2
        exact hi i hl' e k e1 e2
      · rw [getD_set_ne (Ne.symm e')] at e2
        exact h.aparts i i' hl' hl'' hne k e1 e2
theorem getD_app_lt {β : Type} {l : List β} {i : Nat} {x d : β} (h : i < l.length) : (l ++ [x]).getD i d = l.getD i d := by simp [List.getD, List.getElem?_append_left h]
theorem getD_app_eq {β : Type} {l : List β} {i : Nat} {x d : β} (h : i = l.length) : (l ++ [x]).getD i d = x := by subst h; simp [List.getD]
/-- A new row behind the others. -/
theorem OwnN.push {v' u : Value} {m : List α} (h : OwnN f s eo ei W base top v us L)
    (hrow : W'.ownsRow base eo 1 v' (L.length + 1) (us ++ [u])) (hu : W.ownsRow base ei s u m.length (m.flatMap f)) (hut : ∀ k, u.ownBlock = some k → top ≤ k)
    (hg : W.grownBy W' v.ownBlock) (hv' : v'.ownBlock = v.ownBlock ∨ v'.ownBlock = some W.heap.size) : OwnN f s eo ei W' base W'.heap.size v' (us ++ [u]) (L ++ [m]) := by
  have hl := h.len
  have huv : ∀ k, u.ownBlock = some k → v.ownBlock ≠ some k := fun k e1 e2 => by have := hut k e1; have := h.topv k e2; omega
  have hin : ∀ i, i < (L ++ [m]).length → W'.ownsRow base ei s ((us ++ [u]).getD i undef) ((L ++ [m]).getD i []).length (((L ++ [m]).getD i []).flatMap f) := by
    intro i hi
    rw [List.length_append, List.length_singleton] at hi
    by_cases e : i = L.length
    · rw [getD_app_eq (by omega), getD_app_eq e]
      exact ownV_block hu fun k e1 => hg.block k (hu.lt k e1).2 (fun e2 => huv k e1 e2.symm)
    · rw [getD_app_lt (by omega), getD_app_lt (by omega)]
      exact ownV_block (h.inner i (by omega)) fun k e1 => hg.block k ((h.inner i (by omega)).lt k e1).2 (fun e2 => h.apart i (by omega) k e2.symm e1)
  refine ⟨by rw [List.length_append, List.length_singleton]; exact hrow, hin, fun k e => (hrow.lt k e).2, fun i hi k e => ((hin i hi).lt k e).2, fun i hi k e1 e2 => ?_, fun i j hi hj hne k e1 e2 => ?_⟩
  · rw [List.length_append, List.length_singleton] at hi
    have h3 : k < W.heap.size → v.ownBlock = some k := fun h4 => by
      rcases hv' with h5 | h5
      · rw [← h5]; exact e1
      · rw [h5] at e1; injection e1 with e1; omega
    by_cases e : i = L.length
    · rw [getD_app_eq (by omega)] at e2
      exact huv k e2 (h3 (hu.lt k e2).2)
    · rw [getD_app_lt (by omega)] at e2
      exact h.apart i (by omega) k (h3 ((h.inner i (by omega)).lt k e2).2) e2
  · rw [List.length_append, List.length_singleton] at hi hj
    by_cases e : i = L.length
    · rw [getD_app_eq (by omega)] at e1
      rw [getD_app_lt (by omega)] at e2
      have := hut k e1
      have := h.tops j (by omega) k e2
      omega
    · rw [getD_app_lt (by omega)] at e1
      by_cases e' : j = L.length
      · rw [getD_app_eq (by omega)] at e2
        have := hut k e2
        have := h.tops i (by omega) k e1
        omega
      · rw [getD_app_lt (by omega)] at e2
        exact h.aparts i j (by omega) (by omega) hne k e1 e2
theorem OwnN.count {a0 : Option Addr} {n cap : Nat} (h : OwnN f s eo ei W base top (.slice a0 n cap) us L) : n = L.length := by
  rcases h.row.2 with ⟨h', h0⟩ | ⟨g', cap', cur, h', -⟩
  · injection h' with _ e2 _; omega
  · injection h' with _ e2 _
theorem OwnN.spot {g n cap j : Nat} (h : OwnN f s eo ei W base top (.slice (some ⟨g, 0, none⟩) n cap) us L) (hj : j < L.length) : W.cell? ⟨g, j, none⟩ = some (us.getD j undef) := by
  obtain rfl := h.count
  have hl := h.len
  rw [h.row.cellAt j (by omega)]
  simp [List.getD, show j < us.length by omega]
theorem OwnN.soft {g n cap : Nat} (h : OwnN f s eo ei W base top (.slice (some ⟨g, 0, none⟩) n cap) us L) (j : Nat) : W.frozen? ⟨g, j, none⟩ = false := by
  obtain rfl := h.count
  exact h.row.frozenAt j
/-- A row stored at j. -/
theorem OwnN.store {j g n cap : Nat} {u : Value} {m : List α} (h : OwnN f s eo ei W base top (.slice (some ⟨g, 0, none⟩) n cap) us L) (hj : j < L.length) (hu : W.ownsRow base ei s u m.length (m.flatMap f))
    (ha : u.ownBlock = (us.getD j undef).ownBlock ∨ ∀ k, u.ownBlock = some k → top ≤ k) :
    OwnN f s eo ei (W.setCell ⟨g, j, none⟩ u) base (W.setCell ⟨g, j, none⟩ u).heap.size (.slice (some ⟨g, 0, none⟩) n cap) (us.set j u) (L.set j m) ∧ W.grownBy (W.setCell ⟨g, j, none⟩ u) (some g) := by
  obtain rfl := h.count
  have hst := h.row.stored j u
  have hne : ∀ k, u.ownBlock = some k → k ≠ g := by
    intro k e1 e2
    subst e2
    rcases ha with ha | ha
    · exact h.apart j hj k rfl (ha ▸ e1)
    · have := ha k e1; have := h.topv k rfl; omega
  exact ⟨h.put hj hst.1 (ownV_block hu fun k e => heap_setCell_other W ⟨g, j, none⟩ k u (hne k e)) (fun k _ h2 _ _ => heap_setCell_other W ⟨g, j, none⟩ k u (fun e => h2 (by rw [e]; rfl))) ha, hst.2⟩
theorem set_self {β : Type} (l : List β) (j : Nat) (d : β) (h : j < l.length) : l.set j (l.getD j d) = l := by
  rw [show l.getD j d = l[j] by simp [List.getD, h]]
  exact List.set_getElem_self h
/-- A row written anew where it stands. -/
theorem OwnN.redo {j : Nat} {m : List α} (h : OwnN f s eo ei W base top v us L) (hj : j < L.length) (hu : W'.ownsRow base ei s (us.getD j undef) m.length (m.flatMap f)) (hg : W.grownBy W' (us.getD j undef).ownBlock) :
    OwnN f s eo ei W' base top v us (L.set j m) := by
  have hl := h.len
  have h9 := h.put (W' := W') (u := us.getD j undef) (m := m) hj (by rw [set_self us j undef (by omega)]; exact ownV_block h.row fun k e => hg.block k (h.row.lt k e).2 (fun e2 => h.apart j hj k e e2.symm)) hu
    (fun k h1 _ _ h4 => hg.block k h1 (fun e => h4 e.symm)) (.inl rfl)
  rw [set_self us j undef (by omega)] at h9
  exact ⟨h9.row, h9.inner, h.topv, fun i hi k e => h.tops i (by simpa using hi) k e, h9.apart, h9.aparts⟩
/-- Made: all rows are nil. -/
theorem OwnN.made {n : Nat} (h : W.ownsRow base eo 1 v n (List.replicate n (Value.slice none 0 0))) : OwnN f s eo ei W base W.heap.size v (List.replicate n (Value.slice none 0 0)) (List.replicate n ([] : List α)) := by
  have hu : ∀ j, j < n → (List.replicate n (Value.slice none 0 0)).getD j undef = .slice none 0 0 := fun j hj => by simp [List.getD, hj]
  refine ⟨by rw [List.length_replicate]; exact h, fun j hj => ?_, fun k e => (h.lt k e).2, fun j hj k e => ?_, fun j hj k _ e => ?_, fun i j hi hj _ k e => ?_⟩
  · rw [List.length_replicate] at hj
    rw [hu j hj, show (List.replicate n ([] : List α)).getD j [] = [] by simp [List.getD, hj]]
    exact World.ownsRow_nil W base ei s
  · rw [List.length_replicate] at hj
    rw [hu j hj] at e
    cases e
  · rw [List.length_replicate] at hj
    rw [hu j hj] at e
    cases e
  · rw [List.length_replicate] at hi
    rw [hu i hi] at e
    cases e
theorem OwnN.nil (W : World) (base : Nat) (f : α → List Value) (s : Nat) (eo ei : TypeId) : OwnN f s eo ei W base W.heap.size (.slice none 0 0) [] [] :=
  ⟨World.ownsRow_nil W base eo 1, fun j hj => absurd hj (by simp), fun k e => by (cases e), fun j hj => absurd hj (by simp), fun j hj => absurd hj (by simp), fun i j hi => absurd hi (by simp)⟩
theorem OwnN.empty (h : W.ownsRow base eo 1 v 0 []) : OwnN f s eo ei W base W.heap.size v [] [] :=
  ⟨h, fun j hj => absurd hj (by simp), fun k e => (h.lt k e).2, fun j hj => absurd hj (by simp), fun j hj => absurd hj (by simp), fun i j hi => absurd hi (by simp)⟩
theorem OwnN.cell {a0 : Option Addr} {n cap : Nat} (h : OwnN f s eo ei W base top (.slice a0 n cap) us L) {j : Nat} (hj : j < L.length) : ∃ g, a0 = some ⟨g, 0, none⟩ ∧ n = L.length ∧ W.cell? ⟨g, j, none⟩ = some (us.getD j undef) ∧ W.frozen? ⟨g, j, none⟩ = false ∧ g < W.heap.size := by
  obtain ⟨g, c, e⟩ := Joins.ownsRow_form h.row (by omega)
  injection e with e1 e2 e3
  subst e1 e2 e3
  have hl := h.len
  refine ⟨g, rfl, rfl, ?_, h.row.frozenAt j, (h.row.lt g rfl).2⟩
  rw [h.row.cellAt j (by omega)]
  simp [List.getD, show j < us.length by omega]
end
/-- All but the blocks from base to top are kept. -/
structure KeptOut (base top : Nat) (w w' : World) : Prop where
  os : w'.os = w.os
  tape : w'.tape = w.tape
  output : w'.output = w.output
  size : w.heap.size ≤ w'.heap.size
  block : ∀ k, k < w.heap.size → (k < base ∨ top ≤ k) → w'.heap[k]? = w.heap[k]?
theorem KeptOut.refl (base top : Nat) (w : World) : KeptOut base top w w := ⟨rfl, rfl, rfl, Nat.le_refl _, fun _ _ _ => rfl⟩
theorem KeptOut.trans {base top : Nat} {a b d : World} (h : KeptOut base top a b) (k : KeptOut base top b d) : KeptOut base top a d :=
  ⟨k.os.trans h.os, k.tape.trans h.tape, k.output.trans h.output, Nat.le_trans h.size k.size, fun j h1 h2 => (k.block j (Nat.lt_of_lt_of_le h1 h.size) h2).trans (h.block j h1 h2)⟩
theorem KeptOut.of_grown {base top : Nat} {w w' : World} {r : Option Nat} (h : w.grownBy w' r) (hr : ∀ k, r = some k → base ≤ k ∧ k < top) : KeptOut base top w w' :=
  ⟨h.os, h.tape, h.output, h.size, fun k h1 h2 => h.block k h1 (fun e => by have := hr k e.symm; omega)⟩
theorem KeptOut.below {base top B : Nat} {a w w' : World} (h : KeptOut base top w w') (ha : Below B a w) (hB : B ≤ base) (hw : B ≤ w.heap.size) : Below B a w' :=
  ⟨h.os.trans ha.os, h.tape.trans ha.tape, h.output.trans ha.output, Nat.le_trans ha.size h.size, fun k hk => (h.block k (by omega) (.inl (by omega))).trans (ha.block k hk)⟩
theorem flat_strs : ∀ l : List ByteArray, l.flatMap (fun z : ByteArray => [Value.string z]) = l.map Value.string
  | [] => rfl
  | z :: l => by rw [List.flatMap_cons, flat_strs l]; rfl
/-- A row of rows of strings, of the call's own. -/
def OwnT (W : World) (base top : Nat) (v : Value) (L : List (List ByteArray)) : Prop := ∃ us, OwnN (fun z : ByteArray => [Value.string z]) 1 34 9 W base top v us L
theorem OwnT.reads {W : World} {base top : Nat} {v : Value} {L : List (List ByteArray)} (h : OwnT W base top v L) (hl : L.length ≤ 140737488355328) (hm : ∀ m ∈ L, m.length ≤ 140737488355328) : ReadsN W.heap.size W v L := by
  obtain ⟨us, h⟩ := h
  refine ⟨us, readsV_own h.row hl, fun j hj => ?_⟩
  have h1 := h.inner j hj
  rw [flat_strs] at h1
  exact readsV_own h1 (hm _ (by simp [List.getD, hj]))
theorem OwnT.now {W W' : World} {base : Nat} {v : Value} {L : List (List ByteArray)} (h : OwnT W base W.heap.size v L) (hb : Below W.heap.size W W') : OwnT W' base W'.heap.size v L := by
  obtain ⟨us, h⟩ := h
  exact ⟨us, h.now hb⟩
theorem OwnT.later {W W' : World} {base top : Nat} {v : Value} {L : List (List ByteArray)} (h : OwnT W base top v L) (ht : top ≤ W.heap.size) (hb : Below W.heap.size W W') : OwnT W' base top v L := by
  obtain ⟨us, h⟩ := h
  exact ⟨us, h.later ht hb⟩
theorem OwnT.kept {W W' : World} {base top : Nat} {v : Value} {L : List (List ByteArray)} (h : OwnT W base top v L) (hk : ∀ k, base ≤ k → k < top → W'.heap[k]? = W.heap[k]?) : OwnT W' base top v L := by
  obtain ⟨us, h⟩ := h
  exact ⟨us, h.kept hk⟩
theorem OwnT.drew {W : World} {base top : Nat} {v : Value} {L : List (List ByteArray)} (h : OwnT W base top v L) : OwnT W.drew base top v L := by
  obtain ⟨us, h⟩ := h
  exact ⟨us, h.drew⟩
end Go.Proofs.YtgjijmcedonlmaaGreatDoor
namespace Go.Proofs.YtgjijmcedonlmaaGreatDoor
open Go.RowKit

theorem infoStrS : (Tryz.prog.info? 34).map (fun i => (i.zero, i.size, i.bytes)) = some (some (.slice none 0 0), 1, 24) := by kernel_rfl
abbrev fS : ByteArray → List Value := fun z => [Value.string z]
theorem own_base {W : World} {base base' s n : Nat} {e : TypeId} {v : Value} {xs : List Value} (h : W.ownsRow base e s v n xs) (hb : base' ≤ base) : W.ownsRow base' e s v n xs := ownV_base h fun k e => Nat.le_trans hb (h.lt k e).1
/-- What has been copied after k rounds. -/
def doneN (L : List (List ByteArray)) (k : Nat) : List (List ByteArray) := L.take k ++ List.replicate (L.length - k) []
theorem doneN_length (L : List (List ByteArray)) {k : Nat} (h : k ≤ L.length) : (doneN L k).length = L.length := by simp [doneN]; omega
theorem doneN_set (L : List (List ByteArray)) (k : Nat) (h : k < L.length) : (doneN L k).set k (L.getD k []) = doneN L (k + 1) := take_set0 L [] k h
theorem doneN_full (L : List (List ByteArray)) : doneN L L.length = L := by simp [doneN]
theorem doneN_zero (L : List (List ByteArray)) : doneN L 0 = List.replicate L.length [] := by simp [doneN]
theorem own_fS {W : World} {base n : Nat} {e : TypeId} {v : Value} {l : List ByteArray} (h : W.ownsRow base e 1 v n (l.map Value.string)) : W.ownsRow base e 1 v n (l.flatMap fS) := by
  rw [flat_strs]; exact h
theorem own_sF {W : World} {base n : Nat} {e : TypeId} {v : Value} {l : List ByteArray} (h : W.ownsRow base e 1 v n (l.flatMap fS)) : W.ownsRow base e 1 v n (l.map Value.string) := by
  rw [flat_strs] at h; exact h
/-- What szStringSS tells. -/
def SzN (L : List (List ByteArray)) (left r : Int) : Prop := -1 ≤ r ∧ (0 ≤ r → r ≤ left ∧ (L.length : Int) ≤ left ∧ ∀ m ∈ L, (m.length : Int) ≤ left ∧ ∀ z ∈ m, (z.size : Int) ≤ left)
/-- The texts that markStringSS writes into rows of these lengths. -/
def marksN : Nat → List Nat → List (List ByteArray)
  | _, [] => []
  | k, n :: ns => smarks k n :: marksN (k + n) ns
theorem marksN_length : ∀ (ns : List Nat) (k : Nat), (marksN k ns).length = ns.length
  | [], _ => rfl
  | n :: ns, k => by rw [marksN, List.length_cons, marksN_length ns, List.length_cons]
theorem marksN_snoc : ∀ (ns : List Nat) (k n : Nat), marksN k (ns ++ [n]) = marksN k ns ++ [smarks (k + ns.sum) n]
  | [], k, n => by simp [marksN]
  | a :: ns, k, n => by
    rw [List.cons_append, marksN, marksN, marksN_snoc ns (k + a) n, List.cons_append, List.sum_cons, Nat.add_assoc]
theorem marksN_at : ∀ (ns : List Nat) (k j : Nat), j < ns.length → (marksN k ns).getD j [] = smarks (k + (ns.take j).sum) (ns.getD j 0)
  | a :: ns, k, 0, _ => by simp [marksN]
  | a :: ns, k, j + 1, h => by
    rw [marksN, List.getD_cons_succ, marksN_at ns (k + a) j (by simpa using h), List.getD_cons_succ, List.take_succ_cons, List.sum_cons, Nat.add_assoc]
def lensN (L : List (List ByteArray)) : List Nat := L.map List.length
theorem lensN_take {L : List (List ByteArray)} {k : Nat} (h : k < L.length) : (lensN L).take (k + 1) = (lensN L).take k ++ [(L.getD k []).length] := by
  unfold lensN
  rw [List.take_succ_eq_append_getElem (by simpa using h)]
  simp [List.getD, h]
theorem lensN_sum (L : List (List ByteArray)) (k b : Nat) (hb : ∀ m ∈ L, m.length ≤ b) : ((lensN L).take k).sum ≤ L.length * b := by
  have h1 : ∀ (ns : List Nat), (∀ n ∈ ns, n ≤ b) → ns.sum ≤ ns.length * b := by
    intro ns
    induction ns with
    | nil => intro _; simp
    | cons a ns ih =>
      intro h
      have := ih (fun n hn => h n (List.mem_cons_of_mem _ hn))
      have := h a (List.mem_cons_self ..)
      rw [List.sum_cons, List.length_cons, Nat.add_mul]
      omega
  refine Nat.le_trans (h1 _ (fun n hn => ?_)) (Nat.mul_le_mul_right b ?_)
  · obtain ⟨m, hm, rfl⟩ := List.mem_map.1 (List.mem_of_mem_take hn)
    exact hb m hm
  · rw [List.length_take, lensN, List.length_map]
    omega
/-- What has been marked after j rounds. -/
def markedN (k0 : Nat) (L : List (List ByteArray)) (j : Nat) : List (List ByteArray) := marksN k0 ((lensN L).take j) ++ L.drop j
theorem markedN_zero (k0 : Nat) (L : List (List ByteArray)) : markedN k0 L 0 = L := by simp [markedN, marksN]
theorem markedN_full (k0 : Nat) (L : List (List ByteArray)) : markedN k0 L L.length = marksN k0 (lensN L) := by
  unfold markedN
  rw [List.take_of_length_le (by simp [lensN])]
  simp
theorem markedN_length {k0 : Nat} {L : List (List ByteArray)} {j : Nat} (h : j ≤ L.length) : (markedN k0 L j).length = L.length := by
  unfold markedN
  rw [List.length_append, marksN_length, List.length_take, lensN, List.length_map, List.length_drop]
  omega
theorem markedN_at {k0 : Nat} {L : List (List ByteArray)} {j : Nat} (h : j < L.length) : (markedN k0 L j).getD j [] = L.getD j [] := by
  unfold markedN
  have hl : (marksN k0 ((lensN L).take j)).length = j := by rw [marksN_length, List.length_take, lensN, List.length_map]; omega
  rw [List.getD_eq_getElem?_getD, List.getElem?_append_right (by omega), hl, Nat.sub_self, List.getD_eq_getElem?_getD]
  simp
theorem markedN_set {k0 : Nat} {L : List (List ByteArray)} {j : Nat} (h : j < L.length) : (markedN k0 L j).set j (smarks (k0 + ((lensN L).take j).sum) (L.getD j []).length) = markedN k0 L (j + 1) := by
  unfold markedN
  have hl : (marksN k0 ((lensN L).take j)).length = j := by rw [marksN_length, List.length_take, lensN, List.length_map]; omega
  rw [List.set_append_right _ _ (by omega), hl, Nat.sub_self, List.drop_eq_getElem_cons h, List.set_cons_zero, lensN_take h, marksN_snoc, List.append_assoc]
  rfl
theorem marksN_mem {k0 : Nat} {ns : List Nat} {m : List ByteArray} (h : m ∈ marksN k0 ns) : ∃ n ∈ ns, m.length = n := by
  induction ns generalizing k0 with
  | nil => cases h
  | cons a ns ih =>
    rw [marksN] at h
    rcases List.mem_cons.1 h with rfl | h
    · exact ⟨a, List.mem_cons_self .., smarks_length _ _⟩
    · obtain ⟨n, h1, h2⟩ := ih h
      exact ⟨n, List.mem_cons_of_mem _ h1, h2⟩
end Go.Proofs.YtgjijmcedonlmaaGreatDoor
namespace Go.Proofs.YtgjijmcedonlmaaGreatDoor
open Go.RowKit

theorem append_blockV {P : Program} (w : World) (base : Nat) (t ty e : TypeId) (i : TypeInfo) (z : Value) (size bytes : Nat) (ht : P.underlying t = some (.slice e)) (hi : P.info? e = some i) (hz : i.zero = some z)
    (hsize : i.size = size) (hby : i.bytes = bytes) (hzs : z.cells.size = size) (hs0 : 0 < size)
    (v : Value) (n : Nat) (xs : List Value) (hown : w.ownsRow base e size v n xs)
    (a : Addr) (m c : Nat) (news : List Value) (hl : news.length = m * size) (hm : 0 < m) (hnews : ∀ j u, news[j]? = some u → w.cell? (a.add j) = some u) (h1 : ∀ u ∈ news, u.oneCell' = true)
    (h63 : n + m ≤ 140737488355328) (hbytes : (n + m) * bytes ≤ 140737488355328) (hbase : base ≤ w.heap.size) :
    ∃ v' w', (Builtin.append_ #[t, t] ty #[v, .slice (some a) m c]).run P w = .ok v' w' ∧ w'.ownsRow base e size v' (n + m) (xs ++ news) ∧ w.grownBy w' v.ownBlock ∧
      (v'.ownBlock = v.ownBlock ∨ v'.ownBlock = some w.heap.size) := by
  obtain ⟨v', w', hr, h2, h3, -⟩ := run_append_own (P := P) w base t ty e i z size bytes ht hi hz hsize hby hzs hs0 v n xs hown a m c news hl hnews h1 (by unfold maxLen; omega) hbytes hbase
  refine ⟨v', w', hr, h2, h3, ?_⟩
  subst hby
  rcases hown.2 with ⟨rfl, rfl⟩ | ⟨g, cap, cur, rfl, -, hg, -, -, hcs, -⟩
  · rw [run_append_nil (P := P) w t ty e i z ht hi hz a m c news (by rw [hl, hsize]) hnews hm (by omega) (by have hb := hbytes; simp only [Nat.zero_add] at hb; omega)] at hr
    cases hr
    exact Or.inr rfl
  · by_cases hroom : n + m ≤ cap
    · have h5 := Nat.mul_le_mul_right size hroom
      rw [Nat.add_mul] at h5
      rw [run_append_room (P := P) w t ty e i ht hi g n cap cur hg a m c news (by rw [hl, hsize]) hnews h1 hroom (by rw [hl, hcs, hsize]; omega)] at hr
      cases hr
      exact Or.inl rfl
    · rw [run_append_grow (P := P) w t ty e i z ht hi hz ⟨g, 0, none⟩ n cap xs (by rw [hown.1, hsize]) (hown.cells (g := g) rfl) a m c news (by rw [hl, hsize]) hnews (by omega) (by omega) (growslice_fits (by omega) hbytes)] at hr
      cases hr
      exact Or.inr rfl
theorem step_appendW {P : Program} {ops : Array Oper} {o : Oper} {a : Act} {w : World} {K : Act → World → Prop} {Q : Exit → Act → World → Prop} {E : Prop} (hgd : o.guard = none) (s x : Operand) (t : TypeId)
    (ho : o.op = .call { callee := .builtin .append, args := #[s, x], argTypes := #[t, t] })
    (base : Nat) (e : TypeId) (i : TypeInfo) (z : Value) (size bytes : Nat) (ht : P.underlying t = some (.slice e)) (hi : P.info? e = some i) (hz : i.zero = some z)
    (hsize : i.size = size) (hby : i.bytes = bytes) (hzs : z.cells.size = size) (hs0 : 0 < size)
    (v : Value) (n : Nat) (xs : List Value) (hs : a.eval s = v) (hown : w.ownsRow base e size v n xs)
    (ad : Addr) (m c : Nat) (ys : List Value) (hx : a.eval x = .slice (some ad) m c) (hm : ys.length = m * size) (hm0 : 0 < m) (h1 : ∀ u ∈ ys, u.oneCell' = true)
    (hsrc : ∀ j, j < m * size → ∃ b off, some ad = some ⟨b, off, none⟩ ∧ w.cell? ⟨b, off + j, none⟩ = ys[j]?)
    (h63 : n + m ≤ 140737488355328) (hbytes : (n + m) * bytes ≤ 140737488355328) (hbase : base ≤ w.heap.size)
    (h : ∀ v' w', w'.ownsRow base e size v' (n + m) (xs ++ ys) → w.grownBy w' v.ownBlock → (v'.ownBlock = v.ownBlock ∨ v'.ownBlock = some w.heap.size) → K (a.put o.dst v') w') :
    if Region.wanted o (yielded ops a.tmps) = true then Oper.wp P o a w K Q else E := by
  have hw : Region.wanted o (yielded ops a.tmps) = true := by simp [Region.wanted, hgd]
  rw [if_pos hw]
  obtain ⟨v', w', hr, h2, h3, h4⟩ := append_blockV (P := P) w base t o.type e i z size bytes ht hi hz hsize hby hzs hs0 v n xs hown ad m c ys hm hm0
    (fun j u hu => by
      have hj : j < m * size := by
        have := (List.getElem?_eq_some_iff.1 hu).1
        omega
      obtain ⟨b, off, e1, e2⟩ := hsrc j hj
      cases e1
      have e3 : (⟨b, off, none⟩ : Addr).add j = ⟨b, off + j, none⟩ := by unfold Addr.add; split <;> simp_all
      rw [e3, e2]
      exact hu) h1 h63 hbytes hbase
  unfold Oper.wp execOp
  simp only [ho, resolve, invoke, builtin, Sem.run_bind, Sem.run_pure, Result.andThen_ok, List.map_toArray, List.map_cons, List.map_nil, hs, hx, hr]
  exact h v' w' h2 h3 h4
theorem list_appendW {P : Program} (w : World) {ops : Array Oper} {rest : List Oper} {o : Oper} {a : Act} {Q : Exit → Act → World → Prop} (hgd : o.guard = none) (s x : Operand) (t : TypeId)
    (ho : o.op = .call { callee := .builtin .append, args := #[s, x], argTypes := #[t, t] })
    (base : Nat) (e : TypeId) (i : TypeInfo) (z : Value) (size bytes : Nat) (ht : P.underlying t = some (.slice e)) (hi : P.info? e = some i) (hz : i.zero = some z)
    (hsize : i.size = size) (hby : i.bytes = bytes) (hzs : z.cells.size = size) (hs0 : 0 < size)
    (v : Value) (n : Nat) (xs : List Value) (hs : a.eval s = v) (hown : w.ownsRow base e size v n xs)
    (ad : Addr) (m c : Nat) (ys : List Value) (hx : a.eval x = .slice (some ad) m c) (hm : ys.length = m * size) (hm0 : 0 < m) (h1 : ∀ u ∈ ys, u.oneCell' = true)
    (hsrc : ∀ j, j < m * size → ∃ b off, some ad = some ⟨b, off, none⟩ ∧ w.cell? ⟨b, off + j, none⟩ = ys[j]?)
    (h63 : n + m ≤ 140737488355328) (hbytes : (n + m) * bytes ≤ 140737488355328) (hbase : base ≤ w.heap.size)
    (h : ∀ v' w', w'.ownsRow base e size v' (n + m) (xs ++ ys) → w.grownBy w' v.ownBlock → (v'.ownBlock = v.ownBlock ∨ v'.ownBlock = some w.heap.size) → wpList P ops Q rest (a.put o.dst v') w') : wpList P ops Q (o :: rest) a w := by
  refine wpList_plain hgd fun K hK => ?_
  obtain ⟨v', w', hr, h2, h3, h4⟩ := append_blockV (P := P) w base t o.type e i z size bytes ht hi hz hsize hby hzs hs0 v n xs hown ad m c ys hm hm0
    (fun j u hu => by
      have hj : j < m * size := by
        have := (List.getElem?_eq_some_iff.1 hu).1
        omega
      obtain ⟨b, off, e1, e2⟩ := hsrc j hj
      cases e1
      have e3 : (⟨b, off, none⟩ : Addr).add j = ⟨b, off + j, none⟩ := by unfold Addr.add; split <;> simp_all
      rw [e3, e2]
      exact hu) h1 h63 hbytes hbase
  unfold Oper.wp execOp
  simp only [ho, resolve, invoke, builtin, Sem.run_bind, Sem.run_pure, Result.andThen_ok, List.map_toArray, List.map_cons, List.map_nil, hs, hx, hr]
  exact hK _ _ (h v' w' h2 h3 h4)

/-- append(out, row), behind the temporary row that the call lays. -/
theorem OwnN.appended {α : Type} {f : α → List Value} {s : Nat} {eo ei : TypeId} {W W' : World} {base top : Nat} {v v' u : Value} {us : List Value} {L : List (List α)} {m : List α} (h : OwnN f s eo ei W base top v us L) (ht : top ≤ W.heap.size) (o : Obj)
    (hu : W.ownsRow base ei s u m.length (m.flatMap f)) (hut : ∀ k, u.ownBlock = some k → top ≤ k) (hrow : W'.ownsRow base eo 1 v' (L.length + 1) (us ++ [u])) (hg : (W.alloc o).grownBy W' v.ownBlock) (hv' : v'.ownBlock = v.ownBlock ∨ v'.ownBlock = some (W.alloc o).heap.size) :
    OwnN f s eo ei W' base W'.heap.size v' (us ++ [u]) (L ++ [m]) :=
  (h.kept (W' := W.alloc o) fun q _ h2 => (World.grownBy_alloc W o none).block q (Nat.lt_of_lt_of_le h2 ht) (by simp)).push hrow (hu.alloc o) hut hg hv'
/-- A row of one-cell elements of the call's own, that begins at o in its block. -/
def OwnQ (w : World) (base : Nat) (e : TypeId) (v : Value) (n : Nat) (xs : List Value) : Prop :=
  xs.length = n ∧ ((v = .slice none 0 0 ∧ n = 0) ∨ ∃ g o cap cur, v = .slice (some ⟨g, o, none⟩) n cap ∧ base ≤ g ∧ w.heap[g]? = some (.cells cur e (0, 0)) ∧ n ≤ cap ∧ o + cap ≤ maxLen ∧ o + cap ≤ cur.size ∧ (cur.toList.drop o).take n = xs)
theorem OwnQ.of {w : World} {base n : Nat} {e : TypeId} {v : Value} {xs : List Value} (h : w.ownsRow base e 1 v n xs) : OwnQ w base e v n xs := by
  refine ⟨by have := h.1; omega, ?_⟩
  rcases h.2 with h0 | ⟨g, cap, cur, rfl, hb, hg, hnc, hcm, hcs, ht⟩
  · exact .inl h0
  · exact .inr ⟨g, 0, cap, cur, rfl, hb, hg, hnc, by omega, by omega, by rw [List.drop_zero, ← Nat.mul_one n]; exact ht⟩
theorem OwnQ.lt {w : World} {base n : Nat} {e : TypeId} {v : Value} {xs : List Value} (h : OwnQ w base e v n xs) : ∀ k, v.ownBlock = some k → base ≤ k ∧ k < w.heap.size := by
  intro k hk
  rcases h.2 with ⟨rfl, -⟩ | ⟨g, o, cap, cur, rfl, hb, hg, -⟩
  · cases hk
  · cases hk
    exact ⟨hb, (Array.getElem?_eq_some_iff.1 hg).1⟩
theorem OwnQ.kept {w w' : World} {base n : Nat} {e : TypeId} {v : Value} {xs : List Value} (h : OwnQ w base e v n xs) (hb : ∀ k, v.ownBlock = some k → w'.heap[k]? = w.heap[k]?) : OwnQ w' base e v n xs := by
  refine ⟨h.1, ?_⟩
  rcases h.2 with h0 | ⟨g, o, cap, cur, rfl, hbg, hg, rest⟩
  · exact .inl h0
  · exact .inr ⟨g, o, cap, cur, rfl, hbg, (hb g rfl).trans hg, rest⟩
theorem OwnQ.later {w w' : World} {base n : Nat} {e : TypeId} {v : Value} {xs : List Value} (h : OwnQ w base e v n xs) (hb : Below w.heap.size w w') : OwnQ w' base e v n xs := h.kept fun k e1 => hb.block k (h.lt k e1).2
theorem OwnQ.reads {w : World} {base n : Nat} {e : TypeId} {v : Value} {xs : List Value} (h : OwnQ w base e v n xs) (hn : n ≤ 140737488355328) : ReadsV w.heap.size w v 1 n xs := by
  refine ⟨by omega, by have := h.1; omega, ?_⟩
  rcases h.2 with ⟨rfl, rfl⟩ | ⟨g, o, cap, cur, rfl, hbg, hg, hnc, hcm, hcs, ht⟩
  · exact ⟨none, 0, rfl, ⟨fun _ => rfl, Nat.le_refl _, by decide⟩, fun j hj => absurd hj (by omega)⟩
  · refine ⟨_, cap, rfl, ⟨(fun e => by cases e), hnc, by unfold maxLen at hcm; omega⟩, fun j hj => ⟨g, o, rfl, (Array.getElem?_eq_some_iff.1 hg).1, ?_⟩⟩
    rw [← ht, List.getElem?_take_of_lt (by omega), List.getElem?_drop]
    simp [World.cell?, hg]
/-- The head is taken off. -/
theorem OwnQ.tail {w : World} {base n : Nat} {e : TypeId} {g o cap : Nat} {x : Value} {xs : List Value} (h : OwnQ w base e (.slice (some ⟨g, o, none⟩) (n + 1) cap) (n + 1) (x :: xs)) : OwnQ w base e (.slice (some ⟨g, o + 1, none⟩) n (cap - 1)) n xs := by
  rcases h.2 with ⟨h', -⟩ | ⟨g', o', cap', cur, h', hb, hg, hnc, hcm, hcs, ht⟩
  · cases h'
  · simp only [Value.slice.injEq, Option.some.injEq, Addr.mk.injEq, and_true, true_and] at h'
    obtain ⟨⟨rfl, rfl⟩, rfl⟩ := h'
    refine ⟨by have := h.1; simpa using this, .inr ⟨g, o + 1, cap - 1, cur, rfl, hb, hg, by omega, by omega, by omega, ?_⟩⟩
    have h1 : (cur.toList.drop o).take (n + 1) = x :: xs := ht
    rw [← List.drop_drop]
    match hd : cur.toList.drop o, h1 with
    | y :: ys, h1 =>
      rw [List.take_succ_cons] at h1
      injection h1
/-- The head is taken off a row without room: the address stays. -/
theorem OwnQ.tail1 {w : World} {base n : Nat} {e : TypeId} {g o : Nat} {x : Value} {xs : List Value} (h : OwnQ w base e (.slice (some ⟨g, o, none⟩) (n + 1) 1) (n + 1) (x :: xs)) : n = 0 ∧ xs = [] ∧ OwnQ w base e (.slice (some ⟨g, o, none⟩) 0 0) 0 [] := by
  rcases h.2 with ⟨h', -⟩ | ⟨g', o', cap', cur, h', hb, hg, hnc, hcm, hcs, ht⟩
  · cases h'
  · simp only [Value.slice.injEq, Option.some.injEq, Addr.mk.injEq, and_true, true_and] at h'
    obtain ⟨⟨rfl, rfl⟩, rfl⟩ := h'
    have h0 : n = 0 := by omega
    subst h0
    exact ⟨rfl, List.length_eq_zero_iff.1 (by have := h.1; simpa using this), rfl, .inr ⟨g, o, 0, cur, rfl, hb, hg, Nat.le_refl _, by omega, by omega, rfl⟩⟩
theorem OwnQ.form {w : World} {base n : Nat} {e : TypeId} {v : Value} {xs : List Value} (h : OwnQ w base e v n xs) (hn : 0 < n) : ∃ g o cap, v = .slice (some ⟨g, o, none⟩) n cap := by
  rcases h.2 with ⟨-, h0⟩ | ⟨g, o, cap, cur, rfl, -⟩
  · omega
  · exact ⟨g, o, cap, rfl⟩
theorem OwnQ.slice {w : World} {base n : Nat} {e : TypeId} {v : Value} {xs : List Value} (h : OwnQ w base e v n xs) : ∃ a c, v = .slice a n c := by
  rcases h.2 with ⟨rfl, rfl⟩ | ⟨g, o, cap, cur, rfl, -⟩
  · exact ⟨_, _, rfl⟩
  · exact ⟨_, _, rfl⟩
theorem appendQ_block {P : Program} (w : World) (base : Nat) (t ty e : TypeId) (i : TypeInfo) (z : Value) (bytes : Nat) (ht : P.underlying t = some (.slice e)) (hi : P.info? e = some i) (hz : i.zero = some z)
    (hsize : i.size = 1) (hby : i.bytes = bytes) (hzs : z.cells.size = 1)
    (v : Value) (n : Nat) (xs : List Value) (hown : OwnQ w base e v n xs)
    (a : Addr) (c : Nat) (y : Value) (hy : w.cell? a = some y) (h1 : y.oneCell' = true)
    (h63 : n + 1 ≤ 140737488355328) (hbytes : (n + 1) * bytes ≤ 140737488355328) (hbase : base ≤ w.heap.size) :
    ∃ v' w', (Builtin.append_ #[t, t] ty #[v, .slice (some a) 1 c]).run P w = .ok v' w' ∧ OwnQ w' base e v' (n + 1) (xs ++ [y]) ∧ w.grownBy w' v.ownBlock := by
  have hnews : ∀ j u, [y][j]? = some u → w.cell? (a.add j) = some u := fun j u hu => by
    have hj : j = 0 := by have := (List.getElem?_eq_some_iff.1 hu).1; simpa using this
    subst hj
    have e3 : a.add 0 = a := by unfold Addr.add; split <;> first | contradiction | simp_all
    rw [e3, hy]
    simpa using hu
  have h1' : ∀ u ∈ [y], u.oneCell' = true := fun u hu => by rw [List.mem_singleton.1 hu]; exact h1
  rcases hown.2 with ⟨rfl, rfl⟩ | ⟨g, o, cap, cur, rfl, hb, hg, hnc, hcm, hcs, htk⟩
  · obtain ⟨v', w', hr, h2, h3, -⟩ := append_block (P := P) w base t ty e i z bytes ht hi hz hsize hby hzs (.slice none 0 0) 0 [] (World.ownsRow_nil w base e 1) a 1 c [y] rfl (by decide) hnews h1' h63 hbytes hbase
    have hx : xs = [] := List.length_eq_zero_iff.1 hown.1
    subst hx
    exact ⟨v', w', hr, OwnQ.of h2, h3⟩
  · by_cases hroom : n + 1 ≤ cap
    · have hl : [y].length = 1 * i.size := by rw [hsize]; rfl
      have hf := run_firstCells_some (P := P) w i.size 1 a 1 c [y] hl hnews
      have hst := run_storeCells_at P g (o + n * i.size) e [y] 0 cur w hg (by simp [hsize]; omega) h1'
      simp only [Nat.add_zero] at hst
      have hr : (Builtin.append_ #[t, t] ty #[.slice (some ⟨g, o, none⟩) n cap, .slice (some a) 1 c]).run P w =
          .ok (.slice (some ⟨g, o, none⟩) (n + 1) cap) (w.setRow g (cur.toList.take (o + n * i.size) ++ [y] ++ cur.toList.drop (o + n * i.size + [y].length)).toArray) := by
        simp [Builtin.append_, run_underlying ht, sizeOf, typeInfo, hi, Builtin.lenOf, hroom, hf, Addr.add_lit, hst]
      rw [hsize, Nat.mul_one] at hr
      have hx : xs.length = n := hown.1
      refine ⟨_, _, hr, ⟨by simp [hx], .inr ⟨g, o, cap, (cur.toList.take (o + n) ++ [y] ++ cur.toList.drop (o + n + [y].length)).toArray, rfl, hb, setRow_heap w g cur _ e _ hg, hroom, hcm, ?_, ?_⟩⟩, ⟨rfl, rfl, rfl, by simp, fun k _ hk => setRow_other w g k _ (fun e => hk (by simp [Value.ownBlock, e]))⟩⟩
      · simp only [List.size_toArray, List.length_append, List.length_take, List.length_singleton, List.length_drop, Array.length_toList]
        omega
      · simp only [List.append_assoc]
        rw [List.drop_append_of_le_length (by rw [List.length_take, Array.length_toList]; omega), List.drop_take, Nat.add_sub_cancel_left, htk, List.take_append, hx, List.take_of_length_le (by omega)]
        simp
    · have hx : xs.length = n := hown.1
      have hoc : ∀ j u, xs[j]? = some u → w.cell? ((⟨g, o, none⟩ : Addr).add j) = some u := fun j u hu => by
        have hj : j < n := by have := (List.getElem?_eq_some_iff.1 hu).1; omega
        rw [← htk, List.getElem?_take_of_lt (by omega), List.getElem?_drop] at hu
        rw [show (⟨g, o, none⟩ : Addr).add j = ⟨g, o + j, none⟩ by unfold Addr.add; split <;> simp_all]
        simp only [World.cell?, hg]
        simpa using hu
      have hr := run_append_grow (P := P) w t ty e i z ht hi hz ⟨g, o, none⟩ n cap xs (by rw [hx, hsize]; omega) hoc a 1 c [y] (by rw [hsize]; rfl) hnews (by omega) (by omega) (growslice_fits (by omega) (by rw [hby]; exact hbytes))
      have hge := grownCap_ge w (n + 1) cap e
      have hcm2 : grownCap w (n + 1) cap e ≤ maxLen := grownCap_le_maxLen w (n + 1) cap e (by unfold maxLen; omega)
      refine ⟨_, _, hr, OwnQ.of ⟨by simp [hx], .inr ⟨w.heap.size, _, _, rfl, hbase, heap_alloc_new w.drew _, hge, hcm2, ?_, ?_⟩⟩, ⟨rfl, rfl, rfl, by simp, fun k hk _ => by first | exact heap_alloc_old w.drew _ k hk | exact heap_alloc_old w.drew _ hk | exact fun hk _ => heap_alloc_old w.drew _ k hk⟩⟩
      · simp only [Array.size_append, List.size_toArray, size_zeroCells, hzs, hx, List.length_singleton]
        omega
      · simp only [Array.toList_append, List.append_assoc]
        rw [← List.append_assoc, Nat.mul_one, show n + 1 = (xs ++ [y]).length by simp [hx]]
        exact List.take_left
theorem list_appendQ {P : Program} (w : World) {ops : Array Oper} {rest : List Oper} {o : Oper} {a : Act} {Q : Exit → Act → World → Prop} (hgd : o.guard = none) (s x : Operand) (t : TypeId)
    (ho : o.op = .call { callee := .builtin .append, args := #[s, x], argTypes := #[t, t] })
    (base : Nat) (e : TypeId) (i : TypeInfo) (z : Value) (bytes : Nat) (ht : P.underlying t = some (.slice e)) (hi : P.info? e = some i) (hz : i.zero = some z)
    (hsize : i.size = 1) (hby : i.bytes = bytes) (hzs : z.cells.size = 1)
    (v : Value) (n : Nat) (xs : List Value) (hs : a.eval s = v) (hown : OwnQ w base e v n xs)
    (ad : Addr) (c : Nat) (y : Value) (hx : a.eval x = .slice (some ad) 1 c) (h1 : y.oneCell' = true) (hsrc : w.cell? ad = some y)
    (h63 : n + 1 ≤ 140737488355328) (hbytes : (n + 1) * bytes ≤ 140737488355328) (hbase : base ≤ w.heap.size)
    (h : ∀ v' w', OwnQ w' base e v' (n + 1) (xs ++ [y]) → w.grownBy w' v.ownBlock → wpList P ops Q rest (a.put o.dst v') w') : wpList P ops Q (o :: rest) a w := by
  refine wpList_plain hgd fun K hK => ?_
  obtain ⟨v', w', hr, h2, h3⟩ := appendQ_block (P := P) w base t o.type e i z bytes ht hi hz hsize hby hzs v n xs hown ad c y hsrc h1 h63 hbytes hbase
  unfold Oper.wp execOp
  simp only [ho, resolve, invoke, builtin, Sem.run_bind, Sem.run_pure, Result.andThen_ok, List.map_toArray, List.map_cons, List.map_nil, hs, hx, hr]
  exact hK _ _ (h v' w' h2 h3)
end Go.Proofs.YtgjijmcedonlmaaGreatDoor
