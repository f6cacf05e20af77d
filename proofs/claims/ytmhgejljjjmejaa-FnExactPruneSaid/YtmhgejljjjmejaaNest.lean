/-
  Rows of rows, of no program: a slice of slices of strings that reads as a list of lists; a row of rows of the call's own.
-/
import Derived.Test.YtmhgejljjjmejaaVals
namespace Go.Proofs.Ytmhgejljjjmejaa
open Go.RowKit

theorem own_empty2 (w : World) (e : TypeId) (s : Nat) : (w.alloc (.cells #[] e)).ownsRow w.heap.size e s (.slice (some ⟨w.heap.size, 0, none⟩) 0 0) 0 [] :=
  World.ownsRow_made w #[] 0 (Nat.le_refl _) (by decide) (by simp)
theorem srcV2 {W : World} {a0 : Option Addr} {s n cap : Nat} {xs : List Value} (h : ReadsV W.heap.size W (.slice a0 n cap) s n xs) (o : Obj) : ∀ j, j < n * s → ∃ b off, a0 = some ⟨b, off, none⟩ ∧ (W.alloc o).cell? ⟨b, off + j, none⟩ = xs[j]? := by
  obtain ⟨-, hx, a1, c1, e, -, h⟩ := h
  cases e
  intro j hj
  obtain ⟨b, off, e1, -, e3⟩ := h j hj
  obtain ⟨u, hu⟩ : ∃ u, xs[j]? = some u := ⟨_, List.getElem?_eq_getElem (by omega)⟩
  rw [hu] at e3
  exact ⟨b, off, e1, by rw [hu]; exact (World.grownBy_alloc W o none).cell e3 (by simp)⟩
theorem nilV2 {B : Nat} {W : World} {a0 : Option Addr} {s n cap : Nat} {xs : List Value} (h : ReadsV B W (.slice a0 n cap) s n xs) : a0 = none → cap = 0 := by
  obtain ⟨-, -, a1, c1, e, hc, -⟩ := h
  cases e
  exact hc.1


/-- v reads as a list of slices of strings. -/
def ReadsN (B : Nat) (W : World) (v : Value) (L : List (List ByteArray)) : Prop :=
  ∃ us : List Value, ReadsV B W v 1 L.length us ∧ ∀ j, j < L.length → ReadsS B W (us.getD j undef) (L.getD j [])
theorem ReadsN.cells {B : Nat} {W : World} {v : Value} {L : List (List ByteArray)} (h : ReadsN B W v L) :
    L.length ≤ 9223372036854775807 ∧ ∃ a0 cap, v = .slice a0 L.length cap ∧ CapOk a0 L.length cap ∧ ∀ j, j < L.length → ∃ b off u, a0 = some ⟨b, off, none⟩ ∧ b < B ∧ W.cell? ⟨b, off + j, none⟩ = some u ∧ ReadsS B W u (L.getD j []) := by
  obtain ⟨us, ⟨h0, hx, a0, cap, rfl, hc, h⟩, hi⟩ := h
  refine ⟨h0, a0, cap, rfl, hc, fun j hj => ?_⟩
  obtain ⟨b, off, e1, e2, e3⟩ := h j (by omega)
  have hj' : j < us.length := by omega
  refine ⟨b, off, us.getD j undef, e1, e2, ?_, hi j hj⟩
  rw [e3]
  simp [List.getD, hj']
theorem ReadsN.later {B : Nat} {W W' : World} {v : Value} {L : List (List ByteArray)} (h : ReadsN B W v L) (hb : Below B W W') : ReadsN B W' v L := by
  obtain ⟨us, h1, h2⟩ := h
  exact ⟨us, h1.later hb, fun j hj => ReadsV.later (h2 j hj) hb⟩
theorem ReadsN.wide {B B' : Nat} {W : World} {v : Value} {L : List (List ByteArray)} (h : ReadsN B W v L) (hB : B ≤ B') : ReadsN B' W v L := by
  obtain ⟨us, h1, h2⟩ := h
  exact ⟨us, h1.wide hB, fun j hj => ReadsV.wide (h2 j hj) hB⟩
theorem ReadsN.now {W W' : World} {v : Value} {L : List (List ByteArray)} (h : ReadsN W.heap.size W v L) (hb : Below W.heap.size W W') : ReadsN W'.heap.size W' v L := (h.later hb).wide hb.size

/-- An owned row hangs on its block alone. -/
theorem ownV_block {W W' : World} {base s n : Nat} {e : TypeId} {v : Value} {xs : List Value} (h : W.ownsRow base e s v n xs) (hb : ∀ k, v.ownBlock = some k → W'.heap[k]? = W.heap[k]?) : W'.ownsRow base e s v n xs := by
  refine ⟨h.1, ?_⟩
  rcases h.2 with hn | ⟨g, cap, cur, rfl, hbg, hg, rest⟩
  · exact .inl hn
  · exact .inr ⟨g, cap, cur, rfl, hbg, (hb g rfl).trans hg, rest⟩
theorem ownV_base {W : World} {base base' s n : Nat} {e : TypeId} {v : Value} {xs : List Value} (h : W.ownsRow base e s v n xs) (hb : ∀ k, v.ownBlock = some k → base' ≤ k) : W.ownsRow base' e s v n xs := by
  refine ⟨h.1, ?_⟩
  rcases h.2 with hn | ⟨g, cap, cur, rfl, hbg, hg, rest⟩
  · exact .inl hn
  · exact .inr ⟨g, cap, cur, rfl, hb g rfl, hg, rest⟩

section
variable {α : Type}
/-- A row of rows of the call's own: v's cells are us, and us's rows are L's lists; each block but one's own lies at base or behind, ahead of top. -/
structure OwnN (f : α → List Value) (s : Nat) (eo ei : TypeId) (W : World) (base top : Nat) (v : Value) (us : List Value) (L : List (List α)) : Prop where
  row : W.ownsRow base eo 1 v L.length us
  inner : ∀ j, j < L.length → W.ownsRow base ei s (us.getD j undef) (L.getD j []).length ((L.getD j []).flatMap f)
  topv : ∀ k, v.ownBlock = some k → k < top
  tops : ∀ j, j < L.length → ∀ k, (us.getD j undef).ownBlock = some k → k < top
  apart : ∀ j, j < L.length → ∀ k, v.ownBlock = some k → (us.getD j undef).ownBlock ≠ some k
  aparts : ∀ i j, i < L.length → j < L.length → i ≠ j → ∀ k, (us.getD i undef).ownBlock = some k → (us.getD j undef).ownBlock ≠ some k
variable {f : α → List Value} {s : Nat} {eo ei : TypeId} {W W' : World} {base top : Nat} {v : Value} {us : List Value} {L : List (List α)}
theorem OwnN.len (h : OwnN f s eo ei W base top v us L) : us.length = L.length := by
  have := h.row.1
  omega
theorem OwnN.low (h : OwnN f s eo ei W base top v us L) : ∀ k, v.ownBlock = some k → base ≤ k ∧ k < W.heap.size := h.row.lt
theorem OwnN.lows (h : OwnN f s eo ei W base top v us L) (j : Nat) (hj : j < L.length) : ∀ k, (us.getD j undef).ownBlock = some k → base ≤ k ∧ k < W.heap.size := (h.inner j hj).lt
/-- Blocks from base to top are kept. -/
theorem OwnN.kept (h : OwnN f s eo ei W base top v us L) (hk : ∀ k, base ≤ k → k < top → W'.heap[k]? = W.heap[k]?) : OwnN f s eo ei W' base top v us L :=
  ⟨ownV_block h.row fun k e => hk k (h.row.lt k e).1 (h.topv k e), fun j hj => ownV_block (h.inner j hj) fun k e => hk k ((h.inner j hj).lt k e).1 (h.tops j hj k e), h.topv, h.tops, h.apart, h.aparts⟩
theorem OwnN.later (h : OwnN f s eo ei W base top v us L) (ht : top ≤ W.heap.size) (hb : Below W.heap.size W W') : OwnN f s eo ei W' base top v us L := h.kept fun k _ h2 => hb.block k (by omega)
theorem OwnN.wide {top' : Nat} (h : OwnN f s eo ei W base top v us L) (ht : top ≤ top') : OwnN f s eo ei W base top' v us L :=
  ⟨h.row, h.inner, fun k e => by have := h.topv k e; omega, fun j hj k e => by have := h.tops j hj k e; omega, h.apart, h.aparts⟩
theorem OwnN.now (h : OwnN f s eo ei W base W.heap.size v us L) (hb : Below W.heap.size W W') : OwnN f s eo ei W' base W'.heap.size v us L := (h.later (Nat.le_refl _) hb).wide hb.size
theorem OwnN.under {base' : Nat} (h : OwnN f s eo ei W base top v us L) (hb : base' ≤ base) : OwnN f s eo ei W base' top v us L :=
  ⟨ownV_base h.row fun k e => Nat.le_trans hb (h.row.lt k e).1, fun j hj => ownV_base (h.inner j hj) fun k e => Nat.le_trans hb ((h.inner j hj).lt k e).1, h.topv, h.tops, h.apart, h.aparts⟩
theorem OwnN.full (h : OwnN f s eo ei W base top v us L) : OwnN f s eo ei W base W.heap.size v us L :=
  ⟨h.row, h.inner, fun k e => (h.row.lt k e).2, fun j hj k e => ((h.inner j hj).lt k e).2, h.apart, h.aparts⟩
theorem OwnN.drew (h : OwnN f s eo ei W base top v us L) : OwnN f s eo ei W.drew base top v us L := h.kept fun _ _ _ => rfl
theorem getD_set_eq {β : Type} {l : List β} {j : Nat} {x d : β} (h : j < l.length) : (l.set j x).getD j d = x := by simp [List.getD, h]
theorem getD_set_ne {β : Type} {l : List β} {i j : Nat} {x d : β} (h : j ≠ i) : (l.set j x).getD i d = l.getD i d := by simp [List.getD, List.getElem?_set_ne h]
/-- A row at j is written anew where it stands: its value as before, or another one on the same block or a new one. -/
theorem OwnN.put {j : Nat} {u : Value} {m : List α} (h : OwnN f s eo ei W base top v us L) (hj : j < L.length)
    (hrow : W'.ownsRow base eo 1 v L.length (us.set j u)) (hu : W'.ownsRow base ei s u m.length (m.flatMap f))
    (hk : ∀ k, k < W.heap.size → v.ownBlock ≠ some k → u.ownBlock ≠ some k → (us.getD j undef).ownBlock ≠ some k → W'.heap[k]? = W.heap[k]?)
    (ha : u.ownBlock = (us.getD j undef).ownBlock ∨ ∀ k, u.ownBlock = some k → top ≤ k) : OwnN f s eo ei W' base W'.heap.size v (us.set j u) (L.set j m) := by
  have hl := h.len
  have hv : ∀ k, v.ownBlock = some k → u.ownBlock ≠ some k := by
    intro k e1 e2
    rcases ha with ha | ha
    · exact h.apart j hj k e1 (ha ▸ e2)
    · have := ha k e2; have := h.topv k e1; omega
  have hi : ∀ i, i < L.length → i ≠ j → ∀ k, (us.getD i undef).ownBlock = some k → u.ownBlock ≠ some k := by
    intro i hi hne k e1 e2
    rcases ha with ha | ha
    · exact h.aparts i j hi hj hne k e1 (ha ▸ e2)
    · have := ha k e2; have := h.tops i hi k e1; omega
  have hin : ∀ i, i < (L.set j m).length → W'.ownsRow base ei s ((us.set j u).getD i undef) ((L.set j m).getD i []).length (((L.set j m).getD i []).flatMap f) := by
    intro i hl'
    rw [List.length_set] at hl'
    by_cases e : i = j
    · subst e
      rw [getD_set_eq (by omega), getD_set_eq (by omega)]
      exact hu
    · rw [getD_set_ne (Ne.symm e), getD_set_ne (Ne.symm e)]
      exact ownV_block (h.inner i hl') fun k e1 => hk k ((h.inner i hl').lt k e1).2 (fun e2 => h.apart i hl' k e2 e1) (hi i hl' e k e1) (fun e2 => h.aparts i j hl' hj e k e1 e2)
  refine ⟨by rw [List.length_set]; exact hrow, hin, fun k e => (hrow.lt k e).2, fun i hl' k e => ((hin i hl').lt k e).2, fun i hl' k e1 e2 => ?_, fun i i' hl' hl'' hne k e1 e2 => ?_⟩
  · rw [List.length_set] at hl'
    by_cases e : i = j
    · subst e
      rw [getD_set_eq (by omega)] at e2
      exact hv k e1 e2
    · rw [getD_set_ne (Ne.symm e)] at e2
      exact h.apart i hl' k e1 e2
  · rw [List.length_set] at hl' hl''
    by_cases e : i = j
    · subst e
      rw [getD_set_eq (by omega)] at e1
      rw [getD_set_ne hne] at e2
      exact hi i' hl'' (Ne.symm hne) k e2 e1
    · rw [getD_set_ne (Ne.symm e)] at e1
      by_cases e' : i' = j
      · subst e'
        rw [getD_set_eq (by omega)] at e2
        exact hi i hl' e k e1 e2
      · rw [getD_set_ne (Ne.symm e')] at e2
        exact h.aparts i i' hl' hl'' hne k e1 e2
theorem getD_app_lt {β : Type} {l : List β} {i : Nat} {x d : β} (h : i < l.length) : (l ++ [x]).getD i d = l.getD i d := by simp [List.getD, List.getElem?_append_left h]
theorem getD_app_eq {β : Type} {l : List β} {i : Nat} {x d : β} (h : i = l.length) : (l ++ [x]).getD i d = x := by subst h; simp [List.getD]
/-- A new row behind the others. -/
theorem OwnN.push {v' u : Value} {m : List α} (h : OwnN f s eo ei W base top v us L)
    (hrow : W'.ownsRow base eo 1 v' (L.length + 1) (us ++ [u])) (hu : W.ownsRow base ei s u m.length (m.flatMap f)) (hut : ∀ k, u.ownBlock = some k → top ≤ k)
    (hg : W.grownBy W' v.ownBlock) (hv' : v'.ownBlock = v.ownBlock ∨ v'.ownBlock = some W.heap.size) : OwnN f s eo ei W' base W'.heap.size v' (us ++ [u]) (L ++ [m]) := by
  have hl := h.len
  have huv : ∀ k, u.ownBlock = some k → v.ownBlock ≠ some k := fun k e1 e2 => by have := hut k e1; have := h.topv k e2; omega
  have hin : ∀ i, i < (L ++ [m]).length → W'.ownsRow base ei s ((us ++ [u]).getD i undef) ((L ++ [m]).getD i []).length (((L ++ [m]).getD i []).flatMap f) := by
    intro i hi
    rw [List.length_append, List.length_singleton] at hi
    by_cases e : i = L.length
    · rw [getD_app_eq (by omega), getD_app_eq e]
      exact ownV_block hu fun k e1 => hg.block k (hu.lt k e1).2 (fun e2 => huv k e1 e2.symm)
    · rw [getD_app_lt (by omega), getD_app_lt (by omega)]
      exact ownV_block (h.inner i (by omega)) fun k e1 => hg.block k ((h.inner i (by omega)).lt k e1).2 (fun e2 => h.apart i (by omega) k e2.symm e1)
  refine ⟨by rw [List.length_append, List.length_singleton]; exact hrow, hin, fun k e => (hrow.lt k e).2, fun i hi k e => ((hin i hi).lt k e).2, fun i hi k e1 e2 => ?_, fun i j hi hj hne k e1 e2 => ?_⟩
  · rw [List.length_append, List.length_singleton] at hi
    have h3 : k < W.heap.size → v.ownBlock = some k := fun h4 => by
      rcases hv' with h5 | h5
      · rw [← h5]; exact e1
      · rw [h5] at e1; injection e1 with e1; omega
    by_cases e : i = L.length
    · rw [getD_app_eq (by omega)] at e2
      exact huv k e2 (h3 (hu.lt k e2).2)
    · rw [getD_app_lt (by omega)] at e2
      exact h.apart i (by omega) k (h3 ((h.inner i (by omega)).lt k e2).2) e2
  · rw [List.length_append, List.length_singleton] at hi hj
    by_cases e : i = L.length
    · rw [getD_app_eq (by omega)] at e1
      rw [getD_app_lt (by omega)] at e2
      have := hut k e1
      have := h.tops j (by omega) k e2
      omega
    · rw [getD_app_lt (by omega)] at e1
      by_cases e' : j = L.length
      · rw [getD_app_eq (by omega)] at e2
        have := hut k e2
        have := h.tops i (by omega) k e1
        omega
      · rw [getD_app_lt (by omega)] at e2
        exact h.aparts i j (by omega) (by omega) hne k e1 e2
theorem OwnN.count {a0 : Option Addr} {n cap : Nat} (h : OwnN f s eo ei W base top (.slice a0 n cap) us L) : n = L.length := by
  rcases h.row.2 with ⟨h', h0⟩ | ⟨g', cap', cur, h', -⟩
  · injection h' with _ e2 _; omega
  · injection h' with _ e2 _
theorem OwnN.spot {g n cap j : Nat} (h : OwnN f s eo ei W base top (.slice (some ⟨g, 0, none⟩) n cap) us L) (hj : j < L.length) : W.cell? ⟨g, j, none⟩ = some (us.getD j undef) := by
  obtain rfl := h.count
  have hl := h.len
  rw [h.row.cellAt j (by omega)]
  simp [List.getD, show j < us.length by omega]
theorem OwnN.soft {g n cap : Nat} (h : OwnN f s eo ei W base top (.slice (some ⟨g, 0, none⟩) n cap) us L) (j : Nat) : W.frozen? ⟨g, j, none⟩ = false := by
  obtain rfl := h.count
  exact h.row.frozenAt j
/-- A row stored at j. -/
theorem OwnN.store {j g n cap : Nat} {u : Value} {m : List α} (h : OwnN f s eo ei W base top (.slice (some ⟨g, 0, none⟩) n cap) us L) (hj : j < L.length) (hu : W.ownsRow base ei s u m.length (m.flatMap f))
    (ha : u.ownBlock = (us.getD j undef).ownBlock ∨ ∀ k, u.ownBlock = some k → top ≤ k) :
    OwnN f s eo ei (W.setCell ⟨g, j, none⟩ u) base (W.setCell ⟨g, j, none⟩ u).heap.size (.slice (some ⟨g, 0, none⟩) n cap) (us.set j u) (L.set j m) ∧ W.grownBy (W.setCell ⟨g, j, none⟩ u) (some g) := by
  obtain rfl := h.count
  have hst := h.row.stored j u
  have hne : ∀ k, u.ownBlock = some k → k ≠ g := by
    intro k e1 e2
    subst e2
    rcases ha with ha | ha
    · exact h.apart j hj k rfl (ha ▸ e1)
    · have := ha k e1; have := h.topv k rfl; omega
  exact ⟨h.put hj hst.1 (ownV_block hu fun k e => heap_setCell_other W ⟨g, j, none⟩ k u (hne k e)) (fun k _ h2 _ _ => heap_setCell_other W ⟨g, j, none⟩ k u (fun e => h2 (by rw [e]; rfl))) ha, hst.2⟩
theorem set_self {β : Type} (l : List β) (j : Nat) (d : β) (h : j < l.length) : l.set j (l.getD j d) = l := by
  rw [show l.getD j d = l[j] by simp [List.getD, h]]
  exact List.set_getElem_self h
/-- A row written anew where it stands. -/
theorem OwnN.redo {j : Nat} {m : List α} (h : OwnN f s eo ei W base top v us L) (hj : j < L.length) (hu : W'.ownsRow base ei s (us.getD j undef) m.length (m.flatMap f)) (hg : W.grownBy W' (us.getD j undef).ownBlock) :
    OwnN f s eo ei W' base top v us (L.set j m) := by
  have hl := h.len
  have h9 := h.put (W' := W') (u := us.getD j undef) (m := m) hj (by rw [set_self us j undef (by omega)]; exact ownV_block h.row fun k e => hg.block k (h.row.lt k e).2 (fun e2 => h.apart j hj k e e2.symm)) hu
    (fun k h1 _ _ h4 => hg.block k h1 (fun e => h4 e.symm)) (.inl rfl)
  rw [set_self us j undef (by omega)] at h9
  exact ⟨h9.row, h9.inner, h.topv, fun i hi k e => h.tops i (by simpa using hi) k e, h9.apart, h9.aparts⟩
/-- Made: all rows are nil. -/
theorem OwnN.made {n : Nat} (h : W.ownsRow base eo 1 v n (List.replicate n (Value.slice none 0 0))) : OwnN f s eo ei W base W.heap.size v (List.replicate n (Value.slice none 0 0)) (List.replicate n ([] : List α)) := by
  have hu : ∀ j, j < n → (List.replicate n (Value.slice none 0 0)).getD j undef = .slice none 0 0 := fun j hj => by simp [List.getD, hj]
  refine ⟨by rw [List.length_replicate]; exact h, fun j hj => ?_, fun k e => (h.lt k e).2, fun j hj k e => ?_, fun j hj k _ e => ?_, fun i j hi hj _ k e => ?_⟩
  · rw [List.length_replicate] at hj
    rw [hu j hj, show (List.replicate n ([] : List α)).getD j [] = [] by simp [List.getD, hj]]
    exact World.ownsRow_nil W base ei s
  · rw [List.length_replicate] at hj
    rw [hu j hj] at e
    cases e
  · rw [List.length_replicate] at hj
    rw [hu j hj] at e
    cases e
  · rw [List.length_replicate] at hi
    rw [hu i hi] at e
    cases e
theorem OwnN.nil (W : World) (base : Nat) (f : α → List Value) (s : Nat) (eo ei : TypeId) : OwnN f s eo ei W base W.heap.size (.slice none 0 0) [] [] :=
  ⟨World.ownsRow_nil W base eo 1, fun j hj => absurd hj (by simp), fun k e => by (cases e), fun j hj => absurd hj (by simp), fun j hj => absurd hj (by simp), fun i j hi => absurd hi (by simp)⟩
theorem OwnN.empty (h : W.ownsRow base eo 1 v 0 []) : OwnN f s eo ei W base W.heap.size v [] [] :=
  ⟨h, fun j hj => absurd hj (by simp), fun k e => (h.lt k e).2, fun j hj => absurd hj (by simp), fun j hj => absurd hj (by simp), fun i j hi => absurd hi (by simp)⟩
theorem OwnN.cell {a0 : Option Addr} {n cap : Nat} (h : OwnN f s eo ei W base top (.slice a0 n cap) us L) {j : Nat} (hj : j < L.length) : ∃ g, a0 = some ⟨g, 0, none⟩ ∧ n = L.length ∧ W.cell? ⟨g, j, none⟩ = some (us.getD j undef) ∧ W.frozen? ⟨g, j, none⟩ = false ∧ g < W.heap.size := by
  obtain ⟨g, c, e⟩ := Joins.ownsRow_form h.row (by omega)
  injection e with e1 e2 e3
  subst e1 e2 e3
  have hl := h.len
  refine ⟨g, rfl, rfl, ?_, h.row.frozenAt j, (h.row.lt g rfl).2⟩
  rw [h.row.cellAt j (by omega)]
  simp [List.getD, show j < us.length by omega]
end
/-- All but the blocks from base to top are kept. -/
structure KeptOut (base top : Nat) (w w' : World) : Prop where
  os : w'.os = w.os
  tape : w'.tape = w.tape
  output : w'.output = w.output
  size : w.heap.size ≤ w'.heap.size
  block : ∀ k, k < w.heap.size → (k < base ∨ top ≤ k) → w'.heap[k]? = w.heap[k]?
theorem KeptOut.refl (base top : Nat) (w : World) : KeptOut base top w w := ⟨rfl, rfl, rfl, Nat.le_refl _, fun _ _ _ => rfl⟩
theorem KeptOut.trans {base top : Nat} {a b d : World} (h : KeptOut base top a b) (k : KeptOut base top b d) : KeptOut base top a d :=
  ⟨k.os.trans h.os, k.tape.trans h.tape, k.output.trans h.output, Nat.le_trans h.size k.size, fun j h1 h2 => (k.block j (Nat.lt_of_lt_of_le h1 h.size) h2).trans (h.block j h1 h2)⟩
theorem KeptOut.of_grown {base top : Nat} {w w' : World} {r : Option Nat} (h : w.grownBy w' r) (hr : ∀ k, r = some k → base ≤ k ∧ k < top) : KeptOut base top w w' :=
  ⟨h.os, h.tape, h.output, h.size, fun k h1 h2 => h.block k h1 (fun e => by have := hr k e.symm; omega)⟩
theorem KeptOut.below {base top B : Nat} {a w w' : World} (h : KeptOut base top w w') (ha : Below B a w) (hB : B ≤ base) (hw : B ≤ w.heap.size) : Below B a w' :=
  ⟨h.os.trans ha.os, h.tape.trans ha.tape, h.output.trans ha.output, Nat.le_trans ha.size h.size, fun k hk => (h.block k (by omega) (.inl (by omega))).trans (ha.block k hk)⟩
theorem flat_strs : ∀ l : List ByteArray, l.flatMap (fun z : ByteArray => [Value.string z]) = l.map Value.string
  | [] => rfl
  | z :: l => by rw [List.flatMap_cons, flat_strs l]; rfl
/-- A row of rows of strings, of the call's own. -/
def OwnT (W : World) (base top : Nat) (v : Value) (L : List (List ByteArray)) : Prop := ∃ us, OwnN (fun z : ByteArray => [Value.string z]) 1 33 9 W base top v us L
theorem OwnT.reads {W : World} {base top : Nat} {v : Value} {L : List (List ByteArray)} (h : OwnT W base top v L) (hl : L.length ≤ 140737488355328) (hm : ∀ m ∈ L, m.length ≤ 140737488355328) : ReadsN W.heap.size W v L := by
  obtain ⟨us, h⟩ := h
  refine ⟨us, readsV_own h.row hl, fun j hj => ?_⟩
  have h1 := h.inner j hj
  rw [flat_strs] at h1
  exact readsV_own h1 (hm _ (by simp [List.getD, hj]))
theorem OwnT.now {W W' : World} {base : Nat} {v : Value} {L : List (List ByteArray)} (h : OwnT W base W.heap.size v L) (hb : Below W.heap.size W W') : OwnT W' base W'.heap.size v L := by
  obtain ⟨us, h⟩ := h
  exact ⟨us, h.now hb⟩
theorem OwnT.later {W W' : World} {base top : Nat} {v : Value} {L : List (List ByteArray)} (h : OwnT W base top v L) (ht : top ≤ W.heap.size) (hb : Below W.heap.size W W') : OwnT W' base top v L := by
  obtain ⟨us, h⟩ := h
  exact ⟨us, h.later ht hb⟩
theorem OwnT.kept {W W' : World} {base top : Nat} {v : Value} {L : List (List ByteArray)} (h : OwnT W base top v L) (hk : ∀ k, base ≤ k → k < top → W'.heap[k]? = W.heap[k]?) : OwnT W' base top v L := by
  obtain ⟨us, h⟩ := h
  exact ⟨us, h.kept hk⟩
theorem OwnT.drew {W : World} {base top : Nat} {v : Value} {L : List (List ByteArray)} (h : OwnT W base top v L) : OwnT W.drew base top v L := by
  obtain ⟨us, h⟩ := h
  exact ⟨us, h.drew⟩
end Go.Proofs.Ytmhgejljjjmejaa
