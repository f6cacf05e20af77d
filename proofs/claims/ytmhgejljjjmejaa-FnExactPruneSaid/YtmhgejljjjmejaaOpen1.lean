/-
  A slice of slices of strings that comes in, opened: of no program.
-/
import Derived.Test.YtmhgejljjjmejaaOpen0
import Derived.Test.YtmhgejljjjmejaaNest
namespace Go.Proofs.Ytmhgejljjjmejaa
open Go.RowKit Go.ChangeShapes Go.WideShapes Go.Deep

section
variable {H : Type} {enc : TypeId × Value → H} {P : Program} {w : World} {base : Nat} {spare : Nat → Bool} {held : Bool}
/-- The cells of a slice whose elements' cells are told by f. -/
theorem open_rows_in {t e : TypeId} {fuel : Nat} {cs : List Value} {x : DataW H × List MemPlace} {α : Type} (f : α → List Value) (ok : α → Prop) (d : α) (s : Nat) (hs : 0 < s) (hf : ∀ z, (f z).length = s) (ht : P.underlying t = some (.slice e)) (hC : P.cellsOf e = s)
    (hel : ∀ n cs' x, cs'.length = s → DataW.trod enc P w base spare held n e cs' = some x → ∃ z, cs' = f z ∧ ok z) (hfu : DataW.trod enc P w base spare held fuel t cs = some x) :
    ∃ v, cs = [v] ∧ ∃ l : List α, ReadsV w.heap.size w v s l.length (l.flatMap f) ∧ ∀ z ∈ l, ok z := by
  rcases open_slice ht hfu with ⟨hcs, -⟩ | ⟨a, len, cap, m, n, D, Pl, hcs, -, hl, hm, hmm, -, hi⟩
  · refine ⟨_, hcs, [], ⟨by simp, by simp, none, 0, rfl, ⟨fun _ => rfl, Nat.le_refl _, by decide⟩, fun j hj => absurd hj (by simp)⟩, by simp⟩
  · refine ⟨_, hcs, ?_⟩
    have hlm : len ≤ m := by rw [hmm]; split <;> omega
    have hel2 : ∀ i, i < len → ∃ z, (∀ r, r < s → w.cell? (a.add (i * s + r)) = (f z)[r]?) ∧ ok z := fun i hi' => by
      obtain ⟨cs', hc, ht'⟩ := hi i (by omega)
      rw [hC] at hc
      obtain ⟨-, hcl, hat⟩ := World.cells?_some hc
      obtain ⟨z, hz, hok⟩ := hel _ _ _ hcl ht'
      exact ⟨z, fun r hr => by rw [← hz, ← hat r hr, Go.Deep.add_add], hok⟩
    obtain ⟨l, hll, hq⟩ := list_of d len hel2
    have hok : ∀ z ∈ l, ok z := fun z hz => by
      obtain ⟨i, hi', rfl⟩ := List.mem_iff_getElem.1 hz
      have := (hq i (by omega)).2
      rwa [List.getD_eq_getElem?_getD, List.getElem?_eq_getElem hi'] at this
    unfold maxLen at hm
    refine ⟨l, ⟨by omega, row0_length f s hf l, some a, cap, by rw [hll], ⟨(fun e => by cases e), by omega, hm⟩, fun j hj => ?_⟩, hok⟩
    have hq2 : j / s < len := by rw [← hll]; exact (Nat.div_lt_iff_lt_mul hs).2 hj
    have hr2 : j % s < s := Nat.mod_lt _ hs
    have h1 := (hq (j / s) hq2).1 (j % s) hr2
    have ej : j / s * s + j % s = j := by rw [Nat.mul_comm]; exact Nat.div_add_mod j s
    have h2 := row0_at f s hf l (j / s) (by omega) (j % s) hr2
    rw [ej] at h1 h2
    rw [List.getD_eq_getElem?_getD, List.getElem?_eq_getElem (show j / s < l.length by omega), Option.getD_some] at h1
    rw [← h2] at h1
    obtain ⟨u, hu⟩ : ∃ u, (l.flatMap f)[j]? = some u := ⟨_, List.getElem?_eq_getElem (by rw [row0_length f s hf l]; exact hj)⟩
    rw [hu] at h1 ⊢
    obtain ⟨b, off, spot⟩ := a
    have h0 := (hq 0 (Nat.lt_of_le_of_lt (Nat.zero_le _) hq2)).1 0 hs
    obtain ⟨u0, hu0⟩ : ∃ u0, (f (l.getD 0 d))[0]? = some u0 := ⟨_, List.getElem?_eq_getElem (by rw [hf]; exact hs)⟩
    rw [hu0, Nat.zero_mul] at h0
    have hspot : spot = none := by simpa [Addr.add] using World.cell?_spot h0
    subst hspot
    have h3 : w.cell? ⟨b, off + j, none⟩ = some u := by rw [← Go.WideShapes.add_plain]; exact h1
    exact ⟨b, off, rfl, World.block_lt_of_cell? w _ h3, h3⟩
/-- A slice of slices of strings. -/
theorem open_strSS {t e q : TypeId} {v : Value} {y : DataW H} {p : List MemPlace} (ht : P.underlying t = some (.slice e)) (he : P.underlying e = some (.slice q)) (hq : P.underlying q = some .string) (hC : P.cellsOf e = 1) (hD : P.cellsOf q = 1) {r : Reach} {b0 : Nat} (hv : Value.okWide P w r b0 t v) (h : DataW.Trod enc P w base spare held t v y p) :
    ∃ L : List (List ByteArray), ReadsN w.heap.size w v L ∧ ∀ m ∈ L, ∀ z ∈ m, z.size ≤ maxLen := by
  obtain ⟨l, h1, h2⟩ := open_rows (fun z : Value × List ByteArray => [z.1]) (fun z => ReadsS w.heap.size w z.1 z.2 ∧ ∀ x ∈ z.2, x.size ≤ maxLen) (undef, []) 1 (by decide) (fun _ => rfl) ht hC (fun n cs' x _ hx => by
    obtain ⟨u, rfl, m, h3, h4⟩ := open_rows_in (fun z : ByteArray => [Value.string z]) (fun z => z.size ≤ maxLen) ⟨#[]⟩ 1 (by decide) (fun _ => rfl) he hD (fun n cs' x _ hx => by
      obtain ⟨s, rfl, -, hw⟩ := DataW.trod_string hq hx
      exact ⟨s, rfl, hw⟩) hx
    rw [flat_one] at h3
    exact ⟨(u, m), rfl, h3, h4⟩) hv h
  have hf : ∀ l : List (Value × List ByteArray), l.flatMap (fun z => [z.1]) = l.map (·.1) := by
    intro l
    induction l with
    | nil => rfl
    | cons a l ih => rw [List.flatMap_cons, ih]; rfl
  rw [hf] at h1
  refine ⟨l.map (·.2), ⟨l.map (·.1), by rw [List.length_map]; exact h1, fun j hj => ?_⟩, fun m hm => ?_⟩
  · rw [List.length_map] at hj
    have := (h2 l[j] (List.getElem_mem hj)).1
    simpa [List.getD, hj] using this
  · obtain ⟨z, hz, rfl⟩ := List.mem_map.1 hm
    exact (h2 z hz).2
end
end Go.Proofs.Ytmhgejljjjmejaa
