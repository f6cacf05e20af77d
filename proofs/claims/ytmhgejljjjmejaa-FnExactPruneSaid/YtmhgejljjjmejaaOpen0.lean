/-
  Arguments that come in as slices, opened: of no program.
-/
import Derived.Test.YtmhgejljjjmejaaVals
import Derived.Deep.Slices
import Derived.Deep.Fields
import Derived.ChangeSame
import Derived.OpenShut
import Derived.ChangeMaps5
import Derived.Lib.SmallJoins
namespace Go.Proofs.Ytmhgejljjjmejaa
open Go.RowKit Go.ChangeShapes Go.WideShapes Go.Deep

theorem list_of {α : Type} (d : α) {Q : Nat → α → Prop} : ∀ n : Nat, (∀ i, i < n → ∃ z, Q i z) → ∃ l : List α, l.length = n ∧ ∀ i, i < n → Q i (l.getD i d)
  | 0, _ => ⟨[], rfl, fun i hi => absurd hi (Nat.not_lt_zero i)⟩
  | n + 1, h => by
    obtain ⟨l, hl, hq⟩ := list_of d n (fun i hi => h i (by omega))
    obtain ⟨z, hz⟩ := h n (by omega)
    refine ⟨l ++ [z], by simp [hl], fun i hi => ?_⟩
    rcases Nat.lt_or_ge i n with h1 | h1
    · have := hq i h1
      rwa [List.getD_eq_getElem?_getD, List.getElem?_append_left (by omega), ← List.getD_eq_getElem?_getD]
    · obtain rfl : i = n := by omega
      rw [List.getD_eq_getElem?_getD, List.getElem?_append_right (by omega)]
      simpa [hl] using hz
section
variable {H : Type} {enc : TypeId × Value → H} {P : Program} {w : World} {base : Nat} {spare : Nat → Bool} {held : Bool}
/-- A slice whose elements' cells are told by f. -/
theorem open_rows {t e : TypeId} {v : Value} {y : DataW H} {p : List MemPlace} {α : Type} (f : α → List Value) (ok : α → Prop) (d : α) (s : Nat) (hs : 0 < s) (hf : ∀ z, (f z).length = s) (ht : P.underlying t = some (.slice e)) (hC : P.cellsOf e = s)
    (hel : ∀ n cs' x, cs'.length = s → DataW.trod enc P w base spare held n e cs' = some x → ∃ z, cs' = f z ∧ ok z) {r : Reach} {b0 : Nat} (hv : Value.okWide P w r b0 t v) (h : DataW.Trod enc P w base spare held t v y p) :
    ∃ l : List α, ReadsV w.heap.size w v s l.length (l.flatMap f) ∧ ∀ z ∈ l, ok z := by
  obtain ⟨a0, n0, c0, rfl⟩ := okWide_slice ht hv
  obtain ⟨fuel, hfu⟩ := h
  rcases open_slice ht hfu with ⟨hcs, -⟩ | ⟨a, len, cap, m, n, D, Pl, hcs, -, hl, hm, hmm, -, hi⟩
  · have e1 : Value.slice a0 n0 c0 = .slice none 0 0 := by simpa [Value.cells] using hcs
    rw [e1]
    exact ⟨[], ⟨by simp, by simp, none, 0, rfl, ⟨fun _ => rfl, Nat.le_refl _, by decide⟩, fun j hj => absurd hj (by simp)⟩, by simp⟩
  · have e1 : Value.slice a0 n0 c0 = .slice (some a) len cap := by simpa [Value.cells] using hcs
    rw [e1]
    have hlm : len ≤ m := by rw [hmm]; split <;> omega
    have hel2 : ∀ i, i < len → ∃ z, (∀ r, r < s → w.cell? (a.add (i * s + r)) = (f z)[r]?) ∧ ok z := fun i hi' => by
      obtain ⟨cs', hc, ht'⟩ := hi i (by omega)
      rw [hC] at hc
      obtain ⟨-, hcl, hat⟩ := World.cells?_some hc
      obtain ⟨z, hz, hok⟩ := hel _ _ _ hcl ht'
      exact ⟨z, fun r hr => by rw [← hz, ← hat r hr, Go.Deep.add_add], hok⟩
    obtain ⟨l, hll, hq⟩ := list_of d len hel2
    have hok : ∀ z ∈ l, ok z := fun z hz => by
      obtain ⟨i, hi', rfl⟩ := List.mem_iff_getElem.1 hz
      have := (hq i (by omega)).2
      rwa [List.getD_eq_getElem?_getD, List.getElem?_eq_getElem hi'] at this
    unfold maxLen at hm
    refine ⟨l, ⟨by omega, row0_length f s hf l, some a, cap, by rw [hll], ⟨(fun e => by cases e), by omega, hm⟩, fun j hj => ?_⟩, hok⟩
    have hq2 : j / s < len := by rw [← hll]; exact (Nat.div_lt_iff_lt_mul hs).2 hj
    have hr2 : j % s < s := Nat.mod_lt _ hs
    have h1 := (hq (j / s) hq2).1 (j % s) hr2
    have ej : j / s * s + j % s = j := by rw [Nat.mul_comm]; exact Nat.div_add_mod j s
    have h2 := row0_at f s hf l (j / s) (by omega) (j % s) hr2
    rw [ej] at h1 h2
    rw [List.getD_eq_getElem?_getD, List.getElem?_eq_getElem (show j / s < l.length by omega), Option.getD_some] at h1
    rw [← h2] at h1
    obtain ⟨u, hu⟩ : ∃ u, (l.flatMap f)[j]? = some u := ⟨_, List.getElem?_eq_getElem (by rw [row0_length f s hf l]; exact hj)⟩
    rw [hu] at h1 ⊢
    obtain ⟨b, off, spot⟩ := a
    have h0 := (hq 0 (Nat.lt_of_le_of_lt (Nat.zero_le _) hq2)).1 0 hs
    obtain ⟨u0, hu0⟩ : ∃ u0, (f (l.getD 0 d))[0]? = some u0 := ⟨_, List.getElem?_eq_getElem (by rw [hf]; exact hs)⟩
    rw [hu0, Nat.zero_mul] at h0
    have hspot : spot = none := by simpa [Addr.add] using World.cell?_spot h0
    subst hspot
    have h3 : w.cell? ⟨b, off + j, none⟩ = some u := by rw [← Go.WideShapes.add_plain]; exact h1
    exact ⟨b, off, rfl, World.block_lt_of_cell? w _ h3, h3⟩
theorem flat_one : ∀ l : List ByteArray, l.flatMap (fun z : ByteArray => [Value.string z]) = l.map Value.string
  | [] => rfl
  | z :: l => by rw [List.flatMap_cons, flat_one l]; rfl
theorem take_one {α : Type} {xs : List α} {i : Nat} (h : i < xs.length) : (xs.drop i).take 1 = [xs[i]] := by
  rw [List.drop_eq_getElem_cons h]
  rfl
theorem bd_i64 {n : Int} (h : (Lit.int .i64 n).wf = true) : -9223372036854775808 ≤ n ∧ n ≤ 9223372036854775807 := bounds_i64 h
/-- A slice of strings. -/
theorem open_strS {t e : TypeId} {v : Value} {y : DataW H} {p : List MemPlace} (ht : P.underlying t = some (.slice e)) (he : P.underlying e = some .string) (hC : P.cellsOf e = 1) {r : Reach} {b0 : Nat} (hv : Value.okWide P w r b0 t v) (h : DataW.Trod enc P w base spare held t v y p) :
    ∃ l : List ByteArray, ReadsV w.heap.size w v 1 l.length (l.map Value.string) ∧ ∀ z ∈ l, z.size ≤ maxLen := by
  obtain ⟨l, h1, h2⟩ := open_rows (fun z : ByteArray => [Value.string z]) (fun z => z.size ≤ maxLen) ⟨#[]⟩ 1 (by decide) (fun _ => rfl) ht hC (fun n cs' x _ hx => by
    obtain ⟨s, rfl, -, hw⟩ := DataW.trod_string he hx
    exact ⟨s, rfl, hw⟩) hv h
  refine ⟨l, ?_, h2⟩
  rwa [flat_one] at h1
end
end Go.Proofs.Ytmhgejljjjmejaa
