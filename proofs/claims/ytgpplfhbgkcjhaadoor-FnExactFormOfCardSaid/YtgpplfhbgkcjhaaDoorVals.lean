/-
  Laws on slices of any elements, of no program: a row of cells that reads as a list of values, s cells to an element.
-/
import Derived.Test.YtgpplfhbgkcjhaaDoorSlices
namespace Go.Proofs.YtgpplfhbgkcjhaaDoor
open Go.RowKit

/-- The slice v reads as n elements of s cells each, the values xs; its cells lie below block B. -/
def ReadsV (B : Nat) (W : World) (v : Value) (s n : Nat) (xs : List Value) : Prop :=
  n ≤ 9223372036854775807 ∧ xs.length = n * s ∧ ∃ a0 cap, v = .slice a0 n cap ∧ CapOk a0 n cap ∧ ∀ j, j < n * s → ∃ b off, a0 = some ⟨b, off, none⟩ ∧ b < B ∧ W.cell? ⟨b, off + j, none⟩ = xs[j]?
theorem ReadsV.later {B s n : Nat} {W W' : World} {v : Value} {xs : List Value} (h : ReadsV B W v s n xs) (hb : Below B W W') : ReadsV B W' v s n xs := by
  obtain ⟨hl, hx, a0, cap, e, hn, h⟩ := h
  refine ⟨hl, hx, a0, cap, e, hn, fun j hj => ?_⟩
  obtain ⟨b, off, e1, e2, e3⟩ := h j hj
  exact ⟨b, off, e1, e2, (hb.cell (p := ⟨b, off + j, none⟩) e2).trans e3⟩
theorem ReadsV.wide {B B' s n : Nat} {W : World} {v : Value} {xs : List Value} (h : ReadsV B W v s n xs) (hB : B ≤ B') : ReadsV B' W v s n xs := by
  obtain ⟨hl, hx, a0, cap, e, hn, h⟩ := h
  refine ⟨hl, hx, a0, cap, e, hn, fun j hj => ?_⟩
  obtain ⟨b, off, e1, e2, e3⟩ := h j hj
  exact ⟨b, off, e1, Nat.lt_of_lt_of_le e2 hB, e3⟩
theorem ReadsV.now {W W' : World} {v : Value} {s n : Nat} {xs : List Value} (h : ReadsV W.heap.size W v s n xs) (hb : Below W.heap.size W W') : ReadsV W'.heap.size W' v s n xs := (h.later hb).wide hb.size
/-- An owned row reads as its list. -/
theorem readsV_own {W : World} {base s n : Nat} {e : TypeId} {v : Value} {xs : List Value} (h : W.ownsRow base e s v n xs) (hn : n ≤ 140737488355328) : ReadsV W.heap.size W v s n xs := by
  refine ⟨by omega, h.1, ?_⟩
  have h' := h
  rcases h.2 with ⟨rfl, rfl⟩ | ⟨g, cap, cur, rfl, hb, hg, hnc, hcm, _⟩
  · exact ⟨none, 0, rfl, ⟨fun _ => rfl, by simp, by decide⟩, fun j hj => by simp at hj⟩
  · refine ⟨_, cap, rfl, ⟨(fun e => by cases e), hnc, by unfold maxLen at hcm; omega⟩, fun j hj => ⟨g, 0, rfl, (Array.getElem?_eq_some_iff.1 hg).1, ?_⟩⟩
    rw [Nat.zero_add, h'.cellAt j hj]
/-- An owned row stands on where older blocks are kept. -/
theorem ownV_later {W W' : World} {base s n : Nat} {e : TypeId} {v : Value} {xs : List Value} (h : W.ownsRow base e s v n xs) (hb : Below W.heap.size W W') : W'.ownsRow base e s v n xs := by
  refine ⟨h.1, ?_⟩
  rcases h.2 with hn | ⟨g, cap, cur, rfl, hbg, hg, rest⟩
  · exact .inl hn
  · exact .inr ⟨g, cap, cur, rfl, hbg, (hb.block g (Array.getElem?_eq_some_iff.1 hg).1).trans hg, rest⟩
theorem apartV_of {W W' : World} {base base' n n' s s' : Nat} {e e' : TypeId} {v u : Value} {xs ys : List Value} (h : W.ownsRow base e s v n xs) (h' : W'.ownsRow base' e' s' u n' ys) (hb : W.heap.size ≤ base') : Apart v u ∧ Apart u v := by
  constructor
  · cases hv : v.ownBlock with
    | none => exact .inl hv
    | some k =>
      right
      rw [hv]
      intro e
      have h1 := (h.lt k hv).2
      have h2 := (h'.lt k e.symm).1
      omega
  · cases hu : u.ownBlock with
    | none => exact .inl hu
    | some k =>
      right
      rw [hu]
      intro e
      have h1 := (h'.lt k hu).1
      have h2 := (h.lt k e.symm).2
      omega
theorem ownV_slice {w : World} {base s n : Nat} {e : TypeId} {v : Value} {xs : List Value} (h : w.ownsRow base e s v n xs) : ∃ a c, v = .slice a n c := by
  rcases h.2 with ⟨rfl, rfl⟩ | ⟨g, cap, cur, rfl, _⟩
  · exact ⟨_, _, rfl⟩
  · exact ⟨_, _, rfl⟩

theorem appendV_reads {P : Program} (w : World) {ops : Array Oper} {rest : List Oper} {o : Oper} {a : Act} {Q : Exit → Act → World → Prop} (hgd : o.guard = none) (s x : Operand) (t : TypeId)
    (ho : o.op = .call { callee := .builtin .append, args := #[s, x], argTypes := #[t, t] })
    (base : Nat) (e : TypeId) (i : TypeInfo) (z : Value) (size bytes : Nat) (ht : P.underlying t = some (.slice e)) (hi : P.info? e = some i) (hz : i.zero = some z)
    (hsize : i.size = size) (hby : i.bytes = bytes) (hzs : z.cells.size = size) (hs0 : 0 < size)
    (v : Value) (n : Nat) (xs : List Value) (hs : a.eval s = v) (hown : w.ownsRow base e size v n xs)
    (a0 : Option Addr) (m c : Nat) (ys : List Value) (hx : a.eval x = .slice a0 m c) (hm : ys.length = m * size) (h1 : ∀ u ∈ ys, u.oneCell' = true) (hnil : a0 = none → c = 0)
    (hsrc : ∀ j, j < m * size → ∃ b off, a0 = some ⟨b, off, none⟩ ∧ w.cell? ⟨b, off + j, none⟩ = ys[j]?)
    (h63 : n + m ≤ 140737488355328) (hbytes : (n + m) * bytes ≤ 140737488355328) (hbase : base ≤ w.heap.size)
    (h : ∀ v' w', w'.ownsRow base e size v' (n + m) (xs ++ ys) → w.grownBy w' v.ownBlock → wpList P ops Q rest (a.put o.dst v') w') : wpList P ops Q (o :: rest) a w := by
  cases a0 with
  | none =>
    have h0 : m * size = 0 := by
      rcases Nat.eq_zero_or_pos (m * size) with h0 | h0
      · exact h0
      · obtain ⟨b, off, e1, _⟩ := hsrc 0 h0
        cases e1
    have hy : ys = [] := List.length_eq_zero_iff.1 (hm.trans h0)
    have hm0 : m = 0 := by
      rcases Nat.mul_eq_zero.1 h0 with h | h
      · exact h
      · omega
    subst hy
    subst hm0
    obtain rfl := hnil rfl
    exact wpList_append_own_none hgd s x t ho base e i size ht hi v n xs hs hown hx (h v w (by simpa using hown) (grown_refl w _))
  | some ad =>
    refine wpList_append_own w hgd s x t ho base e i z size bytes ht hi hz hsize hby hzs hs0 v n xs hs hown ad m c ys hx hm ?_ ?_ (by unfold maxLen; omega) hbytes hbase (fun v' w' h2 h3 _ => h v' w' h2 h3)
    · intro j u hu
      have hj : j < m * size := by
        have := (List.getElem?_eq_some_iff.1 hu).1
        omega
      obtain ⟨b, off, e1, e2⟩ := hsrc j hj
      cases e1
      have e3 : (⟨b, off, none⟩ : Addr).add j = ⟨b, off + j, none⟩ := by unfold Addr.add; split <;> simp_all
      rw [e3, e2]
      exact hu
    · exact h1
end Go.Proofs.YtgpplfhbgkcjhaaDoor
