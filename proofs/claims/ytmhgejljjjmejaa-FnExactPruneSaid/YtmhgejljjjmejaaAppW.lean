/-
  append onto a row of the call's own, elements of any number of cells, and where the new row lies; the step of a list and of a region that draws. A row that begins behind its block's head.
-/
import Derived.Test.YtmhgejljjjmejaaNest
namespace Go.Proofs.Ytmhgejljjjmejaa
open Go.RowKit

theorem append_blockV {P : Program} (w : World) (base : Nat) (t ty e : TypeId) (i : TypeInfo) (z : Value) (size bytes : Nat) (ht : P.underlying t = some (.slice e)) (hi : P.info? e = some i) (hz : i.zero = some z)
    (hsize : i.size = size) (hby : i.bytes = bytes) (hzs : z.cells.size = size) (hs0 : 0 < size)
    (v : Value) (n : Nat) (xs : List Value) (hown : w.ownsRow base e size v n xs)
    (a : Addr) (m c : Nat) (news : List Value) (hl : news.length = m * size) (hm : 0 < m) (hnews : ∀ j u, news[j]? = some u → w.cell? (a.add j) = some u) (h1 : ∀ u ∈ news, u.oneCell' = true)
    (h63 : n + m ≤ 140737488355328) (hbytes : (n + m) * bytes ≤ 140737488355328) (hbase : base ≤ w.heap.size) :
    ∃ v' w', (Builtin.append_ #[t, t] ty #[v, .slice (some a) m c]).run P w = .ok v' w' ∧ w'.ownsRow base e size v' (n + m) (xs ++ news) ∧ w.grownBy w' v.ownBlock ∧
      (v'.ownBlock = v.ownBlock ∨ v'.ownBlock = some w.heap.size) := by
  obtain ⟨v', w', hr, h2, h3, -⟩ := run_append_own (P := P) w base t ty e i z size bytes ht hi hz hsize hby hzs hs0 v n xs hown a m c news hl hnews h1 (by unfold maxLen; omega) hbytes hbase
  refine ⟨v', w', hr, h2, h3, ?_⟩
  subst hby
  rcases hown.2 with ⟨rfl, rfl⟩ | ⟨g, cap, cur, rfl, -, hg, -, -, hcs, -⟩
  · rw [run_append_nil (P := P) w t ty e i z ht hi hz a m c news (by rw [hl, hsize]) hnews hm (by omega) (by have hb := hbytes; simp only [Nat.zero_add] at hb; omega)] at hr
    cases hr
    exact Or.inr rfl
  · by_cases hroom : n + m ≤ cap
    · have h5 := Nat.mul_le_mul_right size hroom
      rw [Nat.add_mul] at h5
      rw [run_append_room (P := P) w t ty e i ht hi g n cap cur hg a m c news (by rw [hl, hsize]) hnews h1 hroom (by rw [hl, hcs, hsize]; omega)] at hr
      cases hr
      exact Or.inl rfl
    · rw [run_append_grow (P := P) w t ty e i z ht hi hz ⟨g, 0, none⟩ n cap xs (by rw [hown.1, hsize]) (hown.cells (g := g) rfl) a m c news (by rw [hl, hsize]) hnews (by omega) (by omega) (growslice_fits (by omega) hbytes)] at hr
      cases hr
      exact Or.inr rfl
theorem step_appendW {P : Program} {ops : Array Oper} {o : Oper} {a : Act} {w : World} {K : Act → World → Prop} {Q : Exit → Act → World → Prop} {E : Prop} (hgd : o.guard = none) (s x : Operand) (t : TypeId)
    (ho : o.op = .call { callee := .builtin .append, args := #[s, x], argTypes := #[t, t] })
    (base : Nat) (e : TypeId) (i : TypeInfo) (z : Value) (size bytes : Nat) (ht : P.underlying t = some (.slice e)) (hi : P.info? e = some i) (hz : i.zero = some z)
    (hsize : i.size = size) (hby : i.bytes = bytes) (hzs : z.cells.size = size) (hs0 : 0 < size)
    (v : Value) (n : Nat) (xs : List Value) (hs : a.eval s = v) (hown : w.ownsRow base e size v n xs)
    (ad : Addr) (m c : Nat) (ys : List Value) (hx : a.eval x = .slice (some ad) m c) (hm : ys.length = m * size) (hm0 : 0 < m) (h1 : ∀ u ∈ ys, u.oneCell' = true)
    (hsrc : ∀ j, j < m * size → ∃ b off, some ad = some ⟨b, off, none⟩ ∧ w.cell? ⟨b, off + j, none⟩ = ys[j]?)
    (h63 : n + m ≤ 140737488355328) (hbytes : (n + m) * bytes ≤ 140737488355328) (hbase : base ≤ w.heap.size)
    (h : ∀ v' w', w'.ownsRow base e size v' (n + m) (xs ++ ys) → w.grownBy w' v.ownBlock → (v'.ownBlock = v.ownBlock ∨ v'.ownBlock = some w.heap.size) → K (a.put o.dst v') w') :
    if Region.wanted o (yielded ops a.tmps) = true then Oper.wp P o a w K Q else E := by
  have hw : Region.wanted o (yielded ops a.tmps) = true := by simp [Region.wanted, hgd]
  rw [if_pos hw]
  obtain ⟨v', w', hr, h2, h3, h4⟩ := append_blockV (P := P) w base t o.type e i z size bytes ht hi hz hsize hby hzs hs0 v n xs hown ad m c ys hm hm0
    (fun j u hu => by
      have hj : j < m * size := by
        have := (List.getElem?_eq_some_iff.1 hu).1
        omega
      obtain ⟨b, off, e1, e2⟩ := hsrc j hj
      cases e1
      have e3 : (⟨b, off, none⟩ : Addr).add j = ⟨b, off + j, none⟩ := by unfold Addr.add; split <;> simp_all
      rw [e3, e2]
      exact hu) h1 h63 hbytes hbase
  unfold Oper.wp execOp
  simp only [ho, resolve, invoke, builtin, Sem.run_bind, Sem.run_pure, Result.andThen_ok, List.map_toArray, List.map_cons, List.map_nil, hs, hx, hr]
  exact h v' w' h2 h3 h4
theorem list_appendW {P : Program} (w : World) {ops : Array Oper} {rest : List Oper} {o : Oper} {a : Act} {Q : Exit → Act → World → Prop} (hgd : o.guard = none) (s x : Operand) (t : TypeId)
    (ho : o.op = .call { callee := .builtin .append, args := #[s, x], argTypes := #[t, t] })
    (base : Nat) (e : TypeId) (i : TypeInfo) (z : Value) (size bytes : Nat) (ht : P.underlying t = some (.slice e)) (hi : P.info? e = some i) (hz : i.zero = some z)
    (hsize : i.size = size) (hby : i.bytes = bytes) (hzs : z.cells.size = size) (hs0 : 0 < size)
    (v : Value) (n : Nat) (xs : List Value) (hs : a.eval s = v) (hown : w.ownsRow base e size v n xs)
    (ad : Addr) (m c : Nat) (ys : List Value) (hx : a.eval x = .slice (some ad) m c) (hm : ys.length = m * size) (hm0 : 0 < m) (h1 : ∀ u ∈ ys, u.oneCell' = true)
    (hsrc : ∀ j, j < m * size → ∃ b off, some ad = some ⟨b, off, none⟩ ∧ w.cell? ⟨b, off + j, none⟩ = ys[j]?)
    (h63 : n + m ≤ 140737488355328) (hbytes : (n + m) * bytes ≤ 140737488355328) (hbase : base ≤ w.heap.size)
    (h : ∀ v' w', w'.ownsRow base e size v' (n + m) (xs ++ ys) → w.grownBy w' v.ownBlock → (v'.ownBlock = v.ownBlock ∨ v'.ownBlock = some w.heap.size) → wpList P ops Q rest (a.put o.dst v') w') : wpList P ops Q (o :: rest) a w := by
  refine wpList_plain hgd fun K hK => ?_
  obtain ⟨v', w', hr, h2, h3, h4⟩ := append_blockV (P := P) w base t o.type e i z size bytes ht hi hz hsize hby hzs hs0 v n xs hown ad m c ys hm hm0
    (fun j u hu => by
      have hj : j < m * size := by
        have := (List.getElem?_eq_some_iff.1 hu).1
        omega
      obtain ⟨b, off, e1, e2⟩ := hsrc j hj
      cases e1
      have e3 : (⟨b, off, none⟩ : Addr).add j = ⟨b, off + j, none⟩ := by unfold Addr.add; split <;> simp_all
      rw [e3, e2]
      exact hu) h1 h63 hbytes hbase
  unfold Oper.wp execOp
  simp only [ho, resolve, invoke, builtin, Sem.run_bind, Sem.run_pure, Result.andThen_ok, List.map_toArray, List.map_cons, List.map_nil, hs, hx, hr]
  exact hK _ _ (h v' w' h2 h3 h4)

/-- append(out, row), behind the temporary row that the call lays. -/
theorem OwnN.appended {α : Type} {f : α → List Value} {s : Nat} {eo ei : TypeId} {W W' : World} {base top : Nat} {v v' u : Value} {us : List Value} {L : List (List α)} {m : List α} (h : OwnN f s eo ei W base top v us L) (ht : top ≤ W.heap.size) (o : Obj)
    (hu : W.ownsRow base ei s u m.length (m.flatMap f)) (hut : ∀ k, u.ownBlock = some k → top ≤ k) (hrow : W'.ownsRow base eo 1 v' (L.length + 1) (us ++ [u])) (hg : (W.alloc o).grownBy W' v.ownBlock) (hv' : v'.ownBlock = v.ownBlock ∨ v'.ownBlock = some (W.alloc o).heap.size) :
    OwnN f s eo ei W' base W'.heap.size v' (us ++ [u]) (L ++ [m]) :=
  (h.kept (W' := W.alloc o) fun q _ h2 => (World.grownBy_alloc W o none).block q (Nat.lt_of_lt_of_le h2 ht) (by simp)).push hrow (hu.alloc o) hut hg hv'
/-- A row of one-cell elements of the call's own, that begins at o in its block. -/
def OwnQ (w : World) (base : Nat) (e : TypeId) (v : Value) (n : Nat) (xs : List Value) : Prop :=
  xs.length = n ∧ ((v = .slice none 0 0 ∧ n = 0) ∨ ∃ g o cap cur, v = .slice (some ⟨g, o, none⟩) n cap ∧ base ≤ g ∧ w.heap[g]? = some (.cells cur e (0, 0)) ∧ n ≤ cap ∧ o + cap ≤ maxLen ∧ o + cap ≤ cur.size ∧ (cur.toList.drop o).take n = xs)
theorem OwnQ.of {w : World} {base n : Nat} {e : TypeId} {v : Value} {xs : List Value} (h : w.ownsRow base e 1 v n xs) : OwnQ w base e v n xs := by
  refine ⟨by have := h.1; omega, ?_⟩
  rcases h.2 with h0 | ⟨g, cap, cur, rfl, hb, hg, hnc, hcm, hcs, ht⟩
  · exact .inl h0
  · exact .inr ⟨g, 0, cap, cur, rfl, hb, hg, hnc, by omega, by omega, by rw [List.drop_zero, ← Nat.mul_one n]; exact ht⟩
theorem OwnQ.lt {w : World} {base n : Nat} {e : TypeId} {v : Value} {xs : List Value} (h : OwnQ w base e v n xs) : ∀ k, v.ownBlock = some k → base ≤ k ∧ k < w.heap.size := by
  intro k hk
  rcases h.2 with ⟨rfl, -⟩ | ⟨g, o, cap, cur, rfl, hb, hg, -⟩
  · cases hk
  · cases hk
    exact ⟨hb, (Array.getElem?_eq_some_iff.1 hg).1⟩
theorem OwnQ.kept {w w' : World} {base n : Nat} {e : TypeId} {v : Value} {xs : List Value} (h : OwnQ w base e v n xs) (hb : ∀ k, v.ownBlock = some k → w'.heap[k]? = w.heap[k]?) : OwnQ w' base e v n xs := by
  refine ⟨h.1, ?_⟩
  rcases h.2 with h0 | ⟨g, o, cap, cur, rfl, hbg, hg, rest⟩
  · exact .inl h0
  · exact .inr ⟨g, o, cap, cur, rfl, hbg, (hb g rfl).trans hg, rest⟩
theorem OwnQ.later {w w' : World} {base n : Nat} {e : TypeId} {v : Value} {xs : List Value} (h : OwnQ w base e v n xs) (hb : Below w.heap.size w w') : OwnQ w' base e v n xs := h.kept fun k e1 => hb.block k (h.lt k e1).2
theorem OwnQ.reads {w : World} {base n : Nat} {e : TypeId} {v : Value} {xs : List Value} (h : OwnQ w base e v n xs) (hn : n ≤ 140737488355328) : ReadsV w.heap.size w v 1 n xs := by
  refine ⟨by omega, by have := h.1; omega, ?_⟩
  rcases h.2 with ⟨rfl, rfl⟩ | ⟨g, o, cap, cur, rfl, hbg, hg, hnc, hcm, hcs, ht⟩
  · exact ⟨none, 0, rfl, ⟨fun _ => rfl, Nat.le_refl _, by decide⟩, fun j hj => absurd hj (by omega)⟩
  · refine ⟨_, cap, rfl, ⟨(fun e => by cases e), hnc, by unfold maxLen at hcm; omega⟩, fun j hj => ⟨g, o, rfl, (Array.getElem?_eq_some_iff.1 hg).1, ?_⟩⟩
    rw [← ht, List.getElem?_take_of_lt (by omega), List.getElem?_drop]
    simp [World.cell?, hg]
/-- The head is taken off. -/
theorem OwnQ.tail {w : World} {base n : Nat} {e : TypeId} {g o cap : Nat} {x : Value} {xs : List Value} (h : OwnQ w base e (.slice (some ⟨g, o, none⟩) (n + 1) cap) (n + 1) (x :: xs)) : OwnQ w base e (.slice (some ⟨g, o + 1, none⟩) n (cap - 1)) n xs := by
  rcases h.2 with ⟨h', -⟩ | ⟨g', o', cap', cur, h', hb, hg, hnc, hcm, hcs, ht⟩
  · cases h'
  · simp only [Value.slice.injEq, Option.some.injEq, Addr.mk.injEq, and_true, true_and] at h'
    obtain ⟨⟨rfl, rfl⟩, rfl⟩ := h'
    refine ⟨by have := h.1; simpa using this, .inr ⟨g, o + 1, cap - 1, cur, rfl, hb, hg, by omega, by omega, by omega, ?_⟩⟩
    have h1 : (cur.toList.drop o).take (n + 1) = x :: xs := ht
    rw [← List.drop_drop]
    match hd : cur.toList.drop o, h1 with
    | y :: ys, h1 =>
      rw [List.take_succ_cons] at h1
      injection h1
/-- The head is taken off a row without room: the address stays. -/
theorem OwnQ.tail1 {w : World} {base n : Nat} {e : TypeId} {g o : Nat} {x : Value} {xs : List Value} (h : OwnQ w base e (.slice (some ⟨g, o, none⟩) (n + 1) 1) (n + 1) (x :: xs)) : n = 0 ∧ xs = [] ∧ OwnQ w base e (.slice (some ⟨g, o, none⟩) 0 0) 0 [] := by
  rcases h.2 with ⟨h', -⟩ | ⟨g', o', cap', cur, h', hb, hg, hnc, hcm, hcs, ht⟩
  · cases h'
  · simp only [Value.slice.injEq, Option.some.injEq, Addr.mk.injEq, and_true, true_and] at h'
    obtain ⟨⟨rfl, rfl⟩, rfl⟩ := h'
    have h0 : n = 0 := by omega
    subst h0
    exact ⟨rfl, List.length_eq_zero_iff.1 (by have := h.1; simpa using this), rfl, .inr ⟨g, o, 0, cur, rfl, hb, hg, Nat.le_refl _, by omega, by omega, rfl⟩⟩
theorem OwnQ.form {w : World} {base n : Nat} {e : TypeId} {v : Value} {xs : List Value} (h : OwnQ w base e v n xs) (hn : 0 < n) : ∃ g o cap, v = .slice (some ⟨g, o, none⟩) n cap := by
  rcases h.2 with ⟨-, h0⟩ | ⟨g, o, cap, cur, rfl, -⟩
  · omega
  · exact ⟨g, o, cap, rfl⟩
theorem OwnQ.slice {w : World} {base n : Nat} {e : TypeId} {v : Value} {xs : List Value} (h : OwnQ w base e v n xs) : ∃ a c, v = .slice a n c := by
  rcases h.2 with ⟨rfl, rfl⟩ | ⟨g, o, cap, cur, rfl, -⟩
  · exact ⟨_, _, rfl⟩
  · exact ⟨_, _, rfl⟩
theorem appendQ_block {P : Program} (w : World) (base : Nat) (t ty e : TypeId) (i : TypeInfo) (z : Value) (bytes : Nat) (ht : P.underlying t = some (.slice e)) (hi : P.info? e = some i) (hz : i.zero = some z)
    (hsize : i.size = 1) (hby : i.bytes = bytes) (hzs : z.cells.size = 1)
    (v : Value) (n : Nat) (xs : List Value) (hown : OwnQ w base e v n xs)
    (a : Addr) (c : Nat) (y : Value) (hy : w.cell? a = some y) (h1 : y.oneCell' = true)
    (h63 : n + 1 ≤ 140737488355328) (hbytes : (n + 1) * bytes ≤ 140737488355328) (hbase : base ≤ w.heap.size) :
    ∃ v' w', (Builtin.append_ #[t, t] ty #[v, .slice (some a) 1 c]).run P w = .ok v' w' ∧ OwnQ w' base e v' (n + 1) (xs ++ [y]) ∧ w.grownBy w' v.ownBlock := by
  have hnews : ∀ j u, [y][j]? = some u → w.cell? (a.add j) = some u := fun j u hu => by
    have hj : j = 0 := by have := (List.getElem?_eq_some_iff.1 hu).1; simpa using this
    subst hj
    have e3 : a.add 0 = a := by unfold Addr.add; split <;> first | contradiction | simp_all
    rw [e3, hy]
    simpa using hu
  have h1' : ∀ u ∈ [y], u.oneCell' = true := fun u hu => by rw [List.mem_singleton.1 hu]; exact h1
  rcases hown.2 with ⟨rfl, rfl⟩ | ⟨g, o, cap, cur, rfl, hb, hg, hnc, hcm, hcs, htk⟩
  · obtain ⟨v', w', hr, h2, h3, -⟩ := append_block (P := P) w base t ty e i z bytes ht hi hz hsize hby hzs (.slice none 0 0) 0 [] (World.ownsRow_nil w base e 1) a 1 c [y] rfl (by decide) hnews h1' h63 hbytes hbase
    have hx : xs = [] := List.length_eq_zero_iff.1 hown.1
    subst hx
    exact ⟨v', w', hr, OwnQ.of h2, h3⟩
  · by_cases hroom : n + 1 ≤ cap
    · have hl : [y].length = 1 * i.size := by rw [hsize]; rfl
      have hf := run_firstCells_some (P := P) w i.size 1 a 1 c [y] hl hnews
      have hst := run_storeCells_at P g (o + n * i.size) e [y] 0 cur w hg (by simp [hsize]; omega) h1'
      simp only [Nat.add_zero] at hst
      have hr : (Builtin.append_ #[t, t] ty #[.slice (some ⟨g, o, none⟩) n cap, .slice (some a) 1 c]).run P w =
          .ok (.slice (some ⟨g, o, none⟩) (n + 1) cap) (w.setRow g (cur.toList.take (o + n * i.size) ++ [y] ++ cur.toList.drop (o + n * i.size + [y].length)).toArray) := by
        simp [Builtin.append_, run_underlying ht, sizeOf, typeInfo, hi, Builtin.lenOf, hroom, hf, Addr.add_lit, hst]
      rw [hsize, Nat.mul_one] at hr
      have hx : xs.length = n := hown.1
      refine ⟨_, _, hr, ⟨by simp [hx], .inr ⟨g, o, cap, (cur.toList.take (o + n) ++ [y] ++ cur.toList.drop (o + n + [y].length)).toArray, rfl, hb, setRow_heap w g cur _ e _ hg, hroom, hcm, ?_, ?_⟩⟩, ⟨rfl, rfl, rfl, by simp, fun k _ hk => setRow_other w g k _ (fun e => hk (by simp [Value.ownBlock, e]))⟩⟩
      · simp only [List.size_toArray, List.length_append, List.length_take, List.length_singleton, List.length_drop, Array.length_toList]
        omega
      · simp only [List.append_assoc]
        rw [List.drop_append_of_le_length (by rw [List.length_take, Array.length_toList]; omega), List.drop_take, Nat.add_sub_cancel_left, htk, List.take_append, hx, List.take_of_length_le (by omega)]
        simp
    · have hx : xs.length = n := hown.1
      have hoc : ∀ j u, xs[j]? = some u → w.cell? ((⟨g, o, none⟩ : Addr).add j) = some u := fun j u hu => by
        have hj : j < n := by have := (List.getElem?_eq_some_iff.1 hu).1; omega
        rw [← htk, List.getElem?_take_of_lt (by omega), List.getElem?_drop] at hu
        rw [show (⟨g, o, none⟩ : Addr).add j = ⟨g, o + j, none⟩ by unfold Addr.add; split <;> simp_all]
        simp only [World.cell?, hg]
        simpa using hu
      have hr := run_append_grow (P := P) w t ty e i z ht hi hz ⟨g, o, none⟩ n cap xs (by rw [hx, hsize]; omega) hoc a 1 c [y] (by rw [hsize]; rfl) hnews (by omega) (by omega) (growslice_fits (by omega) (by rw [hby]; exact hbytes))
      have hge := grownCap_ge w (n + 1) cap e
      have hcm2 : grownCap w (n + 1) cap e ≤ maxLen := grownCap_le_maxLen w (n + 1) cap e (by unfold maxLen; omega)
      refine ⟨_, _, hr, OwnQ.of ⟨by simp [hx], .inr ⟨w.heap.size, _, _, rfl, hbase, heap_alloc_new w.drew _, hge, hcm2, ?_, ?_⟩⟩, ⟨rfl, rfl, rfl, by simp, fun k hk _ => by first | exact heap_alloc_old w.drew _ k hk | exact heap_alloc_old w.drew _ hk | exact fun hk _ => heap_alloc_old w.drew _ k hk⟩⟩
      · simp only [Array.size_append, List.size_toArray, size_zeroCells, hzs, hx, List.length_singleton]
        omega
      · simp only [Array.toList_append, List.append_assoc]
        rw [← List.append_assoc, Nat.mul_one, show n + 1 = (xs ++ [y]).length by simp [hx]]
        exact List.take_left
theorem list_appendQ {P : Program} (w : World) {ops : Array Oper} {rest : List Oper} {o : Oper} {a : Act} {Q : Exit → Act → World → Prop} (hgd : o.guard = none) (s x : Operand) (t : TypeId)
    (ho : o.op = .call { callee := .builtin .append, args := #[s, x], argTypes := #[t, t] })
    (base : Nat) (e : TypeId) (i : TypeInfo) (z : Value) (bytes : Nat) (ht : P.underlying t = some (.slice e)) (hi : P.info? e = some i) (hz : i.zero = some z)
    (hsize : i.size = 1) (hby : i.bytes = bytes) (hzs : z.cells.size = 1)
    (v : Value) (n : Nat) (xs : List Value) (hs : a.eval s = v) (hown : OwnQ w base e v n xs)
    (ad : Addr) (c : Nat) (y : Value) (hx : a.eval x = .slice (some ad) 1 c) (h1 : y.oneCell' = true) (hsrc : w.cell? ad = some y)
    (h63 : n + 1 ≤ 140737488355328) (hbytes : (n + 1) * bytes ≤ 140737488355328) (hbase : base ≤ w.heap.size)
    (h : ∀ v' w', OwnQ w' base e v' (n + 1) (xs ++ [y]) → w.grownBy w' v.ownBlock → wpList P ops Q rest (a.put o.dst v') w') : wpList P ops Q (o :: rest) a w := by
  refine wpList_plain hgd fun K hK => ?_
  obtain ⟨v', w', hr, h2, h3⟩ := appendQ_block (P := P) w base t o.type e i z bytes ht hi hz hsize hby hzs v n xs hown ad c y hsrc h1 h63 hbytes hbase
  unfold Oper.wp execOp
  simp only [ho, resolve, invoke, builtin, Sem.run_bind, Sem.run_pure, Result.andThen_ok, List.map_toArray, List.map_cons, List.map_nil, hs, hx, hr]
  exact hK _ _ (h v' w' h2 h3)
end Go.Proofs.Ytmhgejljjjmejaa
