/-
  A map of pairs of spots: how a pair reads, the map behind a list of spots, its look-ups and its stores, at the operation.
  The program's contracts of chapter 9, first part: isCrossing, the pairs of a board.
  The program's contracts of chapter 9, second part: the pairs of a board.
  The program's contracts of chapter 9, third part: the crossings of a board, CrossingsOf, IsChecked.
-/
import Derived.Test.YtgjijmcedonlmaaGreatDoorCrossPure
import Derived.Test.YtgjijmcedonlmaaGreatDoorSlotImplI
import Derived.Test.YtgjijmcedonlmaaGreatDoorCrossSpecE
import Derived.Test.YtgjijmcedonlmaaGreatDoorKit
import Derived.Maps.OwnSet
namespace Go.Proofs.YtgjijmcedonlmaaGreatDoor
open Go.RowKit
open Go.Maps (Keyed)

def encP (p : PairV) : Value := .agg #[.int .i64 (p.1.1 : Int), .int .i64 (p.1.2 : Int), .int .i64 (p.2.1 : Int), .int .i64 (p.2.2 : Int)]
def datP (p : PairV) : DataW Unit := .agg [.lit (.int .i64 (p.1.1 : Int)), .lit (.int .i64 (p.1.2 : Int)), .lit (.int .i64 (p.2.1 : Int)), .lit (.int .i64 (p.2.2 : Int))]
def rdP (v : Value) : Option (DataW Unit × List MemPlace) := match v with
  | .agg cs => match cs.toList with
    | [.int .i64 a, .int .i64 b, .int .i64 c, .int .i64 d] => if 0 ≤ a ∧ 0 ≤ b ∧ 0 ≤ c ∧ 0 ≤ d then some (.agg [.lit (.int .i64 a), .lit (.int .i64 b), .lit (.int .i64 c), .lit (.int .i64 d)], []) else none
    | _ => none
  | _ => none
theorem rdP_mk (p : PairV) : rdP (encP p) = some (datP p, []) := by
  unfold rdP encP datP
  simp
theorem rdP_inv {v : Value} {p : PairV} {ps : List MemPlace} (h : rdP v = some (datP p, ps)) : v = encP p := by
  unfold rdP at h
  split at h
  · rename_i cs
    split at h
    · rename_i a b c d e
      split at h
      · simp only [datP, Option.some.injEq, Prod.mk.injEq, DataW.agg.injEq, List.cons.injEq, DataW.lit.injEq, Lit.int.injEq] at h
        obtain ⟨⟨⟨-, rfl⟩, ⟨-, rfl⟩, ⟨-, rfl⟩, ⟨-, rfl⟩, -⟩, -⟩ := h
        unfold encP
        rw [← e]
      · cases h
    · cases h
  · cases h
def zeroP : PairV := ((0, 0), (0, 0))
theorem law_int : Keyed Tryz.prog 3 := Maps.int_keyed Tryz.underlying3
theorem zero_pair (w : World) : (zeroValue 168).run Tryz.prog w = .ok (encP zeroP) w := by kernel_rfl
/-- How many cells the spots have. -/
def sizeQ (L : List (Int × Nat × Nat)) : Nat := ((List.range 64).filter fun (q : Nat) => (pairQ L (q : Int)).isSome).length
theorem stepP_some (o : Option PairV) (x : Nat × Nat) : (stepP o x).isSome = true := by unfold stepP; split <;> rfl
theorem filter_one (p q : Nat → Bool) (k : Nat) (hq : ∀ i, i ≠ k → q i = p i) (hk : q k = true) : ∀ n, ((List.range n).filter q).length = ((List.range n).filter p).length + if k < n ∧ p k = false then 1 else 0
  | 0 => by simp
  | n + 1 => by
    rw [List.range_succ, List.filter_append, List.filter_append, List.length_append, List.length_append, filter_one p q k hq hk n]
    by_cases e : n = k
    · subst e
      rw [List.filter_cons_of_pos hk]
      cases hp : p n
      · rw [List.filter_cons_of_neg (by rw [hp]; decide)]; simp
      · rw [List.filter_cons_of_pos hp]; simp
    · have h1 : ([n].filter q).length = ([n].filter p).length := by rw [List.filter_cons, List.filter_cons, hq n e]; rfl
      rw [h1]
      by_cases h2 : k < n ∧ p k = false
      · rw [if_pos h2, if_pos ⟨by omega, h2.2⟩]; omega
      · rw [if_neg h2, if_neg (fun h => h2 ⟨by omega, h.2⟩)]; omega
theorem sizeQ_next (L : List (Int × Nat × Nat)) (q i k : Nat) (hq : q < 64) : sizeQ (L ++ [((q : Int), i, k)]) = if (pairQ L (q : Int)).isSome = true then sizeQ L else sizeQ L + 1 := by
  unfold sizeQ
  rw [filter_one (fun (q : Nat) => (pairQ L (q : Int)).isSome) (fun (q' : Nat) => (pairQ (L ++ [((q : Int), i, k)]) (q' : Int)).isSome) q (fun j hj => by
    show (pairQ (L ++ [((q : Int), i, k)]) (j : Int)).isSome = _
    rw [pairQ_other L ((q : Int), i, k) (q := (j : Int)) (by simpa using fun e => hj (by omega))]) (by
    show (pairQ (L ++ [((q : Int), i, k)]) (q : Int)).isSome = true
    rw [pairQ_same L ((q : Int), i, k)]; exact stepP_some _ _)]
  cases h : (pairQ L (q : Int)).isSome <;> simp [hq]
/-- BLOCK b OF w IS THE MAP THAT A LIST OF SPOTS MAKES. -/
def PairMap (w : World) (b : Nat) (L : List (Int × Nat × Nat)) : Prop := ∃ D : DataW Unit, w.ownsMap Tryz.prog 3 rdP b L.length D ∧ (∀ q : Int, (Lit.int .i64 q).wf = true → Maps.has D (.int .i64 q) = (pairQ L q).isSome ∧ D.atKey (.int .i64 q) (datP zeroP) = datP ((pairQ L q).getD zeroP)) ∧ Maps.size D = sizeQ L
theorem pm_made (w : World) : PairMap (w.alloc (.map #[] 0)) w.heap.size [] := ⟨.map [], World.ownsMap_made _ _ _ _, fun _ _ => ⟨rfl, rfl⟩, rfl⟩
theorem pm_lt {w : World} {b : Nat} {L : List (Int × Nat × Nat)} (h : PairMap w b L) : b < w.heap.size := by
  obtain ⟨D, h1, -⟩ := h
  exact h1.lt
theorem pm_below {w w' : World} {b : Nat} {L : List (Int × Nat × Nat)} (h : PairMap w b L) (hb : Below w.heap.size w w') : PairMap w' b L := by
  have hlt := pm_lt h
  obtain ⟨D, ⟨es, clock, h1, h2⟩, h3⟩ := h
  exact ⟨D, ⟨es, clock, (hb.block b hlt).trans h1, h2⟩, h3⟩
theorem pm_alloc {w : World} {b : Nat} {L : List (Int × Nat × Nat)} (h : PairMap w b L) (o : Obj) : PairMap (w.alloc o) b L := pm_below h ((Below.refl _ _).alloc (Nat.le_refl _) o)
/-- A row is no map. -/
theorem pm_row {w : World} {b base n s : Nat} {e : TypeId} {v : Value} {xs : List Value} {L : List (Int × Nat × Nat)} (h : PairMap w b L) (ho : w.ownsRow base e s v n xs) : v.ownBlock = none ∨ v.ownBlock ≠ some b := by
  obtain ⟨D, ⟨es, clock, h1, -⟩, -⟩ := h
  rcases ho.2 with ⟨rfl, -⟩ | ⟨g, cap, cur, rfl, -, hg, -⟩
  · exact .inl rfl
  · right
    intro e9
    have e8 : g = b := by simpa [Value.ownBlock] using e9
    subst e8
    rw [h1] at hg
    cases hg
theorem pm_cells {w : World} {b c : Nat} {A : Array Value} {t : TypeId} {mk : Nat × Nat} {L : List (Int × Nat × Nat)} (h : PairMap w b L) (hc : w.heap[c]? = some (.cells A t mk)) : c ≠ b := by
  obtain ⟨D, ⟨es, clock, h1, -⟩, -⟩ := h
  intro e
  subst e
  rw [h1] at hc
  cases hc
theorem has_lit {q q' : Int} (h : q ≠ q') : (Lit.int .i64 q') ≠ .int .i64 q := by
  intro e
  simp at e
  exact h e.symm
/-- 'v, met := m[q]'. -/
theorem wp_look_ok {w : World} {ops : Array Oper} {rest : List Oper} {o : Oper} {a : Act} {Q : Exit → Act → World → Prop} (hg : o.guard = none) (m x : Operand) (hop : o.op = Op.lookup 165 m x true) (b : Nat) (L : List (Int × Nat × Nat)) (hm : a.eval m = .map (some b)) (h : PairMap w b L) (q : Int) (hx : a.eval x = .int .i64 q) (hq : (Lit.int .i64 q).wf = true)
    (v : Value) (met : Bool) (hv : v = encP ((pairQ L q).getD zeroP)) (hmet : met = (pairQ L q).isSome)
    (hK : wpList Tryz.prog ops Q rest (a.put o.dst (.tuple #[v, .bool met])) w) : wpList Tryz.prog ops Q (o :: rest) a w := by
  obtain ⟨D, h1, h2, hN⟩ := h
  obtain ⟨h3, h4⟩ := h2 q hq
  refine wpList_lookup_own_ok w hg m x 165 hop 3 168 law_int Tryz.underlying165 rdP (zero_pair w) (datP zeroP) [] (rdP_mk _) b L.length D hm h1 (.int .i64 q) (.int .i64 q) hx (Maps.keyOf_int_mk Tryz.underlying3 hq) fun v' ps hv' => ?_
  rw [h4] at hv'
  rw [rdP_inv hv', h3, ← hv, ← hmet]
  exact hK
/-- 'm[q]'. -/
theorem wp_look {w : World} {ops : Array Oper} {rest : List Oper} {o : Oper} {a : Act} {Q : Exit → Act → World → Prop} (hg : o.guard = none) (m x : Operand) (hop : o.op = Op.lookup 165 m x false) (b : Nat) (L : List (Int × Nat × Nat)) (hm : a.eval m = .map (some b)) (h : PairMap w b L) (q : Int) (hx : a.eval x = .int .i64 q) (hq : (Lit.int .i64 q).wf = true)
    (v : Value) (hv : v = encP ((pairQ L q).getD zeroP))
    (hK : wpList Tryz.prog ops Q rest (a.put o.dst v) w) : wpList Tryz.prog ops Q (o :: rest) a w := by
  obtain ⟨D, h1, h2, hN⟩ := h
  obtain ⟨h3, h4⟩ := h2 q hq
  obtain ⟨v', ps, hrun, hv'⟩ := h1.lookup law_int Tryz.underlying165 (zero_pair w) (rdP_mk zeroP) (key := .int .i64 q) (kl := .int .i64 q) (Maps.keyOf_int_mk Tryz.underlying3 hq)
  rw [h4] at hv'
  rw [rdP_inv hv', ← hv] at hrun
  refine wpList_plain hg fun K' hK' => ?_
  unfold Oper.wp
  simp [execOp, hop, hm, hx, hrun, Result.andThen]
  exact hK' _ _ hK
/-- The run of 'm[q]', for a walk by equations. -/
theorem pm_run {w : World} {b : Nat} {L : List (Int × Nat × Nat)} (h : PairMap w b L) {q : Int} (hq : (Lit.int .i64 q).wf = true) : (Instr.lookup 165 (.map (some b)) (.int .i64 q) false).run Tryz.prog w = .ok (encP ((pairQ L q).getD zeroP)) w := by
  obtain ⟨D, h1, h2, hN⟩ := h
  obtain ⟨h3, h4⟩ := h2 q hq
  obtain ⟨v', ps, hrun, hv'⟩ := h1.lookup law_int Tryz.underlying165 (zero_pair w) (rdP_mk zeroP) (key := .int .i64 q) (kl := .int .i64 q) (Maps.keyOf_int_mk Tryz.underlying3 hq)
  rw [h4] at hv'
  rw [rdP_inv hv'] at hrun
  exact hrun
/-- 'len(m)'. -/
theorem wp_len {w : World} {ops : Array Oper} {rest : List Oper} {o : Oper} {a : Act} {Q : Exit → Act → World → Prop} (hg : o.guard = none) (m : Operand) (hop : o.op = Op.call { callee := Callee.builtin Builtin.len, args := #[m], argTypes := #[165] }) (b : Nat) (L : List (Int × Nat × Nat)) (hm : a.eval m = .map (some b)) (h : PairMap w b L)
    (hK : wpList Tryz.prog ops Q rest (a.put o.dst (.int .i64 (sizeQ L : Int))) w) : wpList Tryz.prog ops Q (o :: rest) a w := by
  obtain ⟨D, h1, -, hN⟩ := h
  refine wpList_len_own w hg m _ hop 3 168 Tryz.underlying165 rdP b L.length D hm h1 ?_
  rw [hN]
  exact hK
/-- The run of 'len(m)', for a walk by equations. -/
theorem pm_len {w : World} {b : Nat} {L : List (Int × Nat × Nat)} (h : PairMap w b L) (ty : TypeId) : (Builtin.len_ #[165] ty #[.map (some b)]).run Tryz.prog w = .ok (.int .i64 (sizeQ L : Int)) w := by
  obtain ⟨D, h1, -, hN⟩ := h
  rw [h1.len Tryz.underlying165 ty, hN]
/-- 'm[q] = p'. -/
theorem wp_store {w : World} {ops : Array Oper} {rest : List Oper} {o : Oper} {a : Act} {Q : Exit → Act → World → Prop} (hg : o.guard = none) (m x v : Operand) (hop : o.op = Op.mapUpdate 165 m x v) (b : Nat) (L : List (Int × Nat × Nat)) (hm : a.eval m = .map (some b)) (h : PairMap w b L) (q : Int) (i k : Nat) (hx : a.eval x = .int .i64 q) (hq : (Lit.int .i64 q).wf = true) (hn : L.length < maxLen) (h64 : 0 ≤ q ∧ q < 36)
    (p : PairV) (hp : stepP (pairQ L q) (i, k) = some p) (hv : a.eval v = encP p)
    (hK : ∀ w', PairMap w' b (L ++ [(q, i, k)]) → w.grownBy w' (some b) → wpList Tryz.prog ops Q rest (a.put o.dst undef) w') : wpList Tryz.prog ops Q (o :: rest) a w := by
  obtain ⟨D, h1, h2, hN⟩ := h
  have hkey : keyOf Tryz.prog 3 (.int .i64 q) = some (.int .i64 q) := Maps.keyOf_int_mk Tryz.underlying3 hq
  have hisk : WideAt.IsKeyLit (.int .i64 q) := trivial
  refine wpList_mapUpdate_own w hg m x v 165 hop 3 168 law_int Tryz.underlying165 rdP b L.length D hm h1 hn (.int .i64 q) (encP p) (.int .i64 q) hx hv hkey (datP p) [] (rdP_mk p) fun w' o1 g1 => hK w' ⟨D.put (.int .i64 q) (datP p), by rw [List.length_append]; exact o1, fun q' hq' => ?_, ?_⟩ g1
  rotate_left
  · obtain ⟨qn, rfl⟩ : ∃ qn : Nat, q = qn := ⟨q.toNat, by omega⟩
    rw [sizeQ_next L qn i k (by omega), Maps.size_put (h1.tidy law_int), (h2 _ hq).1, hN]
  by_cases he : q = q'
  · subst he
    have e := pairQ_same L (q, i, k)
    simp only at e
    rw [e, hp]
    exact ⟨Maps.has_put_same h1.isMap hisk _, Maps.atKey_put_same h1.isMap hisk _ _⟩
  · have e := pairQ_other L (q, i, k) (q := q') he
    rw [e, Maps.has_put_other (has_lit he), Maps.atKey_put_other (has_lit he)]
    exact h2 q' hq'
end Go.Proofs.YtgjijmcedonlmaaGreatDoor
namespace Go.Proofs.YtgjijmcedonlmaaGreatDoor
open Go.RowKit

set_option maxHeartbeats 800000 in
theorem iscr_any (p : PairV) (w : World) :
    Calls Tryz.prog 108 #[.agg #[.int .i64 (p.1.1 : Int), .int .i64 (p.1.2 : Int), .int .i64 (p.2.1 : Int), .int .i64 (p.2.2 : Int)]] w fun e w' => e = .returned (.bool (secP p)) ∧ Below w.heap.size w w' := by
  obtain ⟨⟨a, b⟩, c, d⟩ := p
  have hb : ∀ o, Below w.heap.size w (w.alloc o) := fun o => (Below.refl _ _).alloc (Nat.le_refl _) o
  simp only
  by_cases hc : c = 0
  · by_cases hd : d = 0
    · have hS : secP ((a, b), (c, d)) = false := by subst hc hd; rfl
      rw [hS]
      subst hc hd
      clear hS
      go_enter Tryz.func108, Tryz.ntmps108
      go_wp2
      go_ret
      exact ⟨rfl, hb _⟩
    · have hS : secP ((a, b), (c, d)) = true := by unfold secP; simp [hd]
      rw [hS]
      subst hc
      clear hS
      have hd1 : ¬ (d : Int) = 0 := by omega
      have hd2 : ((d : Int) == 0) = false := by simpa using hd
      go_enter Tryz.func108, Tryz.ntmps108
      go_wp2
      go_ret
      exact ⟨rfl, hb _⟩
  · have hS : secP ((a, b), (c, d)) = true := by unfold secP; simp [hc]
    rw [hS]
    clear hS
    have hd1 : ¬ (c : Int) = 0 := by omega
    have hd2 : ((c : Int) == 0) = false := by simpa using hc
    go_enter Tryz.func108, Tryz.ntmps108
    go_wp2
    go_ret
    exact ⟨rfl, hb _⟩
theorem wf_cell {q : Int} (h1 : 0 ≤ q) (h2 : q ≤ 4294967296) : (Lit.int .i64 q).wf = true := WalkArith.wf_i64 (by omega)
theorem cells_range {g : Int × Int × ByteArray} {x : SlotV} (h : x ∈ slG g) {q : Int} (hq : q ∈ cellsS g.2.1 x) : 0 ≤ q ∧ q < 36 := by
  obtain ⟨R, C, hg, e1, e2, h1, h2, h3, h4, h5, h6⟩ := slG_at h
  unfold cellsS at hq
  obtain ⟨k, hk, rfl⟩ := List.mem_map.1 hq
  rw [List.mem_range] at hk
  obtain ⟨m, hm, e3, ha, hd⟩ := slot_cell h3 h6 k hk
  have hRC : R * C ≤ 36 := Nat.mul_le_mul h2 h4
  rcases hx : x.2.1 with _ | _
  · obtain ⟨-, -, -, h8⟩ := ha hx
    rw [e3, show (m : Int) + (k : Int) * (if false = true then g.2.1 else 1) = ((m + k : Nat) : Int) by simp]
    omega
  · obtain ⟨-, -, -, h8⟩ := hd hx
    rw [e3, e2, show (m : Int) + (k : Int) * (if true = true then (C : Int) else 1) = ((m + k * C : Nat) : Int) by simp]
    omega
theorem spotsTo_len (c : Int) (l : List SlotV) (h : ∀ x ∈ l, (cellsS c x).length ≤ 6) : ∀ n, n ≤ l.length → (spotsTo c l n).length ≤ 6 * n
  | 0, _ => by simp [spotsTo]
  | n + 1, hn => by
    rw [spotsTo_next, List.length_append]
    have h1 := spotsTo_len c l h n (by omega)
    have h2 : (spotsIn c n (l.getD n none_Slot) (cellsS c (l.getD n none_Slot)).length).length ≤ 6 := by
      unfold spotsIn
      rw [List.length_map, List.length_range]
      exact h _ (getD_in (by omega))
    omega
theorem spotsIn_len (c : Int) (i : Nat) (x : SlotV) (m : Nat) : (spotsIn c i x m).length = m := by unfold spotsIn; simp
/-- The map is another block than a row, and than a box. -/
theorem pm_keep {w w' : World} {b base n s : Nat} {e : TypeId} {v : Value} {xs : List Value} {L : List (Int × Nat × Nat)} (h : PairMap w b L) (ho : w.ownsRow base e s v n xs) (hg : w.grownBy w' (some b)) : w'.ownsRow base e s v n xs := ho.kept hg (pm_row h ho)
theorem pm_box {w w' : World} {b c : Nat} {A : Array Value} {t : TypeId} {mk : Nat × Nat} {L : List (Int × Nat × Nat)} (h : PairMap w b L) (hc : w.heap[c]? = some (.cells A t mk)) (hg : w.grownBy w' (some b)) : w'.heap[c]? = some (.cells A t mk) :=
  (hg.block c (Array.getElem?_eq_some_iff.1 hc).1 (fun e => pm_cells h hc (by simpa using e))).trans hc
end Go.Proofs.YtgjijmcedonlmaaGreatDoor
namespace Go.Proofs.YtgjijmcedonlmaaGreatDoor
open Go.RowKit

theorem int_cell {W : World} {base m cap : Nat} {e : TypeId} {a0 : Option Addr} {l : List Int} (h : W.ownsRow base e 1 (.slice a0 m cap) m (l.map (Value.int .i64))) (hn : m = l.length) (j : Nat) (hj : j < l.length) :
    ∃ b, a0 = some ⟨b, 0, none⟩ ∧ W.cell? ⟨b, j, none⟩ = some (.int .i64 (l.getD j 0)) := by
  subst hn
  rcases h.2 with ⟨e9, hl⟩ | ⟨g, cap', cur, e9, -⟩
  · exfalso
    injection e9 with _ e8 _
    omega
  · cases e9
    refine ⟨g, rfl, ?_⟩
    rw [h.cellAt j (by omega)]
    simp [List.getD, hj]
set_option maxRecDepth 100000 in
set_option maxHeartbeats 6400000 in
theorem pairs_brd (r c : Int) (s : ByteArray) (w : World) :
    Calls Tryz.prog 107 #[brdV (brd (r, c, s))] w fun e w' => ∃ b, e = .returned (.map (some b)) ∧ w.heap.size ≤ b ∧ PairMap w' b (spotsTo c (slG (r, c, s)) (slG (r, c, s)).length) ∧ Below w.heap.size w w' := by
  have hmm := @run_makeMap Tryz.prog
  have HSB := Lib.hid (fun w => slots_brd (r, c, s) w)
  have HLEN := Lib.hid (slG_length (r, c, s))
  have HCO : Hid (∀ x ∈ slG (r, c, s), ∀ w : World, Calls Tryz.prog 103 #[brdV (brd (r, c, s)), .agg #[.int .i64 x.1, .bool x.2.1, .int .i64 x.2.2.1, .int .i64 x.2.2.2]] w fun e w' => ∃ v, e = .returned v ∧ w'.ownsRow w.heap.size 3 1 v (cellsS c x).length ((cellsS c x).map (Value.int .i64)) ∧ Below w.heap.size w w') := Lib.hid (fun x h w => by
    have hcol := brd_col h
    obtain ⟨-, h1, h2, h3, -⟩ := slG_small h
    have h9 := icellsof_any (brd (r, c, s)).1 (brd (r, c, s)).2.1 ((brd (r, c, s)).2.2 : Int) x.1 x.2.1 x.2.2.1 x.2.2.2 (by rw [hcol]; exact h1) h2 h3 w
    rw [hcol] at h9
    unfold brdV
    rw [hcol]
    exact h9)
  have HRG : Hid (∀ x ∈ slG (r, c, s), ∀ q ∈ cellsS c x, 0 ≤ q ∧ q < 36) := Lib.hid (fun x hx q hq => cells_range hx hq)
  have HC6 : Hid (∀ x ∈ slG (r, c, s), (cellsS c x).length ≤ 6) := Lib.hid (fun x hx => by rw [cellsS_length]; have := (slG_small hx).2.2.2.1; omega)
  obtain ⟨l, hl⟩ : ∃ l, l = slG (r, c, s) := ⟨_, rfl⟩
  rw [← hl] at HSB HCO HLEN HRG HC6 ⊢
  clear hl
  have HTL := Lib.hid (spotsTo_len c l HC6.out)
  have hl72 := HLEN.out
  obtain ⟨⟨b0, b1, b2⟩, hb⟩ : ∃ b, b = brd (r, c, s) := ⟨_, rfl⟩
  rw [← hb] at HSB HCO ⊢
  clear hb
  simp only [brdV] at HSB HCO ⊢
  have HBK : Hid (∀ W : World, W.heap[w.heap.size]? = some (.cells #[.int .i64 b0, .int .i64 b1, .int .u64 (b2 : Int)] 55) → W.cell? ⟨w.heap.size, 0, none⟩ = some (.int .i64 b0) ∧ W.cell? ⟨w.heap.size, 1, none⟩ = some (.int .i64 b1) ∧ W.cell? ⟨w.heap.size, 2, none⟩ = some (.int .u64 (b2 : Int))) := Lib.hid (fun W h => ⟨Joins.cell_of_block h 0, Joins.cell_of_block h 1, Joins.cell_of_block h 2⟩)
  go_enter Tryz.func107, Tryz.ntmps107
  go_wp2_with fail
  obtain ⟨W2, hW2⟩ : ∃ W2, W2 = w.alloc (.cells #[.int .i64 b0, .int .i64 b1, .int .u64 (b2 : Int)] 55) := ⟨_, rfl⟩
  have hs2 : W2.heap.size = w.heap.size + 1 := by rw [hW2]; simp
  obtain ⟨W3, hW3⟩ : ∃ W3, W3 = W2.alloc (.map #[] 0) := ⟨_, rfl⟩
  have HX3 : Hid (W3.heap[w.heap.size]? = some (.cells #[.int .i64 b0, .int .i64 b1, .int .u64 (b2 : Int)] 55)) := Lib.hid (by rw [hW3, Below.heap_alloc W2 _ w.heap.size (by omega), hW2]; exact new_block w _)
  have HM3 : Hid (PairMap W3 (w.heap.size + 1) []) := Lib.hid (by rw [hW3, ← hs2]; exact pm_made W2)
  have HB3 : Hid (Below w.heap.size w W3) := Lib.hid (by rw [hW3, hW2]; exact ((Below.refl _ _).alloc (Nat.le_refl _) _).alloc (by simp) _)
  rw [← hW2, ← hW3]
  clear hW2 hW3 hs2 W2
  go_wp2_with (go_at_call 24; refine (HSB.out _).mono ?_; rintro e w4 ⟨v4, rfl, o4, b4⟩; obtain ⟨a0, cap, rfl⟩ := ownV_slice o4; have HL4 := Lib.hid (own_widen o4 HB3.out.size); have HM4 := Lib.hid (pm_below HM3.out b4); have HX4 := Lib.hid ((b4.block w.heap.size (Array.getElem?_eq_some_iff.1 HX3.out).1).trans HX3.out); have HB4 := Lib.hid (HB3.out.trans (b4.mono HB3.out.size)); clear o4 b4)
  go_loopw [15] (fun i wr => ∃ k : Nat, k ≤ l.length ∧ i = .int .i64 (k : Int) ∧ Hid (PairMap wr (w.heap.size + 1) (spotsTo c l k)) ∧ Hid (wr.ownsRow w.heap.size 63 4 (.slice a0 l.length cap) l.length (row_Slot l)) ∧ Hid (wr.heap[w.heap.size]? = some (.cells #[.int .i64 b0, .int .i64 b1, .int .u64 (b2 : Int)] 55)) ∧ Hid (Below w.heap.size w wr)) (fun i _ => l.length - (intOf i).toNat)
  case atStart => exact ⟨0, Nat.zero_le _, rfl, HM4, HL4, HX4, HB4⟩
  case round =>
    clear HM3 HX3 HB3 HM4 HL4 HX4 HB4
    obtain ⟨k, hk, rfl, HM, HL, HX, HB⟩ := hrel
    by_cases hlt : k < l.length
    · have hd : decide ((k : Int) < (l.length : Int)) = true := decide_eq_true (by omega)
      have hd9 : decide (k < l.length) = true := decide_eq_true hlt
      obtain ⟨b, rfl, q0, q1, q2, q3⟩ := slot_cells HL.out rfl k hlt
      have HI := Lib.hid (getD_in hlt)
      have HNX := Lib.hid (spotsTo_next c l k)
      have HT := Lib.hid (HTL.out k hk)
      obtain ⟨y, hy⟩ : ∃ y, y = l.getD k none_Slot := ⟨_, rfl⟩
      rw [← hy] at q0 q1 q2 q3 HI HNX
      clear hy
      have HC1 := Lib.hid (HCO.out y HI.out)
      have HZ6 := Lib.hid (HC6.out y HI.out)
      have HZR := Lib.hid (HRG.out y HI.out)
      obtain ⟨S0, hS0⟩ : ∃ S0, S0 = spotsTo c l k := ⟨_, rfl⟩
      rw [← hS0] at HM HNX HT
      clear hS0
      have HIN := Lib.hid (fun m => spotsIn_next c k y m)
      have HI0 : Hid (spotsIn c k y 0 = []) := Lib.hid rfl
      have HILn := Lib.hid (spotsIn_len c k y)
      obtain ⟨SI, hSI⟩ : ∃ SI, SI = spotsIn c k y := ⟨_, rfl⟩
      rw [← hSI] at HNX HIN HI0 HILn
      clear hSI
      obtain ⟨t0, t1, t2, t3⟩ := y
      simp only at q0 q1 q2 q3 HC1
      obtain ⟨Z, hZ⟩ : ∃ Z, Z = cellsS c (t0, t1, t2, t3) := ⟨_, rfl⟩
      rw [← hZ] at HC1 HZ6 HZR HNX HIN
      clear hZ
      have hz6 := HZ6.out
      obtain ⟨o, ho⟩ : ∃ o, o = Obj.cells #[.int .i64 t0, .bool t1, .int .i64 t2, .int .i64 t3] 63 := ⟨_, rfl⟩
      have bo := (Below.refl wr.heap.size wr).alloc (Nat.le_refl _) o
      have HM1 := Lib.hid (pm_alloc HM.out o)
      have HL1 := Lib.hid (HL.out.alloc o)
      have HX1 := Lib.hid ((bo.block w.heap.size (Array.getElem?_eq_some_iff.1 HX.out).1).trans HX.out)
      have HB1 := Lib.hid (HB.out.alloc HB.out.size o)
      obtain ⟨m0, m1, m2⟩ := HBK.out _ HX1.out
      rw [ho] at HM1 HL1 HX1 HB1 m0 m1 m2
      clear bo ho
      go_wp2_with (go_at_call 103; refine (HC1.out _).mono ?_; rintro e w5 ⟨v5, rfl, o5, b5⟩; obtain ⟨a5, cap5, rfl⟩ := ownV_slice o5; have HM5 := Lib.hid (pm_below HM1.out b5); have HL5 := Lib.hid (ownV_later HL1.out b5); have HX5 := Lib.hid ((b5.block w.heap.size (Array.getElem?_eq_some_iff.1 HX1.out).1).trans HX1.out); have HB5 := Lib.hid (HB1.out.trans (b5.mono HB1.out.size)); have HZ5 := Lib.hid (own_widen o5 HB1.out.size); clear o5 b5)
      clear q0 q1 q2 q3 m0 m1 m2 HM1 HL1 HX1 HB1 HM HL HX HB HC1 hd
      have HM6 : Hid (PairMap w5 (w.heap.size + 1) (S0 ++ SI 0)) := Lib.hid (by rw [HI0.out, List.append_nil]; exact HM5.out)
      clear HM5
      obtain ⟨wq, rfl⟩ : ∃ wq, wq = wr := ⟨wr, rfl⟩
      go_loopw [24] (fun i wr => ∃ m : Nat, m ≤ Z.length ∧ i = .int .i64 (m : Int) ∧ Hid (PairMap wr (w.heap.size + 1) (S0 ++ SI m)) ∧ Hid (wr.ownsRow w.heap.size 63 4 (.slice (some ⟨b, 0, none⟩) l.length cap) l.length (row_Slot l)) ∧ Hid (wr.ownsRow w.heap.size 3 1 (.slice a5 Z.length cap5) Z.length (Z.map (Value.int .i64))) ∧ Hid (wr.heap[w.heap.size]? = some (.cells #[.int .i64 b0, .int .i64 b1, .int .u64 (b2 : Int)] 55)) ∧ Hid (Below w.heap.size w wr)) (fun i _ => Z.length - (intOf i).toNat)
      case atStart => exact ⟨0, Nat.zero_le _, rfl, HM6, HL5, HZ5, HX5, HB5⟩
      case round =>
        clear HM6 HL5 HX5 HB5 HZ5
        obtain ⟨m, hm, rfl, HM, HL, HZ, HX, HB⟩ := hrel
        by_cases hlt2 : m < Z.length
        · have hd : decide ((m : Int) < (Z.length : Int)) = true := decide_eq_true (by omega)
          have hd9 : decide (m < Z.length) = true := decide_eq_true hlt2
          obtain ⟨b5, rfl, q0⟩ := int_cell HZ.out rfl m hlt2
          have HQ : Hid (0 ≤ Z.getD m 0 ∧ Z.getD m 0 < 36) := Lib.hid (HZR.out _ (by simp [List.getD, hlt2]))
          have HIM := Lib.hid (HIN.out m)
          have HLL : Hid ((S0 ++ SI m).length < maxLen) := Lib.hid (by rw [List.length_append, HILn.out]; have := HT.out; unfold maxLen; omega)
          obtain ⟨q, hq⟩ : ∃ q, q = Z.getD m 0 := ⟨_, rfl⟩
          rw [← hq] at q0 HQ HIM
          clear hq
          have HAP : Hid (S0 ++ SI (m + 1) = (S0 ++ SI m) ++ [(q, k, m)]) := Lib.hid (by rw [HIM.out, List.append_assoc])
          obtain ⟨LL, hLL⟩ : ∃ LL, LL = S0 ++ SI m := ⟨_, rfl⟩
          rw [← hLL] at HM HLL HAP
          clear hLL HIM
          have HQW : Hid ((Lit.int .i64 q).wf = true) := Lib.hid (wf_cell HQ.out.1 (by have := HQ.out.2; omega))
          obtain ⟨o, ho⟩ : ∃ o, o = Obj.cells #[.int .i64 (k : Int), .int .i64 (m : Int)] 88 := ⟨_, rfl⟩
          have HM1 := Lib.hid (pm_alloc HM.out o)
          rcases hp : pairQ LL q with _ | ⟨⟨p1, p2⟩, p3, p4⟩
          · have HV : Hid (Value.agg #[.int .i64 0, .int .i64 0, .int .i64 0, .int .i64 0] = encP ((pairQ LL q).getD zeroP)) := Lib.hid (by rw [hp]; rfl)
            have HME : Hid (false = (pairQ LL q).isSome) := Lib.hid (by rw [hp]; rfl)
            have HST : Hid (stepP (pairQ LL q) (k, m) = some ((k, m), (0, 0))) := Lib.hid (by rw [hp]; rfl)
            clear hp
            obtain ⟨o2, ho2⟩ : ∃ o2, o2 = Obj.cells #[.int .i64 0, .int .i64 0, .int .i64 0, .int .i64 0] 168 := ⟨_, rfl⟩
            have bo := ((Below.refl wr.heap.size wr).alloc (Nat.le_refl _) o).alloc (by simp) o2
            have HM2 := Lib.hid (pm_alloc HM1.out o2)
            have HL2 := Lib.hid ((HL.out.alloc o).alloc o2)
            have HZ2 := Lib.hid ((HZ.out.alloc o).alloc o2)
            have HX2 := Lib.hid ((bo.block w.heap.size (Array.getElem?_eq_some_iff.1 HX.out).1).trans HX.out)
            have HB2 := Lib.hid (HB.out.trans (bo.mono HB.out.size))
            rw [ho] at HM1
            rw [ho, ho2] at HM2 HL2 HZ2 HX2 HB2
            clear bo ho ho2 HM HL HZ HX HB
            go_wp2_with (first | (at_lookup; refine wp_look_ok rfl _ _ rfl (w.heap.size + 1) LL rfl HM1.out q rfl HQW.out _ _ HV.out HME.out ?_) | (at_mapUpdate; refine wp_store rfl _ _ _ rfl (w.heap.size + 1) LL rfl HM2.out q k m rfl HQW.out HLL.out HQ.out _ HST.out rfl ?_; intro w9 hm9 hg9))
            have HM9 : Hid (PairMap w9 (w.heap.size + 1) (S0 ++ SI (m + 1))) := Lib.hid (by rw [HAP.out]; exact hm9)
            have HL9 := Lib.hid (pm_keep HM2.out HL2.out hg9)
            have HZ9 := Lib.hid (pm_keep HM2.out HZ2.out hg9)
            have HX9 := Lib.hid (pm_box HM2.out HX2.out hg9)
            have HB9 := Lib.hid (HB2.out.grown hg9 HB2.out.size (fun j hj => by cases hj; omega))
            clear hm9 hg9
            go_roundw
            case rel => exact ⟨m + 1, by omega, by go_num, HM9, HL9, HZ9, HX9, HB9⟩
            case measure => simp [intOf]; omega
          · have HV : Hid (Value.agg #[.int .i64 (p1 : Int), .int .i64 (p2 : Int), .int .i64 (p3 : Int), .int .i64 (p4 : Int)] = encP ((pairQ LL q).getD zeroP)) := Lib.hid (by rw [hp]; rfl)
            have HME : Hid (true = (pairQ LL q).isSome) := Lib.hid (by rw [hp]; rfl)
            have HST : Hid (stepP (pairQ LL q) (k, m) = some ((p1, p2), (k, m))) := Lib.hid (by rw [hp]; rfl)
            clear hp
            obtain ⟨o2, ho2⟩ : ∃ o2, o2 = Obj.cells #[.int .i64 (p1 : Int), .int .i64 (p2 : Int), .int .i64 (p3 : Int), .int .i64 (p4 : Int)] 168 := ⟨_, rfl⟩
            have bo := ((Below.refl wr.heap.size wr).alloc (Nat.le_refl _) o).alloc (by simp) o2
            have HM2 := Lib.hid (pm_alloc HM1.out o2)
            have HL2 := Lib.hid ((HL.out.alloc o).alloc o2)
            have HZ2 := Lib.hid ((HZ.out.alloc o).alloc o2)
            have HX2 := Lib.hid ((bo.block w.heap.size (Array.getElem?_eq_some_iff.1 HX.out).1).trans HX.out)
            have HB2 := Lib.hid (HB.out.trans (bo.mono HB.out.size))
            rw [ho] at HM1
            rw [ho, ho2] at HM2 HL2 HZ2 HX2 HB2
            clear bo ho ho2 HM HL HZ HX HB
            go_wp2_with (first | (at_lookup; refine wp_look_ok rfl _ _ rfl (w.heap.size + 1) LL rfl HM1.out q rfl HQW.out _ _ HV.out HME.out ?_) | (at_mapUpdate; refine wp_store rfl _ _ _ rfl (w.heap.size + 1) LL rfl HM2.out q k m rfl HQW.out HLL.out HQ.out _ HST.out rfl ?_; intro w9 hm9 hg9))
            have HM9 : Hid (PairMap w9 (w.heap.size + 1) (S0 ++ SI (m + 1))) := Lib.hid (by rw [HAP.out]; exact hm9)
            have HL9 := Lib.hid (pm_keep HM2.out HL2.out hg9)
            have HZ9 := Lib.hid (pm_keep HM2.out HZ2.out hg9)
            have HX9 := Lib.hid (pm_box HM2.out HX2.out hg9)
            have HB9 := Lib.hid (HB2.out.grown hg9 HB2.out.size (fun j hj => by cases hj; omega))
            clear hm9 hg9
            go_roundw
            case rel => exact ⟨m + 1, by omega, by go_num, HM9, HL9, HZ9, HX9, HB9⟩
            case measure => simp [intOf]; omega
        · have hd : decide ((m : Int) < (Z.length : Int)) = false := decide_eq_false (by omega)
          have hd9 : decide (m < Z.length) = false := decide_eq_false hlt2
          have HM9 : Hid (PairMap wr (w.heap.size + 1) (spotsTo c l (k + 1))) := Lib.hid (by
            rw [HNX.out]
            have h9 := HM.out
            rw [show m = Z.length by omega] at h9
            exact h9)
          go_wp2_with fail
          go_roundw
          case rel => exact ⟨k + 1, by omega, by go_num, HM9, HL, HX, HB⟩
          case measure => simp [intOf]; omega
    · have hd : decide ((k : Int) < (l.length : Int)) = false := decide_eq_false (by omega)
      have hd9 : decide (k < l.length) = false := decide_eq_false hlt
      have HF : Hid (PairMap wr (w.heap.size + 1) (spotsTo c l l.length)) := Lib.hid (by
        have h9 := HM.out
        rw [show k = l.length by omega] at h9
        exact h9)
      go_wp2
      go_ret
      exact ⟨_, rfl, by omega, HF.out, HB.out⟩
end Go.Proofs.YtgjijmcedonlmaaGreatDoor
namespace Go.Proofs.YtgjijmcedonlmaaGreatDoor
open Go.RowKit

theorem cells_Crossing_one (x : CrossV) : ∀ u ∈ cells_Crossing x, u.oneCell' = true := by
  intro u hu
  simp only [cells_Crossing, List.mem_cons, List.not_mem_nil, or_false] at hu
  rcases hu with rfl | rfl | rfl | rfl | rfl <;> rfl
theorem row_Crossing_snoc (L : List CrossV) (x : CrossV) : row_Crossing L ++ cells_Crossing x = row_Crossing (L ++ [x]) := by
  rw [row_Crossing_append]
  simp [row_Crossing]
theorem oneCr (w : World) (x : CrossV) (t : TypeId) : ∀ j, j < 1 * 5 → ∃ b off, some (⟨w.heap.size, 0, none⟩ : Addr) = some ⟨b, off, none⟩ ∧ (w.alloc (.cells #[.int .i64 x.1, .int .i64 x.2.1, .int .i64 x.2.2.1, .int .i64 x.2.2.2.1, .int .i64 x.2.2.2.2] t)).cell? ⟨b, off + j, none⟩ = (cells_Crossing x)[j]? := fun j hj => by
  refine ⟨_, _, rfl, ?_⟩
  rw [Nat.zero_add, cell_of_row _ w.heap.size j _ t (0, 0) (heap_alloc_new w _)]
  simp [cells_Crossing]
theorem pm_app {w w' : World} {b base n s : Nat} {e : TypeId} {v : Value} {xs : List Value} {L : List (Int × Nat × Nat)} (h : PairMap w b L) (ho : w.ownsRow base e s v n xs) (hg : w.grownBy w' v.ownBlock) : PairMap w' b L := by
  have h8 := pm_row h ho
  obtain ⟨D, ⟨es, clock, h1, h2⟩, h3⟩ := h
  refine ⟨D, ⟨es, clock, (hg.block b (Array.getElem?_eq_some_iff.1 h1).1 (fun e9 => ?_)).trans h1, h2⟩, h3⟩
  rcases h8 with h9 | h9
  · rw [h9] at e9; cases e9
  · exact h9 e9.symm
theorem brd_size (g : Int × Int × ByteArray) : ∃ N : Nat, (brd g).1 * (brd g).2.1 = (N : Int) ∧ N ≤ 36 ∧ crossTo (slG g) g.2.1 N = crossS g := by
  by_cases hg : isG g = true
  · refine ⟨g.2.2.size, ?_, isG_size hg, rfl⟩
    obtain ⟨r, c, s⟩ := g
    obtain ⟨R, C, rfl, rfl, h1, h2, h3, h4, h5, h6⟩ := isG_nat hg
    unfold brd
    rw [if_pos hg]
    simp only at h5 h6 ⊢
    rw [h5]
    simp
  · have hg2 : isG g = false := by simpa using hg
    refine ⟨0, ?_, by omega, ?_⟩
    · unfold brd
      rw [if_neg hg]
      rfl
    · rw [crossS_no hg2]
      rfl
theorem crossTo_len (l : List SlotV) (c : Int) (n : Nat) : (crossTo l c n).length ≤ n := by
  rw [chkTo_cross]
  exact chkTo_le l c n
set_option maxRecDepth 100000 in
set_option maxHeartbeats 6400000 in
theorem crossings_brd (r c : Int) (s : ByteArray) (w : World) :
    Calls Tryz.prog 82 #[brdV (brd (r, c, s))] w fun e w' => ∃ v, e = .returned v ∧ w'.ownsRow w.heap.size 85 5 v (crossS (r, c, s)).length (row_Crossing (crossS (r, c, s))) ∧ Below w.heap.size w w' := by
  obtain ⟨i0, hi, hz0, hz1, hz2⟩ := info_parts info_Crossing
  have HPB := Lib.hid (fun w => pairs_brd r c s w)
  obtain ⟨N, hN1, hN2, hN3⟩ := brd_size (r, c, s)
  have HPC := Lib.hid (fun (q : Int) => pair_cross (slG (r, c, s)) c q (slG_cells_nodup (g := (r, c, s))) (inS_two (r, c, s) q))
  have HSP : Hid (spotsTo c (slG (r, c, s)) (slG (r, c, s)).length = spotsTo c (slG (r, c, s)) (slG (r, c, s)).length) := Lib.hid rfl
  simp only at hN3
  rw [← hN3]
  clear hN3
  have HLN := Lib.hid (crossTo_len (slG (r, c, s)) c)
  have HNX := Lib.hid (crossTo_next (slG (r, c, s)) c)
  have HPO : Hid (∀ q, pairOf (slG (r, c, s)) c q = pairQ (spotsTo c (slG (r, c, s)) (slG (r, c, s)).length) q) := Lib.hid (fun q => rfl)
  obtain ⟨Sp, hSp⟩ : ∃ Sp, Sp = spotsTo c (slG (r, c, s)) (slG (r, c, s)).length := ⟨_, rfl⟩
  rw [← hSp] at HPB HPO
  clear hSp HSP
  obtain ⟨CT, hCT⟩ : ∃ CT, CT = crossTo (slG (r, c, s)) c := ⟨_, rfl⟩
  have HCT0 : Hid (CT 0 = []) := Lib.hid (by rw [hCT]; rfl)
  rw [← hCT] at HLN HNX ⊢
  clear hCT
  have HPD : Hid (∀ q : Int, crossAt (slG (r, c, s)) c q = if secP ((pairQ Sp q).getD zeroP) = true then [((((pairQ Sp q).getD zeroP).1.1 : Int), (((pairQ Sp q).getD zeroP).2.1 : Int), (((pairQ Sp q).getD zeroP).1.2 : Int), (((pairQ Sp q).getD zeroP).2.2 : Int), q)] else []) := Lib.hid (fun q => by
    have h := (HPC.out q).2
    rw [HPO.out q] at h
    exact h)
  clear HPC HPO
  have HNXT : Hid (∀ k : Nat, CT (k + 1) = CT k ++ (if secP ((pairQ Sp k).getD zeroP) = true then [((((pairQ Sp k).getD zeroP).1.1 : Int), (((pairQ Sp k).getD zeroP).2.1 : Int), (((pairQ Sp k).getD zeroP).1.2 : Int), (((pairQ Sp k).getD zeroP).2.2 : Int), (k : Int))] else [])) := Lib.hid (fun k => by rw [HNX.out k, HPD.out])
  clear HPD HNX
  obtain ⟨⟨b0, b1, b2⟩, hb⟩ : ∃ b, b = brd (r, c, s) := ⟨_, rfl⟩
  rw [← hb] at HPB hN1 ⊢
  clear hb
  simp only [brdV] at HPB hN1 ⊢
  have HSZ := Lib.hid (fun w => size_n b0 b1 N hN1 hN2 (b2 : Int) w)
  clear hN1
  have HBK : Hid (∀ W : World, W.heap[w.heap.size]? = some (.cells #[.int .i64 b0, .int .i64 b1, .int .u64 (b2 : Int)] 55) → W.cell? ⟨w.heap.size, 0, none⟩ = some (.int .i64 b0) ∧ W.cell? ⟨w.heap.size, 1, none⟩ = some (.int .i64 b1) ∧ W.cell? ⟨w.heap.size, 2, none⟩ = some (.int .u64 (b2 : Int))) := Lib.hid (fun W h => ⟨Joins.cell_of_block h 0, Joins.cell_of_block h 1, Joins.cell_of_block h 2⟩)
  go_enter Tryz.func82, Tryz.ntmps82
  go_wp2_with fail
  obtain ⟨W2, hW2⟩ : ∃ W2, W2 = w.alloc (.cells #[.int .i64 b0, .int .i64 b1, .int .u64 (b2 : Int)] 55) := ⟨_, rfl⟩
  have HX2 : Hid (W2.heap[w.heap.size]? = some (.cells #[.int .i64 b0, .int .i64 b1, .int .u64 (b2 : Int)] 55)) := Lib.hid (by rw [hW2]; exact new_block w _)
  have HB2 : Hid (Below w.heap.size w W2) := Lib.hid (by rw [hW2]; exact (Below.refl _ _).alloc (Nat.le_refl _) _)
  rw [← hW2]
  clear hW2
  go_wp2_with (first | (go_at_call 107; refine (HPB.out _).mono ?_; rintro e w3 ⟨M, rfl, hM, m3, b3⟩; have HM3 := Lib.hid m3; have HX3 := Lib.hid ((b3.block w.heap.size (Array.getElem?_eq_some_iff.1 HX2.out).1).trans HX2.out); have HB3 := Lib.hid (HB2.out.trans (b3.mono HB2.out.size)); have HMM := Lib.hid (Nat.le_trans HB2.out.size hM); have HO4 : Hid ((w3.alloc (.cells #[] 85)).ownsRow w3.heap.size 85 5 (.slice (some ⟨w3.heap.size, 0, none⟩) 0 0) 0 []) := Lib.hid (own_zero w3 85 5); have HB4 := Lib.hid (HB3.out.alloc HB3.out.size (.cells #[] 85)); have HX4 := Lib.hid ((Below.heap_alloc w3 (.cells #[] 85) w.heap.size (Array.getElem?_eq_some_iff.1 HX3.out).1).trans HX3.out); have HM4 := Lib.hid (pm_alloc HM3.out (.cells #[] 85)); obtain ⟨m0, m1, m2⟩ := HBK.out _ HX4.out; clear m3 b3 hM) | (go_at_call 67; refine (HSZ.out _).mono ?_; rintro e w5 ⟨rfl, b5⟩; have HB5 := Lib.hid (HB4.out.trans (b5.mono HB4.out.size)); have HM5 := Lib.hid (pm_below HM4.out b5); have HO5 := Lib.hid (own_widen (ownV_later HO4.out b5) HB3.out.size); clear b5))
  go_loopw [4, 12] (fun o i wr => ∃ k : Nat, k ≤ N ∧ i = .int .i64 (k : Int) ∧ Hid (wr.ownsRow w.heap.size 85 5 o (CT k).length (row_Crossing (CT k))) ∧ Hid (PairMap wr M Sp) ∧ Hid (Below w.heap.size w wr)) (fun _ i _ => N - (intOf i).toNat)
  case atStart => exact ⟨0, Nat.zero_le _, rfl, Lib.hid (by rw [HCT0.out]; exact HO5.out), HM5, HB5⟩
  case round =>
    clear HB2 HX2 HM3 HX3 HB3 HO4 HB4 HX4 HM4 m0 m1 m2 HB5 HM5 HO5
    obtain ⟨k, hk, rfl, HO, HM, HB⟩ := hrel
    by_cases hlt : k < N
    · have hd : decide ((k : Int) < (N : Int)) = true := decide_eq_true (by omega)
      have hd9 : decide (k < N) = true := decide_eq_true hlt
      have HNK := Lib.hid (HNXT.out k)
      have HLK := Lib.hid (HLN.out k)
      have HQW : Hid ((Lit.int .i64 (k : Int)).wf = true) := Lib.hid (wf_cell (by omega) (by omega))
      obtain ⟨p, hp⟩ : ∃ p, p = (pairQ Sp (k : Int)).getD zeroP := ⟨_, rfl⟩
      have HV : Hid (encP p = encP ((pairQ Sp (k : Int)).getD zeroP)) := Lib.hid (by rw [hp])
      rw [← hp] at HNK
      clear hp
      have HSC := Lib.hid (fun w => iscr_any p w)
      obtain ⟨A, hA⟩ : ∃ A, A = CT k := ⟨_, rfl⟩
      rw [← hA] at HO HNK HLK
      clear hA
      have hA36 : A.length ≤ 36 := by have := HLK.out; omega
      obtain ⟨sb, hsb⟩ : ∃ sb, sb = secP p := ⟨_, rfl⟩
      rw [← hsb] at HNK HSC
      clear hsb
      obtain ⟨⟨p1, p2⟩, p3, p4⟩ := p
      simp only at HNK HSC
      have HV2 : Hid (Value.agg #[.int .i64 (p1 : Int), .int .i64 (p2 : Int), .int .i64 (p3 : Int), .int .i64 (p4 : Int)] = encP ((pairQ Sp (k : Int)).getD zeroP)) := HV
      clear HV
      obtain ⟨o2, ho2⟩ : ∃ o2, o2 = Obj.cells #[.int .i64 (p1 : Int), .int .i64 (p2 : Int), .int .i64 (p3 : Int), .int .i64 (p4 : Int)] 168 := ⟨_, rfl⟩
      have HM2 := Lib.hid (pm_alloc HM.out o2)
      have HO2 := Lib.hid (HO.out.alloc o2)
      have HB2 := Lib.hid (HB.out.alloc HB.out.size o2)
      have HN2 := Lib.hid (new_block wr o2)
      rw [ho2] at HM2 HO2 HB2 HN2
      clear ho2
      cases sb with
      | true =>
        go_wp2_with (first | (at_lookup; refine wp_look rfl _ _ rfl M Sp rfl HM.out (k : Int) rfl HQW.out _ HV2.out ?_) | (go_at_call 108; refine (HSC.out _).mono ?_; rintro e w6 ⟨rfl, b6⟩; have HM6 := Lib.hid (pm_below HM2.out b6); have HO6 := Lib.hid (ownV_later HO2.out b6); have HB6 := Lib.hid (HB2.out.trans (b6.mono HB2.out.size)); have HN6 := Lib.hid ((b6.block wr.heap.size (Array.getElem?_eq_some_iff.1 HN2.out).1).trans HN2.out); obtain ⟨f0, f1, f2, f3⟩ : w6.cell? ⟨wr.heap.size, 0, none⟩ = some (.int .i64 (p1 : Int)) ∧ w6.cell? ⟨wr.heap.size, 1, none⟩ = some (.int .i64 (p2 : Int)) ∧ w6.cell? ⟨wr.heap.size, 2, none⟩ = some (.int .i64 (p3 : Int)) ∧ w6.cell? ⟨wr.heap.size, 3, none⟩ = some (.int .i64 (p4 : Int)) := ⟨Joins.cell_of_block HN6.out 0, Joins.cell_of_block HN6.out 1, Joins.cell_of_block HN6.out 2, Joins.cell_of_block HN6.out 3⟩; clear b6) | (at_builtin; refine appendV_reads _ rfl _ _ 82 rfl w.heap.size 85 i0 (.agg #[.int .i64 0, .int .i64 0, .int .i64 0, .int .i64 0, .int .i64 0]) 5 40 Tryz.underlying82 hi hz0 hz1 hz2 rfl (by decide) _ A.length _ rfl (HO6.out.alloc _) (some ⟨w6.heap.size, 0, none⟩) 1 1 (cells_Crossing ((p1 : Int), (p3 : Int), (p2 : Int), (p4 : Int), (k : Int))) rfl rfl (cells_Crossing_one _) (fun e => by cases e) (oneCr w6 ((p1 : Int), (p3 : Int), (p2 : Int), (p4 : Int), (k : Int)) _) (by omega) (by omega) (le_alloc HB6.out.size _) ?_; intro v7 w7 hown hgrow))
        have HB7 := Lib.hid (below_app (HB6.out.alloc HB6.out.size _) hgrow (HO6.out.alloc _) (Nat.le_refl _) (le_alloc HB6.out.size _))
        have HM7 := Lib.hid (pm_app (pm_alloc HM6.out _) (HO6.out.alloc _) hgrow)
        have HO7 : Hid (w7.ownsRow w.heap.size 85 5 v7 (CT (k + 1)).length (row_Crossing (CT (k + 1)))) := Lib.hid (by rw [HNK.out, if_pos (by trivial), ← row_Crossing_snoc, List.length_append]; exact hown)
        clear hown hgrow
        go_roundw
        case rel => exact ⟨k + 1, by omega, by go_num, HO7, HM7, HB7⟩
        case measure => simp [intOf]; omega
      | false =>
        go_wp2_with (first | (at_lookup; refine wp_look rfl _ _ rfl M Sp rfl HM.out (k : Int) rfl HQW.out _ HV2.out ?_) | (go_at_call 108; refine (HSC.out _).mono ?_; rintro e w6 ⟨rfl, b6⟩; have HM6 := Lib.hid (pm_below HM2.out b6); have HO6 := Lib.hid (ownV_later HO2.out b6); have HB6 := Lib.hid (HB2.out.trans (b6.mono HB2.out.size)); clear b6))
        have HO7 : Hid (w6.ownsRow w.heap.size 85 5 u4 (CT (k + 1)).length (row_Crossing (CT (k + 1)))) := Lib.hid (by rw [HNK.out, if_neg (by simp), List.append_nil]; exact HO6.out)
        go_roundw
        case rel => exact ⟨k + 1, by omega, by go_num, HO7, HM6, HB6⟩
        case measure => simp [intOf]; omega
    · have hd : decide ((k : Int) < (N : Int)) = false := decide_eq_false (by omega)
      have hd9 : decide (k < N) = false := decide_eq_false hlt
      have HF : Hid (wr.ownsRow w.heap.size 85 5 u4 (CT N).length (row_Crossing (CT N))) := Lib.hid (by
        have h9 := HO.out
        rw [show k = N by omega] at h9
        exact h9)
      go_wp2
      go_ret
      exact ⟨_, rfl, HF.out, HB.out⟩
set_option maxHeartbeats 1600000 in
theorem icr_any (r c : Int) (s : ByteArray) (hs : s.size ≤ 4194304) (w : World) :
    Calls Tryz.prog 41 #[.agg #[.int .i64 r, .int .i64 c, .string s]] w fun e w' => ∃ v, e = .returned v ∧ w'.ownsRow w.heap.size 85 5 v (crossS (r, c, s)).length (row_Crossing (crossS (r, c, s))) ∧ Below w.heap.size w w' := by
  have HBO := Lib.hid (fun w => ibo_any r c s hs w)
  have HCB := Lib.hid (fun w => crossings_brd r c s w)
  obtain ⟨L, hL⟩ : ∃ L, L = crossS (r, c, s) := ⟨_, rfl⟩
  rw [← hL] at HCB ⊢
  clear hL
  obtain ⟨⟨b0, b1, b2⟩, hb⟩ : ∃ b, b = brd (r, c, s) := ⟨_, rfl⟩
  rw [← hb] at HBO HCB
  clear hb
  simp only [brdV] at HBO HCB
  go_enter Tryz.func41, Tryz.ntmps41
  go_wp2_with (first | (go_at_call 23; refine (HBO.out _).mono ?_; rintro e w1 ⟨rfl, bb1⟩; have HB1 := Lib.hid (box1_of bb1); have HB2 := Lib.hid (HB1.out.alloc HB1.out.size (.cells #[.int .i64 b0, .int .i64 b1, .int .u64 (b2 : Int)] 55)); clear bb1) | (go_at_call 82; refine (HCB.out _).mono ?_; rintro e w4 ⟨v4, rfl, o4, b4⟩; have HL4 := Lib.hid (own_widen o4 HB2.out.size); have HB4 := Lib.hid (HB2.out.trans (b4.mono HB2.out.size)); clear o4 b4))
  go_ret
  exact ⟨_, rfl, HL4.out, HB4.out⟩
end Go.Proofs.YtgjijmcedonlmaaGreatDoor
