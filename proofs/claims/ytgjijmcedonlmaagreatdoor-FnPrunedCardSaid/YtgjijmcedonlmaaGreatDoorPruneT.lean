/-
  The model's contracts of chapter 12: l12Copy.
  Pruning, of the model: the world in the middle of it, and its measure.
  Pruning, of the model.
-/
import Derived.Test.YtgjijmcedonlmaaGreatDoorDomT
namespace Go.Proofs.YtgjijmcedonlmaaGreatDoor
open Go.RowKit

theorem take_nextN {α : Type} (l : List α) (k : Nat) (d : α) (h : k < l.length) : l.take (k + 1) = l.take k ++ [l.getD k d] := by
  rw [List.take_succ_eq_append_getElem h]
  simp [List.getD, h]
theorem one_srcN (W : World) (v : Value) (t : TypeId) : ∀ j, j < 1 * 1 → ∃ b off, (some ⟨W.heap.size, 0, none⟩ : Option Addr) = some ⟨b, off, none⟩ ∧ (W.alloc (.cells #[v] t)).cell? ⟨b, off + j, none⟩ = [v][j]? := fun j hj => by
  obtain rfl : j = 0 := by omega
  exact ⟨W.heap.size, 0, rfl, by simp⟩
theorem one_strs (l : List ByteArray) : ∀ u ∈ l.map Value.string, u.oneCell' = true := by
  intro u hu
  obtain ⟨z, -, rfl⟩ := List.mem_map.1 hu
  rfl
set_option maxRecDepth 100000 in
set_option maxHeartbeats 3200000 in
theorem scopy12_any (D : List (List ByteArray)) (hl : D.length ≤ 1048576) (hm : ∀ m ∈ D, m.length ≤ 1048576) (v : Value) (w : World) (hv : ReadsN w.heap.size w v D) :
    Calls Tryz.prog 58 #[v] w fun e w' => ∃ v', e = .returned v' ∧ OwnT w' w.heap.size w'.heap.size v' D ∧ Below w.heap.size w w' := by
  obtain ⟨i0, hi, hz0, hz1, hz2⟩ := info_parts infoStrS
  obtain ⟨i1, gi, gz0, gz1, gz2⟩ := info_parts infoStr
  obtain ⟨-, a1, cap1, rfl, -, hc⟩ := hv.cells
  have HC := Lib.hid hc
  have HM := Lib.hid hm
  clear hc hm hv
  go_enter Tryz.func58, Tryz.ntmps58
  go_wp2_with fail
  have HO0 : Hid (OwnN fS 1 34 9 (w.alloc (.cells #[] 34)) w.heap.size (w.alloc (.cells #[] 34)).heap.size (.slice (some ⟨w.heap.size, 0, none⟩) 0 0) [] []) := Lib.hid (OwnN.empty (own_empty2 w _ 1))
  have HB0 := Lib.hid ((Below.refl w.heap.size w).alloc (Nat.le_refl _) (.cells #[] 34))
  go_loopw [3, 4] (fun o i wr => ∃ k : Nat, k ≤ D.length ∧ i = .int .i64 (k : Int) ∧ Hid (∃ us, OwnN fS 1 34 9 wr w.heap.size wr.heap.size o us (D.take k)) ∧ Hid (Below w.heap.size w wr)) (fun _ i _ => D.length - (intOf i).toNat)
  case atStart => exact ⟨0, Nat.zero_le _, rfl, Lib.hid ⟨_, HO0.out⟩, HB0⟩
  case round =>
    clear HO0 HB0
    obtain ⟨k, hk, rfl, ⟨us, hn⟩, HB⟩ := hrel
    have HO := Lib.hid hn
    clear hn
    by_cases hlt : k < D.length
    · have hd : decide ((k : Int) < (D.length : Int)) = true := decide_eq_true (by omega)
      have hd9 : decide (k < D.length) = true := decide_eq_true hlt
      obtain ⟨b, off, u, rfl, hb, q0, hu⟩ := HC.out k hlt
      have hml := HM.out _ (show D.getD k [] ∈ D by simp [List.getD, hlt])
      have HNX := Lib.hid (take_nextN D k [] hlt)
      have hkl : (D.take k).length = k := by simp; omega
      obtain ⟨L, hL⟩ : ∃ L, L = D.take k := ⟨_, rfl⟩
      rw [← hL] at HO HNX hkl
      obtain ⟨M, hM⟩ : ∃ M, M = D.getD k [] := ⟨_, rfl⟩
      rw [← hM] at hu hml HNX
      clear hL hM
      obtain ⟨au, cu, rfl⟩ : ∃ a c, u = .slice a M.length c := by obtain ⟨-, a0, cap, e, -⟩ := hu.cells; exact ⟨_, _, e⟩
      have HNIL := Lib.hid (nilV2 hu)
      have hu9 : ReadsV wr.heap.size wr (.slice au M.length cu) 1 M.length (M.map Value.string) := ReadsV.wide (ReadsV.later hu HB.out) HB.out.size
      have HSR := Lib.hid (fun o => srcV2 hu9 o)
      have c0 := (HB.out.cell (p := ⟨b, off + k, none⟩) hb).trans q0
      have c1 := (World.grownBy_alloc wr (.cells #[] 9) none).cell c0 (by simp)
      clear q0 hu hu9
      go_wp2_with (first | (at_builtin; refine appendV_reads _ rfl _ _ 34 rfl wr.heap.size 9 i1 (.string ⟨#[]⟩) 1 16 Tryz.underlying34 gi gz0 gz1 gz2 rfl (by decide) _ _ _ rfl (own_empty2 wr 9 1) au M.length cu (M.map Value.string) rfl (by simp) (one_strs M) HNIL.out (HSR.out _) (by omega) (by omega) (le_alloc (Nat.le_refl _) _) ?_; intro v5 w5 o5 hg5; rw [Nat.zero_add, List.nil_append] at o5; have b5 := ((Below.refl wr.heap.size wr).alloc (Nat.le_refl _) (.cells #[] 9)).grown hg5 (le_alloc (Nat.le_refl _) _) (fun q h => by cases h; exact Nat.le_refl _); obtain ⟨a5, c5, rfl⟩ := ownV_slice o5; have HB5 := Lib.hid (HB.out.trans (b5.mono HB.out.size)); have HO5 := Lib.hid (HO.out.later (Nat.le_refl _) b5); have HT5 := Lib.hid (fun q h => (o5.lt q h).1); have HU5 := Lib.hid (own_base (own_fS o5) HB.out.size); have HZ5 := Lib.hid b5.size; clear o5 b5 hg5) | (at_builtin; refine list_appendW _ rfl _ _ 26 rfl w.heap.size 34 i0 (.slice none 0 0) 1 24 Tryz.underlying26 hi hz0 hz1 hz2 rfl (by decide) _ _ _ rfl (HO5.out.row.alloc _) ⟨w5.heap.size, 0, none⟩ 1 1 [.slice a5 M.length c5] rfl rfl (by decide) (by simp [Value.oneCell']) (one_srcN w5 _ _) (by omega) (by omega) (le_alloc HB5.out.size _) ?_; intro v6 w6 hown hgrow hwhere))
      have HB6 := Lib.hid ((HB5.out.alloc HB5.out.size (.cells #[.slice a5 M.length c5] 34)).grown hgrow (le_alloc HB5.out.size _) (fun q h => (HO5.out.low q h).1))
      have HN6 := Lib.hid (HO5.out.appended HZ5.out _ HU5.out HT5.out hown hgrow hwhere)
      clear hown hgrow hwhere
      go_roundw
      case rel => exact ⟨k + 1, by omega, by go_num, Lib.hid ⟨_, by rw [HNX.out]; exact HN6.out⟩, HB6⟩
      case measure => simp [intOf]; omega
    · have hd : decide ((k : Int) < (D.length : Int)) = false := decide_eq_false (by omega)
      have hd9 : decide (k < D.length) = false := decide_eq_false hlt
      have HV : Hid (OwnT wr w.heap.size wr.heap.size u3 D) := Lib.hid ⟨us, by
        have h9 := HO.out
        rw [List.take_of_length_le (by omega)] at h9
        exact h9⟩
      go_wp2
      go_ret
      exact ⟨_, rfl, HV.out, HB.out⟩
end Go.Proofs.YtgjijmcedonlmaaGreatDoor
namespace Go.Proofs.YtgjijmcedonlmaaGreatDoor
open Go.RowKit

def lenOf : Option Value → Nat
  | some (.slice _ n _) => n
  | _ => 0
def boolM : Value → Nat
  | .bool true => 1
  | _ => 0
/-- How many elements the rows of a row of rows have together. -/
def sumAt (W : World) (v : Value) (n : Nat) : Nat := ((List.range n).map fun j => lenOf (W.cell? ⟨v.ownBlock.getD 0, j, none⟩)).sum
theorem sumL_range : ∀ C : List (List ByteArray), ((List.range C.length).map fun j => (C.getD j []).length).sum = sumL C
  | [] => rfl
  | m :: C => by
    rw [List.length_cons, List.range_succ_eq_map, List.map_cons, List.sum_cons, List.map_map]
    have h := sumL_range C
    simp only [sumL, List.map_cons, List.sum_cons] at h ⊢
    rw [← h]
    congr 1
theorem sumAt_is {W : World} {base top : Nat} {v : Value} {us : List Value} {C : List (List ByteArray)} {eo ei : TypeId} (h : OwnN fS 1 eo ei W base top v us C) (n : Nat) (hn : C.length = n) : sumAt W v n = sumL C := by
  subst hn
  rw [← sumL_range]
  unfold sumAt
  congr 1
  apply List.map_congr_left
  intro j hj
  rw [List.mem_range] at hj
  obtain ⟨a0, c0, rfl⟩ := ownV_slice h.row
  obtain ⟨g, rfl, -, hc, -⟩ := h.cell hj
  obtain ⟨a, c, e⟩ := ownV_slice (h.inner j hj)
  show lenOf (W.cell? ⟨g, j, none⟩) = _
  rw [hc, e]
  rfl
theorem PartS.small {l : List SlotV} {X : List CrossV} {D C : List (List ByteArray)} {a b : Nat} (h : PartS l X D C) (hm : ∀ m ∈ D, m.length ≤ a ∧ ∀ z ∈ m, z.size ≤ b) : ∀ m ∈ C, m.length ≤ a ∧ ∀ z ∈ m, z.size ≤ b := by
  intro m hm'
  obtain ⟨j, hj, rfl⟩ := List.mem_iff_getElem.1 hm'
  have h1 := h.mem j
  have h2 : j < D.length := by rw [← h.length]; exact hj
  simp only [List.getD_eq_getElem?_getD, List.getElem?_eq_getElem hj, List.getElem?_eq_getElem h2, Option.getD_some] at h1
  have h3 := hm _ (List.getElem_mem h2)
  exact ⟨Nat.le_trans h1.length_le h3.1, fun z hz => h3.2 z (h1.subset hz)⟩
/-- The world in the middle of pruning: the rows, the slots, the crossings. -/
structure PruW (base T0 top : Nat) (W0 W : World) (vo vl vx : Value) (l : List SlotV) (X : List CrossV) (C : List (List ByteArray)) : Prop where
  nest : ∃ us, OwnN fS 1 34 9 W base top vo us C
  outer : ∀ k, vo.ownBlock = some k → k < T0
  slots : W.ownsRow T0 63 4 vl l.length (row_Slot l)
  cross : W.ownsRow T0 85 5 vx X.length (row_Crossing X)
  below : Below base W0 W
  size : T0 ≤ W.heap.size
  low : base ≤ T0
section
variable {base T0 top : Nat} {W0 W W' : World} {vo vl vx : Value} {l : List SlotV} {X : List CrossV} {C : List (List ByteArray)}
theorem PruW.later (h : PruW base T0 top W0 W vo vl vx l X C) (ht : top ≤ W.heap.size) (hb : Below W.heap.size W W') : PruW base T0 top W0 W' vo vl vx l X C := by
  obtain ⟨us, hn⟩ := h.nest
  exact ⟨⟨us, hn.later ht hb⟩, h.outer, ownV_later h.slots hb, ownV_later h.cross hb, h.below.trans (hb.mono (Nat.le_trans h.low h.size)), Nat.le_trans h.size hb.size, h.low⟩
theorem PruW.full (h : PruW base T0 top W0 W vo vl vx l X C) : PruW base T0 W.heap.size W0 W vo vl vx l X C := by
  obtain ⟨us, hn⟩ := h.nest
  exact ⟨⟨us, hn.full⟩, h.outer, h.slots, h.cross, h.below, h.size, h.low⟩
theorem PruW.now (h : PruW base T0 W.heap.size W0 W vo vl vx l X C) (hb : Below W.heap.size W W') : PruW base T0 W'.heap.size W0 W' vo vl vx l X C := (h.later (Nat.le_refl _) hb).full
theorem PruW.reads (h : PruW base T0 top W0 W vo vl vx l X C) (hl : C.length ≤ 140737488355328) (hm : ∀ m ∈ C, m.length ≤ 140737488355328) : ReadsN W.heap.size W vo C := by
  obtain ⟨us, hn⟩ := h.nest
  exact OwnT.reads ⟨us, hn⟩ hl hm
theorem PruW.readsX (h : PruW base T0 top W0 W vo vl vx l X C) (hl : X.length ≤ 140737488355328) : ReadsCrossing W.heap.size W vx X := reads_Crossing_own h.cross rfl hl
theorem PruW.sum (h : PruW base T0 top W0 W vo vl vx l X C) (n : Nat) (hn : C.length = n) : sumAt W vo n = sumL C := by
  obtain ⟨us, h1⟩ := h.nest
  exact sumAt_is h1 n hn
/-- The row at j, and the words in it. -/
theorem PruW.cell {a0 : Option Addr} {n cap : Nat} (h : PruW base T0 top W0 W (.slice a0 n cap) vl vx l X C) {j : Nat} (hj : j < C.length) :
    ∃ g aj cj, a0 = some ⟨g, 0, none⟩ ∧ W.cell? ⟨g, j, none⟩ = some (.slice aj (C.getD j []).length cj) ∧ W.frozen? ⟨g, j, none⟩ = false ∧
      ∀ k, k < (C.getD j []).length → ∃ b, aj = some ⟨b, 0, none⟩ ∧ W.cell? ⟨b, k, none⟩ = some (.string ((C.getD j []).getD k ⟨#[]⟩)) := by
  obtain ⟨us, hn⟩ := h.nest
  obtain ⟨g, rfl, -, hc, hf, -⟩ := hn.cell hj
  have hi := own_sF (hn.inner j hj)
  obtain ⟨a, c, e⟩ := ownV_slice hi
  refine ⟨g, a, c, rfl, by rw [hc, e], hf, fun k hk => ?_⟩
  rw [e] at hi
  obtain ⟨b, c', e'⟩ := Joins.ownsRow_form hi (by omega)
  injection e' with e1 e2 e3
  subst e1
  refine ⟨b, rfl, ?_⟩
  rw [hi.cellAt k (by omega)]
  clear hi e hc
  obtain ⟨M, hM⟩ : ∃ M, M = C.getD j [] := ⟨_, rfl⟩
  rw [← hM] at hk ⊢
  simp [List.getD, hk]
/-- A row stored at j. -/
theorem PruW.store {g n cap j : Nat} {u : Value} {m : List ByteArray} (h : PruW base T0 top W0 W (.slice (some ⟨g, 0, none⟩) n cap) vl vx l X C) (hj : j < C.length) (hu : W.ownsRow base 9 1 u m.length (m.map Value.string)) (hut : ∀ k, u.ownBlock = some k → top ≤ k) :
    PruW base T0 (W.setCell ⟨g, j, none⟩ u).heap.size W0 (W.setCell ⟨g, j, none⟩ u) (.slice (some ⟨g, 0, none⟩) n cap) vl vx l X (C.set j m) := by
  obtain ⟨us, hn⟩ := h.nest
  have hg : g < T0 := h.outer g rfl
  have hs := hn.store hj (own_fS hu) (.inr hut)
  have hlow := (hn.low g rfl).1
  refine ⟨⟨_, hs.1⟩, h.outer, ownV_block h.slots fun k e => ?_, ownV_block h.cross fun k e => ?_, h.below.setCell (p := ⟨g, j, none⟩) hlow u, Nat.le_trans h.size hs.2.size, h.low⟩
  · have := (h.slots.lt k e).1
    exact heap_setCell_other W ⟨g, j, none⟩ k u (by show k ≠ g; omega)
  · have := (h.cross.lt k e).1
    exact heap_setCell_other W ⟨g, j, none⟩ k u (by show k ≠ g; omega)
end
/-- One word more of a row is looked at. -/
theorem filter_next (p : ByteArray → Bool) (M : List ByteArray) (q : Nat) (h : q < M.length) : (M.take (q + 1)).filter p = (M.take q).filter p ++ if p (M.getD q ⟨#[]⟩) = true then [M.getD q ⟨#[]⟩] else [] := by
  rw [take_nextN M q ⟨#[]⟩ h, List.filter_append]
  by_cases e : p (M.getD q ⟨#[]⟩) = true
  · rw [if_pos e, List.filter_cons_of_pos e, List.filter_nil]
  · rw [if_neg e, List.filter_cons_of_neg e, List.filter_nil]
end Go.Proofs.YtgjijmcedonlmaaGreatDoor
namespace Go.Proofs.YtgjijmcedonlmaaGreatDoor
open Go.RowKit

set_option maxRecDepth 100000 in
set_option maxHeartbeats 12800000 in
theorem sprune_any (r c : Int) (s : ByteArray) (D : List (List ByteArray)) (hs : s.size ≤ 4194304) (hl : D.length ≤ 1048576) (hm : ∀ m ∈ D, m.length ≤ 1048576 ∧ ∀ z ∈ m, z.size ≤ 1048576) (v : Value) (w : World) (hv : ReadsN w.heap.size w v D) :
    Calls Tryz.prog 30 #[.agg #[.int .i64 r, .int .i64 c, .string s], v] w fun e w' => ∃ v' E, e = .returned v' ∧ OwnT w' w.heap.size w'.heap.size v' E ∧ PruF (r, c, s) D E ∧ Below w.heap.size w w' := by
  obtain ⟨i1, gi, gz0, gz1, gz2⟩ := info_parts infoStr
  have HSL := Lib.hid (fun w => ssl_any r c s hs w)
  have HCR := Lib.hid (fun w => scr_any r c s hs w)
  have HLEN := Lib.hid (slG_length (r, c, s))
  have HCL : Hid ((crossS (r, c, s)).length ≤ 16777216) := Lib.hid (by have := crossS_no_more (r, c, s); omega)
  have HXF := Lib.hid (fun (x : ByteArray) (k : Nat) h1 h2 => xfor_cross (r, c, s) (slot := k) (x := x) h1 h2)
  have HKP := Lib.hid (gbox_keep w r c s 25)
  have HBX : Hid (Below w.heap.size w (w.alloc (.cells #[.int .i64 r, .int .i64 c, .string s] 25))) := Lib.hid ((Below.refl _ _).alloc (Nat.le_refl _) _)
  have HCO := Lib.hid (fun w h => scopy12_any D hl (fun m h => (hm m h).1) v w h)
  have HV := Lib.hid hv
  have HM := Lib.hid hm
  have HPF : Hid (∀ E, PruF (r, c, s) D E ↔ ((D.length = (slG (r, c, s)).length → PruS (slG (r, c, s)) (crossS (r, c, s)) D E) ∧ (D.length ≠ (slG (r, c, s)).length → E = D))) := Lib.hid (fun E => Iff.rfl)
  obtain ⟨a1, cap1, rfl⟩ : ∃ a0 cap, v = .slice a0 D.length cap := by obtain ⟨-, a0, cap, e, -⟩ := hv.cells; exact ⟨a0, cap, e⟩
  obtain ⟨l, hll⟩ : ∃ l, l = slG (r, c, s) := ⟨_, rfl⟩
  rw [← hll] at HSL HLEN HXF HPF
  obtain ⟨X, hX⟩ : ∃ X, X = crossS (r, c, s) := ⟨_, rfl⟩
  rw [← hX] at HCR HCL HXF HPF
  clear hll hX hv hm
  have hl72 := HLEN.out
  go_enter Tryz.func30, Tryz.ntmps30
  go_wp2_with fail
  obtain ⟨W0, hW0⟩ : ∃ W0, W0 = w.alloc (.cells #[.int .i64 r, .int .i64 c, .string s] 25) := ⟨_, rfl⟩
  have hws : W0.heap.size = w.heap.size + 1 := by rw [hW0]; simp
  have HV0 : Hid (ReadsN W0.heap.size W0 (.slice a1 D.length cap1) D) := Lib.hid (by rw [hW0]; exact HV.out.now ((Below.refl _ _).alloc (Nat.le_refl _) _))
  rw [← hW0] at HKP HBX ⊢
  clear hW0
  by_cases h1 : D.length = l.length
  · have hne : ((D.length : Int) == (l.length : Int)) = true := by rw [h1]; exact beq_self_eq_true _
    have hnn : ((D.length : Int) != (l.length : Int)) = false := by rw [h1]; exact bne_self_eq_false _
    have H1 := Lib.hid h1
    clear h1
    go_wp2_with (first | (go_at_call 58; refine (HCO.out _ HV0.out).mono ?_; rintro e w2 ⟨v2, rfl, ⟨us2, o2⟩, b2⟩; obtain ⟨a2, cap2, rfl⟩ := ownV_slice o2.row; have HO2 := Lib.hid o2; have HB2 := Lib.hid b2; obtain ⟨d0, d1, d2⟩ := HKP.out _ HB2.out; clear o2 b2) | (go_at_call 59; refine (HSL.out _).mono ?_; rintro e w3 ⟨v3, rfl, o3, b3⟩; obtain ⟨a3, cap3, rfl⟩ := ownV_slice o3; have HO3 := Lib.hid o3; have HB3 := Lib.hid b3; obtain ⟨g0, g1, g2⟩ := HKP.out _ (HB2.out.trans (HB3.out.mono HB2.out.size)); clear o3 b3) | (go_at_call 60; refine (HCR.out _).mono ?_; rintro e w4 ⟨v4, rfl, o4, b4⟩; obtain ⟨a4, cap4, rfl⟩ := ownV_slice o4; have HO4 := Lib.hid o4; have HB4 := Lib.hid b4; clear o4 b4))
    have HP0 : Hid (PruW W0.heap.size w2.heap.size w4.heap.size W0 w4 (.slice a2 D.length cap2) (.slice a3 l.length cap3) (.slice a4 X.length cap4) l X D) := Lib.hid ⟨⟨us2, (HO2.out.now HB3.out).now HB4.out⟩, fun k e => (HO2.out.low k e).2, ownV_later HO3.out HB4.out, own_base HO4.out HB3.out.size, HB2.out.trans ((HB3.out.trans (HB4.out.mono HB3.out.size)).mono HB2.out.size), Nat.le_trans HB3.out.size HB4.out.size, HB2.out.size⟩
    have HS0 : Hid (PartS l X D D) := Lib.hid (PartS.all l X D)
    have HOK : Hid (∀ (E : List (List ByteArray)) (k : Nat) (x : ByteArray), okX l X E k x = (isW x && decide ((x.size : Int) = (l.getD k none_Slot).2.2.2) && supM (meetS X k) E x)) := Lib.hid (fun _ _ _ => rfl)
    have HSP : Hid (∀ (E : List (List ByteArray)) (k : Nat) (x : ByteArray) (u v : Value) (W : World), E.length = D.length → (∀ m ∈ E, m.length ≤ 1048576 ∧ ∀ z ∈ m, z.size ≤ 1048576) → (x.size : Int) = (l.getD k none_Slot).2.2.2 → k < l.length → ReadsCrossing W.heap.size W u X → ReadsN W.heap.size W v E → Calls Tryz.prog 62 #[u, v, .int .i64 (k : Int), .string x] W fun e w' => e = .returned (.bool (supM (meetS X k) E x)) ∧ Below W.heap.size W w') := Lib.hid (fun E k x u v W hE hm9 h3 hk9 hu hv9 => sl12s_any X E k x HCL.out hm9 (by rw [hE, H1.out]; exact HXF.out x k h3 hk9) u v W hu hv9)
    clear d0 d1 d2 g0 g1 g2 HO2 HO3 HO4 HB2 HB3 HB4 HKP HCO HSL HCR HV HV0 HXF
    go_loopw [8] (fun b wr => ∃ (t : Bool) (C : List (List ByteArray)), b = .bool t ∧ Hid (PruW W0.heap.size w2.heap.size wr.heap.size W0 wr (.slice a2 D.length cap2) (.slice a3 l.length cap3) (.slice a4 X.length cap4) l X C) ∧ Hid (PartS l X D C) ∧ Hid (t = false → closedF l X C)) (fun b wr => 2 * sumAt wr (.slice a2 D.length cap2) D.length + boolM b)
    case atStart => exact ⟨true, D, rfl, HP0, HS0, Lib.hid (fun h => by cases h)⟩
    case round =>
      clear HP0 HS0
      obtain ⟨t, C, rfl, HP, HS, HCD⟩ := hrel
      obtain ⟨wr1, rfl⟩ : ∃ wr1, wr1 = wr := ⟨wr, rfl⟩
      have HL := Lib.hid HS.out.length
      cases t with
      | false =>
        have HT9 : Hid (OwnT wr1 w.heap.size wr1.heap.size (.slice a2 D.length cap2) C) := Lib.hid (by obtain ⟨us, hn⟩ := HP.out.nest; exact ⟨us, hn.under (by omega)⟩)
        have HF : Hid (PruF (r, c, s) D C) := Lib.hid ((HPF.out C).2 ⟨fun _ => HS.out.ends (HCD.out rfl), fun h => absurd H1.out h⟩)
        have HB9 := Lib.hid (HBX.out.trans (HP.out.below.mono HBX.out.size))
        go_wp2
        go_ret
        first | exact ⟨_, C, rfl, HT9.out, HF.out, HB9.out⟩ | exact ⟨_, rfl, C, HT9.out, HF.out, HB9.out⟩
      | true =>
        clear HCD
        go_wp2_with fail
        go_loopw [8, 9] (fun b i wr2 => ∃ (t : Bool) (k : Nat) (E : List (List ByteArray)), k ≤ D.length ∧ b = .bool t ∧ i = .int .i64 (k : Int) ∧ Hid (PruW W0.heap.size w2.heap.size wr2.heap.size W0 wr2 (.slice a2 D.length cap2) (.slice a3 l.length cap3) (.slice a4 X.length cap4) l X E) ∧ Hid (PartS l X D E) ∧ Hid (t = true → sumL E < sumL C) ∧ Hid (t = false → E = C ∧ ∀ j, j < k → ∀ z ∈ C.getD j [], okX l X C j z = true)) (fun _ i _ => D.length - (intOf i).toNat)
        case atStart => exact ⟨false, 0, C, Nat.zero_le _, rfl, rfl, HP, HS, Lib.hid (fun h => by cases h), Lib.hid (fun _ => ⟨rfl, fun j hj => absurd hj (Nat.not_lt_zero j)⟩)⟩
        case round =>
          obtain ⟨t, k, E, hk, rfl, rfl, HPE, HSE, HT1, HT2⟩ := hrel
          obtain ⟨wr2, rfl⟩ : ∃ wr2, wr2 = wr := ⟨wr, rfl⟩
          have HLE := Lib.hid HSE.out.length
          by_cases hlt : k < D.length
          · have hd : decide ((k : Int) < (D.length : Int)) = true := decide_eq_true (by omega)
            have hd9 : decide (k < D.length) = true := decide_eq_true hlt
            have HKD := Lib.hid hlt
            have hkE : k < E.length := by have := HLE.out; omega
            have HME := Lib.hid (HSE.out.small HM.out)
            have HML : Hid ((E.getD k []).length ≤ 1048576) := Lib.hid ((HME.out _ (by simp [List.getD, hkE])).1)
            have HST : Hid (PartS l X D (E.set k ((E.getD k []).filter (okX l X E k)))) := Lib.hid (HSE.out.strike k hlt)
            have HSS : Hid (∀ m : List ByteArray, sumL (E.set k m) + (E.getD k []).length = sumL E + m.length) := Lib.hid (fun m => sumL_set E k m hkE)
            obtain ⟨g, aj, cj, rfl, c0, hf, hw⟩ := HPE.out.cell hkE
            have HW := Lib.hid hw
            have HF0 := Lib.hid hf
            have hgl := World.block_lt_of_cell? wr2 _ c0
            have HGL := Lib.hid hgl
            have HKE := Lib.hid hkE
            clear hw hf hkE hgl
            obtain ⟨M, hM⟩ : ∃ M, M = E.getD k [] := ⟨_, rfl⟩
            rw [← hM] at c0 HW HML HST HSS
            have HMM := Lib.hid hM
            clear hM
            have hml := HML.out
            have HC0 := Lib.hid c0
            obtain ⟨p, hp⟩ : ∃ p : ByteArray → Bool, p = okX l X E k := ⟨_, rfl⟩
            have HPP := Lib.hid hp
            rw [← hp] at HST
            clear hp
            go_wp2_with fail
            have HK0 := Lib.hid (own_empty2 wr2 9 1)
            have HB30 := Lib.hid ((Below.refl wr2.heap.size wr2).alloc (Nat.le_refl _) (.cells #[] 9))
            clear c0
            go_loopw [10, 11] (fun kp m w3 => ∃ q : Nat, q ≤ M.length ∧ m = .int .i64 (q : Int) ∧ Hid (w3.ownsRow wr2.heap.size 9 1 kp ((M.take q).filter p).length (((M.take q).filter p).map Value.string)) ∧ Hid (Below wr2.heap.size wr2 w3)) (fun _ m _ => M.length - (intOf m).toNat)
            case atStart => exact ⟨0, Nat.zero_le _, rfl, HK0, HB30⟩
            case round =>
              clear HK0 HB30
              obtain ⟨q, hq, rfl, HK, HB3⟩ := hrel
              obtain ⟨wr3, rfl⟩ : ∃ wr3, wr3 = wr := ⟨wr, rfl⟩
              have HP3 := Lib.hid (HPE.out.later (Nat.le_refl _) HB3.out)
              have hg3 := HGL.out
              have c3 := (HB3.out.cell (p := ⟨g, k, none⟩) hg3).trans HC0.out
              by_cases hq2 : q < M.length
              · have he : decide ((q : Int) < (M.length : Int)) = true := decide_eq_true (by omega)
                have he9 : decide (q < M.length) = true := decide_eq_true hq2
                obtain ⟨bw, rfl, q0⟩ := HW.out q hq2
                have hbw := World.block_lt_of_cell? wr2 _ q0
                have c4 := (HB3.out.cell (p := ⟨bw, q, none⟩) hbw).trans q0
                have HNX := Lib.hid (filter_next p M q hq2)
                obtain ⟨x, hx⟩ : ∃ x, x = M.getD q ⟨#[]⟩ := ⟨_, rfl⟩
                rw [← hx] at c4 HNX
                have hln : ((M.take q).filter p).length ≤ q := Nat.le_trans (List.length_filter_le _ _) (by rw [List.length_take]; omega)
                have HPX : Hid (p x = (isW x && decide ((x.size : Int) = (l.getD k none_Slot).2.2.2) && supM (meetS X k) E x)) := Lib.hid (by rw [HPP.out]; exact HOK.out E k x)
                have HIW := Lib.hid (fun w => siw_same x w)
                obtain ⟨L, hL⟩ : ∃ L, L = (M.take q).filter p := ⟨_, rfl⟩
                rw [← hL] at HK HNX hln
                have hkl : k < l.length := by have := HKD.out; have := H1.out; omega
                have hk3 : (k : Int) < (l.length : Int) := by omega
                obtain ⟨bs, rfl, -, -, -, p3⟩ := slot_cells HP3.out.slots rfl k hkl
                have HSP1 := Lib.hid (fun (u v : Value) (W : World) h3 hu hv9 => HSP.out E k x u v W HLE.out HME.out h3 hkl hu hv9)
                obtain ⟨y, hy⟩ : ∃ y, y = l.getD k none_Slot := ⟨_, rfl⟩
                rw [← hy] at p3 HPX HSP1
                clear q0 hx hL hy hbw
                obtain ⟨b, hb⟩ : ∃ b, b = isW x := ⟨_, rfl⟩
                rw [← hb] at HIW HPX
                clear hb
                cases b with
                | false =>
                  have HX0 : Hid (p x = false) := Lib.hid (by rw [HPX.out]; rfl)
                  go_wp2_with (go_at_call 61; refine (HIW.out _).mono ?_; rintro e w5 ⟨rfl, rfl⟩)
                  have HK9 : Hid (wr3.ownsRow wr2.heap.size 9 1 u10 ((M.take (q + 1)).filter p).length (((M.take (q + 1)).filter p).map Value.string)) := Lib.hid (by
                    rw [HNX.out, if_neg (by rw [HX0.out]; decide), List.append_nil]
                    exact HK.out)
                  go_roundw
                  case rel => exact ⟨q + 1, by omega, by go_num, HK9, HB3⟩
                  case measure => simp [intOf]; omega
                | true =>
                  by_cases h3 : (x.size : Int) = y.2.2.2
                  · have h3' : ((x.size : Int) == y.2.2.2) = true := by rw [h3]; exact beq_self_eq_true _
                    have HX0 : Hid (p x = supM (meetS X k) E x) := Lib.hid (by rw [HPX.out, decide_eq_true h3]; rfl)
                    have HS1 := Lib.hid (fun u v W hu hv => HSP1.out u v W h3 hu hv)
                    have HRX := Lib.hid (HP3.out.readsX (by have := HCL.out; omega))
                    have HRN := Lib.hid (HP3.out.reads (by have := HLE.out; omega) (fun m hm => by have := (HME.out m hm).1; omega))
                    clear h3 HSP1
                    obtain ⟨sp, hsp⟩ : ∃ sp, sp = supM (meetS X k) E x := ⟨_, rfl⟩
                    rw [← hsp] at HS1 HX0
                    clear hsp
                    cases sp with
                    | false =>
                      go_wp2_with (first | (go_at_call 61; refine (HIW.out _).mono ?_; rintro e w5 ⟨rfl, rfl⟩) | (go_at_call 62; refine (HS1.out _ _ _ HRX.out HRN.out).mono ?_; rintro e w6 ⟨rfl, b6⟩; have HK6 := Lib.hid (ownV_later HK.out b6); have HB6 := Lib.hid (HB3.out.trans (b6.mono HB3.out.size)); clear b6))
                      have HK9 : Hid (w6.ownsRow wr2.heap.size 9 1 u10 ((M.take (q + 1)).filter p).length (((M.take (q + 1)).filter p).map Value.string)) := Lib.hid (by
                        rw [HNX.out, if_neg (by rw [HX0.out]; decide), List.append_nil]
                        exact HK6.out)
                      go_roundw
                      case rel => exact ⟨q + 1, by omega, by go_num, HK9, HB6⟩
                      case measure => simp [intOf]; omega
                    | true =>
                      go_wp2_with (first | (go_at_call 61; refine (HIW.out _).mono ?_; rintro e w5 ⟨rfl, rfl⟩) | (go_at_call 62; refine (HS1.out _ _ _ HRX.out HRN.out).mono ?_; rintro e w6 ⟨rfl, b6⟩; have HK6 := Lib.hid (ownV_later HK.out b6); have HB6 := Lib.hid (HB3.out.trans (b6.mono HB3.out.size)); clear b6) | (at_builtin; refine appendV_reads _ rfl _ _ 34 rfl wr2.heap.size 9 i1 (.string ⟨#[]⟩) 1 16 Tryz.underlying34 gi gz0 gz1 gz2 rfl (by decide) _ _ _ rfl (HK6.out.alloc _) (some ⟨w6.heap.size, 0, none⟩) 1 1 [.string x] rfl rfl (by simp [Value.oneCell']) (fun e => by cases e) (one_srcN w6 _ _) (by omega) (by omega) (le_alloc HB6.out.size _) ?_; intro v7 w7 hown hgrow))
                      have HB7 := Lib.hid ((HB6.out.alloc HB6.out.size (.cells #[.string x] 9)).grown hgrow (le_alloc HB6.out.size _) (fun q h => (HK6.out.lt q h).1))
                      have HK9 : Hid (w7.ownsRow wr2.heap.size 9 1 v7 ((M.take (q + 1)).filter p).length (((M.take (q + 1)).filter p).map Value.string)) := Lib.hid (by
                        rw [HNX.out, if_pos HX0.out, List.length_append, List.map_append]
                        exact hown)
                      clear hown hgrow
                      go_roundw
                      case rel => exact ⟨q + 1, by omega, by go_num, HK9, HB7⟩
                      case measure => simp [intOf]; omega
                  · have h3' : ((x.size : Int) == y.2.2.2) = false := beq_eq_false_iff_ne.2 h3
                    have HX0 : Hid (p x = false) := Lib.hid (by rw [HPX.out, decide_eq_false h3]; rfl)
                    clear h3 HSP1
                    go_wp2_with (go_at_call 61; refine (HIW.out _).mono ?_; rintro e w5 ⟨rfl, rfl⟩)
                    have HK9 : Hid (wr3.ownsRow wr2.heap.size 9 1 u10 ((M.take (q + 1)).filter p).length (((M.take (q + 1)).filter p).map Value.string)) := Lib.hid (by
                      rw [HNX.out, if_neg (by rw [HX0.out]; decide), List.append_nil]
                      exact HK.out)
                    go_roundw
                    case rel => exact ⟨q + 1, by omega, by go_num, HK9, HB3⟩
                    case measure => simp [intOf]; omega
              · have he : decide ((q : Int) < (M.length : Int)) = false := decide_eq_false (by omega)
                have he9 : decide (q < M.length) = false := decide_eq_false hq2
                have hqe : q = M.length := by omega
                have HKF : Hid (wr3.ownsRow wr2.heap.size 9 1 u10 (M.filter p).length ((M.filter p).map Value.string)) := Lib.hid (by
                  have h9 := HK.out
                  rw [hqe, List.take_length] at h9
                  exact h9)
                obtain ⟨a10, c10, rfl⟩ := ownV_slice HKF.out
                have HKE3 := HKE.out
                obtain ⟨g9, -, -, e9, -, hf3, -⟩ := HP3.out.cell HKE.out
                injection e9 with e9; injection e9 with e9; subst e9
                obtain ⟨FL, hFL⟩ : ∃ FL, FL = M.filter p := ⟨_, rfl⟩
                have HFL := Lib.hid hFL
                rw [← hFL] at HKF HST ⊢
                clear hFL HKE3 HK
                by_cases hs : FL.length < M.length
                · have hs3 : decide ((FL.length : Int) < (M.length : Int)) = true := decide_eq_true (by omega)
                  have hs9 : decide (FL.length < M.length) = true := decide_eq_true hs
                  have HP9 := Lib.hid (HP3.out.store (u := .slice a10 FL.length c10) (m := FL) HKE.out (own_base HKF.out (Nat.le_trans HPE.out.low HPE.out.size)) (fun k e => (HKF.out.lt k e).1))
                  have HT9 : Hid (true = true → sumL (E.set k FL) < sumL C) := Lib.hid (fun _ => by
                    have h7 := HSS.out FL
                    cases t with
                    | true => have := HT1.out rfl; omega
                    | false => rw [← (HT2.out rfl).1]; omega)
                  go_wp2_with fail
                  go_roundw
                  case rel => exact ⟨true, k + 1, E.set k FL, by omega, rfl, by go_num, HP9, HST, HT9, Lib.hid (fun h => by cases h)⟩
                  case measure => simp [intOf]; omega
                · have hs3 : decide ((FL.length : Int) < (M.length : Int)) = false := decide_eq_false (by omega)
                  have hs9 : decide (FL.length < M.length) = false := decide_eq_false hs
                  have HT9 : Hid (t = false → E = C ∧ ∀ j, j < k + 1 → ∀ z ∈ C.getD j [], okX l X C j z = true) := Lib.hid (fun h => by
                    obtain ⟨h1, h2⟩ := HT2.out h
                    refine ⟨h1, fun j hj z hz => ?_⟩
                    by_cases e : j = k
                    · subst e
                      have h5 := filter_len_eq (p := p) (l := M) (by rw [← HFL.out]; omega) z (by rw [HMM.out, h1]; exact hz)
                      rw [HPP.out, h1] at h5
                      exact h5
                    · exact h2 j (by omega) z hz)
                  have HP9 := Lib.hid HP3.out.full
                  go_wp2_with fail
                  go_roundw
                  case rel => exact ⟨t, k + 1, E, by omega, rfl, by go_num, HP9, HSE, HT1, HT9⟩
                  case measure => simp [intOf]; omega
          · have hd : decide ((k : Int) < (D.length : Int)) = false := decide_eq_false (by omega)
            have hd9 : decide (k < D.length) = false := decide_eq_false hlt
            have HSU := Lib.hid (HPE.out.sum D.length HLE.out)
            have HSC := Lib.hid (HP.out.sum D.length HL.out)
            have HCL2 : Hid (t = false → closedF l X E) := Lib.hid (fun h => by
              obtain ⟨h1, h2⟩ := HT2.out h
              subst h1
              exact fun j hj z hz => h2 j (by have := HLE.out; omega) z hz)
            go_wp2_with fail
            go_roundw
            case rel => exact ⟨t, E, rfl, HPE, HSE, HCL2⟩
            case measure =>
              show 2 * sumAt _ _ _ + boolM (.bool t) < 2 * sumAt _ _ _ + boolM (.bool true)
              rw [HSU.out, HSC.out]
              cases t with
              | true => have := HT1.out rfl; simp only [boolM]; omega
              | false => rw [(HT2.out rfl).1]; simp only [boolM]; omega
  · have hne : ((D.length : Int) == (l.length : Int)) = false := beq_eq_false_iff_ne.2 (by omega)
    have hnn : ((D.length : Int) != (l.length : Int)) = true := by rw [bne, hne]; rfl
    have HF : Hid (PruF (r, c, s) D D) := Lib.hid ((HPF.out D).2 ⟨fun h => absurd h h1, fun _ => rfl⟩)
    clear h1
    go_wp2_with (first | (go_at_call 58; refine (HCO.out _ HV0.out).mono ?_; rintro e w2 ⟨v2, rfl, ⟨us2, o2⟩, b2⟩; obtain ⟨a2, cap2, rfl⟩ := ownV_slice o2.row; have HO2 := Lib.hid o2; have HB2 := Lib.hid b2; obtain ⟨d0, d1, d2⟩ := HKP.out _ HB2.out; clear o2 b2) | (go_at_call 59; refine (HSL.out _).mono ?_; rintro e w3 ⟨v3, rfl, o3, b3⟩; obtain ⟨a3, cap3, rfl⟩ := ownV_slice o3; have HB3 := Lib.hid b3; clear o3 b3))
    have HB9 := Lib.hid (HBX.out.trans ((HB2.out.trans (HB3.out.mono HB2.out.size)).mono HBX.out.size))
    have HT9 : Hid (OwnT w3 w.heap.size w3.heap.size (.slice a2 D.length cap2) D) := Lib.hid ⟨us2, (HO2.out.now HB3.out).under (by omega)⟩
    go_ret
    exact ⟨_, D, rfl, HT9.out, HF.out, HB9.out⟩
end Go.Proofs.YtgjijmcedonlmaaGreatDoor
