/-
  The program's contracts of chapter 8, fifth part: numberSlots.
-/
import Derived.Test.YtdhjgaadfofkkaaDoorSlotFacts
import Derived.BigQuiet
namespace Go.Proofs.YtdhjgaadfofkkaaDoor
open Go.RowKit

/-- What stands in the row after i slots have their numbers. -/
def numI (L : List SlotV) (i : Nat) : List SlotV := numS (-1) 0 (L.take i) ++ L.drop i
theorem numI_length (L : List SlotV) (i : Nat) : (numI L i).length = L.length := by
  unfold numI
  rw [List.length_append, numS_length, ← List.length_append, List.take_append_drop]
theorem drop_getD {L : List SlotV} {i : Nat} (h : i < L.length) : L.drop i = L.getD i none_Slot :: L.drop (i + 1) := by
  rw [List.drop_eq_getElem_cons h, List.getD_eq_getElem?_getD, List.getElem?_eq_getElem h]
  rfl
theorem numI_at {L : List SlotV} {i : Nat} (h : i < L.length) : (numI L i).getD i none_Slot = L.getD i none_Slot := by
  unfold numI
  rw [drop_getD h]
  have h9 := getD_mid (numS (-1) 0 (L.take i)) (L.getD i none_Slot) (L.drop (i + 1))
  rw [numS_length, List.length_take, Nat.min_eq_left (by omega)] at h9
  exact h9
theorem numE_last (l : List SlotV) (x : SlotV) (p n : Int) : (numE p n (l ++ [x])).1 = x.2.2.1 := by
  rw [numE_append]
  rfl
/-- The number after i slots. -/
def numN (L : List SlotV) (i : Nat) : Int := (numE (-1) 0 (L.take i)).2
def lastC (L : List SlotV) (i : Nat) : Int := (numE (-1) 0 (L.take i)).1
theorem lastC_prev {L : List SlotV} {i : Nat} (h : i < L.length) : lastC L (i + 1) = (L.getD i none_Slot).2.2.1 := by
  unfold lastC
  rw [take_getD h, numE_last]
theorem numN_next {L : List SlotV} {i : Nat} (h : i < L.length) : numN L (i + 1) = if (L.getD i none_Slot).2.2.1 = lastC L i then numN L i else numN L i + 1 := by
  unfold numN lastC
  rw [take_getD h, numE_append]
  rfl
theorem numI_next {L : List SlotV} {i : Nat} (h : i < L.length) : numI L (i + 1) = (numI L i).set i (numN L (i + 1), (L.getD i none_Slot).2.1, (L.getD i none_Slot).2.2.1, (L.getD i none_Slot).2.2.2) := by
  have h2 := numN_next h
  unfold numI
  rw [List.set_append_right _ _ (by rw [numS_length, List.length_take]; omega), numS_length, List.length_take, Nat.min_eq_left (by omega), Nat.sub_self, drop_getD h, take_getD h, numS_append, h2]
  unfold numN lastC
  show (_ ++ [_]) ++ _ = _ ++ (_ :: _)
  rw [List.append_assoc]
  rfl
theorem numN_bound (L : List SlotV) : ∀ i, i ≤ L.length → 0 ≤ numN L i ∧ numN L i ≤ (i : Int)
  | 0, _ => ⟨by show (0 : Int) ≤ 0; decide, by show (0 : Int) ≤ 0; decide⟩
  | i + 1, h => by
    obtain ⟨h1, h2⟩ := numN_bound L i (by omega)
    rw [numN_next (by omega)]
    split
    · omega
    · omega
/-- The cell before the one that is numbered keeps its first cell. -/
theorem numI_prev {L : List SlotV} {i : Nat} (h : i + 1 < L.length) : ((numI L (i + 1)).getD i none_Slot).2.2.1 = (L.getD i none_Slot).2.2.1 := by
  rw [numI_next (by omega), List.getD_eq_getElem?_getD, List.getElem?_set_self (by rw [numI_length]; omega)]
  rfl
theorem set_same {α : Type} {l : List α} {i : Nat} {v : α} (h : l[i]? = some v) : l.set i v = l := by
  refine List.ext_getElem? fun j => ?_
  rw [List.getElem?_set]
  by_cases e : i = j
  · subst e
    have hl := (List.getElem?_eq_some_iff.1 h).1
    rw [if_pos rfl, if_pos hl, h]
  · rw [if_neg e]
theorem num_row {W : World} {base g m cap : Nat} {l : List SlotV} (h : SRow W base g m cap l) {k : Nat} (hk : k < m) {x : SlotV} (hx : x = l.getD k none_Slot) (n : Int) :
    SRow (W.setCell ⟨g, k * 4, none⟩ (.int .i64 n)) base g m cap (l.set k (n, x.2.1, x.2.2.1, x.2.2.2)) := by
  obtain ⟨h1, h2⟩ := h
  refine ⟨?_, by rw [List.length_set]; exact h2⟩
  have h3 := (h1.stored (k * 4) (.int .i64 n)).1
  have h4 := row_Slot_set l k (by omega) (n, x.2.1, x.2.2.1, x.2.2.2)
  have hat : ∀ r, r < 4 → (row_Slot l)[k * 4 + r]? = (cells_Slot x)[r]? := fun r hr => by rw [hx]; exact at_of (by omega) r hr
  rw [set_same (l := (row_Slot l).set (k * 4) _) (i := k * 4 + 1) (by rw [List.getElem?_set_ne (by omega), hat 1 (by decide)]; rfl),
    set_same (l := (row_Slot l).set (k * 4) _) (i := k * 4 + 2) (by rw [List.getElem?_set_ne (by omega), hat 2 (by decide)]; rfl),
    set_same (l := (row_Slot l).set (k * 4) _) (i := k * 4 + 3) (by rw [List.getElem?_set_ne (by omega), hat 3 (by decide)]; rfl)] at h4
  rw [← h4]
  exact h3
set_option maxRecDepth 100000 in
set_option maxHeartbeats 3200000 in
theorem inum_any (base g m cap : Nat) (L : List SlotV) (hm : m ≤ 1000) (hc : ∀ x ∈ L, 0 ≤ x.2.2.1) (w : World) (hR : SRow w base g m cap L) :
    Calls Tryd.prog 48 #[.slice (some ⟨g, 0, none⟩) m cap] w fun e w' => (∃ r, e = .returned r) ∧ SRow w' base g m cap (numS (-1) 0 L) ∧ w.grownBy w' (some g) := by
  have HR : Hid (SRow w base g m cap (numI L 0)) := Lib.hid (by unfold numI; simpa [numS] using hR)
  have hml : L.length = m := hR.2.symm
  have HC := Lib.hid hc
  have HML := Lib.hid hml
  clear hR hc hml
  go_enter Tryd.func48, Tryd.ntmps48
  go_wp2
  go_loopw [2, 6] (fun n v wr => ∃ i : Nat, i ≤ m ∧ v = .int .i64 (i : Int) ∧ n = .int .i64 (numN L i) ∧ Hid (SRow wr base g m cap (numI L i)) ∧ Hid (w.grownBy wr (some g))) (fun _ v _ => m - (intOf v).toNat)
  case atStart => exact ⟨0, Nat.zero_le _, rfl, rfl, HR, Lib.hid (grown_refl w _)⟩
  case round =>
    obtain ⟨i, hi, rfl, rfl, HS, HG⟩ := hrel
    have hb9 := numN_bound L i (by rw [HML.out]; exact hi)
    by_cases hlt : i < m
    · have hd : decide ((i : Int) < (m : Int)) = true := decide_eq_true (by omega)
      have hd9 : decide (i < m) = true := decide_eq_true hlt
      have HIL : Hid (i < L.length) := Lib.hid (by rw [HML.out]; exact hlt)
      have HNX := Lib.hid (numN_next HIL.out)
      have HSX := Lib.hid (numI_next HIL.out)
      obtain ⟨x, hx⟩ : ∃ x, x = L.getD i none_Slot := ⟨_, rfl⟩
      have HAT : Hid (x = (numI L i).getD i none_Slot) := Lib.hid (by rw [numI_at HIL.out]; exact hx)
      rw [← hx] at HNX HSX
      have HXI : Hid (0 ≤ x.2.2.1) := Lib.hid (HC.out x (by rw [hx]; exact getD_in HIL.out))
      have HX := Lib.hid hx
      obtain ⟨q, hq⟩ : ∃ q, q = lastC L i := ⟨_, rfl⟩
      obtain ⟨nm, hnm⟩ : ∃ nm, nm = numN L i := ⟨_, rfl⟩
      rw [← hq, ← hnm] at HNX
      rw [← hnm] at hb9 ⊢
      obtain ⟨c0, c1, c2, c3, f0, -, -, -⟩ := row_at HS.out (p := i) hlt x HAT.out
      have HLQ : Hid (i = 0 → q = -1) := Lib.hid (fun e => by rw [hq]; unfold lastC; rw [e]; rfl)
      have HPV : Hid (∀ k, k + 1 = i → wr.cell? ⟨g, k * 4 + 2, none⟩ = some (.int .i64 q)) := Lib.hid (fun k e => by
        have h9 := (row_at HS.out (p := k) (by omega) _ rfl).2.2.1
        have hk2 : k + 1 < L.length := by have := HIL.out; omega
        rw [h9, ← e, numI_prev hk2, ← lastC_prev (by omega), e, hq])
      obtain ⟨x0, x1, x2, x3⟩ := x
      simp only at c0 c1 c2 c3 HXI
      clear hx hq hnm
      by_cases h0 : i = 0
      · have hd0 : ((i : Int) == 0) = true := by simp; exact h0
        have HN1 : Hid (numN L (i + 1) = nm + 1) := Lib.hid (by
          rw [HNX.out, if_neg]
          have := HXI.out
          rw [HLQ.out h0]
          show ¬ x2 = -1
          omega)
        have HS0 := Lib.hid h0
        clear h0
        go_wp2
        go_quiet (fail)
        obtain ⟨W, hW⟩ : ∃ W, W = wr.drewN nq := ⟨_, rfl⟩
        have HS2 : Hid (SRow W base g m cap (numI L i)) := Lib.hid (by rw [hW]; exact ⟨HS.out.1, HS.out.2⟩)
        have HG2 : Hid (w.grownBy W (some g)) := Lib.hid (by rw [hW]; exact grown_trans HG.out (grown_drewN wr nq (some g)))
        rw [← hW]
        clear hW HS HG c0 c1 c2 c3 f0
        obtain ⟨c0, -, -, -, f0, -, -, -⟩ := row_at HS2.out (p := i) hlt _ HAT.out
        simp only at c0
        have HS3 : Hid (SRow (W.setCell ⟨g, i * 4, none⟩ (.int .i64 (nm + 1))) base g m cap (numI L (i + 1))) := Lib.hid (by
          have h9 := num_row HS2.out hlt HAT.out (nm + 1)
          rw [HSX.out, HN1.out]
          exact h9)
        all_goals go_wp2
        go_roundw
        case rel => exact ⟨i + 1, by omega, by go_num, by rw [HN1.out], HS3, Lib.hid (grown_cell0 HG2.out _ _)⟩
        case measure => simp [intOf]; omega
        
      · have hd0 : ((i : Int) == 0) = false := by simp; exact h0
        obtain ⟨k, hk⟩ : ∃ k, k + 1 = i := ⟨i - 1, by omega⟩
        have hke : (i : Int) - 1 = (k : Int) := by omega
        have hwk : IntKind.i64.wrap (k : Int) = (k : Int) := by rw [IntKind.wrap_i64]; omega
        have p2 := HPV.out k hk
        have hkm : k < m := by omega
        clear hk h0
        by_cases he : x2 = q
        · have hne : (x2 != q) = false := by simp [he]
          have HN1 : Hid (numN L (i + 1) = nm) := Lib.hid (by rw [HNX.out, if_pos he])
          clear he
          go_wp2
          go_quiet (fail)
          obtain ⟨W, hW⟩ : ∃ W, W = wr.drewN nq := ⟨_, rfl⟩
          have HS2 : Hid (SRow W base g m cap (numI L i)) := Lib.hid (by rw [hW]; exact ⟨HS.out.1, HS.out.2⟩)
          have HG2 : Hid (w.grownBy W (some g)) := Lib.hid (by rw [hW]; exact grown_trans HG.out (grown_drewN wr nq (some g)))
          rw [← hW]
          clear hW HS HG c0 c1 c2 c3 f0
          obtain ⟨c0, -, -, -, f0, -, -, -⟩ := row_at HS2.out (p := i) hlt _ HAT.out
          simp only at c0
          have HS3 : Hid (SRow (W.setCell ⟨g, i * 4, none⟩ (.int .i64 (nm))) base g m cap (numI L (i + 1))) := Lib.hid (by
            have h9 := num_row HS2.out hlt HAT.out (nm)
            rw [HSX.out, HN1.out]
            exact h9)
          all_goals go_wp2
          go_roundw
          case rel => exact ⟨i + 1, by omega, by go_num, by rw [HN1.out], HS3, Lib.hid (grown_cell0 HG2.out _ _)⟩
          case measure => simp [intOf]; omega
          
        · have hne : (x2 != q) = true := by simpa using he
          have HN1 : Hid (numN L (i + 1) = nm + 1) := Lib.hid (by rw [HNX.out, if_neg he])
          clear he
          go_wp2
          go_quiet (fail)
          obtain ⟨W, hW⟩ : ∃ W, W = wr.drewN nq := ⟨_, rfl⟩
          have HS2 : Hid (SRow W base g m cap (numI L i)) := Lib.hid (by rw [hW]; exact ⟨HS.out.1, HS.out.2⟩)
          have HG2 : Hid (w.grownBy W (some g)) := Lib.hid (by rw [hW]; exact grown_trans HG.out (grown_drewN wr nq (some g)))
          rw [← hW]
          clear hW HS HG c0 c1 c2 c3 f0
          obtain ⟨c0, -, -, -, f0, -, -, -⟩ := row_at HS2.out (p := i) hlt _ HAT.out
          simp only at c0
          have HS3 : Hid (SRow (W.setCell ⟨g, i * 4, none⟩ (.int .i64 (nm + 1))) base g m cap (numI L (i + 1))) := Lib.hid (by
            have h9 := num_row HS2.out hlt HAT.out (nm + 1)
            rw [HSX.out, HN1.out]
            exact h9)
          all_goals go_wp2
          go_roundw
          case rel => exact ⟨i + 1, by omega, by go_num, by rw [HN1.out], HS3, Lib.hid (grown_cell0 HG2.out _ _)⟩
          case measure => simp [intOf]; omega
          
    · have hd : decide ((i : Int) < (m : Int)) = false := decide_eq_false (by omega)
      have hd9 : decide (i < m) = false := decide_eq_false hlt
      have HF : Hid (SRow wr base g m cap (numS (-1) 0 L)) := Lib.hid (by
        have h9 := HS.out
        unfold numI at h9
        have hi9 : L.length ≤ i := by have := HML.out; omega
        rw [List.take_of_length_le hi9, List.drop_eq_nil_of_le hi9, List.append_nil] at h9
        exact h9)
      go_wp2
      go_end0
      exact ⟨⟨_, rfl⟩, HF.out, HG.out⟩
end Go.Proofs.YtdhjgaadfofkkaaDoor
