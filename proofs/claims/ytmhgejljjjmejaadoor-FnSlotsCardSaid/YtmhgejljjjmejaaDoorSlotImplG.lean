/-
  The program's contracts of chapter 8, fifth part: numberSlots.
  The program's contracts of chapter 8, sixth part: the slots of a board.
  The program's contracts of chapter 8, seventh part: SlotsOf, the cells of a slot.
-/
import Derived.Test.YtmhgejljjjmejaaDoorSlotFacts
import Derived.BigQuiet
namespace Go.Proofs.YtmhgejljjjmejaaDoor
open Go.RowKit

/-- What stands in the row after i slots have their numbers. -/
def numI (L : List SlotV) (i : Nat) : List SlotV := numS (-1) 0 (L.take i) ++ L.drop i
theorem numI_length (L : List SlotV) (i : Nat) : (numI L i).length = L.length := by
  unfold numI
  rw [List.length_append, numS_length, ← List.length_append, List.take_append_drop]
theorem drop_getD {L : List SlotV} {i : Nat} (h : i < L.length) : L.drop i = L.getD i none_Slot :: L.drop (i + 1) := by
  rw [List.drop_eq_getElem_cons h, List.getD_eq_getElem?_getD, List.getElem?_eq_getElem h]
  rfl
theorem numI_at {L : List SlotV} {i : Nat} (h : i < L.length) : (numI L i).getD i none_Slot = L.getD i none_Slot := by
  unfold numI
  rw [drop_getD h]
  have h9 := getD_mid (numS (-1) 0 (L.take i)) (L.getD i none_Slot) (L.drop (i + 1))
  rw [numS_length, List.length_take, Nat.min_eq_left (by omega)] at h9
  exact h9
theorem numE_last (l : List SlotV) (x : SlotV) (p n : Int) : (numE p n (l ++ [x])).1 = x.2.2.1 := by
  rw [numE_append]
  rfl
/-- The number after i slots. -/
def numN (L : List SlotV) (i : Nat) : Int := (numE (-1) 0 (L.take i)).2
def lastC (L : List SlotV) (i : Nat) : Int := (numE (-1) 0 (L.take i)).1
theorem lastC_prev {L : List SlotV} {i : Nat} (h : i < L.length) : lastC L (i + 1) = (L.getD i none_Slot).2.2.1 := by
  unfold lastC
  rw [take_getD h, numE_last]
theorem numN_next {L : List SlotV} {i : Nat} (h : i < L.length) : numN L (i + 1) = if (L.getD i none_Slot).2.2.1 = lastC L i then numN L i else numN L i + 1 := by
  unfold numN lastC
  rw [take_getD h, numE_append]
  rfl
theorem numI_next {L : List SlotV} {i : Nat} (h : i < L.length) : numI L (i + 1) = (numI L i).set i (numN L (i + 1), (L.getD i none_Slot).2.1, (L.getD i none_Slot).2.2.1, (L.getD i none_Slot).2.2.2) := by
  have h2 := numN_next h
  unfold numI
  rw [List.set_append_right _ _ (by rw [numS_length, List.length_take]; omega), numS_length, List.length_take, Nat.min_eq_left (by omega), Nat.sub_self, drop_getD h, take_getD h, numS_append, h2]
  unfold numN lastC
  show (_ ++ [_]) ++ _ = _ ++ (_ :: _)
  rw [List.append_assoc]
  rfl
theorem numN_bound (L : List SlotV) : ∀ i, i ≤ L.length → 0 ≤ numN L i ∧ numN L i ≤ (i : Int)
  | 0, _ => ⟨by show (0 : Int) ≤ 0; decide, by show (0 : Int) ≤ 0; decide⟩
  | i + 1, h => by
    obtain ⟨h1, h2⟩ := numN_bound L i (by omega)
    rw [numN_next (by omega)]
    split
    · omega
    · omega
/-- The cell before the one that is numbered keeps its first cell. -/
theorem numI_prev {L : List SlotV} {i : Nat} (h : i + 1 < L.length) : ((numI L (i + 1)).getD i none_Slot).2.2.1 = (L.getD i none_Slot).2.2.1 := by
  rw [numI_next (by omega), List.getD_eq_getElem?_getD, List.getElem?_set_self (by rw [numI_length]; omega)]
  rfl
theorem set_same {α : Type} {l : List α} {i : Nat} {v : α} (h : l[i]? = some v) : l.set i v = l := by
  refine List.ext_getElem? fun j => ?_
  rw [List.getElem?_set]
  by_cases e : i = j
  · subst e
    have hl := (List.getElem?_eq_some_iff.1 h).1
    rw [if_pos rfl, if_pos hl, h]
  · rw [if_neg e]
theorem num_row {W : World} {base g m cap : Nat} {l : List SlotV} (h : SRow W base g m cap l) {k : Nat} (hk : k < m) {x : SlotV} (hx : x = l.getD k none_Slot) (n : Int) :
    SRow (W.setCell ⟨g, k * 4, none⟩ (.int .i64 n)) base g m cap (l.set k (n, x.2.1, x.2.2.1, x.2.2.2)) := by
  obtain ⟨h1, h2⟩ := h
  refine ⟨?_, by rw [List.length_set]; exact h2⟩
  have h3 := (h1.stored (k * 4) (.int .i64 n)).1
  have h4 := row_Slot_set l k (by omega) (n, x.2.1, x.2.2.1, x.2.2.2)
  have hat : ∀ r, r < 4 → (row_Slot l)[k * 4 + r]? = (cells_Slot x)[r]? := fun r hr => by rw [hx]; exact at_of (by omega) r hr
  rw [set_same (l := (row_Slot l).set (k * 4) _) (i := k * 4 + 1) (by rw [List.getElem?_set_ne (by omega), hat 1 (by decide)]; rfl),
    set_same (l := (row_Slot l).set (k * 4) _) (i := k * 4 + 2) (by rw [List.getElem?_set_ne (by omega), hat 2 (by decide)]; rfl),
    set_same (l := (row_Slot l).set (k * 4) _) (i := k * 4 + 3) (by rw [List.getElem?_set_ne (by omega), hat 3 (by decide)]; rfl)] at h4
  rw [← h4]
  exact h3
set_option maxRecDepth 100000 in
set_option maxHeartbeats 3200000 in
theorem inum_any (base g m cap : Nat) (L : List SlotV) (hm : m ≤ 1000) (hc : ∀ x ∈ L, 0 ≤ x.2.2.1) (w : World) (hR : SRow w base g m cap L) :
    Calls Tryd.prog 39 #[.slice (some ⟨g, 0, none⟩) m cap] w fun e w' => (∃ r, e = .returned r) ∧ SRow w' base g m cap (numS (-1) 0 L) ∧ w.grownBy w' (some g) := by
  have HR : Hid (SRow w base g m cap (numI L 0)) := Lib.hid (by unfold numI; simpa [numS] using hR)
  have hml : L.length = m := hR.2.symm
  have HC := Lib.hid hc
  have HML := Lib.hid hml
  clear hR hc hml
  go_enter Tryd.func39, Tryd.ntmps39
  go_wp2
  go_loopw [2, 6] (fun n v wr => ∃ i : Nat, i ≤ m ∧ v = .int .i64 (i : Int) ∧ n = .int .i64 (numN L i) ∧ Hid (SRow wr base g m cap (numI L i)) ∧ Hid (w.grownBy wr (some g))) (fun _ v _ => m - (intOf v).toNat)
  case atStart => exact ⟨0, Nat.zero_le _, rfl, rfl, HR, Lib.hid (grown_refl w _)⟩
  case round =>
    obtain ⟨i, hi, rfl, rfl, HS, HG⟩ := hrel
    have hb9 := numN_bound L i (by rw [HML.out]; exact hi)
    by_cases hlt : i < m
    · have hd : decide ((i : Int) < (m : Int)) = true := decide_eq_true (by omega)
      have hd9 : decide (i < m) = true := decide_eq_true hlt
      have HIL : Hid (i < L.length) := Lib.hid (by rw [HML.out]; exact hlt)
      have HNX := Lib.hid (numN_next HIL.out)
      have HSX := Lib.hid (numI_next HIL.out)
      obtain ⟨x, hx⟩ : ∃ x, x = L.getD i none_Slot := ⟨_, rfl⟩
      have HAT : Hid (x = (numI L i).getD i none_Slot) := Lib.hid (by rw [numI_at HIL.out]; exact hx)
      rw [← hx] at HNX HSX
      have HXI : Hid (0 ≤ x.2.2.1) := Lib.hid (HC.out x (by rw [hx]; exact getD_in HIL.out))
      have HX := Lib.hid hx
      obtain ⟨q, hq⟩ : ∃ q, q = lastC L i := ⟨_, rfl⟩
      obtain ⟨nm, hnm⟩ : ∃ nm, nm = numN L i := ⟨_, rfl⟩
      rw [← hq, ← hnm] at HNX
      rw [← hnm] at hb9 ⊢
      obtain ⟨c0, c1, c2, c3, f0, -, -, -⟩ := row_at HS.out (p := i) hlt x HAT.out
      have HLQ : Hid (i = 0 → q = -1) := Lib.hid (fun e => by rw [hq]; unfold lastC; rw [e]; rfl)
      have HPV : Hid (∀ k, k + 1 = i → wr.cell? ⟨g, k * 4 + 2, none⟩ = some (.int .i64 q)) := Lib.hid (fun k e => by
        have h9 := (row_at HS.out (p := k) (by omega) _ rfl).2.2.1
        have hk2 : k + 1 < L.length := by have := HIL.out; omega
        rw [h9, ← e, numI_prev hk2, ← lastC_prev (by omega), e, hq])
      obtain ⟨x0, x1, x2, x3⟩ := x
      simp only at c0 c1 c2 c3 HXI
      clear hx hq hnm
      by_cases h0 : i = 0
      · have hd0 : ((i : Int) == 0) = true := by simp; exact h0
        have HN1 : Hid (numN L (i + 1) = nm + 1) := Lib.hid (by
          rw [HNX.out, if_neg]
          have := HXI.out
          rw [HLQ.out h0]
          show ¬ x2 = -1
          omega)
        have HS0 := Lib.hid h0
        clear h0
        go_wp2
        go_quiet (fail)
        obtain ⟨W, hW⟩ : ∃ W, W = wr.drewN nq := ⟨_, rfl⟩
        have HS2 : Hid (SRow W base g m cap (numI L i)) := Lib.hid (by rw [hW]; exact ⟨HS.out.1, HS.out.2⟩)
        have HG2 : Hid (w.grownBy W (some g)) := Lib.hid (by rw [hW]; exact grown_trans HG.out (grown_drewN wr nq (some g)))
        rw [← hW]
        clear hW HS HG c0 c1 c2 c3 f0
        obtain ⟨c0, -, -, -, f0, -, -, -⟩ := row_at HS2.out (p := i) hlt _ HAT.out
        simp only at c0
        have HS3 : Hid (SRow (W.setCell ⟨g, i * 4, none⟩ (.int .i64 (nm + 1))) base g m cap (numI L (i + 1))) := Lib.hid (by
          have h9 := num_row HS2.out hlt HAT.out (nm + 1)
          rw [HSX.out, HN1.out]
          exact h9)
        all_goals go_wp2
        go_roundw
        case rel => exact ⟨i + 1, by omega, by go_num, by rw [HN1.out], HS3, Lib.hid (grown_cell0 HG2.out _ _)⟩
        case measure => simp [intOf]; omega
        
      · have hd0 : ((i : Int) == 0) = false := by simp; exact h0
        obtain ⟨k, hk⟩ : ∃ k, k + 1 = i := ⟨i - 1, by omega⟩
        have hke : (i : Int) - 1 = (k : Int) := by omega
        have hwk : IntKind.i64.wrap (k : Int) = (k : Int) := by rw [IntKind.wrap_i64]; omega
        have p2 := HPV.out k hk
        have hkm : k < m := by omega
        clear hk h0
        by_cases he : x2 = q
        · have hne : (x2 != q) = false := by simp [he]
          have HN1 : Hid (numN L (i + 1) = nm) := Lib.hid (by rw [HNX.out, if_pos he])
          clear he
          go_wp2
          go_quiet (fail)
          obtain ⟨W, hW⟩ : ∃ W, W = wr.drewN nq := ⟨_, rfl⟩
          have HS2 : Hid (SRow W base g m cap (numI L i)) := Lib.hid (by rw [hW]; exact ⟨HS.out.1, HS.out.2⟩)
          have HG2 : Hid (w.grownBy W (some g)) := Lib.hid (by rw [hW]; exact grown_trans HG.out (grown_drewN wr nq (some g)))
          rw [← hW]
          clear hW HS HG c0 c1 c2 c3 f0
          obtain ⟨c0, -, -, -, f0, -, -, -⟩ := row_at HS2.out (p := i) hlt _ HAT.out
          simp only at c0
          have HS3 : Hid (SRow (W.setCell ⟨g, i * 4, none⟩ (.int .i64 (nm))) base g m cap (numI L (i + 1))) := Lib.hid (by
            have h9 := num_row HS2.out hlt HAT.out (nm)
            rw [HSX.out, HN1.out]
            exact h9)
          all_goals go_wp2
          go_roundw
          case rel => exact ⟨i + 1, by omega, by go_num, by rw [HN1.out], HS3, Lib.hid (grown_cell0 HG2.out _ _)⟩
          case measure => simp [intOf]; omega
          
        · have hne : (x2 != q) = true := by simpa using he
          have HN1 : Hid (numN L (i + 1) = nm + 1) := Lib.hid (by rw [HNX.out, if_neg he])
          clear he
          go_wp2
          go_quiet (fail)
          obtain ⟨W, hW⟩ : ∃ W, W = wr.drewN nq := ⟨_, rfl⟩
          have HS2 : Hid (SRow W base g m cap (numI L i)) := Lib.hid (by rw [hW]; exact ⟨HS.out.1, HS.out.2⟩)
          have HG2 : Hid (w.grownBy W (some g)) := Lib.hid (by rw [hW]; exact grown_trans HG.out (grown_drewN wr nq (some g)))
          rw [← hW]
          clear hW HS HG c0 c1 c2 c3 f0
          obtain ⟨c0, -, -, -, f0, -, -, -⟩ := row_at HS2.out (p := i) hlt _ HAT.out
          simp only at c0
          have HS3 : Hid (SRow (W.setCell ⟨g, i * 4, none⟩ (.int .i64 (nm + 1))) base g m cap (numI L (i + 1))) := Lib.hid (by
            have h9 := num_row HS2.out hlt HAT.out (nm + 1)
            rw [HSX.out, HN1.out]
            exact h9)
          all_goals go_wp2
          go_roundw
          case rel => exact ⟨i + 1, by omega, by go_num, by rw [HN1.out], HS3, Lib.hid (grown_cell0 HG2.out _ _)⟩
          case measure => simp [intOf]; omega
          
    · have hd : decide ((i : Int) < (m : Int)) = false := decide_eq_false (by omega)
      have hd9 : decide (i < m) = false := decide_eq_false hlt
      have HF : Hid (SRow wr base g m cap (numS (-1) 0 L)) := Lib.hid (by
        have h9 := HS.out
        unfold numI at h9
        have hi9 : L.length ≤ i := by have := HML.out; omega
        rw [List.take_of_length_le hi9, List.drop_eq_nil_of_le hi9, List.append_nil] at h9
        exact h9)
      go_wp2
      go_end0
      exact ⟨⟨_, rfl⟩, HF.out, HG.out⟩
end Go.Proofs.YtmhgejljjjmejaaDoor
namespace Go.Proofs.YtmhgejljjjmejaaDoor
open Go.RowKit

/-- What the finder finds in the first n rows, in the first n columns. -/
def segR (wb : Int → Bool) (c n : Nat) : List SlotV := (List.range n).flatMap fun i => (List.range c).flatMap fun j => oneS false (i * c + j) (runAt ((List.range c).map fun j => wb ((i * c + j : Nat) : Int)) j)
def segC (wb : Int → Bool) (r c n : Nat) : List SlotV := (List.range n).flatMap fun j => (List.range r).flatMap fun i => oneS true (i * c + j) (runAt ((List.range r).map fun i => wb ((i * c + j : Nat) : Int)) i)
theorem segR_next (wb : Int → Bool) (c n : Nat) : segR wb c (n + 1) = segR wb c n ++ (List.range c).flatMap fun j => oneS false (n * c + j) (runAt ((List.range c).map fun j => wb ((n * c + j : Nat) : Int)) j) := by
  unfold segR
  rw [List.range_succ, List.flatMap_append]
  simp
theorem segC_next (wb : Int → Bool) (r c n : Nat) : segC wb r c (n + 1) = segC wb r c n ++ (List.range r).flatMap fun i => oneS true (i * c + n) (runAt ((List.range r).map fun i => wb ((i * c + n : Nat) : Int)) i) := by
  unfold segC
  rw [List.range_succ, List.flatMap_append]
  simp
theorem one_line_length (dn : Bool) (g : Nat → Nat) (bs : List Bool) (h : bs.length ≤ 6) : ((List.range bs.length).flatMap fun j => oneS dn (g j) (runAt bs j)).length ≤ 2 := by
  have h2 := (runs_facts bs h).2.1
  unfold runsP at h2
  rw [List.length_flatMap] at h2 ⊢
  refine Nat.le_trans (Nat.le_of_eq ?_) h2
  congr 1
  refine List.map_congr_left fun j _ => ?_
  unfold oneS
  split <;> rfl
theorem segR_length (wb : Int → Bool) (c : Nat) (hc : c ≤ 6) : ∀ n, (segR wb c n).length ≤ 2 * n
  | 0 => by simp [segR]
  | n + 1 => by
    have h := segR_length wb c hc n
    have h2 := one_line_length false (fun j => n * c + j) ((List.range c).map fun j => wb ((n * c + j : Nat) : Int)) (by simp; exact hc)
    rw [List.length_map, List.length_range] at h2
    rw [segR_next, List.length_append]
    omega
theorem segC_length (wb : Int → Bool) (r c : Nat) (hr : r ≤ 6) : ∀ n, (segC wb r c n).length ≤ 2 * n
  | 0 => by simp [segC]
  | n + 1 => by
    have h := segC_length wb r c hr n
    have h2 := one_line_length true (fun i => i * c + n) ((List.range r).map fun i => wb ((i * c + n : Nat) : Int)) (by simp; exact hr)
    rw [List.length_map, List.length_range] at h2
    rw [segC_next, List.length_append]
    omega
theorem row_found (wb : Int → Bool) (c n : Nat) (hc : c ≤ 6) (m : FM) (hm : m.1 = 0) (F : List SlotV) (hF : m.2.2.2 = F ++ segR wb c n) :
    (fend false (frun false wb (stepL ((n : Int) * (c : Int)) 1 c) m)).1 = 0 ∧ (fend false (frun false wb (stepL ((n : Int) * (c : Int)) 1 c) m)).2.2.2 = F ++ segR wb c (n + 1) := by
  have h := line_found false wb (n * c) 1 c hc m hm
  rw [hF] at h
  simp only [Nat.mul_one, Int.natCast_mul, Int.natCast_one] at h
  refine ⟨rfl, ?_⟩
  have h2 := h.2
  rw [h2, segR_next, List.append_assoc]
theorem col_found (wb : Int → Bool) (r c n : Nat) (hr : r ≤ 6) (m : FM) (hm : m.1 = 0) (F : List SlotV) (hF : m.2.2.2 = F ++ segC wb r c n) :
    (fend true (frun true wb (stepL (n : Int) (c : Int) r) m)).1 = 0 ∧ (fend true (frun true wb (stepL (n : Int) (c : Int) r) m)).2.2.2 = F ++ segC wb r c (n + 1) := by
  have h := line_found true wb n c r hr m hm
  refine ⟨rfl, ?_⟩
  rw [h.2, hF, segC_next, List.append_assoc]
  simp only [Nat.add_comm n]
theorem mth_R8 (w : World) (a : Array Value) : (method 244 99 (.agg a) "loop.example/g03003/impl.whole").run Tryd.prog w = .ok (105, .agg a) w := by kernel_rfl
theorem mth_C8 (w : World) (a : Array Value) : (method 244 98 (.agg a) "loop.example/g03003/impl.whole").run Tryd.prog w = .ok (103, .agg a) w := by kernel_rfl
theorem idx_F (W : World) : (Instr.index 69 (.agg #[.bool false, .bool true]) (.int .i64 0)).run Tryd.prog W = .ok (.bool false) W := by kernel_rfl
theorem idx_T (W : World) : (Instr.index 69 (.agg #[.bool false, .bool true]) (.int .i64 1)).run Tryd.prog W = .ok (.bool true) W := by kernel_rfl
theorem line_cells {W : World} {base m cap : Nat} {e : TypeId} {a0 : Option Addr} {l : List (Int × Int × Int)} (h : W.ownsRow base e 3 (.slice a0 m cap) m (row_line l)) (hn : m = l.length) :
    ∀ j, (hj : j < l.length) → ∃ b, a0 = some ⟨b, 0, none⟩ ∧ W.cell? ⟨b, j * 3, none⟩ = some (.int .i64 l[j].1) ∧ W.cell? ⟨b, j * 3 + 1, none⟩ = some (.int .i64 l[j].2.1) ∧ W.cell? ⟨b, j * 3 + 2, none⟩ = some (.int .i64 l[j].2.2) := by
  subst hn
  intro j hj
  rcases h.2 with ⟨e1, e2⟩ | ⟨g, cap', cur, e1, -⟩
  · omega
  · cases e1
    have hat : ∀ r, r < 3 → W.cell? ⟨g, j * 3 + r, none⟩ = (cells_line l[j])[r]? := fun r hr => by
      rw [h.cellAt (j * 3 + r) (by omega), row_line_at l j hj r hr]
    exact ⟨g, rfl, hat 0 (by decide), hat 1 (by decide), hat 2 (by decide)⟩
theorem rowsL_get (c n k : Nat) (h : k < (rowsL c n).length) : (rowsL c n)[k] = ((k : Int) * (c : Int), (1 : Int), (c : Int)) := by
  have h2 : k < n := by rw [rowsL_length] at h; exact h
  have h3 : (rowsL c n)[k]? = some ((k : Int) * (c : Int), (1 : Int), (c : Int)) := by
    unfold rowsL
    rw [List.getElem?_map, List.getElem?_range h2]
    rfl
  rw [List.getElem?_eq_getElem h] at h3
  exact Option.some.inj h3
theorem colsL_get (r c n k : Nat) (h : k < (colsL r c n).length) : (colsL r c n)[k] = ((k : Int), (c : Int), (r : Int)) := by
  have h2 : k < n := by rw [colsL_length] at h; exact h
  have h3 : (colsL r c n)[k]? = some ((k : Int), (c : Int), (r : Int)) := by
    unfold colsL
    rw [List.getElem?_map, List.getElem?_range h2]
    rfl
  rw [List.getElem?_eq_getElem h] at h3
  exact Option.some.inj h3
/-- What has been found before direction number d. -/
def found8 (wb : Int → Bool) (r c : Nat) : Nat → List SlotV
  | 0 => []
  | 1 => [] ++ segR wb c r
  | _ => segR wb c r ++ segC wb r c c
theorem seg_cells (wb : Int → Bool) (r c : Nat) : ∀ x ∈ segR wb c r ++ segC wb r c c, 0 ≤ x.2.2.1 := by
  intro x hx
  rcases List.mem_append.1 hx with hx | hx
  · obtain ⟨i, -, hx⟩ := List.mem_flatMap.1 hx
    obtain ⟨j, -, hx⟩ := List.mem_flatMap.1 hx
    obtain ⟨rfl, -⟩ := oneS_mem hx
    exact Int.natCast_nonneg _
  · obtain ⟨i, -, hx⟩ := List.mem_flatMap.1 hx
    obtain ⟨j, -, hx⟩ := List.mem_flatMap.1 hx
    obtain ⟨rfl, -⟩ := oneS_mem hx
    exact Int.natCast_nonneg _
set_option maxRecDepth 100000 in
set_option maxHeartbeats 6400000 in
theorem islots_any (r c : Nat) (N S : Nat) (hN : (r : Int) * (c : Int) = (N : Int)) (h36 : N ≤ 36) (hS : S < 18446744073709551616) (hr : r ≤ 6) (hc : c ≤ 6) (hrc : (1 ≤ r ∧ 1 ≤ c) ∨ (r = 0 ∧ c = 0)) (w : World) :
    Calls Tryd.prog 18 #[.agg #[.int .i64 (r : Int), .int .i64 (c : Int), .int .u64 (S : Int)]] w fun e w' => ∃ v, e = .returned v ∧ (∃ M, Bub ltS (segR (whB N S) c r ++ segC (whB N S) r c c) M ∧ M.Pairwise leS ∧ w'.ownsRow w.heap.size 33 4 v (numS (-1) 0 M).length (row_Slot (numS (-1) 0 M))) ∧ Below w.heap.size w w' := by
  have hmR := mth_R8
  have hmC := mth_C8
  have hiF := idx_F
  have hiT := idx_T
  obtain ⟨B, hB⟩ : ∃ B, B = w.heap.size + 2 := ⟨_, rfl⟩
  have HBK : Hid (∀ W : World, W.heap[w.heap.size]? = some (.cells #[.int .i64 (r : Int), .int .i64 (c : Int), .int .u64 (S : Int)] 43) → W.cell? ⟨w.heap.size, 0, none⟩ = some (.int .i64 (r : Int)) ∧ W.cell? ⟨w.heap.size, 1, none⟩ = some (.int .i64 (c : Int)) ∧ W.cell? ⟨w.heap.size, 2, none⟩ = some (.int .u64 (S : Int))) := Lib.hid (fun W h => ⟨Joins.cell_of_block h 0, Joins.cell_of_block h 1, Joins.cell_of_block h 2⟩)
  go_enter Tryd.func18, Tryd.ntmps18
  go_wp2_with fail
  obtain ⟨W1, hW1⟩ : ∃ W1, W1 = w.alloc (Obj.cells #[.int .i64 (r : Int), .int .i64 (c : Int), .int .u64 (S : Int)] 43) := ⟨_, rfl⟩
  have hs1 : W1.heap.size = w.heap.size + 1 := by rw [hW1]; simp
  obtain ⟨W2, hW2⟩ : ∃ W2, W2 = W1.alloc (Obj.cells #[] 33) := ⟨_, rfl⟩
  have hs2 : W2.heap.size = w.heap.size + 2 := by rw [hW2]; simp [hs1]
  obtain ⟨W3, hW3⟩ : ∃ W3, W3 = W2.alloc (Obj.cells #[.int .i64 0, .int .i64 0, .bool false, .int .i64 0, .int .i64 0, .slice (some ⟨w.heap.size + 1, 0, none⟩) 0 0] 68) := ⟨_, rfl⟩
  rw [← hW1, ← hW2, ← hW3]
  have HS : Hid (StM W3 B w.heap.size false ((0, 0, 0, []) : FM)) := Lib.hid (by
    refine ⟨.slice (some ⟨w.heap.size + 1, 0, none⟩) 0 0, ?_, ?_, fun e => by cases e⟩
    · unfold FindB
      rw [hW3, hB, ← hs2]
      exact new_block W2 _
    · rw [hW3]
      refine World.ownsRow.alloc ?_ _
      rw [hW2, ← hs1]
      exact own_widen (own_zero W1 33 4) (by omega))
  have HX : Hid (W3.heap[w.heap.size]? = some (.cells #[.int .i64 (r : Int), .int .i64 (c : Int), .int .u64 (S : Int)] 43)) := Lib.hid (by
    rw [hW3, Below.heap_alloc W2 _ w.heap.size (by omega), hW2, Below.heap_alloc W1 _ w.heap.size (by omega), hW1]
    exact new_block w _)
  have HB : Hid (Below w.heap.size w W3) := Lib.hid (by rw [hW3, hW2, hW1]; exact (((Below.refl _ _).alloc (Nat.le_refl _) _).alloc (by simp) _).alloc (by simp; omega) _)
  have hBw : w.heap.size ≤ B := by omega
  have hBe : w.heap.size + 1 + 1 = B := by omega
  rw [hBe]
  clear hW1 hW2 hW3 hs1 hs2 hBe
  have hBn : ¬ w.heap.size = B := by omega
  clear hB
  have HM0 : Hid (((0, 0, 0, []) : FM).1 = 0) := Lib.hid rfl
  have HF0 : Hid (((0, 0, 0, []) : FM).2.2.2 = found8 (whB N S) r c 0) := Lib.hid rfl
  go_loopw [11] (fun i wr => ∃ (d : Nat) (dn : Bool) (m : FM), d ≤ 2 ∧ i = .int .i64 (d : Int) ∧ Hid (m.1 = 0) ∧ Hid (m.2.2.2 = found8 (whB N S) r c d) ∧ Hid (StM wr B w.heap.size dn m) ∧ Hid (wr.heap[w.heap.size]? = some (.cells #[.int .i64 (r : Int), .int .i64 (c : Int), .int .u64 (S : Int)] 43)) ∧ Hid (Below w.heap.size w wr)) (fun i _ => 2 - (intOf i).toNat)
  case atStart => exact ⟨0, false, _, by omega, rfl, HM0, HF0, HS, HX, HB⟩
  case round =>
    clear HS HX HB HM0 HF0 W1 W2 W3
    obtain ⟨d, dn, m, hd2, rfl, HM, HMF, HS, HX, HB⟩ := hrel
    rcases d with _ | _ | _ | d
    · obtain ⟨u, hf, ho, hu⟩ := HS.out
      obtain ⟨-, -, c2, -, -, -, -, -, -, -, g2⟩ := findB_cells hf
      obtain ⟨b0, b1, b2⟩ := HBK.out _ HX.out
      have HS2 : Hid (StM (wr.setCell ⟨B, 2, none⟩ (.bool false)) B w.heap.size false m) := Lib.hid ⟨u, findB_set2 hf, ho.kept (grown_cell0 (grown_refl wr _) 2 (.bool false)) (own_not_find ho hf), hu⟩
      have HX2 : Hid ((wr.setCell ⟨B, 2, none⟩ (.bool false)).heap[w.heap.size]? = some (.cells #[.int .i64 (r : Int), .int .i64 (c : Int), .int .u64 (S : Int)] 43)) := Lib.hid ((Below.heap_setCell _ ⟨B, 2, none⟩ _ _ (by simp; omega)).trans HX.out)
      have HB2 : Hid (Below w.heap.size w (wr.setCell ⟨B, 2, none⟩ (.bool false))) := Lib.hid (HB.out.setCell (p := ⟨B, 2, none⟩) (by simp; omega) _)
      clear hf ho hu HS HX HB
      go_wp2_with (first | (go_at_call 34; refine (lines_any r c S false _).mono ?_; rintro e w2 ⟨rfl, bb2⟩; simp only [setV, Bool.false_eq_true, if_false]; have HS3 := Lib.hid (HS2.out.later bb2); have HX3 := Lib.hid ((bb2.block w.heap.size (Array.getElem?_eq_some_iff.1 HX2.out).1).trans HX2.out); have HB3 := Lib.hid (HB2.out.trans (bb2.mono HB2.out.size)); clear bb2) | (go_at_call 105; refine (rwhole_any r c S hr hc _).mono ?_; rintro e w3 ⟨v3, rfl, o3, bb3⟩; obtain ⟨a0, cap, rfl⟩ := ownV_slice o3; rw [rowsL_length] at o3; have HO4 := Lib.hid (own_widen o3 HB3.out.size); have HS4 := Lib.hid (HS3.out.later bb3); have HX4 := Lib.hid ((bb3.block w.heap.size (Array.getElem?_eq_some_iff.1 HX3.out).1).trans HX3.out); have HB4 := Lib.hid (HB3.out.trans (bb3.mono HB3.out.size)); clear o3 bb3))
      rw [rowsL_length]
      clear b0 b1 b2 c2 g2 HS2 HS3 HX2 HX3 HB2 HB3
      have HM0 : Hid (m.2.2.2 = ([] : List SlotV) ++ segR (whB N S) c 0) := Lib.hid (by rw [HMF.out]; simp [found8, segR])
      have HM1 := HM
      clear HMF HM
      go_loopw [22] (fun i wr => ∃ (k : Nat) (m : FM), k ≤ r ∧ i = .int .i64 (k : Int) ∧ Hid (m.1 = 0) ∧ Hid (m.2.2.2 = ([] : List SlotV) ++ segR (whB N S) c k) ∧ Hid (StM wr B w.heap.size false m) ∧ Hid (wr.heap[w.heap.size]? = some (.cells #[.int .i64 (r : Int), .int .i64 (c : Int), .int .u64 (S : Int)] 43)) ∧ Hid (wr.ownsRow w.heap.size 76 3 (.slice a0 r cap) r (row_line (rowsL c r))) ∧ Hid (Below w.heap.size w wr)) (fun i _ => r - (intOf i).toNat)
      case atStart => exact ⟨0, m, Nat.zero_le _, rfl, HM1, HM0, HS4, HX4, HO4, HB4⟩
      case round =>
        clear HM0 HM1 HS4 HX4 HO4 HB4 m
        obtain ⟨k, m, hk, rfl, HM, HMF, HS, HX, HO, HB⟩ := hrel
        by_cases hlt : k < r
        · have hd : decide ((k : Int) < (r : Int)) = true := decide_eq_true (by omega)
          have hd9 : decide (k < r) = true := decide_eq_true hlt
          have hkc : 0 ≤ (k : Int) * (c : Int) ∧ (k : Int) * (c : Int) ≤ 36 := ⟨Int.mul_nonneg (by omega) (by omega), Int.le_trans (Int.mul_le_mul (show (k : Int) ≤ 6 by omega) (show (c : Int) ≤ 6 by omega) (by omega) (by omega)) (by decide)⟩
          obtain ⟨b, rfl, q0, q1, q2⟩ := line_cells HO.out (by rw [rowsL_length]) k (by rw [rowsL_length]; exact hlt)
          rw [rowsL_get] at q0 q1 q2
          simp only at q0 q1 q2
          obtain ⟨o, ho⟩ : ∃ o, o = Obj.cells #[.int .i64 ((k : Int) * (c : Int)), .int .i64 (1 : Int), .int .i64 (c : Int)] 76 := ⟨_, rfl⟩
          have bo := (Below.refl wr.heap.size wr).alloc (Nat.le_refl _) o
          have HS4 := Lib.hid (HS.out.later bo)
          have HX4 := Lib.hid ((bo.block w.heap.size (Array.getElem?_eq_some_iff.1 HX.out).1).trans HX.out)
          have HO4 := Lib.hid (HO.out.alloc o)
          have HB4 := Lib.hid (HB.out.alloc HB.out.size o)
          have HZ4 := Lib.hid HB4.out.size
          obtain ⟨b0, b1, b2⟩ := HBK.out _ HX4.out
          rw [ho] at HS4 HX4 HO4 HB4 HZ4 b0 b1 b2
          clear bo ho
          go_wp2_with (go_at_call 35; refine (iread_any B w.heap.size false m HM.out (by have := HMF.out; have := segR_length (whB N S) c hc k; rw [HMF.out]; simp only [List.length_append, List.length_nil]; omega) r c N S hN h36 hS ((k : Int) * (c : Int)) 1 c (by omega) (by omega) (by omega) (by omega) (by omega) (by omega) _ (by omega) HS4.out HZ4.out).mono ?_; rintro e w5 ⟨⟨r9, rfl⟩, hs5, hb5, hk5⟩; have HS5 := Lib.hid hs5; have HX5 := Lib.hid (block_keepT HX4.out (by decide) (by decide) HS4.out hk5); have HO5 := Lib.hid (own_keepT HO4.out (by decide) (by decide) HS4.out hk5); have HB5 := Lib.hid (HB4.out.trans hb5); clear hs5 hb5 hk5)
          have HF5 := Lib.hid (row_found (whB N S) c k hc m HM.out _ HMF.out)
          go_roundw
          case rel => exact ⟨k + 1, _, by omega, by go_num, Lib.hid HF5.out.1, Lib.hid HF5.out.2, HS5, HX5, HO5, HB5⟩
          case measure => simp [intOf]; omega
        · have hd : decide ((k : Int) < (r : Int)) = false := decide_eq_false (by omega)
          have hd9 : decide (k < r) = false := decide_eq_false hlt
          have HMF2 : Hid (m.2.2.2 = found8 (whB N S) r c 1) := Lib.hid (by rw [HMF.out, show k = r by omega]; rfl)
          go_wp2_with fail
          go_roundw
          case rel => exact ⟨1, false, m, by omega, rfl, HM, HMF2, HS, HX, HB⟩
          case measure => simp [intOf]
    · obtain ⟨u, hf, ho, hu⟩ := HS.out
      obtain ⟨-, -, c2, -, -, -, -, -, -, -, g2⟩ := findB_cells hf
      obtain ⟨b0, b1, b2⟩ := HBK.out _ HX.out
      have HS2 : Hid (StM (wr.setCell ⟨B, 2, none⟩ (.bool true)) B w.heap.size true m) := Lib.hid ⟨u, findB_set2 hf, ho.kept (grown_cell0 (grown_refl wr _) 2 (.bool true)) (own_not_find ho hf), hu⟩
      have HX2 : Hid ((wr.setCell ⟨B, 2, none⟩ (.bool true)).heap[w.heap.size]? = some (.cells #[.int .i64 (r : Int), .int .i64 (c : Int), .int .u64 (S : Int)] 43)) := Lib.hid ((Below.heap_setCell _ ⟨B, 2, none⟩ _ _ (by simp; omega)).trans HX.out)
      have HB2 : Hid (Below w.heap.size w (wr.setCell ⟨B, 2, none⟩ (.bool true))) := Lib.hid (HB.out.setCell (p := ⟨B, 2, none⟩) (by simp; omega) _)
      clear hf ho hu HS HX HB
      go_wp2_with (first | (go_at_call 34; refine (lines_any r c S true _).mono ?_; rintro e w2 ⟨rfl, bb2⟩; simp only [setV, if_true]; have HS3 := Lib.hid (HS2.out.later bb2); have HX3 := Lib.hid ((bb2.block w.heap.size (Array.getElem?_eq_some_iff.1 HX2.out).1).trans HX2.out); have HB3 := Lib.hid (HB2.out.trans (bb2.mono HB2.out.size)); clear bb2) | (go_at_call 103; refine (cwhole_any r c S hr hc _).mono ?_; rintro e w3 ⟨v3, rfl, o3, bb3⟩; obtain ⟨a0, cap, rfl⟩ := ownV_slice o3; rw [colsL_length] at o3; have HO4 := Lib.hid (own_widen o3 HB3.out.size); have HS4 := Lib.hid (HS3.out.later bb3); have HX4 := Lib.hid ((bb3.block w.heap.size (Array.getElem?_eq_some_iff.1 HX3.out).1).trans HX3.out); have HB4 := Lib.hid (HB3.out.trans (bb3.mono HB3.out.size)); clear o3 bb3))
      rw [colsL_length]
      clear b0 b1 b2 c2 g2 HS2 HS3 HX2 HX3 HB2 HB3
      have HM0 : Hid (m.2.2.2 = (segR (whB N S) c r) ++ segC (whB N S) r c 0) := Lib.hid (by rw [HMF.out]; simp [found8, segR, segC])
      have HM1 := HM
      clear HMF HM
      go_loopw [22] (fun i wr => ∃ (k : Nat) (m : FM), k ≤ c ∧ i = .int .i64 (k : Int) ∧ Hid (m.1 = 0) ∧ Hid (m.2.2.2 = (segR (whB N S) c r) ++ segC (whB N S) r c k) ∧ Hid (StM wr B w.heap.size true m) ∧ Hid (wr.heap[w.heap.size]? = some (.cells #[.int .i64 (r : Int), .int .i64 (c : Int), .int .u64 (S : Int)] 43)) ∧ Hid (wr.ownsRow w.heap.size 76 3 (.slice a0 c cap) c (row_line (colsL r c c))) ∧ Hid (Below w.heap.size w wr)) (fun i _ => c - (intOf i).toNat)
      case atStart => exact ⟨0, m, Nat.zero_le _, rfl, HM1, HM0, HS4, HX4, HO4, HB4⟩
      case round =>
        clear HM0 HM1 HS4 HX4 HO4 HB4 m
        obtain ⟨k, m, hk, rfl, HM, HMF, HS, HX, HO, HB⟩ := hrel
        by_cases hlt : k < c
        · have hd : decide ((k : Int) < (c : Int)) = true := decide_eq_true (by omega)
          have hd9 : decide (k < c) = true := decide_eq_true hlt
          have hkc : 0 ≤ (k : Int) * (c : Int) ∧ (k : Int) * (c : Int) ≤ 36 := ⟨Int.mul_nonneg (by omega) (by omega), Int.le_trans (Int.mul_le_mul (show (k : Int) ≤ 6 by omega) (show (c : Int) ≤ 6 by omega) (by omega) (by omega)) (by decide)⟩
          obtain ⟨b, rfl, q0, q1, q2⟩ := line_cells HO.out (by rw [colsL_length]) k (by rw [colsL_length]; exact hlt)
          rw [colsL_get] at q0 q1 q2
          simp only at q0 q1 q2
          obtain ⟨o, ho⟩ : ∃ o, o = Obj.cells #[.int .i64 (k : Int), .int .i64 (c : Int), .int .i64 (r : Int)] 76 := ⟨_, rfl⟩
          have bo := (Below.refl wr.heap.size wr).alloc (Nat.le_refl _) o
          have HS4 := Lib.hid (HS.out.later bo)
          have HX4 := Lib.hid ((bo.block w.heap.size (Array.getElem?_eq_some_iff.1 HX.out).1).trans HX.out)
          have HO4 := Lib.hid (HO.out.alloc o)
          have HB4 := Lib.hid (HB.out.alloc HB.out.size o)
          have HZ4 := Lib.hid HB4.out.size
          obtain ⟨b0, b1, b2⟩ := HBK.out _ HX4.out
          rw [ho] at HS4 HX4 HO4 HB4 HZ4 b0 b1 b2
          clear bo ho
          go_wp2_with (go_at_call 35; refine (iread_any B w.heap.size true m HM.out (by have := HMF.out; have := segC_length (whB N S) r c hr k; have := segR_length (whB N S) c hc r; rw [HMF.out]; simp only [List.length_append]; omega) r c N S hN h36 hS (k : Int) (c : Int) r (by omega) (by omega) (by omega) (by omega) (by omega) (by omega) _ (by omega) HS4.out HZ4.out).mono ?_; rintro e w5 ⟨⟨r9, rfl⟩, hs5, hb5, hk5⟩; have HS5 := Lib.hid hs5; have HX5 := Lib.hid (block_keepT HX4.out (by decide) (by decide) HS4.out hk5); have HO5 := Lib.hid (own_keepT HO4.out (by decide) (by decide) HS4.out hk5); have HB5 := Lib.hid (HB4.out.trans hb5); clear hs5 hb5 hk5)
          have HF5 := Lib.hid (col_found (whB N S) r c k hr m HM.out _ HMF.out)
          go_roundw
          case rel => exact ⟨k + 1, _, by omega, by go_num, Lib.hid HF5.out.1, Lib.hid HF5.out.2, HS5, HX5, HO5, HB5⟩
          case measure => simp [intOf]; omega
        · have hd : decide ((k : Int) < (c : Int)) = false := decide_eq_false (by omega)
          have hd9 : decide (k < c) = false := decide_eq_false hlt
          have HMF2 : Hid (m.2.2.2 = found8 (whB N S) r c 2) := Lib.hid (by rw [HMF.out, show k = c by omega]; rfl)
          go_wp2_with fail
          go_roundw
          case rel => exact ⟨2, true, m, by omega, rfl, HM, HMF2, HS, HX, HB⟩
          case measure => simp [intOf]
    · obtain ⟨u, hf, ho, hu⟩ := HS.out
      have hfe : m.2.2.2 = segR (whB N S) c r ++ segC (whB N S) r c c := HMF.out
      obtain ⟨g, n, cap, rfl, hrow⟩ : ∃ g n cap, u = .slice (some ⟨g, 0, none⟩) n cap ∧ SRow wr w.heap.size g n cap m.2.2.2 := by
        have ho2 := ho
        rcases ho.2 with ⟨e, -⟩ | ⟨g, cap, cur, e, -⟩
        · exact absurd e hu
        · subst e
          exact ⟨g, _, cap, rfl, ho2, rfl⟩
      have hgB : g ≠ B := by
        rcases own_not_find ho hf with e | e
        · cases e
        · intro e9; exact e (by rw [e9]; rfl)
      have hlen : n ≤ 39 := by
        rw [hrow.2, hfe, List.length_append]
        have := segR_length (whB N S) c hc r
        have := segC_length (whB N S) r c hr c
        omega
      have hgw : w.heap.size ≤ g := (ho.lt g rfl).1
      have HR := Lib.hid hrow
      have HF := Lib.hid hf
      have hnl : n ≤ 1000 := by omega
      obtain ⟨-, -, -, -, -, c5, -⟩ := findB_cells hf
      rw [hfe] at HR
      clear hf ho hu hrow hfe HMF HS HM
      have HSO := Lib.hid (sort_any w.heap.size g n cap _ hlen wr HR.out)
      unfold lessF at HSO
      have HCE := Lib.hid (seg_cells (whB N S) r c)
      have FL := Lib.hid trivial
      go_wp2_with (first | (go_at_call 36; refine HSO.out.mono ?_; rintro e w4 ⟨⟨r4, rfl⟩, hM4, hg4⟩; obtain ⟨M, hs4, ho4, hb4⟩ := hM4; have HM4 := Lib.hid (And.intro hb4 ho4); have HS4 := Lib.hid hs4; have HF4 : Hid (FindB w4 B m.1 dn m.2.1 m.2.2.1 (.slice (some ⟨g, 0, none⟩) n cap)) := Lib.hid ((hg4.block B (Array.getElem?_eq_some_iff.1 HF.out).1 (fun e => hgB (by simpa using e.symm))).trans HF.out); have HB4 := Lib.hid (HB.out.trans (below_grownB hg4 hgw HB.out.size)); have k5 := Joins.cell_of_block HF4.out 5; simp only [List.getElem?_toArray, List.getElem?_cons_zero, List.getElem?_cons_succ] at k5; have HNU := Lib.hid (inum_any w.heap.size g n cap M hnl (fun x hx => HCE.out x (hb4.perm.mem_iff.2 hx)) w4 hs4); clear hs4 ho4 hb4 hg4) | (go_at_call 39; refine HNU.out.mono ?_; rintro e w5 ⟨⟨r5, rfl⟩, hs5, hg5⟩; have HS5 := Lib.hid hs5; have HF5 : Hid (FindB w5 B m.1 dn m.2.1 m.2.2.1 (.slice (some ⟨g, 0, none⟩) n cap)) := Lib.hid ((hg5.block B (Array.getElem?_eq_some_iff.1 HF4.out).1 (fun e => hgB (by simpa using e.symm))).trans HF4.out); have HB5 := Lib.hid (HB4.out.trans (below_grownB hg5 hgw HB4.out.size)); have l5 := Joins.cell_of_block HF5.out 5; simp only [List.getElem?_toArray, List.getElem?_cons_zero, List.getElem?_cons_succ] at l5; clear hs5 hg5))
      go_ret
      refine ⟨_, rfl, ⟨M, HM4.out.1, HM4.out.2, ?_⟩, HB5.out⟩
      have h9 := HS5.out.1
      rw [show n = (numS (-1) 0 M).length from HS5.out.2] at h9
      rw [show n = (numS (-1) 0 M).length from HS5.out.2]
      exact h9
    · omega
end Go.Proofs.YtmhgejljjjmejaaDoor
namespace Go.Proofs.YtmhgejljjjmejaaDoor
open Go.RowKit

theorem rowB_bits (c : Nat) (s : ByteArray) (i N S : Nat) (h : ∀ k, k < N → whB N S (k : Int) = whF s k) (hi : ∀ j, j < c → i * c + j < N) : ((List.range c).map fun j => whB N S ((i * c + j : Nat) : Int)) = rowB c s i := by
  unfold rowB
  refine List.map_congr_left fun j hj => ?_
  exact h _ (hi j (List.mem_range.1 hj))
theorem colB_bits (r c : Nat) (s : ByteArray) (j N S : Nat) (h : ∀ k, k < N → whB N S (k : Int) = whF s k) (hi : ∀ i, i < r → i * c + j < N) : ((List.range r).map fun i => whB N S ((i * c + j : Nat) : Int)) = colB r c s j := by
  unfold colB
  refine List.map_congr_left fun i hj => ?_
  exact h _ (hi i (List.mem_range.1 hj))
theorem in_grid {r c i j : Nat} (hi : i < r) (hj : j < c) : i * c + j < r * c := by
  have : (i + 1) * c ≤ r * c := Nat.mul_le_mul_right c hi
  rw [Nat.succ_mul] at this
  omega
theorem seg_lines (r c : Nat) (s : ByteArray) (N S : Nat) (hN : N = r * c) (h : ∀ k, k < N → whB N S (k : Int) = whF s k) : segR (whB N S) c r ++ segC (whB N S) r c c = linesS r c s := by
  unfold segR segC linesS
  congr 1
  · refine flatMap_congr' fun i hi => ?_
    rw [rowB_bits c s i N S h (fun j hj => by rw [hN]; exact in_grid (List.mem_range.1 hi) hj)]
  · refine flatMap_congr' fun j hj => ?_
    rw [colB_bits r c s j N S h (fun i hi => by rw [hN]; exact in_grid hi (List.mem_range.1 hj))]
theorem wT_white (s : ByteArray) (k : Nat) (h : k < s.size) : whB s.size (wT s s.size) (k : Int) = whF s k := by
  unfold whB whF
  rw [decide_eq_true (by omega), Bool.true_and, Int.toNat_natCast, wT_bit _ _ _ h]
/-- SlotsOf's answer, of the board that boardOf answers. -/
theorem slots_brd (g : Int × Int × ByteArray) (w : World) :
    Calls Tryd.prog 18 #[brdV (brd g)] w fun e w' => ∃ v, e = .returned v ∧ w'.ownsRow w.heap.size 33 4 v (slG g).length (row_Slot (slG g)) ∧ Below w.heap.size w w' := by
  obtain ⟨r, c, s⟩ := g
  by_cases hg : isG (r, c, s) = true
  · obtain ⟨R, C, rfl, rfl, h1, h2, h3, h4, h5, h6⟩ := isG_nat hg
    have hb : brd ((R : Int), (C : Int), s) = ((R : Int), (C : Int), wT s s.size) := by unfold brd; rw [if_pos hg]
    rw [hb]
    have hl : slG ((R : Int), (C : Int), s) = numS (-1) 0 (rawS R C s) := by
      unfold slG
      rw [if_pos hg]
      exact slTo_raw R C s
    refine (islots_any R C s.size (wT s s.size) (by rw [h5]; simp) h6 (Nat.lt_trans (wT_lt s _ h6) (by decide)) h2 h4 (.inl ⟨by omega, by omega⟩) w).mono ?_
    rintro e w' ⟨v, he, ⟨M, hb9, hs9, ho⟩, hbl⟩
    rw [seg_lines R C s s.size (wT s s.size) h5 (fun k hk => wT_white s k hk)] at hb9
    rw [sorted_raw hb9 hs9, ← hl] at ho
    exact ⟨v, he, ho, hbl⟩
  · have hb : brd (r, c, s) = (0, 0, 0) := by unfold brd; rw [if_neg hg]
    have hl : slG (r, c, s) = [] := by unfold slG; rw [if_neg hg]
    rw [hb, hl]
    refine (islots_any 0 0 0 0 rfl (by decide) (by decide) (by decide) (by decide) (.inr ⟨rfl, rfl⟩) w).mono ?_
    rintro e w' ⟨v, he, ⟨M, hb9, hs9, ho⟩, hbl⟩
    have hM : M = [] := List.length_eq_zero_iff.1 (hb9.length.symm.trans rfl)
    rw [hM] at ho
    exact ⟨v, he, ho, hbl⟩
set_option maxHeartbeats 800000 in
theorem islo_any (r c : Int) (s : ByteArray) (hs : s.size ≤ 4194304) (w : World) :
    Calls Tryd.prog 6 #[.agg #[.int .i64 r, .int .i64 c, .string s]] w fun e w' => ∃ v, e = .returned v ∧ w'.ownsRow w.heap.size 33 4 v (slG (r, c, s)).length (row_Slot (slG (r, c, s))) ∧ Below w.heap.size w w' := by
  have HBO := Lib.hid (fun w => ibo_any r c s hs w)
  have HSB := Lib.hid (fun w => slots_brd (r, c, s) w)
  obtain ⟨⟨b0, b1, b2⟩, hb⟩ : ∃ b, b = brd (r, c, s) := ⟨_, rfl⟩
  rw [← hb] at HBO HSB
  clear hb
  simp only [brdV] at HBO HSB
  go_enter Tryd.func6, Tryd.ntmps6
  go_wp2_with (first | (go_at_call 17; refine (HBO.out _).mono ?_; rintro e w1 ⟨rfl, bb1⟩; have HB := Lib.hid (box1_of bb1); clear bb1) | (go_at_call 18; refine (HSB.out _).mono ?_; rintro e w2 ⟨v, rfl, ho, bb2⟩; have HO := Lib.hid ho; have HB2 := Lib.hid bb2; clear ho bb2))
  go_ret
  have hz := HB.out.alloc HB.out.size (.cells #[.int .i64 b0, .int .i64 b1, .int .u64 (b2 : Int)] 43)
  exact ⟨_, rfl, own_widen HO.out hz.size, hz.trans (HB2.out.mono hz.size)⟩
end Go.Proofs.YtmhgejljjjmejaaDoor
