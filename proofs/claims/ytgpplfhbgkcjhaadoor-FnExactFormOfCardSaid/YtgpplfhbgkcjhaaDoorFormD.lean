/-
  The model's contracts of chapter 10, first part: the tests on the slots, FormOf's last two rules.
-/
import Derived.Test.YtgpplfhbgkcjhaaDoorFormPure
import Derived.Test.YtgpplfhbgkcjhaaDoorCrossSpecB
import Derived.Deep.RegionWith
import Derived.Deep.RegionHeld3
namespace Go.Proofs.YtgpplfhbgkcjhaaDoor
open Go.RowKit

theorem gbox {W : World} {b : Nat} {r c : Int} {s : ByteArray} {t : TypeId} {mk : Nat × Nat} (h : W.heap[b]? = some (.cells #[.int .i64 r, .int .i64 c, .string s] t mk)) : W.cell? ⟨b, 0, none⟩ = some (.int .i64 r) ∧ W.cell? ⟨b, 1, none⟩ = some (.int .i64 c) ∧ W.cell? ⟨b, 2, none⟩ = some (.string s) := ⟨Joins.cell_of_block h 0, Joins.cell_of_block h 1, Joins.cell_of_block h 2⟩
theorem block_later {W W' : World} {B b : Nat} {o : Obj} (h : W.heap[b]? = some o) (hb : Below B W W') (hB : b < B) : W'.heap[b]? = some o := (hb.block b hB).trans h
theorem short_yes {l : List SlotV} {k : Nat} (h : k < l.length) (h3 : (l.getD k none_Slot).2.2.2 < 3) : (l.any fun x => decide (x.2.2.2 < 3)) = true := List.any_eq_true.2 ⟨_, getD_in h, decide_eq_true h3⟩
theorem short_no {l : List SlotV} (h : ∀ j, j < l.length → ¬ (l.getD j none_Slot).2.2.2 < 3) : (l.any fun x => decide (x.2.2.2 < 3)) = false := by
  rw [Bool.eq_false_iff]
  intro h9
  obtain ⟨x, hx, h8⟩ := List.any_eq_true.1 h9
  obtain ⟨j, hj, e⟩ := List.mem_iff_getElem.1 hx
  have h7 := h j hj
  rw [List.getD_eq_getElem?_getD, List.getElem?_eq_getElem hj, Option.getD_some, e] at h7
  exact h7 (of_decide_eq_true h8)
theorem any_yes {p : Nat → Bool} {n k : Nat} (h : k < n) (hp : p k = true) : ((List.range n).any p) = true := List.any_eq_true.2 ⟨k, List.mem_range.2 h, hp⟩
theorem any_no {p : Nat → Bool} {n : Nat} (h : ∀ j, j < n → p j = false) : ((List.range n).any p) = false := by
  rw [Bool.eq_false_iff]
  intro h9
  obtain ⟨x, hx, h8⟩ := List.any_eq_true.1 h9
  rw [h x (List.mem_range.1 hx)] at h8
  cases h8
set_option maxRecDepth 100000 in
set_option maxHeartbeats 1600000 in
theorem sshort_any (r c : Int) (s : ByteArray) (hs : s.size ≤ 4194304) (w : World) :
    Calls Tryd.prog 44 #[.agg #[.int .i64 r, .int .i64 c, .string s]] w fun e w' => e = .returned (.bool (shortG (r, c, s))) ∧ Below w.heap.size w w' := by
  have HSL := Lib.hid (fun w => ssl_any r c s hs w)
  have HLEN := Lib.hid (slG_length (r, c, s))
  unfold shortG
  obtain ⟨l, hl⟩ : ∃ l, l = slG (r, c, s) := ⟨_, rfl⟩
  rw [← hl] at HSL HLEN ⊢
  clear hl
  have hl72 := HLEN.out
  have HY := Lib.hid (fun k h h3 => @short_yes l k h h3)
  have HN := Lib.hid (fun h => @short_no l h)
  obtain ⟨q, hq⟩ : ∃ q, q = (l.any fun x => decide (x.2.2.2 < 3)) := ⟨_, rfl⟩
  rw [← hq] at HY HN ⊢
  clear hq
  go_enter Tryd.func44, Tryd.ntmps44
  go_wp2_with (go_at_call 69; refine (HSL.out _).mono ?_; rintro e w1 ⟨v1, rfl, o1, b1⟩; obtain ⟨a0, cap, rfl⟩ := ownV_slice o1; have HB1 := Lib.hid (box1_of b1); have HL1 := Lib.hid (own_widen o1 (show w.heap.size ≤ _ by simp)); clear o1 b1)
  go_loopw [4] (fun i wr => ∃ k : Nat, k ≤ l.length ∧ i = .int .i64 (k : Int) ∧ Hid (∀ j, j < k → ¬ (l.getD j none_Slot).2.2.2 < 3) ∧ Hid (wr.ownsRow w.heap.size 33 4 (.slice a0 l.length cap) l.length (row_Slot l)) ∧ Hid (Below w.heap.size w wr)) (fun i _ => l.length - (intOf i).toNat)
  case atStart => exact ⟨0, Nat.zero_le _, rfl, Lib.hid (fun j hj => by omega), HL1, HB1⟩
  case round =>
    clear HL1 HB1
    obtain ⟨k, hk, rfl, HA, HL, HB⟩ := hrel
    by_cases hlt : k < l.length
    · have hd : decide ((k : Int) < (l.length : Int)) = true := decide_eq_true (by omega)
      have hd9 : decide (k < l.length) = true := decide_eq_true hlt
      obtain ⟨b, rfl, q0, q1, q2, q3⟩ := slot_cells HL.out rfl k hlt
      have HYK := Lib.hid (HY.out k hlt)
      have HAK : Hid (¬ (l.getD k none_Slot).2.2.2 < 3 → ∀ j, j < k + 1 → ¬ (l.getD j none_Slot).2.2.2 < 3) := Lib.hid (fun h j hj => by
        by_cases e : j = k
        · subst e; exact h
        · have := HA.out j (by omega); omega)
      obtain ⟨y, hy⟩ : ∃ y, y = (l.getD k none_Slot).2.2.2 := ⟨_, rfl⟩
      rw [← hy] at q3 HYK HAK
      clear hy q0 q1 q2
      by_cases h3 : y < 3
      · have hd3 : decide (y < 3) = true := decide_eq_true h3
        have HQ := Lib.hid (HYK.out h3)
        clear HYK HAK
        go_wp2
        go_ret
        exact ⟨by rw [HQ.out]; rfl, HB.out⟩
      · have hd3 : decide (y < 3) = false := decide_eq_false h3
        have HAN := Lib.hid (HAK.out h3)
        clear HYK HAK
        go_wp2
        go_roundw
        case rel => exact ⟨k + 1, by omega, by go_num, HAN, HL, HB⟩
        case measure => simp [intOf]; omega
    · have hd : decide ((k : Int) < (l.length : Int)) = false := decide_eq_false (by omega)
      have hd9 : decide (k < l.length) = false := decide_eq_false hlt
      have HQ := Lib.hid (HN.out (fun j hj => by have := HA.out j (by omega); omega))
      go_wp2
      go_ret
      exact ⟨by rw [HQ.out]; rfl, HB.out⟩
theorem unchS_range (g : Int × Int × ByteArray) (k : Int) : -1 ≤ unchS g k ∧ unchS g k ≤ 6 := by
  unfold unchS
  split
  · rename_i h
    have h1 : (cellsS g.2.1 ((slG g).getD k.toNat none_Slot)).length ≤ 6 := by
      rw [cellsS_length]
      have := (slG_small (getD_in (l := slG g) (k := k.toNat) (by omega))).2.2.2.1
      omega
    have h2 : unchN (slG g) g.2.1 (cellsS g.2.1 ((slG g).getD k.toNat none_Slot)) ≤ 6 := by
      unfold unchN
      exact Nat.le_trans (List.length_filter_le _ _) h1
    omega
  · omega
set_option maxRecDepth 100000 in
set_option maxHeartbeats 3200000 in
theorem salone_any (r c : Int) (s : ByteArray) (hg : isG (r, c, s) = true) (w : World) :
    Calls Tryd.prog 45 #[.agg #[.int .i64 r, .int .i64 c, .string s]] w fun e w' => e = .returned (.bool (halfG (r, c, s) || looseG (r, c, s))) ∧ Below w.heap.size w w' := by
  have h36 : s.size ≤ 36 := isG_size hg
  have HSL := Lib.hid (fun w => ssl_any r c s (by omega) w)
  have HLEN := Lib.hid (slG_length (r, c, s))
  have HUN := Lib.hid (fun k h1 h2 w => sun_any r c s k (by omega) h1 h2 w)
  have HUR := Lib.hid (fun k => unchS_range (r, c, s) k)
  have HWH := Lib.hid (fun k w => siswh_any r c s k (by omega) w)
  have HAT := Lib.hid (fun k w => ssat_any r c s k (by omega) w)
  have HPH : Hid (halfG (r, c, s) = (List.range (slG (r, c, s)).length).any fun i => decide (((slG (r, c, s)).getD i none_Slot).2.2.2 < 2 * unchS (r, c, s) (i : Int))) := Lib.hid rfl
  have HPL : Hid (looseG (r, c, s) = (List.range s.size).any fun i => isWh (r, c, s) (i : Int) && decide ((atS (slG (r, c, s)) c (i : Int)).length = 0)) := Lib.hid rfl
  obtain ⟨U, hU⟩ : ∃ U, U = unchS (r, c, s) := ⟨_, rfl⟩
  obtain ⟨V, hV⟩ : ∃ V, V = isWh (r, c, s) := ⟨_, rfl⟩
  rw [← hU] at HUN HUR HPH
  rw [← hV] at HWH HPL
  have HA16 := Lib.hid (fun k => atSn_length (slG (r, c, s)) c k (slG (r, c, s)).length)
  obtain ⟨l, hl⟩ : ∃ l, l = slG (r, c, s) := ⟨_, rfl⟩
  rw [← hl] at HSL HLEN HAT HPH HPL HA16
  obtain ⟨T, hT⟩ : ∃ T, T = atS l c := ⟨_, rfl⟩
  rw [← hT] at HAT HPL
  obtain ⟨q1', hq1⟩ : ∃ q, q = halfG (r, c, s) := ⟨_, rfl⟩
  obtain ⟨q2', hq2⟩ : ∃ q, q = looseG (r, c, s) := ⟨_, rfl⟩
  rw [← hq1] at HPH ⊢
  rw [← hq2] at HPL ⊢
  have HT72 : Hid (∀ k, (T k).length ≤ 72) := Lib.hid (fun k => by rw [hT]; exact Nat.le_trans (HA16.out k) HLEN.out)
  clear hU hV hl hT hq1 hq2 hg HA16
  have hl72 := HLEN.out
  go_enter Tryd.func45, Tryd.ntmps45
  have HX0 : Hid ((w.alloc (.cells #[.int .i64 r, .int .i64 c, .string s] 25)).heap[w.heap.size]? = some (.cells #[.int .i64 r, .int .i64 c, .string s] 25)) := Lib.hid (new_block w _)
  go_wp2_with (go_at_call 69; refine (HSL.out _).mono ?_; rintro e w1 ⟨v1, rfl, o1, b1⟩; obtain ⟨a0, cap, rfl⟩ := ownV_slice o1; have HX1 := Lib.hid (block_later HX0.out b1 (by simp)); have HB1 := Lib.hid (box1_of b1); have HL1 := Lib.hid (own_widen o1 (show w.heap.size ≤ _ by simp)); clear o1 b1)
  go_loopw [4] (fun i wr => ∃ k : Nat, k ≤ l.length ∧ i = .int .i64 (k : Int) ∧ Hid (∀ j, j < k → decide ((l.getD j none_Slot).2.2.2 < 2 * U (j : Int)) = false) ∧ Hid (wr.ownsRow w.heap.size 33 4 (.slice a0 l.length cap) l.length (row_Slot l)) ∧ Hid (wr.heap[w.heap.size]? = some (.cells #[.int .i64 r, .int .i64 c, .string s] 25)) ∧ Hid (Below w.heap.size w wr)) (fun i _ => l.length - (intOf i).toNat)
  case atStart => exact ⟨0, Nat.zero_le _, rfl, Lib.hid (fun j hj => by omega), HL1, HX1, HB1⟩
  case round =>
    clear HL1 HX1 HB1 HX0 HSL
    obtain ⟨k, hk, rfl, HA, HL, HX, HB⟩ := hrel
    by_cases hlt : k < l.length
    · have hd : decide ((k : Int) < (l.length : Int)) = true := decide_eq_true (by omega)
      have hd9 : decide (k < l.length) = true := decide_eq_true hlt
      obtain ⟨b, rfl, -, -, -, q3⟩ := slot_cells HL.out rfl k hlt
      have HYK : Hid ((l.getD k none_Slot).2.2.2 < 2 * U (k : Int) → q1' = true) := Lib.hid (fun h => by rw [HPH.out]; exact any_yes hlt (decide_eq_true h))
      have HAK : Hid (¬ (l.getD k none_Slot).2.2.2 < 2 * U (k : Int) → ∀ j, j < k + 1 → decide ((l.getD j none_Slot).2.2.2 < 2 * U (j : Int)) = false) := Lib.hid (fun h j hj => by
        by_cases e : j = k
        · subst e; exact decide_eq_false h
        · exact HA.out j (by omega))
      have HLW : Hid (∀ W : World, Below wr.heap.size wr W → W.cell? ⟨b, k * 4 + 3, none⟩ = some (.int .i64 (l.getD k none_Slot).2.2.2)) := Lib.hid (fun W h => by
        obtain ⟨b9, e9, -, -, -, s3⟩ := slot_cells (ownV_later HL.out h) rfl k hlt
        injection e9 with e9; injection e9 with e9; subst e9
        exact s3)
      have HUK := Lib.hid (fun w => HUN.out (k : Int) (by omega) (by omega) w)
      have HURK := Lib.hid (HUR.out (k : Int))
      obtain ⟨y, hy⟩ : ∃ y, y = (l.getD k none_Slot).2.2.2 := ⟨_, rfl⟩
      rw [← hy] at q3 HYK HAK HLW
      obtain ⟨u, hu⟩ : ∃ u, u = U (k : Int) := ⟨_, rfl⟩
      rw [← hu] at HYK HAK HUK HURK
      clear hy hu
      have hu1 := HURK.out.1
      have hu2 := HURK.out.2
      have hwu : IntKind.i64.wrap (2 * u) = 2 * u := by rw [IntKind.wrap_i64]; omega
      have SOT : Hid (∀ W : World, Below wr.heap.size wr W → (W.cell? ⟨w.heap.size, 0, none⟩ = some (.int .i64 r) ∧ W.cell? ⟨w.heap.size, 1, none⟩ = some (.int .i64 c) ∧ W.cell? ⟨w.heap.size, 2, none⟩ = some (.string s)) ∧ W.cell? ⟨b, k * 4 + 3, none⟩ = some (.int .i64 y)) := Lib.hid (fun W h => ⟨gbox (block_later HX.out h (Array.getElem?_eq_some_iff.1 HX.out).1), HLW.out W h⟩)
      have hbn : Below wr.heap.size wr wr := Below.refl _ _
      have hk0 : (0 : Int) ≤ (k : Int) := by omega
      clear q3 HLW
      by_cases h3 : y < 2 * u
      · have hd3 : decide (y < 2 * u) = true := decide_eq_true h3
        have hd4 : decide (2 * u > y) = true := decide_eq_true h3
        have HQ := Lib.hid (HYK.out h3)
        clear HYK HAK HPH HPL
        go_wp2_with fail
        go_region_held3 (fun W => (W.cell? ⟨w.heap.size, 0, none⟩ = some (.int .i64 r) ∧ W.cell? ⟨w.heap.size, 1, none⟩ = some (.int .i64 c) ∧ W.cell? ⟨w.heap.size, 2, none⟩ = some (.string s)) ∧ W.cell? ⟨b, k * 4 + 3, none⟩ = some (.int .i64 y)) (first | exact SOT.out _ hbn | exact SOT.out _ hbn.drew) (first | (go_at_call 70; refine Calls.mono (HUK.out _) ?_; rintro e w6 ⟨rfl, b6⟩; have hbm : Below wr.heap.size wr _ := (by first | exact hbn.trans (b6.mono hbn.size) | exact hbn.drew.trans b6); clear hbn; have hbn := hbm; clear hbm b6; have HB6 := Lib.hid (HB.out.trans (hbn.mono HB.out.size))))
        all_goals go_wp2_with fail
        all_goals go_ret
        all_goals exact ⟨by rw [HQ.out]; rfl, HB6.out⟩
      · have hd3 : decide (y < 2 * u) = false := decide_eq_false h3
        have hd4 : decide (2 * u > y) = false := decide_eq_false h3
        have HAN := Lib.hid (HAK.out h3)
        clear HYK HAK
        go_wp2_with fail
        go_region_held3 (fun W => (W.cell? ⟨w.heap.size, 0, none⟩ = some (.int .i64 r) ∧ W.cell? ⟨w.heap.size, 1, none⟩ = some (.int .i64 c) ∧ W.cell? ⟨w.heap.size, 2, none⟩ = some (.string s)) ∧ W.cell? ⟨b, k * 4 + 3, none⟩ = some (.int .i64 y)) (first | exact SOT.out _ hbn | exact SOT.out _ hbn.drew) (first | (go_at_call 70; refine Calls.mono (HUK.out _) ?_; rintro e w6 ⟨rfl, b6⟩; have hbm : Below wr.heap.size wr _ := (by first | exact hbn.trans (b6.mono hbn.size) | exact hbn.drew.trans b6); clear hbn; have hbn := hbm; clear hbm b6; have HB6 := Lib.hid (HB.out.trans (hbn.mono HB.out.size)); have HX6 := Lib.hid (block_later HX.out hbn (Array.getElem?_eq_some_iff.1 HX.out).1); have HL6 := Lib.hid (ownV_later HL.out hbn)))
        all_goals go_wp2_with fail
        all_goals go_roundw
        all_goals first | exact ⟨k + 1, by omega, by go_num, HAN, HL6, HX6, HB6⟩ | (simp [intOf]; omega)
    · have hd : decide ((k : Int) < (l.length : Int)) = false := decide_eq_false (by omega)
      have hd9 : decide (k < l.length) = false := decide_eq_false hlt
      have HQ : Hid (q1' = false) := Lib.hid (by rw [HPH.out]; exact any_no (fun j hj => HA.out j (by omega)))
      clear HPH HA HL HUN HUR HLEN
      obtain ⟨x0, x1, x2⟩ := gbox HX.out
      go_wp2_with fail
      obtain ⟨wq, rfl⟩ : ∃ wq, wq = wr := ⟨wr, rfl⟩
      go_loopw [5] (fun i wr => ∃ m : Nat, m ≤ s.size ∧ i = .int .i64 (m : Int) ∧ Hid (∀ j, j < m → (V (j : Int) && decide ((T (j : Int)).length = 0)) = false) ∧ Hid (wr.heap[w.heap.size]? = some (.cells #[.int .i64 r, .int .i64 c, .string s] 25)) ∧ Hid (Below w.heap.size w wr)) (fun i _ => s.size - (intOf i).toNat)
      case atStart => exact ⟨0, Nat.zero_le _, rfl, Lib.hid (fun j hj => by omega), HX, HB⟩
      case round =>
        clear x0 x1 x2 HX HB
        obtain ⟨m, hm, rfl, HA, HX, HB⟩ := hrel
        obtain ⟨x0, x1, x2⟩ := gbox HX.out
        by_cases hlt2 : m < s.size
        · have hd : decide ((m : Int) < (s.size : Int)) = true := decide_eq_true (by omega)
          have hd9 : decide (m < s.size) = true := decide_eq_true hlt2
          have HWK := Lib.hid (fun w => HWH.out (m : Int) w)
          have HTK := Lib.hid (fun w => HAT.out (m : Int) w)
          have HT7 := Lib.hid (HT72.out (m : Int))
          have HYK : Hid (V (m : Int) = true → (T (m : Int)).length = 0 → q2' = true) := Lib.hid (fun h h2 => by rw [HPL.out]; exact any_yes hlt2 (by rw [h, decide_eq_true h2]; rfl))
          have HAK : Hid ((V (m : Int) && decide ((T (m : Int)).length = 0)) = false → ∀ j, j < m + 1 → (V (j : Int) && decide ((T (j : Int)).length = 0)) = false) := Lib.hid (fun h j hj => by
            by_cases e : j = m
            · subst e; exact h
            · exact HA.out j (by omega))
          obtain ⟨Z, hZ⟩ : ∃ Z, Z = T (m : Int) := ⟨_, rfl⟩
          rw [← hZ] at HTK HYK HAK HT7
          clear hZ
          cases hv : V (m : Int) with
          | false =>
            rw [hv] at HWK HAK
            have HAN := Lib.hid (HAK.out (by rw [Bool.false_and]))
            clear HYK HAK hv
            go_wp2_with (first | (go_at_call 71; refine (HWK.out _).mono ?_; rintro e w6 ⟨rfl, b6⟩; have HB6 := Lib.hid (HB.out.trans (b6.mono HB.out.size)); have HX6 := Lib.hid (block_later HX.out b6 (Array.getElem?_eq_some_iff.1 HX.out).1); clear b6))
            go_roundw
            case rel => exact ⟨m + 1, by omega, by go_num, HAN, HX6, HB6⟩
            case measure => simp [intOf]; omega
          | true =>
            rw [hv] at HWK HAK
            by_cases hz : Z.length = 0
            · have HQ2 := Lib.hid (HYK.out hv hz)
              have hz1 : ((Z.length : Int) == 0) = true := by rw [hz]; rfl
              clear HYK HAK HPL hv
              go_wp2_with (first | (go_at_call 71; refine (HWK.out _).mono ?_; rintro e w6 ⟨rfl, b6⟩; have HB6 := Lib.hid (HB.out.trans (b6.mono HB.out.size)); have HX6 := Lib.hid (block_later HX.out b6 (Array.getElem?_eq_some_iff.1 HX.out).1); obtain ⟨y0, y1, y2⟩ := gbox HX6.out; clear b6) | (go_at_call 72; refine (HTK.out _).mono ?_; rintro e w7 ⟨v7, rfl, o7, b7⟩; obtain ⟨a7, cap7, rfl⟩ := ownV_slice o7; have HB7 := Lib.hid (HB6.out.trans (b7.mono HB6.out.size)); clear o7 b7))
              go_ret
              exact ⟨by rw [HQ.out, HQ2.out]; rfl, HB7.out⟩
            · have HAN := Lib.hid (HAK.out (by rw [Bool.true_and]; exact decide_eq_false hz))
              have hz1 : ((Z.length : Int) == 0) = false := beq_eq_false_iff_ne.2 (by omega)
              clear HYK HAK hv
              go_wp2_with (first | (go_at_call 71; refine (HWK.out _).mono ?_; rintro e w6 ⟨rfl, b6⟩; have HB6 := Lib.hid (HB.out.trans (b6.mono HB.out.size)); have HX6 := Lib.hid (block_later HX.out b6 (Array.getElem?_eq_some_iff.1 HX.out).1); obtain ⟨y0, y1, y2⟩ := gbox HX6.out; clear b6) | (go_at_call 72; refine (HTK.out _).mono ?_; rintro e w7 ⟨v7, rfl, o7, b7⟩; obtain ⟨a7, cap7, rfl⟩ := ownV_slice o7; have HB7 := Lib.hid (HB6.out.trans (b7.mono HB6.out.size)); have HX7 := Lib.hid (block_later HX6.out b7 (Array.getElem?_eq_some_iff.1 HX6.out).1); clear o7 b7))
              go_roundw
              case rel => exact ⟨m + 1, by omega, by go_num, HAN, HX7, HB7⟩
              case measure => simp [intOf]; omega
        · have hd : decide ((m : Int) < (s.size : Int)) = false := decide_eq_false (by omega)
          have hd9 : decide (m < s.size) = false := decide_eq_false hlt2
          have HQ2 : Hid (q2' = false) := Lib.hid (by rw [HPL.out]; exact any_no (fun j hj => HA.out j (by omega)))
          go_wp2
          go_ret
          exact ⟨by rw [HQ.out, HQ2.out]; rfl, HB.out⟩
end Go.Proofs.YtgpplfhbgkcjhaaDoor
