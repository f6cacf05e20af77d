/-
  The model's contracts of chapter 9, third part: CrossingsOf.
  The model's contracts of chapter 9, fourth part: l9Put, CrossedBy.
  The model's contracts of chapter 9, fifth part: CrossedBy.
-/
import Derived.Test.YtpcmobbenhppbaaCrossSpecB
import Derived.Test.YtpcmobbenhppbaaCrossingS
import Derived.Test.YtpcmobbenhppbaaValsStep
import Derived.Deep.DeepCutAuto
import Derived.Deep.RegionHeld3
namespace Go.Proofs.Ytpcmobbenhppbaa
open Go.RowKit

theorem scells_Crossing_one (x : CrossV) : ∀ u ∈ cells_Crossing x, u.oneCell' = true := by
  intro u hu
  simp only [cells_Crossing, List.mem_cons, List.not_mem_nil, or_false] at hu
  rcases hu with rfl | rfl | rfl | rfl | rfl <;> rfl
theorem srow_Crossing_snoc (L : List CrossV) (x : CrossV) : row_Crossing L ++ cells_Crossing x = row_Crossing (L ++ [x]) := by
  rw [row_Crossing_append]
  simp [row_Crossing]
theorem soneCr (w : World) (x : CrossV) (t : TypeId) : ∀ j, j < 1 * 5 → ∃ b off, some (⟨w.heap.size, 0, none⟩ : Addr) = some ⟨b, off, none⟩ ∧ (w.alloc (.cells #[.int .i64 x.1, .int .i64 x.2.1, .int .i64 x.2.2.1, .int .i64 x.2.2.2.1, .int .i64 x.2.2.2.2] t)).cell? ⟨b, off + j, none⟩ = (cells_Crossing x)[j]? := fun j hj => by
  refine ⟨_, _, rfl, ?_⟩
  rw [Nat.zero_add, cell_of_row _ w.heap.size j _ t (0, 0) (heap_alloc_new w _)]
  simp [cells_Crossing]
theorem scrossTo_len (l : List SlotV) (c : Int) (n : Nat) : (crossTo l c n).length ≤ n := by
  rw [chkTo_cross]
  exact chkTo_le l c n
theorem inS_cases {l : List SlotV} {c q : Int} (h : (inS l c q).length = 2) : ∃ i j : Nat, inS l c q = [i, j] ∧ i < l.length ∧ j < l.length ∧ q ∈ cellsS c (l.getD i none_Slot) ∧ q ∈ cellsS c (l.getD j none_Slot) ∧ atS l c q = [(i : Int), (j : Int)] ∧ crossAt l c q = [((i : Int), (j : Int), (placeI (cellsS c (l.getD i none_Slot)) q : Int), (placeI (cellsS c (l.getD j none_Slot)) q : Int), q)] := by
  match e : inS l c q with
  | [] => rw [e] at h; simp at h
  | [_] => rw [e] at h; simp at h
  | [i, j] =>
    have hi := inS_mem (l := l) (c := c) (q := q) (i := i) (by rw [e]; simp)
    have hj := inS_mem (l := l) (c := c) (q := q) (i := j) (by rw [e]; simp)
    exact ⟨i, j, rfl, hi.1, hj.1, hi.2, hj.2, by rw [atS_inS, e]; rfl, by unfold crossAt; rw [e]⟩
  | _ :: _ :: _ :: _ => rw [e] at h; simp at h
theorem crossAt_not {l : List SlotV} {c q : Int} (h : ¬ (inS l c q).length = 2) : crossAt l c q = [] := by
  have h1 := crossAt_len l c q
  unfold chkL at h1
  rw [decide_eq_false h] at h1
  exact List.length_eq_zero_iff.1 h1
set_option maxRecDepth 100000 in
set_option maxHeartbeats 1600000 in
theorem scr_any (r c : Int) (s : ByteArray) (hs : s.size ≤ 4194304) (w : World) :
    Calls Try.prog 20 #[.agg #[.int .i64 r, .int .i64 c, .string s]] w fun e w' => ∃ v, e = .returned v ∧ w'.ownsRow w.heap.size 36 5 v (crossS (r, c, s)).length (row_Crossing (crossS (r, c, s))) ∧ Below w.heap.size w w' := by
  obtain ⟨i0, hi, hz0, hz1, hz2⟩ := info_parts info_Crossing
  obtain ⟨p, hp⟩ : ∃ p, p = isG (r, c, s) := ⟨_, rfl⟩
  have HIG := Lib.hid (fun w => sisg_any r c s hs w)
  rw [← hp] at HIG
  have HSL := Lib.hid (fun w => ssl_any r c s hs w)
  have HKP := Lib.hid (box3_all w r c s 25)
  have HW : Hid (Below w.heap.size w (w.alloc (.cells #[.int .i64 r, .int .i64 c, .string s] 25))) := Lib.hid ((Below.refl _ _).alloc (Nat.le_refl _) _)
  obtain ⟨W0, hW0⟩ : ∃ W0, W0 = w.alloc (.cells #[.int .i64 r, .int .i64 c, .string s] 25) := ⟨_, rfl⟩
  have hws : W0.heap.size = w.heap.size + 1 := by rw [hW0]; simp
  have HO0 : Hid ((W0.alloc (.cells #[] 36)).ownsRow W0.heap.size 36 5 (.slice (some ⟨w.heap.size + 1, 0, none⟩) 0 0) 0 []) := Lib.hid (by rw [← hws]; exact own_zero W0 36 5)
  have HB0 := Lib.hid ((Below.refl W0.heap.size W0).alloc (Nat.le_refl _) (.cells #[] 36))
  rw [← hW0] at HKP HW
  obtain ⟨d0, d1, d2⟩ := HKP.out _ HB0.out
  cases p with
  | false =>
    have HF : Hid (crossS (r, c, s) = []) := Lib.hid (crossS_no hp.symm)
    have HNS : Hid ((slG (r, c, s)).length = (slG (r, c, s)).length) := Lib.hid rfl
    obtain ⟨l, hl⟩ : ∃ l, l = slG (r, c, s) := ⟨_, rfl⟩
    rw [← hl] at HSL
    clear hp HNS hl
    go_enter Try.func20, Try.ntmps20
    go_wp2_with fail
    rw [← hW0]
    clear hW0
    go_wp2_with (go_at_call 43; refine (HSL.out _).mono ?_; rintro e w2 ⟨v2, rfl, o2, b2⟩; obtain ⟨a0, cap, rfl⟩ := ownV_slice o2; have HO2 := Lib.hid (ownV_later HO0.out b2); have HB2 := Lib.hid (HB0.out.trans (b2.mono HB0.out.size)); clear o2 b2)
    go_loopw [3, 5] (fun o i wr => i = .int .i64 0 ∧ Hid (wr.ownsRow W0.heap.size 36 5 o 0 []) ∧ Hid (Below W0.heap.size W0 wr)) (fun _ _ _ => 0)
    case atStart => exact ⟨rfl, HO2, HB2⟩
    case round =>
      obtain ⟨rfl, HO, HB⟩ := hrel
      obtain ⟨x0, x1, x2⟩ := HKP.out _ HB.out
      by_cases h0 : 0 < s.size
      · have hd : decide ((0 : Int) < (s.size : Int)) = true := decide_eq_true (by omega)
        go_wp2_with (go_at_call 44; refine (HIG.out _).mono ?_; rintro e w3 ⟨rfl, b3⟩; have HB3 := Lib.hid (HB.out.trans (b3.mono HB.out.size)); have HO3 := Lib.hid (ownV_later HO.out b3); clear b3)
        go_ret
        exact ⟨_, rfl, by rw [HF.out]; exact own_widen HO3.out (by omega), HW.out.trans (HB3.out.mono HW.out.size)⟩
      · have hd : decide ((0 : Int) < (s.size : Int)) = false := decide_eq_false (by omega)
        go_wp2
        go_ret
        exact ⟨_, rfl, by rw [HF.out]; exact own_widen HO.out (by omega), HW.out.trans (HB.out.mono HW.out.size)⟩
  | true =>
    have HSA := Lib.hid (fun q w => ssat_any r c s q hs w)
    have HCL := Lib.hid (fun (x : SlotV) (hx : x ∈ slG (r, c, s)) w => by
      have h := scl_any r c s x.1 x.2.1 x.2.2.1 x.2.2.2 hs w
      rw [show ((x.1, x.2.1, x.2.2.1, x.2.2.2) : SlotV) = x from rfl, clG_in hx] at h
      exact h)
    have hs36 : s.size ≤ 36 := isG_size (g := (r, c, s)) hp.symm
    have HC6 : Hid (∀ x ∈ slG (r, c, s), (cellsS c x).length ≤ 6) := Lib.hid (fun x hx => by rw [cellsS_length]; have := (slG_small hx).2.2.2.1; omega)
    have HLEN := Lib.hid (slG_length (r, c, s))
    have HF : Hid (crossS (r, c, s) = crossTo (slG (r, c, s)) c s.size) := Lib.hid rfl
    rw [HF.out]
    clear HF hp
    obtain ⟨l, hl⟩ : ∃ l, l = slG (r, c, s) := ⟨_, rfl⟩
    rw [← hl] at HSL HSA HCL HC6 HLEN ⊢
    clear hl
    have hl72 := HLEN.out
    go_enter Try.func20, Try.ntmps20
    go_wp2_with fail
    rw [← hW0]
    clear hW0
    go_wp2_with (go_at_call 43; refine (HSL.out _).mono ?_; rintro e w2 ⟨v2, rfl, o2, b2⟩; obtain ⟨a0, cap, rfl⟩ := ownV_slice o2; have HL2 := Lib.hid (own_widen o2 HB0.out.size); have HO2 := Lib.hid (ownV_later HO0.out b2); have HB2 := Lib.hid (HB0.out.trans (b2.mono HB0.out.size)); clear o2 b2)
    go_loopw [3, 5] (fun o i wr => ∃ k : Nat, k ≤ s.size ∧ i = .int .i64 (k : Int) ∧ Hid (wr.ownsRow W0.heap.size 36 5 o (crossTo l c k).length (row_Crossing (crossTo l c k))) ∧ Hid (wr.ownsRow W0.heap.size 34 4 (.slice a0 l.length cap) l.length (row_Slot l)) ∧ Hid (Below W0.heap.size W0 wr)) (fun _ i _ => s.size - (intOf i).toNat)
    case atStart => exact ⟨0, Nat.zero_le _, rfl, HO2, HL2, HB2⟩
    case round =>
      clear HO2 HL2 HB2 HO0 d0 d1 d2
      obtain ⟨k, hk, rfl, HO, HL, HB⟩ := hrel
      obtain ⟨x0, x1, x2⟩ := HKP.out _ HB.out
      by_cases hlt : k < s.size
      · have hd : decide ((k : Int) < (s.size : Int)) = true := decide_eq_true (by omega)
        have HNX := Lib.hid (crossTo_next l c k)
        have HLK := Lib.hid (scrossTo_len l c k)
        have HSA1 := Lib.hid (fun w => HSA.out (k : Int) w)
        obtain ⟨CN, hCN⟩ : ∃ CN, CN = crossTo l c (k + 1) := ⟨_, rfl⟩
        rw [← hCN] at HNX
        have HCN := Lib.hid hCN
        clear hCN
        obtain ⟨C, hC⟩ : ∃ C, C = crossTo l c k := ⟨_, rfl⟩
        rw [← hC] at HO HNX HLK
        clear hC
        have hc36 : C.length ≤ 36 := by have := HLK.out; omega
        by_cases h2 : (inS l c (k : Int)).length = 2
        · obtain ⟨i, j, -, hi1, hj1, hqi, hqj, hat, hca⟩ := inS_cases h2
          clear h2
          rw [hat] at HSA1
          rw [hca] at HNX
          clear hat hca
          obtain ⟨b, rfl, s0, s1, s2, s3⟩ := slot_cells HL.out rfl i hi1
          obtain ⟨b', hb', u0, u1, u2, u3⟩ := slot_cells HL.out rfl j hj1
          have hbb : b' = b := by injection hb' with h9; injection h9 with h8; exact h8.symm
          rw [hbb] at u0 u1 u2 u3
          clear hb' hbb b'
          have HCI := Lib.hid (HCL.out _ (getD_in hi1))
          have HCJ := Lib.hid (HCL.out _ (getD_in hj1))
          have HC6I := Lib.hid (HC6.out _ (getD_in hi1))
          have HC6J := Lib.hid (HC6.out _ (getD_in hj1))
          obtain ⟨x, hx⟩ : ∃ x, x = l.getD i none_Slot := ⟨_, rfl⟩
          obtain ⟨y, hy⟩ : ∃ y, y = l.getD j none_Slot := ⟨_, rfl⟩
          rw [← hx] at s0 s1 s2 s3 HCI HC6I hqi HNX
          rw [← hy] at u0 u1 u2 u3 HCJ HC6J hqj HNX
          have HXE := Lib.hid hx
          have HYE := Lib.hid hy
          clear hx hy
          have HPI := Lib.hid (fun v w h => splace_any (cellsS c x) (k : Int) hqi (by have := HC6I.out; omega) v w h)
          have HPJ := Lib.hid (fun v w h => splace_any (cellsS c y) (k : Int) hqj (by have := HC6J.out; omega) v w h)
          clear hqi hqj
          obtain ⟨ci, hci⟩ : ∃ ci, ci = cellsS c x := ⟨_, rfl⟩
          obtain ⟨cj, hcj⟩ : ∃ cj, cj = cellsS c y := ⟨_, rfl⟩
          rw [← hci] at HCI HC6I HPI HNX
          rw [← hcj] at HCJ HC6J HPJ HNX
          clear hci hcj
          obtain ⟨x1', x2', x3', x4'⟩ := x
          obtain ⟨y1', y2', y3', y4'⟩ := y
          simp only at s0 s1 s2 s3 u0 u1 u2 u3 HCI HCJ
          clear s0 s1 s2 s3 u0 u1 u2 u3
          obtain ⟨pi, hpi⟩ : ∃ pi : Nat, pi = placeI ci (k : Int) := ⟨_, rfl⟩
          obtain ⟨pj, hpj⟩ : ∃ pj : Nat, pj = placeI cj (k : Int) := ⟨_, rfl⟩
          rw [← hpi] at HPI HNX
          rw [← hpj] at HPJ HNX
          clear hpi hpj
          have hi72 : i ≤ 72 := by omega
          have hj72 : j ≤ 72 := by omega
          go_wp2_with (first | (go_at_call 44; refine (HIG.out _).mono ?_; rintro e w3 ⟨rfl, b3⟩; have BT3 := Lib.hid b3; obtain ⟨y0, y1, y2⟩ := HKP.out _ (HB.out.trans (BT3.out.mono HB.out.size)); clear b3) | (go_at_call 45; refine (HSA1.out _).mono ?_; rintro e w4 ⟨v4, rfl, o4, b4⟩; obtain ⟨a4, cap4, rfl⟩ := ownV_slice o4; have BT4 := Lib.hid (BT3.out.trans (b4.mono BT3.out.size)); have HA4 := Lib.hid (own_widen o4 (Nat.le_trans HB.out.size BT3.out.size)); clear o4 b4))
          have HO4 := Lib.hid (ownV_later HO.out BT4.out)
          have HL4 := Lib.hid (ownV_later HL.out BT4.out)
          have HB4 := Lib.hid (HB.out.trans (BT4.out.mono HB.out.size))
          obtain ⟨ba, rfl, -⟩ := sint_cell HA4.out rfl 0 (by simp)
          have SOF : Hid (∀ W : World, Below W0.heap.size W0 W → W.ownsRow W0.heap.size 34 4 (.slice (some ⟨b, 0, none⟩) l.length cap) l.length (row_Slot l) → W.ownsRow W0.heap.size 3 1 (.slice (some ⟨ba, 0, none⟩) 2 cap4) 2 ([(i : Int), (j : Int)].map (Value.int .i64)) → (W.cell? ⟨w.heap.size, 0, none⟩ = some (.int .i64 r) ∧ W.cell? ⟨w.heap.size, 1, none⟩ = some (.int .i64 c) ∧ W.cell? ⟨w.heap.size, 2, none⟩ = some (.string s)) ∧ (W.cell? ⟨b, i * 4, none⟩ = some (.int .i64 x1') ∧ W.cell? ⟨b, i * 4 + 1, none⟩ = some (.bool x2') ∧ W.cell? ⟨b, i * 4 + 2, none⟩ = some (.int .i64 x3') ∧ W.cell? ⟨b, i * 4 + 3, none⟩ = some (.int .i64 x4')) ∧ (W.cell? ⟨b, j * 4, none⟩ = some (.int .i64 y1') ∧ W.cell? ⟨b, j * 4 + 1, none⟩ = some (.bool y2') ∧ W.cell? ⟨b, j * 4 + 2, none⟩ = some (.int .i64 y3') ∧ W.cell? ⟨b, j * 4 + 3, none⟩ = some (.int .i64 y4')) ∧ (W.cell? ⟨ba, 0, none⟩ = some (.int .i64 (i : Int)) ∧ W.cell? ⟨ba, 1, none⟩ = some (.int .i64 (j : Int)))) := Lib.hid (fun W h1 h2 h3 => by
            obtain ⟨b9, e9, s0, s1, s2, s3⟩ := slot_cells h2 rfl i hi1
            obtain ⟨b8, e8, u0, u1, u2, u3⟩ := slot_cells h2 rfl j hj1
            injection e9 with e9; injection e9 with e9; subst e9
            injection e8 with e8; injection e8 with e8; subst e8
            rw [← HXE.out] at s0 s1 s2 s3
            rw [← HYE.out] at u0 u1 u2 u3
            obtain ⟨b7, e7, t0⟩ := sint_cell h3 rfl 0 (by simp)
            injection e7 with e7; injection e7 with e7; subst e7
            obtain ⟨b6, e6, t1⟩ := sint_cell h3 rfl 1 (by simp)
            injection e6 with e6; injection e6 with e6; subst e6
            exact ⟨HKP.out _ h1, ⟨s0, s1, s2, s3⟩, ⟨u0, u1, u2, u3⟩, t0, t1⟩)
          have SOT : Hid (∀ W : World, Below w4.heap.size w4 W → (W.cell? ⟨w.heap.size, 0, none⟩ = some (.int .i64 r) ∧ W.cell? ⟨w.heap.size, 1, none⟩ = some (.int .i64 c) ∧ W.cell? ⟨w.heap.size, 2, none⟩ = some (.string s)) ∧ (W.cell? ⟨b, i * 4, none⟩ = some (.int .i64 x1') ∧ W.cell? ⟨b, i * 4 + 1, none⟩ = some (.bool x2') ∧ W.cell? ⟨b, i * 4 + 2, none⟩ = some (.int .i64 x3') ∧ W.cell? ⟨b, i * 4 + 3, none⟩ = some (.int .i64 x4')) ∧ (W.cell? ⟨b, j * 4, none⟩ = some (.int .i64 y1') ∧ W.cell? ⟨b, j * 4 + 1, none⟩ = some (.bool y2') ∧ W.cell? ⟨b, j * 4 + 2, none⟩ = some (.int .i64 y3') ∧ W.cell? ⟨b, j * 4 + 3, none⟩ = some (.int .i64 y4')) ∧ (W.cell? ⟨ba, 0, none⟩ = some (.int .i64 (i : Int)) ∧ W.cell? ⟨ba, 1, none⟩ = some (.int .i64 (j : Int)))) := Lib.hid (fun W h => SOF.out W (HB4.out.trans (h.mono HB4.out.size)) (ownV_later HL4.out h) (own_later HA4.out h))
          have hi0 : (0 : Int) ≤ (i : Int) := by omega
          have hj0 : (0 : Int) ≤ (j : Int) := by omega
          clear x0 x1 x2 y0 y1 y2 HO HL HB BT3 BT4
          have hbn : Below w4.heap.size w4 w4 := Below.refl _ _
          have F1 := Lib.hid trivial
          go_region_held3 (fun W => (W.cell? ⟨w.heap.size, 0, none⟩ = some (.int .i64 r) ∧ W.cell? ⟨w.heap.size, 1, none⟩ = some (.int .i64 c) ∧ W.cell? ⟨w.heap.size, 2, none⟩ = some (.string s)) ∧ (W.cell? ⟨b, i * 4, none⟩ = some (.int .i64 x1') ∧ W.cell? ⟨b, i * 4 + 1, none⟩ = some (.bool x2') ∧ W.cell? ⟨b, i * 4 + 2, none⟩ = some (.int .i64 x3') ∧ W.cell? ⟨b, i * 4 + 3, none⟩ = some (.int .i64 x4')) ∧ (W.cell? ⟨b, j * 4, none⟩ = some (.int .i64 y1') ∧ W.cell? ⟨b, j * 4 + 1, none⟩ = some (.bool y2') ∧ W.cell? ⟨b, j * 4 + 2, none⟩ = some (.int .i64 y3') ∧ W.cell? ⟨b, j * 4 + 3, none⟩ = some (.int .i64 y4')) ∧ (W.cell? ⟨ba, 0, none⟩ = some (.int .i64 (i : Int)) ∧ W.cell? ⟨ba, 1, none⟩ = some (.int .i64 (j : Int)))) (first | exact SOT.out _ hbn | exact SOT.out _ hbn.drew | exact SOT.out _ (hbn.alloc hbn.size _) | exact SOF.out _ HB9.out HL9.out HA9.out) (first | (have FG := F1; go_at_call 47; refine Calls.mono (HCI.out _) ?_; rintro e w5 ⟨v5, rfl, o5, b5⟩; have HR5 := Lib.hid (reads_ints o5 (by have := HC6I.out; omega)); have hbm : Below w4.heap.size w4 _ := (by first | exact hbn.trans (b5.mono hbn.size) | exact hbn.drew.trans b5); clear hbn; have hbn := hbm; clear hbm b5; clear o5 F1 FG; have F2 := Lib.hid trivial) | (have FG := F2; go_at_call 46; refine Calls.mono (HPI.out _ _ HR5.out) ?_; rintro e w6 ⟨rfl, b6⟩; have hbm : Below w4.heap.size w4 _ := (by first | exact hbn.trans (b6.mono hbn.size) | exact hbn.drew.trans b6); clear hbn; have hbn := hbm; clear hbm b6; clear F2 FG; have F3 := Lib.hid trivial) | (have FG := F3; go_at_call 47; refine Calls.mono (HCJ.out _) ?_; rintro e w7 ⟨v7, rfl, o7, b7⟩; have HR7 := Lib.hid (reads_ints o7 (by have := HC6J.out; omega)); have hbm : Below w4.heap.size w4 _ := (by first | exact hbn.trans (b7.mono hbn.size) | exact hbn.drew.trans b7); clear hbn; have hbn := hbm; clear hbm b7; clear o7 F3 FG; have F4 := Lib.hid trivial) | (have FG := F4; go_at_call 46; refine Calls.mono (HPJ.out _ _ HR7.out) ?_; rintro e w8 ⟨rfl, b8⟩; have hbm : Below w4.heap.size w4 _ := (by first | exact hbn.trans (b8.mono hbn.size) | exact hbn.drew.trans b8); clear hbn; have hbn := hbm; clear hbm b8; have HO8 := Lib.hid (ownV_later HO4.out hbn); have HL8 := Lib.hid (ownV_later HL4.out hbn); have HA8 := Lib.hid (own_later HA4.out hbn); have HB8 := Lib.hid (HB4.out.trans (hbn.mono HB4.out.size)); clear F4 FG; have F5 := Lib.hid trivial) | (have FG := F5; refine step_appendV rfl (.tmp 27) (.tmp 56) 29 rfl W0.heap.size 36 i0 (.agg #[.int .i64 0, .int .i64 0, .int .i64 0, .int .i64 0, .int .i64 0]) 5 40 Try.underlying29 hi hz0 hz1 hz2 rfl (by decide) _ _ _ rfl (HO8.out.alloc (.cells #[.int .i64 (i : Int), .int .i64 (j : Int), .int .i64 (pi : Int), .int .i64 (pj : Int), .int .i64 (k : Int)] 36)) _ 1 1 (cells_Crossing ((i : Int), (j : Int), (pi : Int), (pj : Int), (k : Int))) rfl rfl (scells_Crossing_one _) (fun e => by cases e) (soneCr w8 ((i : Int), (j : Int), (pi : Int), (pj : Int), (k : Int)) _) (by omega) (by omega) (le_alloc HB8.out.size _) ?_; intro v9 w9 hown hgrow; have HB9 := Lib.hid (below_app (HB8.out.alloc HB8.out.size (.cells #[.int .i64 (i : Int), .int .i64 (j : Int), .int .i64 (pi : Int), .int .i64 (pj : Int), .int .i64 (k : Int)] 36)) hgrow (HO8.out.alloc (.cells #[.int .i64 (i : Int), .int .i64 (j : Int), .int .i64 (pi : Int), .int .i64 (pj : Int), .int .i64 (k : Int)] 36)) (Nat.le_refl _) (le_alloc HB8.out.size _)); have HL9 := Lib.hid ((HL8.out.alloc (.cells #[.int .i64 (i : Int), .int .i64 (j : Int), .int .i64 (pi : Int), .int .i64 (pj : Int), .int .i64 (k : Int)] 36)).kept hgrow (own_types (HO8.out.alloc (.cells #[.int .i64 (i : Int), .int .i64 (j : Int), .int .i64 (pi : Int), .int .i64 (pj : Int), .int .i64 (k : Int)] 36)) (HL8.out.alloc (.cells #[.int .i64 (i : Int), .int .i64 (j : Int), .int .i64 (pi : Int), .int .i64 (pj : Int), .int .i64 (k : Int)] 36)) (by decide))); have HA9 := Lib.hid ((HA8.out.alloc (.cells #[.int .i64 (i : Int), .int .i64 (j : Int), .int .i64 (pi : Int), .int .i64 (pj : Int), .int .i64 (k : Int)] 36)).kept hgrow (own_types (HO8.out.alloc (.cells #[.int .i64 (i : Int), .int .i64 (j : Int), .int .i64 (pi : Int), .int .i64 (pj : Int), .int .i64 (k : Int)] 36)) (HA8.out.alloc (.cells #[.int .i64 (i : Int), .int .i64 (j : Int), .int .i64 (pi : Int), .int .i64 (pj : Int), .int .i64 (k : Int)] 36)) (by decide))); have HO9 : Hid (w9.ownsRow W0.heap.size 36 5 v9 CN.length (row_Crossing CN)) := Lib.hid (by rw [HNX.out, ← srow_Crossing_snoc, List.length_append]; exact hown); clear hown hgrow hbn FG F5))
          all_goals rw [HCN.out] at HO9
          all_goals go_wp2_with fail
          all_goals go_roundw
          all_goals first | exact ⟨k + 1, by omega, by go_num, HO9, HL9, HB9⟩ | (simp [intOf]; omega)
        · rw [crossAt_not h2, List.append_nil] at HNX
          have h2a : ¬ (atS l c (k : Int)).length = 2 := by rw [atS_inS, List.length_map]; exact h2
          obtain ⟨A, hA⟩ : ∃ A, A = atS l c (k : Int) := ⟨_, rfl⟩
          rw [← hA] at HSA1 h2a
          clear hA h2
          have e1 : ¬ ((A.length : Int) = 2) := by omega
          have e2 : ((A.length : Int) == 2) = false := by simpa using e1
          go_wp2_with (first | (go_at_call 44; refine (HIG.out _).mono ?_; rintro e w3 ⟨rfl, b3⟩; have BT3 := Lib.hid b3; obtain ⟨y0, y1, y2⟩ := HKP.out _ (HB.out.trans (BT3.out.mono HB.out.size)); clear b3) | (go_at_call 45; refine (HSA1.out _).mono ?_; rintro e w4 ⟨v4, rfl, o4, b4⟩; obtain ⟨a4, cap4, rfl⟩ := ownV_slice o4; have BT4 := Lib.hid (BT3.out.trans (b4.mono BT3.out.size)); clear o4 b4))
          have HO4 : Hid (w4.ownsRow W0.heap.size 36 5 u3 CN.length (row_Crossing CN)) := Lib.hid (by rw [HNX.out]; exact ownV_later HO.out BT4.out)
          have HL4 := Lib.hid (ownV_later HL.out BT4.out)
          have HB4 := Lib.hid (HB.out.trans (BT4.out.mono HB.out.size))
          rw [HCN.out] at HO4
          go_roundw
          case rel => exact ⟨k + 1, by omega, by go_num, HO4, HL4, HB4⟩
          case measure => simp [intOf]; omega
      · have hd : decide ((k : Int) < (s.size : Int)) = false := decide_eq_false (by omega)
        obtain rfl : k = s.size := by omega
        go_wp2
        go_ret
        exact ⟨_, rfl, own_widen HO.out (by omega), HW.out.trans (HB.out.mono HW.out.size)⟩
end Go.Proofs.Ytpcmobbenhppbaa
namespace Go.Proofs.Ytpcmobbenhppbaa
open Go.RowKit

theorem pown_then (W : World) (t : TypeId) (o : Obj) : ((W.alloc (.cells #[] t)).alloc o).ownsRow W.heap.size t 1 (.slice (some ⟨W.heap.size, 0, none⟩) 0 0) 0 [] ∧ ((W.alloc (.cells #[] t)).alloc o).heap[W.heap.size + 1]? = some o ∧ Below W.heap.size W ((W.alloc (.cells #[] t)).alloc o) := by
  refine ⟨(own_zero W t 1).alloc o, ?_, ((Below.refl _ _).alloc (Nat.le_refl _) _).alloc (by simp) _⟩
  have h := heap_alloc_new (W.alloc (.cells #[] t)) o
  rwa [show (W.alloc (.cells #[] t)).heap.size = W.heap.size + 1 by simp] at h
theorem pown_behind (W : World) (t : TypeId) (o : Obj) : ((W.alloc o).alloc (.cells #[] t)).ownsRow W.heap.size t 1 (.slice (some ⟨W.heap.size + 1, 0, none⟩) 0 0) 0 [] ∧ ((W.alloc o).alloc (.cells #[] t)).heap[W.heap.size]? = some o ∧ Below W.heap.size W ((W.alloc o).alloc (.cells #[] t)) := by
  have h1 := own_zero (W.alloc o) t 1
  rw [show (W.alloc o).heap.size = W.heap.size + 1 by simp] at h1
  refine ⟨own_widen h1 (by omega), ?_, ((Below.refl _ _).alloc (Nat.le_refl _) _).alloc (by simp) _⟩
  exact (Below.heap_alloc (W.alloc o) _ W.heap.size (by simp)).trans (heap_alloc_new W o)
theorem pblk1 {W : World} {g : Nat} {n : Int} {t : TypeId} (h : W.heap[g]? = some (.cells #[.int .i64 n] t (0, 0))) : ∀ j, j < 1 * 1 → ∃ b off, some (⟨g, 0, none⟩ : Addr) = some ⟨b, off, none⟩ ∧ W.cell? ⟨b, off + j, none⟩ = ([.int .i64 n] : List Value)[j]? := fun j hj => by
  refine ⟨_, _, rfl, ?_⟩
  rw [Nat.zero_add, cell_of_row _ g j _ t (0, 0) h]
  simp
theorem pints_one (l : List Int) : ∀ u ∈ l.map (Value.int .i64), u.oneCell' = true := by
  intro u hu
  obtain ⟨z, -, rfl⟩ := List.mem_map.1 hu
  rfl
def posI (l : List Int) (n : Int) : Nat := l.findIdx fun y => decide (n ≤ y)
theorem posI_le (l : List Int) (n : Int) : posI l n ≤ l.length := List.findIdx_le_length
theorem posI_lt {l : List Int} {n : Int} {k : Nat} (h : k < posI l n) : l.getD k 0 < n := by
  have h1 : k < l.length := Nat.lt_of_lt_of_le h (posI_le l n)
  have h2 := List.not_of_lt_findIdx (xs := l) (p := fun y => decide (n ≤ y)) h
  rw [List.getD_eq_getElem?_getD, List.getElem?_eq_getElem h1]
  have h3 := of_decide_eq_false h2
  show l[k] < n
  omega
theorem posI_ge {l : List Int} {n : Int} (h : posI l n < l.length) : n ≤ l.getD (posI l n) 0 := by
  have h2 := List.findIdx_getElem (xs := l) (p := fun y => decide (n ≤ y)) (w := h)
  rw [List.getD_eq_getElem?_getD, List.getElem?_eq_getElem h]
  exact of_decide_eq_true h2
theorem putI_eq {l : List Int} {n : Int} (hn : n ∉ l) : putI l n = l.take (posI l n) ++ [n] ++ l.drop (posI l n) := by
  unfold putI
  simp only
  rw [if_neg]
  · rfl
  · rintro ⟨h1, h2⟩
    apply hn
    rw [← h1, List.getD_eq_getElem?_getD, List.getElem?_eq_getElem h2]
    exact List.getElem_mem h2
theorem putI_len {l : List Int} {n : Int} (hn : n ∉ l) : (putI l n).length = l.length + 1 := by
  rw [putI_eq hn]
  have := posI_le l n
  simp
  omega
theorem ins_ints {W : World} {B base k m : Nat} {e : TypeId} {v : Value} {l : List Int} {n : Int} {xs ys : List Value} (h : W.ownsRow base e 1 v (k + 1 + m) (xs ++ [.int .i64 n] ++ ys)) (hx : xs = (l.take k).map (Value.int .i64)) (hy : ys = (l.drop k).map (Value.int .i64)) (hm : k + m = l.length) (hB : B ≤ base) :
    W.ownsRow B e 1 v (l.length + 1) ((l.take k ++ [n] ++ l.drop k).map (Value.int .i64)) := by
  subst hx hy
  rw [show k + 1 + m = l.length + 1 by omega] at h
  rw [List.map_append, List.map_append]
  exact own_widen h hB
set_option maxRecDepth 100000 in
set_option maxHeartbeats 1600000 in
theorem sput_any (l : List Int) (n : Int) (hn : n ∉ l) (hl : l.length ≤ 100000) (base g cap : Nat) (w : World) (ho : w.ownsRow base 3 1 (.slice (some ⟨g, 0, none⟩) l.length cap) l.length (l.map (Value.int .i64))) :
    Calls Try.prog 50 #[.slice (some ⟨g, 0, none⟩) l.length cap, .int .i64 n] w fun e w' => ∃ v, e = .returned v ∧ w'.ownsRow w.heap.size 3 1 v (putI l n).length ((putI l n).map (Value.int .i64)) ∧ Below w.heap.size w w' := by
  obtain ⟨i0, hi, hz0, hz1, hz2⟩ := info_parts info_int
  have hgl : g < w.heap.size := (ho.lt g rfl).2
  have hcc : l.length ≤ cap ∧ cap ≤ 9223372036854775807 := by
    rcases ho.2 with ⟨e, -⟩ | ⟨g', cap', cur, e, -, -, h1, h2, -⟩
    · cases e
    · cases e; exact ⟨h1, h2⟩
  have hcl := hcc.1
  have hcm := hcc.2
  have HO := Lib.hid ho
  have HPUT := Lib.hid (putI_eq hn)
  have HPL := Lib.hid (putI_len hn)
  have hpl := posI_le l n
  have HLT := Lib.hid (fun k h => posI_lt (l := l) (n := n) (k := k) h)
  have HGE : Hid (posI l n < l.length → n < l.getD (posI l n) 0) := Lib.hid (fun h => by
    have h1 := posI_ge h
    have h2 : n ≠ l.getD (posI l n) 0 := fun e => hn (by rw [e, List.getD_eq_getElem?_getD, List.getElem?_eq_getElem h]; exact List.getElem_mem h)
    omega)
  clear ho hcc hn
  obtain ⟨pos, hpos⟩ : ∃ pos, pos = posI l n := ⟨_, rfl⟩
  rw [← hpos] at HPUT hpl HLT HGE
  clear hpos
  have HCELL : Hid (∀ X, Below w.heap.size w X → ∀ j, j < l.length → X.cell? ⟨g, j, none⟩ = some (.int .i64 (l.getD j 0))) := Lib.hid (fun X h j hj => by
    obtain ⟨b, e, q⟩ := sint_cell HO.out rfl j hj
    cases e
    exact (h.cell (p := ⟨g, j, none⟩) hgl).trans q)
  go_enter Try.func50, Try.ntmps50
  go_wp2
  go_loopw [5] (fun i wr => ∃ k : Nat, k ≤ pos ∧ i = .int .i64 (k : Int) ∧ Hid (Below w.heap.size w wr)) (fun i _ => l.length - (intOf i).toNat)
  case atStart => exact ⟨0, Nat.zero_le _, rfl, Lib.hid (Below.refl _ _)⟩
  case round =>
    obtain ⟨k, hk, rfl, HB⟩ := hrel
    by_cases hlt : k < pos
    · have hkl : k < l.length := by omega
      have c0 := HCELL.out _ HB.out k hkl
      have hz := HLT.out k hlt
      obtain ⟨z, hze⟩ : ∃ z, z = l.getD k 0 := ⟨_, rfl⟩
      rw [← hze] at c0 hz
      clear hze
      have hd : decide ((k : Int) < (l.length : Int)) = true := decide_eq_true (by omega)
      have hd9 : decide (k < l.length) = true := decide_eq_true hkl
      have hd2 : decide (z < n) = true := decide_eq_true hz
      go_wp2
      go_roundw
      case rel => exact ⟨k + 1, by omega, by go_num, HB⟩
      case measure => simp [intOf]; omega
    · obtain rfl : k = pos := by omega
      have hws2 : w.heap.size ≤ wr.heap.size := HB.out.size
      have hki : (k : Int) ≤ (cap : Int) := by omega
      have hki2 : (k : Int) ≤ (l.length : Int) := by omega
      have hki3 : (0 : Int) ≤ (k : Int) := by omega
      have HST : Hid (∀ X, Below w.heap.size w X → ∀ j, j < k * 1 → ∃ b' off', some (⟨g, 0, none⟩ : Addr) = some ⟨b', off', none⟩ ∧ X.cell? ⟨b', off' + j, none⟩ = ((l.take k).map (Value.int .i64))[j]?) := Lib.hid (fun X h j hj => ⟨g, 0, rfl, by
        have hj1 : j < k := by omega
        rw [Nat.zero_add, HCELL.out X h j (by omega), List.getElem?_map, List.getElem?_take_of_lt hj1, List.getD_eq_getElem?_getD, List.getElem?_eq_getElem (show j < l.length by omega)]
        rfl⟩)
      have HSD : Hid (∀ X, Below w.heap.size w X → ∀ j, j < (l.length - k) * 1 → ∃ b' off', some (⟨g, k, none⟩ : Addr) = some ⟨b', off', none⟩ ∧ X.cell? ⟨b', off' + j, none⟩ = ((l.drop k).map (Value.int .i64))[j]?) := Lib.hid (fun X h j hj => ⟨g, k, rfl, by
        have hj1 : k + j < l.length := by omega
        rw [HCELL.out X h (k + j) hj1, List.getElem?_map, List.getElem?_drop, List.getD_eq_getElem?_getD, List.getElem?_eq_getElem hj1]
        rfl⟩)
      by_cases hkl : k < l.length
      · have c0 := HCELL.out _ HB.out k hkl
        have hz := HGE.out hkl
        obtain ⟨z, hze⟩ : ∃ z, z = l.getD k 0 := ⟨_, rfl⟩
        rw [← hze] at c0 hz
        clear hze
        have hd : decide ((k : Int) < (l.length : Int)) = true := decide_eq_true (by omega)
        have hd9 : decide (k < l.length) = true := decide_eq_true hkl
        have hd2 : decide (z < n) = false := decide_eq_false (by omega)
        have hne : ¬ z = n := by omega
        have hne2 : (z == n) = false := by simpa using hne
        have hck : ¬ cap = k := by omega
        go_wp2_with fail
        have FA := Lib.hid trivial
        go_region_held3 (fun _ => True) (trivial) (first | (have FG := FA; refine step_appendV rfl (.tmp 35) (.tmp 38) 31 rfl wr.heap.size 3 i0 (.int .i64 0) 1 8 Try.underlying31 hi hz0 hz1 hz2 rfl (by decide) _ _ _ rfl (own_zero wr 3 1).drew _ _ _ ((l.take k).map (Value.int .i64)) rfl (by rw [List.length_map, List.length_take, Nat.min_eq_left (by omega), Nat.mul_one]) (pints_one _) (fun e => by cases e) (HST.out _ (HB.out.trans (((Below.refl wr.heap.size wr).alloc (Nat.le_refl _) (.cells #[] 3)).drew.mono hws2))) (by omega) (by omega) ((Below.refl wr.heap.size wr).alloc (Nat.le_refl _) (.cells #[] 3)).drew.size ?_; intro v2 w3 hown2 hgrow2; rw [Nat.zero_add, List.nil_append] at hown2; have HBA := Lib.hid (below_app ((Below.refl wr.heap.size wr).alloc (Nat.le_refl _) (.cells #[] 3)).drew hgrow2 (own_zero wr 3 1).drew (Nat.le_refl _) ((Below.refl wr.heap.size wr).alloc (Nat.le_refl _) (.cells #[] 3)).drew.size); have FB1 := Lib.hid trivial; have HOA := Lib.hid hown2; clear FA FG hown2 hgrow2) | (have FG := FA; have OT := Lib.hid (pown_then wr 3 (.cells #[.int .i64 n] 3)); refine step_appendV rfl (.tmp 35) (.tmp 38) 31 rfl wr.heap.size 3 i0 (.int .i64 0) 1 8 Try.underlying31 hi hz0 hz1 hz2 rfl (by decide) _ _ _ rfl OT.out.1.drew _ _ _ ((l.take k).map (Value.int .i64)) rfl (by rw [List.length_map, List.length_take, Nat.min_eq_left (by omega), Nat.mul_one]) (pints_one _) (fun e => by cases e) (HST.out _ (HB.out.trans (OT.out.2.2.drew.mono hws2))) (by omega) (by omega) OT.out.2.2.drew.size ?_; intro v2 w3 hown2 hgrow2; rw [Nat.zero_add, List.nil_append] at hown2; have HBA := Lib.hid (below_app OT.out.2.2.drew hgrow2 OT.out.1.drew (Nat.le_refl _) OT.out.2.2.drew.size); have HS30 := Lib.hid ((hgrow2.block (wr.heap.size + 1) (by simp) (fun e => by have e2 : some (wr.heap.size + 1) = some wr.heap.size := e; simp at e2)).trans OT.out.2.1); have FB2 := Lib.hid trivial; have HOA := Lib.hid hown2; clear FA FG hown2 hgrow2) | (have FG := FA; have OT := Lib.hid (pown_behind wr 3 (.cells #[.int .i64 n] 3)); refine step_appendV rfl (.tmp 35) (.tmp 38) 31 rfl wr.heap.size 3 i0 (.int .i64 0) 1 8 Try.underlying31 hi hz0 hz1 hz2 rfl (by decide) _ _ _ rfl OT.out.1.drew _ _ _ ((l.take k).map (Value.int .i64)) rfl (by rw [List.length_map, List.length_take, Nat.min_eq_left (by omega), Nat.mul_one]) (pints_one _) (fun e => by cases e) (HST.out _ (HB.out.trans (OT.out.2.2.drew.mono hws2))) (by omega) (by omega) OT.out.2.2.drew.size ?_; intro v2 w3 hown2 hgrow2; rw [Nat.zero_add, List.nil_append] at hown2; have HBA := Lib.hid (below_app OT.out.2.2.drew hgrow2 OT.out.1.drew (Nat.le_refl _) OT.out.2.2.drew.size); have HS30 := Lib.hid ((hgrow2.block wr.heap.size (by simp; omega) (fun e => by have e2 : some wr.heap.size = some (wr.heap.size + 1) := e; simp at e2)).trans OT.out.2.1); have FB2 := Lib.hid trivial; have HOA := Lib.hid hown2; clear FA FG hown2 hgrow2) | (have FG := FB1; refine step_appendV rfl (.tmp 39) (.tmp 41) 31 rfl wr.heap.size 3 i0 (.int .i64 0) 1 8 Try.underlying31 hi hz0 hz1 hz2 rfl (by decide) _ _ _ rfl (HOA.out.alloc (.cells #[.int .i64 n] 3)) _ 1 1 [.int .i64 n] rfl rfl (by simp [Value.oneCell']) (fun e => by cases e) (oneI w3 _ _) (by omega) (by omega) (HBA.out.alloc HBA.out.size (.cells #[.int .i64 n] 3)).size ?_; intro v4 w5 hown4 hgrow4; have HBB := Lib.hid (below_app (HBA.out.alloc HBA.out.size (.cells #[.int .i64 n] 3)) hgrow4 (HOA.out.alloc (.cells #[.int .i64 n] 3)) (Nat.le_refl _) (HBA.out.alloc HBA.out.size (.cells #[.int .i64 n] 3)).size); have HOB := Lib.hid hown4; have FC := Lib.hid trivial; clear FB1 FG hown4 hgrow4) | (have FG := FB2; refine step_appendV rfl (.tmp 39) (.tmp 41) 31 rfl wr.heap.size 3 i0 (.int .i64 0) 1 8 Try.underlying31 hi hz0 hz1 hz2 rfl (by decide) _ _ _ rfl HOA.out _ 1 1 [.int .i64 n] rfl rfl (by simp [Value.oneCell']) (fun e => by cases e) (pblk1 HS30.out) (by omega) (by omega) HBA.out.size ?_; intro v4 w5 hown4 hgrow4; have HBB := Lib.hid (below_app HBA.out hgrow4 HOA.out (Nat.le_refl _) HBA.out.size); have HOB := Lib.hid hown4; have FC := Lib.hid trivial; clear FB2 FG hown4 hgrow4) | (have FG := FC; refine step_appendV rfl (.tmp 42) (.tmp 45) 31 rfl wr.heap.size 3 i0 (.int .i64 0) 1 8 Try.underlying31 hi hz0 hz1 hz2 rfl (by decide) _ _ _ rfl HOB.out _ _ _ ((l.drop k).map (Value.int .i64)) rfl (by rw [List.length_map, List.length_drop, Nat.mul_one]) (pints_one _) (fun e => by cases e) (HSD.out _ (HB.out.trans (HBB.out.mono hws2))) (by omega) (by omega) HBB.out.size ?_; intro v6 w7 hown6 hgrow6; have HBC := Lib.hid (below_app HBB.out hgrow6 HOB.out (Nat.le_refl _) HBB.out.size); have HOC := Lib.hid hown6; clear FC FG hown6 hgrow6))
        all_goals (go_wp2_with fail)
        all_goals go_ret
        all_goals exact ⟨_, rfl, by rw [HPL.out, HPUT.out]; exact ins_ints (l := l) (k := k) HOC.out rfl rfl (by omega) hws2, HB.out.trans (HBC.out.mono hws2)⟩
      · have hkl2 : k = l.length := by omega
        have hd : decide ((k : Int) < (l.length : Int)) = false := decide_eq_false (by omega)
        have hd9 : decide (k < l.length) = false := decide_eq_false hkl
        clear hpl hkl hlt
        subst hkl2
        rw [List.take_length] at HST
        by_cases hck : cap = l.length
        · obtain rfl := hck
          have FA := Lib.hid trivial
          go_wp2_with fail
          go_region_held3 (fun _ => True) (trivial) (first | (have FG := FA; refine step_appendV rfl (.tmp 35) (.tmp 38) 31 rfl wr.heap.size 3 i0 (.int .i64 0) 1 8 Try.underlying31 hi hz0 hz1 hz2 rfl (by decide) _ _ _ rfl (own_zero wr 3 1).drew _ _ _ (l.map (Value.int .i64)) rfl (by rw [List.length_map, Nat.mul_one]) (pints_one _) (fun e => by cases e) (HST.out _ (HB.out.trans (((Below.refl wr.heap.size wr).alloc (Nat.le_refl _) (.cells #[] 3)).drew.mono hws2))) (by omega) (by omega) ((Below.refl wr.heap.size wr).alloc (Nat.le_refl _) (.cells #[] 3)).drew.size ?_; intro v2 w3 hown2 hgrow2; rw [Nat.zero_add, List.nil_append] at hown2; have HBA := Lib.hid (below_app ((Below.refl wr.heap.size wr).alloc (Nat.le_refl _) (.cells #[] 3)).drew hgrow2 (own_zero wr 3 1).drew (Nat.le_refl _) ((Below.refl wr.heap.size wr).alloc (Nat.le_refl _) (.cells #[] 3)).drew.size); have FB1 := Lib.hid trivial; have HOA := Lib.hid hown2; clear FA FG hown2 hgrow2) | (have FG := FA; have OT := Lib.hid (pown_then wr 3 (.cells #[.int .i64 n] 3)); refine step_appendV rfl (.tmp 35) (.tmp 38) 31 rfl wr.heap.size 3 i0 (.int .i64 0) 1 8 Try.underlying31 hi hz0 hz1 hz2 rfl (by decide) _ _ _ rfl OT.out.1.drew _ _ _ (l.map (Value.int .i64)) rfl (by rw [List.length_map, Nat.mul_one]) (pints_one _) (fun e => by cases e) (HST.out _ (HB.out.trans (OT.out.2.2.drew.mono hws2))) (by omega) (by omega) OT.out.2.2.drew.size ?_; intro v2 w3 hown2 hgrow2; rw [Nat.zero_add, List.nil_append] at hown2; have HBA := Lib.hid (below_app OT.out.2.2.drew hgrow2 OT.out.1.drew (Nat.le_refl _) OT.out.2.2.drew.size); have HS30 := Lib.hid ((hgrow2.block (wr.heap.size + 1) (by simp) (fun e => by have e2 : some (wr.heap.size + 1) = some wr.heap.size := e; simp at e2)).trans OT.out.2.1); have FB2 := Lib.hid trivial; have HOA := Lib.hid hown2; clear FA FG hown2 hgrow2) | (have FG := FA; have OT := Lib.hid (pown_behind wr 3 (.cells #[.int .i64 n] 3)); refine step_appendV rfl (.tmp 35) (.tmp 38) 31 rfl wr.heap.size 3 i0 (.int .i64 0) 1 8 Try.underlying31 hi hz0 hz1 hz2 rfl (by decide) _ _ _ rfl OT.out.1.drew _ _ _ (l.map (Value.int .i64)) rfl (by rw [List.length_map, Nat.mul_one]) (pints_one _) (fun e => by cases e) (HST.out _ (HB.out.trans (OT.out.2.2.drew.mono hws2))) (by omega) (by omega) OT.out.2.2.drew.size ?_; intro v2 w3 hown2 hgrow2; rw [Nat.zero_add, List.nil_append] at hown2; have HBA := Lib.hid (below_app OT.out.2.2.drew hgrow2 OT.out.1.drew (Nat.le_refl _) OT.out.2.2.drew.size); have HS30 := Lib.hid ((hgrow2.block wr.heap.size (by simp; omega) (fun e => by have e2 : some wr.heap.size = some (wr.heap.size + 1) := e; simp at e2)).trans OT.out.2.1); have FB2 := Lib.hid trivial; have HOA := Lib.hid hown2; clear FA FG hown2 hgrow2) | (have FG := FB1; refine step_appendV rfl (.tmp 39) (.tmp 41) 31 rfl wr.heap.size 3 i0 (.int .i64 0) 1 8 Try.underlying31 hi hz0 hz1 hz2 rfl (by decide) _ _ _ rfl (HOA.out.alloc (.cells #[.int .i64 n] 3)) _ 1 1 [.int .i64 n] rfl rfl (by simp [Value.oneCell']) (fun e => by cases e) (oneI w3 _ _) (by omega) (by omega) (HBA.out.alloc HBA.out.size (.cells #[.int .i64 n] 3)).size ?_; intro v4 w5 hown4 hgrow4; have HBB := Lib.hid (below_app (HBA.out.alloc HBA.out.size (.cells #[.int .i64 n] 3)) hgrow4 (HOA.out.alloc (.cells #[.int .i64 n] 3)) (Nat.le_refl _) (HBA.out.alloc HBA.out.size (.cells #[.int .i64 n] 3)).size); have HOB := Lib.hid hown4; have FC := Lib.hid trivial; clear FB1 FG hown4 hgrow4) | (have FG := FB2; refine step_appendV rfl (.tmp 39) (.tmp 41) 31 rfl wr.heap.size 3 i0 (.int .i64 0) 1 8 Try.underlying31 hi hz0 hz1 hz2 rfl (by decide) _ _ _ rfl HOA.out _ 1 1 [.int .i64 n] rfl rfl (by simp [Value.oneCell']) (fun e => by cases e) (pblk1 HS30.out) (by omega) (by omega) HBA.out.size ?_; intro v4 w5 hown4 hgrow4; have HBB := Lib.hid (below_app HBA.out hgrow4 HOA.out (Nat.le_refl _) HBA.out.size); have HOB := Lib.hid hown4; have FC := Lib.hid trivial; clear FB2 FG hown4 hgrow4) | (have FG := FC; refine step_appendV rfl (.tmp 42) (.tmp 45) 31 rfl wr.heap.size 3 i0 (.int .i64 0) 1 8 Try.underlying31 hi hz0 hz1 hz2 rfl (by decide) _ _ _ rfl HOB.out _ _ _ ([] : List Value) rfl (by first | rfl | simp | omega) (by simp) (fun e => by first | cases e | omega | simp_all) (fun j hj => by exfalso; omega) (by omega) (by omega) HBB.out.size ?_; intro v6 w7 hown6 hgrow6; have HBC := Lib.hid (below_app HBB.out hgrow6 HOB.out (Nat.le_refl _) HBB.out.size); have HOC := Lib.hid hown6; clear FC FG hown6 hgrow6))
          all_goals (go_wp2_with fail)
          all_goals go_ret
          all_goals exact ⟨_, rfl, by rw [HPL.out, HPUT.out]; exact ins_ints (l := l) (k := l.length) HOC.out (by rw [List.take_length]) (by simp) (by omega) hws2, HB.out.trans (HBC.out.mono hws2)⟩
        · have hck2 : ¬ (cap : Int) = (l.length : Int) := by omega
          have FA := Lib.hid trivial
          go_wp2_with fail
          go_region_held3 (fun _ => True) (trivial) (first | (have FG := FA; refine step_appendV rfl (.tmp 35) (.tmp 38) 31 rfl wr.heap.size 3 i0 (.int .i64 0) 1 8 Try.underlying31 hi hz0 hz1 hz2 rfl (by decide) _ _ _ rfl (own_zero wr 3 1).drew _ _ _ (l.map (Value.int .i64)) rfl (by rw [List.length_map, Nat.mul_one]) (pints_one _) (fun e => by cases e) (HST.out _ (HB.out.trans (((Below.refl wr.heap.size wr).alloc (Nat.le_refl _) (.cells #[] 3)).drew.mono hws2))) (by omega) (by omega) ((Below.refl wr.heap.size wr).alloc (Nat.le_refl _) (.cells #[] 3)).drew.size ?_; intro v2 w3 hown2 hgrow2; rw [Nat.zero_add, List.nil_append] at hown2; have HBA := Lib.hid (below_app ((Below.refl wr.heap.size wr).alloc (Nat.le_refl _) (.cells #[] 3)).drew hgrow2 (own_zero wr 3 1).drew (Nat.le_refl _) ((Below.refl wr.heap.size wr).alloc (Nat.le_refl _) (.cells #[] 3)).drew.size); have FB1 := Lib.hid trivial; have HOA := Lib.hid hown2; clear FA FG hown2 hgrow2) | (have FG := FA; have OT := Lib.hid (pown_then wr 3 (.cells #[.int .i64 n] 3)); refine step_appendV rfl (.tmp 35) (.tmp 38) 31 rfl wr.heap.size 3 i0 (.int .i64 0) 1 8 Try.underlying31 hi hz0 hz1 hz2 rfl (by decide) _ _ _ rfl OT.out.1.drew _ _ _ (l.map (Value.int .i64)) rfl (by rw [List.length_map, Nat.mul_one]) (pints_one _) (fun e => by cases e) (HST.out _ (HB.out.trans (OT.out.2.2.drew.mono hws2))) (by omega) (by omega) OT.out.2.2.drew.size ?_; intro v2 w3 hown2 hgrow2; rw [Nat.zero_add, List.nil_append] at hown2; have HBA := Lib.hid (below_app OT.out.2.2.drew hgrow2 OT.out.1.drew (Nat.le_refl _) OT.out.2.2.drew.size); have HS30 := Lib.hid ((hgrow2.block (wr.heap.size + 1) (by simp) (fun e => by have e2 : some (wr.heap.size + 1) = some wr.heap.size := e; simp at e2)).trans OT.out.2.1); have FB2 := Lib.hid trivial; have HOA := Lib.hid hown2; clear FA FG hown2 hgrow2) | (have FG := FA; have OT := Lib.hid (pown_behind wr 3 (.cells #[.int .i64 n] 3)); refine step_appendV rfl (.tmp 35) (.tmp 38) 31 rfl wr.heap.size 3 i0 (.int .i64 0) 1 8 Try.underlying31 hi hz0 hz1 hz2 rfl (by decide) _ _ _ rfl OT.out.1.drew _ _ _ (l.map (Value.int .i64)) rfl (by rw [List.length_map, Nat.mul_one]) (pints_one _) (fun e => by cases e) (HST.out _ (HB.out.trans (OT.out.2.2.drew.mono hws2))) (by omega) (by omega) OT.out.2.2.drew.size ?_; intro v2 w3 hown2 hgrow2; rw [Nat.zero_add, List.nil_append] at hown2; have HBA := Lib.hid (below_app OT.out.2.2.drew hgrow2 OT.out.1.drew (Nat.le_refl _) OT.out.2.2.drew.size); have HS30 := Lib.hid ((hgrow2.block wr.heap.size (by simp; omega) (fun e => by have e2 : some wr.heap.size = some (wr.heap.size + 1) := e; simp at e2)).trans OT.out.2.1); have FB2 := Lib.hid trivial; have HOA := Lib.hid hown2; clear FA FG hown2 hgrow2) | (have FG := FB1; refine step_appendV rfl (.tmp 39) (.tmp 41) 31 rfl wr.heap.size 3 i0 (.int .i64 0) 1 8 Try.underlying31 hi hz0 hz1 hz2 rfl (by decide) _ _ _ rfl (HOA.out.alloc (.cells #[.int .i64 n] 3)) _ 1 1 [.int .i64 n] rfl rfl (by simp [Value.oneCell']) (fun e => by cases e) (oneI w3 _ _) (by omega) (by omega) (HBA.out.alloc HBA.out.size (.cells #[.int .i64 n] 3)).size ?_; intro v4 w5 hown4 hgrow4; have HBB := Lib.hid (below_app (HBA.out.alloc HBA.out.size (.cells #[.int .i64 n] 3)) hgrow4 (HOA.out.alloc (.cells #[.int .i64 n] 3)) (Nat.le_refl _) (HBA.out.alloc HBA.out.size (.cells #[.int .i64 n] 3)).size); have HOB := Lib.hid hown4; have FC := Lib.hid trivial; clear FB1 FG hown4 hgrow4) | (have FG := FB2; refine step_appendV rfl (.tmp 39) (.tmp 41) 31 rfl wr.heap.size 3 i0 (.int .i64 0) 1 8 Try.underlying31 hi hz0 hz1 hz2 rfl (by decide) _ _ _ rfl HOA.out _ 1 1 [.int .i64 n] rfl rfl (by simp [Value.oneCell']) (fun e => by cases e) (pblk1 HS30.out) (by omega) (by omega) HBA.out.size ?_; intro v4 w5 hown4 hgrow4; have HBB := Lib.hid (below_app HBA.out hgrow4 HOA.out (Nat.le_refl _) HBA.out.size); have HOB := Lib.hid hown4; have FC := Lib.hid trivial; clear FB2 FG hown4 hgrow4) | (have FG := FC; refine step_appendV rfl (.tmp 42) (.tmp 45) 31 rfl wr.heap.size 3 i0 (.int .i64 0) 1 8 Try.underlying31 hi hz0 hz1 hz2 rfl (by decide) _ _ _ rfl HOB.out _ _ _ ([] : List Value) rfl (by first | rfl | simp | omega) (by simp) (fun e => by first | cases e | omega | simp_all) (fun j hj => by exfalso; omega) (by omega) (by omega) HBB.out.size ?_; intro v6 w7 hown6 hgrow6; have HBC := Lib.hid (below_app HBB.out hgrow6 HOB.out (Nat.le_refl _) HBB.out.size); have HOC := Lib.hid hown6; clear FC FG hown6 hgrow6))
          all_goals (go_wp2_with fail)
          all_goals go_ret
          all_goals exact ⟨_, rfl, by rw [HPL.out, HPUT.out]; exact ins_ints (l := l) (k := l.length) HOC.out (by rw [List.take_length]) (by simp) (by omega) hws2, HB.out.trans (HBC.out.mono hws2)⟩
end Go.Proofs.Ytpcmobbenhppbaa
namespace Go.Proofs.Ytpcmobbenhppbaa
open Go.RowKit

theorem scross_cells {W : World} {base m cap : Nat} {e : TypeId} {a0 : Option Addr} {l : List CrossV} (h : W.ownsRow base e 5 (.slice a0 m cap) m (row_Crossing l)) (hn : m = l.length) :
    ∀ j, j < l.length → ∃ b, a0 = some ⟨b, 0, none⟩ ∧ W.cell? ⟨b, j * 5, none⟩ = some (.int .i64 (l.getD j none_Crossing).1) ∧ W.cell? ⟨b, j * 5 + 1, none⟩ = some (.int .i64 (l.getD j none_Crossing).2.1) := by
  subst hn
  intro j hj
  have h2 := h.2
  rcases h2 with ⟨e1, e2⟩ | ⟨g, cap', cur, e1, -⟩
  · omega
  · cases e1
    have hat : ∀ r, r < 5 → W.cell? ⟨g, j * 5 + r, none⟩ = (cells_Crossing (l.getD j none_Crossing))[r]? := fun r hr => by
      rw [h.cellAt (j * 5 + r) (by omega), row_Crossing_at l j hj r hr]
      simp [List.getD, hj]
    exact ⟨g, rfl, hat 0 (by decide), hat 1 (by decide)⟩
theorem stake_getDC {l : List CrossV} {k : Nat} (h : k < l.length) : l.take (k + 1) = l.take k ++ [l.getD k none_Crossing] := by
  rw [List.take_succ_eq_append_getElem h, List.getD_eq_getElem?_getD, List.getElem?_eq_getElem h]
  rfl
theorem crossS_apart {g : Int × Int × ByteArray} {x : CrossV} (h : x ∈ crossS g) : x.1 < x.2.1 := by
  unfold crossS crossTo at h
  obtain ⟨k, -, hk⟩ := List.mem_flatMap.1 h
  obtain ⟨i, j, -, rfl, hij, -⟩ := crossAt_mem hk
  show (i : Int) < (j : Int)
  omega
theorem crossS_len36 (g : Int × Int × ByteArray) : (crossS g).length ≤ 36 := by
  by_cases hg : isG g = true
  · unfold crossS
    exact Nat.le_trans (scrossTo_len _ _ _) (isG_size hg)
  · rw [crossS_no (by simpa using hg)]
    simp
theorem getDC_in {l : List CrossV} {k : Nat} (h : k < l.length) : l.getD k none_Crossing ∈ l := by simp [List.getD, h]
/-- The numbers up to a crossing, put in their places: the next one is new. -/
theorem put_next {q : Int} {X : List CrossV} (hn : (othersL q X).Nodup) {k : Nat} (hk : k < X.length) {n : Int} (e : otherX q (X.getD k none_Crossing) = [n]) :
    n ∉ putAll (othersL q (X.take k)) ∧ putAll (othersL q (X.take (k + 1))) = putI (putAll (othersL q (X.take k))) n := by
  have e1 : othersL q (X.take (k + 1)) = othersL q (X.take k) ++ [n] := by rw [stake_getDC hk, othersL_next, e]
  have e2 : othersL q X = othersL q (X.take (k + 1)) ++ othersL q (X.drop (k + 1)) := by
    unfold othersL
    rw [← List.flatMap_append, List.take_append_drop]
  rw [e2, e1, List.nodup_append, List.nodup_append] at hn
  obtain ⟨⟨h1, -, h3⟩, -, -⟩ := hn
  refine ⟨fun h => ?_, by rw [e1, putAll_next]⟩
  have h4 := ((putAll_sorted h1).1.mem_iff).1 h
  exact h3 n h4 n (by simp) rfl
theorem put_same {q : Int} {X : List CrossV} {k : Nat} (hk : k < X.length) (e : otherX q (X.getD k none_Crossing) = []) : putAll (othersL q (X.take (k + 1))) = putAll (othersL q (X.take k)) := by
  rw [stake_getDC hk, othersL_next, e, List.append_nil]
theorem put_len {q : Int} {X : List CrossV} (hn : (othersL q X).Nodup) (k : Nat) : (putAll (othersL q (X.take k))).length ≤ X.length := by
  have e2 : othersL q X = othersL q (X.take k) ++ othersL q (X.drop k) := by
    unfold othersL
    rw [← List.flatMap_append, List.take_append_drop]
  rw [e2, List.nodup_append] at hn
  rw [(putAll_sorted hn.1).1.length_eq]
  refine Nat.le_trans (othersL_len q _) ?_
  rw [List.length_take]
  exact Nat.min_le_right _ _
set_option maxRecDepth 100000 in
set_option maxHeartbeats 1600000 in
theorem scb_any (r c : Int) (s : ByteArray) (q : Int) (hs : s.size ≤ 4194304) (w : World) :
    Calls Try.prog 27 #[.agg #[.int .i64 r, .int .i64 c, .string s], .int .i64 q] w fun e w' => ∃ v, e = .returned v ∧ w'.ownsRow w.heap.size 3 1 v (crossedS (r, c, s) q).length ((crossedS (r, c, s) q).map (Value.int .i64)) ∧ Below w.heap.size w w' := by
  have HCR := Lib.hid (fun w => scr_any r c s hs w)
  have HND := Lib.hid (others_nodup (r, c, s) q)
  have HCS : Hid (crossedS (r, c, s) q = putAll (othersL q (crossS (r, c, s)))) := Lib.hid rfl
  have HCL := Lib.hid (crossS_len36 (r, c, s))
  have HAP := Lib.hid (fun x h => crossS_apart (g := (r, c, s)) (x := x) h)
  rw [HCS.out]
  clear HCS
  obtain ⟨X, hX⟩ : ∃ X, X = crossS (r, c, s) := ⟨_, rfl⟩
  rw [← hX] at HCR HND HCL HAP ⊢
  clear hX
  have hx36 := HCL.out
  have HW : Hid (Below w.heap.size w (w.alloc (.cells #[.int .i64 r, .int .i64 c, .string s] 25))) := Lib.hid ((Below.refl _ _).alloc (Nat.le_refl _) _)
  have HKP := Lib.hid (box3_all w r c s 25)
  obtain ⟨W0, hW0⟩ : ∃ W0, W0 = w.alloc (.cells #[.int .i64 r, .int .i64 c, .string s] 25) := ⟨_, rfl⟩
  have hws : W0.heap.size = w.heap.size + 1 := by rw [hW0]; simp
  have HO0 : Hid ((W0.alloc (.cells #[] 3)).ownsRow W0.heap.size 3 1 (.slice (some ⟨w.heap.size + 1, 0, none⟩) 0 0) 0 []) := Lib.hid (by rw [← hws]; exact own_zero W0 3 1)
  have HB0 := Lib.hid ((Below.refl W0.heap.size W0).alloc (Nat.le_refl _) (.cells #[] 3))
  rw [← hW0] at HW HKP
  obtain ⟨d0, d1, d2⟩ := HKP.out _ HB0.out
  go_enter Try.func27, Try.ntmps27
  go_wp2_with fail
  rw [← hW0]
  clear hW0
  go_wp2_with (go_at_call 20; refine (HCR.out _).mono ?_; rintro e w2 ⟨v2, rfl, o2, b2⟩; obtain ⟨a0, cap, rfl⟩ := ownV_slice o2; have HL2 := Lib.hid (own_widen o2 HB0.out.size); have HO2 := Lib.hid (ownV_later HO0.out b2); have HB2 := Lib.hid (HB0.out.trans (b2.mono HB0.out.size)); clear o2 b2)
  go_loopw [5, 7] (fun o i wr => ∃ k g cap2 : Nat, k ≤ X.length ∧ i = .int .i64 (k : Int) ∧ o = .slice (some ⟨g, 0, none⟩) (putAll (othersL q (X.take k))).length cap2 ∧ Hid (wr.ownsRow W0.heap.size 3 1 (.slice (some ⟨g, 0, none⟩) (putAll (othersL q (X.take k))).length cap2) (putAll (othersL q (X.take k))).length ((putAll (othersL q (X.take k))).map (Value.int .i64))) ∧ Hid (wr.ownsRow W0.heap.size 36 5 (.slice a0 X.length cap) X.length (row_Crossing X)) ∧ Hid (Below W0.heap.size W0 wr)) (fun _ i _ => X.length - (intOf i).toNat)
  case atStart => exact ⟨0, _, _, Nat.zero_le _, rfl, rfl, HO2, HL2, HB2⟩
  case round =>
    clear HO0 HB0 d0 d1 d2 HL2 HO2 HB2
    obtain ⟨k, g, cap2, hk, rfl, rfl, HO, HL, HB⟩ := hrel
    by_cases hlt : k < X.length
    · have hd : decide ((k : Int) < (X.length : Int)) = true := decide_eq_true (by omega)
      have hd9 : decide (k < X.length) = true := decide_eq_true hlt
      obtain ⟨b, rfl, q0, q1⟩ := scross_cells HL.out rfl k hlt
      have HPN := Lib.hid (fun n e => put_next HND.out hlt (n := n) e)
      have HPS := Lib.hid (fun e => put_same (q := q) hlt e)
      have HPL := Lib.hid (put_len HND.out k)
      have HPM := Lib.hid (HAP.out _ (getDC_in hlt))
      have HBB : Hid (∀ W, Below wr.heap.size wr W → W.cell? ⟨b, k * 5 + 1, none⟩ = some (.int .i64 (X.getD k none_Crossing).2.1)) := Lib.hid (fun W h => (h.cell (p := ⟨b, k * 5 + 1, none⟩) (HL.out.lt b rfl).2).trans q1)
      obtain ⟨y, hy⟩ : ∃ y, y = X.getD k none_Crossing := ⟨_, rfl⟩
      rw [← hy] at q0 q1 HPN HPS HPM HBB
      clear hy
      obtain ⟨A, hA⟩ : ∃ A, A = putAll (othersL q (X.take k)) := ⟨_, rfl⟩
      obtain ⟨A2, hA2⟩ : ∃ A2, A2 = putAll (othersL q (X.take (k + 1))) := ⟨_, rfl⟩
      rw [← hA] at HO HPN HPS HPL ⊢
      rw [← hA2] at HPN HPS
      have HA2 := Lib.hid hA2
      clear hA hA2
      obtain ⟨y0, y1, y2, y3, y4⟩ := y
      simp only [otherX] at q0 q1 HPN HPS HPM HBB
      have hpm : y0 < y1 := HPM.out
      have ha36 : A.length ≤ 36 := by have := HPL.out; omega
      clear HPL
      by_cases e0 : y0 = q
      · have hne1 : ¬ y1 = q := by omega
        have hne2 : (y1 == q) = false := by simpa using hne1
        have HP := Lib.hid (HPN.out y1 (by rw [if_pos e0]))
        clear HPN HPS
        have HPU := Lib.hid (fun w h => sput_any A y1 HP.out.1 (by omega) W0.heap.size g cap2 w h)
        subst e0
        go_wp2_with (go_at_call 50; refine (HPU.out _ HO.out).mono ?_; rintro e w7 ⟨v7, rfl, o7, b7⟩; obtain ⟨a7, cap7, rfl⟩ := ownV_slice o7; have HO7 := Lib.hid (own_widen o7 HB.out.size); have HL7 := Lib.hid (ownV_later HL.out b7); have HB7 := Lib.hid (HB.out.trans (b7.mono HB.out.size)); have r1 := HBB.out _ b7; clear o7 b7)
        have HLA : Hid ((putI A y1).length = A.length + 1) := Lib.hid (putI_len HP.out.1)
        obtain ⟨g7, hg7⟩ : ∃ g7, a7 = some ⟨g7, 0, none⟩ := by
          rcases HO7.out.2 with ⟨e, -⟩ | ⟨g7, cap9, cur, e, -⟩
          · injection e with _ e8 _
            have := HLA.out
            omega
          · cases e; exact ⟨g7, rfl⟩
        subst hg7
        have HAE : Hid (putI A y1 = putAll (othersL y0 (X.take (k + 1)))) := Lib.hid (by rw [← HP.out.2]; exact HA2.out)
        rw [HAE.out] at HO7
        clear HA2 HP HLA HPU
        go_roundw
        case rel => exact ⟨k + 1, g7, cap7, by omega, by go_num, by rw [HAE.out], HO7, HL7, HB7⟩
        case measure => simp [intOf]; omega
      · have hne0 : (y0 == q) = false := by simpa using e0
        by_cases e1 : y1 = q
        · have HP := Lib.hid (HPN.out y0 (by rw [if_neg e0, if_pos e1]))
          clear HPN HPS
          have HPU := Lib.hid (fun w h => sput_any A y0 HP.out.1 (by omega) W0.heap.size g cap2 w h)
          subst e1
          go_wp2_with (go_at_call 50; refine (HPU.out _ HO.out).mono ?_; rintro e w7 ⟨v7, rfl, o7, b7⟩; obtain ⟨a7, cap7, rfl⟩ := ownV_slice o7; have HO7 := Lib.hid (own_widen o7 HB.out.size); have HL7 := Lib.hid (ownV_later HL.out b7); have HB7 := Lib.hid (HB.out.trans (b7.mono HB.out.size)); clear o7 b7)
          have HLA : Hid ((putI A y0).length = A.length + 1) := Lib.hid (putI_len HP.out.1)
          obtain ⟨g7, hg7⟩ : ∃ g7, a7 = some ⟨g7, 0, none⟩ := by
            rcases HO7.out.2 with ⟨e, -⟩ | ⟨g7, cap9, cur, e, -⟩
            · injection e with _ e8 _
              have := HLA.out
              omega
            · cases e; exact ⟨g7, rfl⟩
          subst hg7
          have HAE : Hid (putI A y0 = putAll (othersL y1 (X.take (k + 1)))) := Lib.hid (by rw [← HP.out.2]; exact HA2.out)
          rw [HAE.out] at HO7
          clear HA2 HP HLA HPU
          go_roundw
          case rel => exact ⟨k + 1, g7, cap7, by omega, by go_num, by rw [HAE.out], HO7, HL7, HB7⟩
          case measure => simp [intOf]; omega
        · have hne1 : (y1 == q) = false := by simpa using e1
          have HAE : Hid (A = putAll (othersL q (X.take (k + 1)))) := Lib.hid (by rw [← HPS.out (by rw [if_neg e0, if_neg e1])]; exact HA2.out)
          clear HPN HPS
          go_wp2_with fail
          rw [HAE.out] at HO
          clear HA2
          go_roundw
          case rel => exact ⟨k + 1, g, cap2, by omega, by go_num, by rw [HAE.out], HO, HL, HB⟩
          case measure => simp [intOf]; omega
    · have hd : decide ((k : Int) < (X.length : Int)) = false := decide_eq_false (by omega)
      have hd9 : decide (k < X.length) = false := decide_eq_false hlt
      have HEQ : Hid (putAll (othersL q (X.take k)) = putAll (othersL q X)) := Lib.hid (by rw [show k = X.length by omega, List.take_length])
      rw [HEQ.out] at HO ⊢
      go_wp2
      go_ret
      exact ⟨_, rfl, own_widen HO.out (by omega), HW.out.trans (HB.out.mono HW.out.size)⟩
end Go.Proofs.Ytpcmobbenhppbaa
