/-
  The program's contracts of chapter 8, tenth part: SlotsAt.
-/
import Derived.Test.YtmhgejljjjmejaaDoorSlotImplI
namespace Go.Proofs.YtmhgejljjjmejaaDoor
open Go.RowKit

theorem block_app {W W' : World} {base C n s : Nat} {e T : TypeId} {v : Value} {xs : List Value} {x : Array Value} {mk : Nat × Nat} (h : W.heap[C]? = some (.cells x T mk)) (ho : W.ownsRow base e s v n xs) (hT : T ≠ e) (hg : W.grownBy W' v.ownBlock) : W'.heap[C]? = some (.cells x T mk) := by
  refine (hg.block C (Array.getElem?_eq_some_iff.1 h).1 (fun e9 => ?_)).trans h
  rcases ho.2 with ⟨rfl, -⟩ | ⟨g, cap, cur, rfl, -, hb, -⟩
  · cases e9
  · have e8 : C = g := by simpa [Value.ownBlock] using e9
    subst e8
    rw [h] at hb
    cases hb
    exact hT rfl
set_option maxRecDepth 100000 in
set_option maxHeartbeats 3200000 in
theorem isat_any (r c : Int) (s : ByteArray) (q : Int) (hs : s.size ≤ 4194304) (w : World) :
    Calls Tryd.prog 14 #[.agg #[.int .i64 r, .int .i64 c, .string s], .int .i64 q] w fun e w' => ∃ v, e = .returned v ∧ w'.ownsRow w.heap.size 3 1 v (atS (slG (r, c, s)) c q).length ((atS (slG (r, c, s)) c q).map (Value.int .i64)) ∧ Below w.heap.size w w' := by
  obtain ⟨i0, hi, hz0, hz1, hz2⟩ := info_parts info_int
  have HBO := Lib.hid (fun w => ibo_any r c s hs w)
  have HSB := Lib.hid (fun w => slots_brd (r, c, s) w)
  have HLEN := Lib.hid (slG_length (r, c, s))
  have HCO : Hid (∀ x ∈ slG (r, c, s), ∀ w : World, Calls Tryd.prog 21 #[brdV (brd (r, c, s)), .agg #[.int .i64 x.1, .bool x.2.1, .int .i64 x.2.2.1, .int .i64 x.2.2.2]] w fun e w' => ∃ v, e = .returned v ∧ w'.ownsRow w.heap.size 3 1 v (cellsS c x).length ((cellsS c x).map (Value.int .i64)) ∧ Below w.heap.size w w') := Lib.hid (fun x h w => by
    have hcol := brd_col h
    obtain ⟨-, h1, h2, h3, -⟩ := slG_small h
    have h9 := icellsof_any (brd (r, c, s)).1 (brd (r, c, s)).2.1 ((brd (r, c, s)).2.2 : Int) x.1 x.2.1 x.2.2.1 x.2.2.2 (by rw [hcol]; exact h1) h2 h3 w
    rw [hcol] at h9
    unfold brdV
    rw [hcol]
    exact h9)
  have HSM := Lib.hid (fun x hx => slG_small (g := (r, c, s)) (x := x) hx)
  obtain ⟨l, hl⟩ : ∃ l, l = slG (r, c, s) := ⟨_, rfl⟩
  rw [← hl] at HSB HCO HLEN HSM ⊢
  clear hl
  have hl72 := HLEN.out
  have HAT : Hid (atS l c q = atSn l c q l.length) := Lib.hid rfl
  obtain ⟨⟨b0, b1, b2⟩, hb⟩ : ∃ b, b = brd (r, c, s) := ⟨_, rfl⟩
  rw [← hb] at HBO HSB HCO
  clear hb
  simp only [brdV] at HBO HSB HCO
  go_enter Tryd.func14, Tryd.ntmps14
  go_wp2_with (go_at_call 17; refine (HBO.out _).mono ?_; rintro e w1 ⟨rfl, bb1⟩; have HB1 := Lib.hid (box1_of bb1); clear bb1)
  obtain ⟨Q, hQ⟩ : ∃ Q, Q = w1.heap.size := ⟨_, rfl⟩
  obtain ⟨W2, hW2⟩ : ∃ W2, W2 = w1.alloc (.cells #[.int .i64 b0, .int .i64 b1, .int .u64 (b2 : Int)] 43) := ⟨_, rfl⟩
  have hs2 : W2.heap.size = Q + 1 := by rw [hW2, hQ]; simp
  have HX2 : Hid (W2.heap[Q]? = some (.cells #[.int .i64 b0, .int .i64 b1, .int .u64 (b2 : Int)] 43)) := Lib.hid (by rw [hW2, hQ]; exact new_block w1 _)
  have HB2 : Hid (Below w.heap.size w W2) := Lib.hid (by rw [hW2]; exact HB1.out.alloc HB1.out.size _)
  obtain ⟨W3, hW3⟩ : ∃ W3, W3 = W2.alloc (.cells #[] 3) := ⟨_, rfl⟩
  have HX3 : Hid (W3.heap[Q]? = some (.cells #[.int .i64 b0, .int .i64 b1, .int .u64 (b2 : Int)] 43)) := Lib.hid (by rw [hW3]; exact (Below.heap_alloc W2 _ Q (by omega)).trans HX2.out)
  have HB3 : Hid (Below w.heap.size w W3) := Lib.hid (by rw [hW3]; exact HB2.out.alloc HB2.out.size _)
  have HO3 : Hid (W3.ownsRow w.heap.size 3 1 (.slice (some ⟨Q + 1, 0, none⟩) 0 0) 0 []) := Lib.hid (by rw [hW3, ← hs2]; exact own_widen (own_zero W2 3 1) HB2.out.size)
  rw [← hQ, ← hW2, ← hW3]
  clear hW2 hW3 hs2 HX2 HB2 hQ HB1 W2
  have HBK : Hid (∀ W : World, W.heap[Q]? = some (.cells #[.int .i64 b0, .int .i64 b1, .int .u64 (b2 : Int)] 43) → W.cell? ⟨Q, 0, none⟩ = some (.int .i64 b0) ∧ W.cell? ⟨Q, 1, none⟩ = some (.int .i64 b1) ∧ W.cell? ⟨Q, 2, none⟩ = some (.int .u64 (b2 : Int))) := Lib.hid (fun W h => ⟨Joins.cell_of_block h 0, Joins.cell_of_block h 1, Joins.cell_of_block h 2⟩)
  go_wp2_with (go_at_call 18; refine (HSB.out _).mono ?_; rintro e w4 ⟨v4, rfl, o4, b4⟩; obtain ⟨a0, cap, rfl⟩ := ownV_slice o4; have HL4 := Lib.hid (own_widen o4 HB3.out.size); have HO4 := Lib.hid (ownV_later HO3.out b4); have HX4 := Lib.hid ((b4.block Q (Array.getElem?_eq_some_iff.1 HX3.out).1).trans HX3.out); have HB4 := Lib.hid (HB3.out.trans (b4.mono HB3.out.size)); clear o4 b4)
  go_loopw [7, 19] (fun o i wr => ∃ k : Nat, k ≤ l.length ∧ i = .int .i64 k ∧ Hid (wr.ownsRow w.heap.size 3 1 o (atSn l c q k).length ((atSn l c q k).map (Value.int .i64))) ∧ Hid (wr.ownsRow w.heap.size 33 4 (.slice a0 l.length cap) l.length (row_Slot l)) ∧ Hid (wr.heap[Q]? = some (.cells #[.int .i64 b0, .int .i64 b1, .int .u64 (b2 : Int)] 43)) ∧ Hid (Below w.heap.size w wr)) (fun _ i _ => l.length - (intOf i).toNat)
  case atStart => exact ⟨0, Nat.zero_le _, rfl, HO4, HL4, HX4, HB4⟩
  case round =>
    clear HO3 HX3 HB3 HO4 HL4 HX4 HB4
    obtain ⟨k, hk, rfl, HO, HL, HX, HB⟩ := hrel
    by_cases hlt : k < l.length
    · have hd : decide ((k : Int) < (l.length : Int)) = true := decide_eq_true (by omega)
      have hd9 : decide (k < l.length) = true := decide_eq_true hlt
      obtain ⟨b, rfl, q0, q1, q2, q3⟩ := slot_cells HL.out rfl k hlt
      have HI := Lib.hid (getD_in hlt)
      have HNX := Lib.hid (atSn_next l c q k)
      have HLN := Lib.hid (atSn_length l c q k)
      obtain ⟨y, hy⟩ : ∃ y, y = l.getD k none_Slot := ⟨_, rfl⟩
      rw [← hy] at q0 q1 q2 q3 HI HNX
      clear hy
      have HC1 := Lib.hid (HCO.out y HI.out)
      have HC6 : Hid ((cellsS c y).length ≤ 6) := Lib.hid (by rw [cellsS_length]; have := (HSM.out _ HI.out).2.2.2.1; omega)
      obtain ⟨t0, t1, t2, t3⟩ := y
      simp only at q0 q1 q2 q3 HC1
      obtain ⟨Z, hZ⟩ : ∃ Z, Z = cellsS c (t0, t1, t2, t3) := ⟨_, rfl⟩
      obtain ⟨A, hA⟩ : ∃ A, A = atSn l c q k := ⟨_, rfl⟩
      rw [← hZ] at HC1 HC6 HNX
      rw [← hA] at HO HNX HLN
      have ha72 : A.length ≤ 72 := by have := HLN.out; omega
      have HHS := Lib.hid (fun v w h => conI_any Z q (by have := HC6.out; omega) v w h)
      obtain ⟨p, hp⟩ : ∃ p, p = hasI Z q := ⟨_, rfl⟩
      rw [← hp] at HHS HNX
      clear hZ hA hp HLN
      obtain ⟨o, ho⟩ : ∃ o, o = Obj.cells #[.int .i64 t0, .bool t1, .int .i64 t2, .int .i64 t3] 33 := ⟨_, rfl⟩
      have bo := (Below.refl wr.heap.size wr).alloc (Nat.le_refl _) o
      have HO1 := Lib.hid (HO.out.alloc o)
      have HL1 := Lib.hid (HL.out.alloc o)
      have HX1 := Lib.hid ((bo.block Q (Array.getElem?_eq_some_iff.1 HX.out).1).trans HX.out)
      have HB1 := Lib.hid (HB.out.alloc HB.out.size o)
      obtain ⟨m0, m1, m2⟩ := HBK.out _ HX1.out
      rw [ho] at HO1 HL1 HX1 HB1 m0 m1 m2
      clear bo ho
      cases p with
      | true =>
        go_wp2_with (first | (go_at_call 21; refine (HC1.out _).mono ?_; rintro e w5 ⟨v5, rfl, o5, b5⟩; have HO5 := Lib.hid (ownV_later HO1.out b5); have HL5 := Lib.hid (ownV_later HL1.out b5); have HX5 := Lib.hid ((b5.block Q (Array.getElem?_eq_some_iff.1 HX1.out).1).trans HX1.out); have HB5 := Lib.hid (HB1.out.trans (b5.mono HB1.out.size)); have HR5 := Lib.hid (reads_ints o5 (by have := HC6.out; omega)); clear o5 b5) | (go_at_call 26; refine (HHS.out _ _ HR5.out).mono ?_; rintro e w6 ⟨rfl, rfl⟩) | (at_builtin; refine appendV_reads _ rfl _ _ 30 rfl w.heap.size 3 i0 (.int .i64 0) 1 8 Tryd.underlying30 hi hz0 hz1 hz2 rfl (by decide) _ A.length _ rfl (HO5.out.alloc _) (some ⟨w5.heap.size, 0, none⟩) 1 1 [.int .i64 (k : Int)] rfl rfl (by simp [Value.oneCell']) (fun e => by cases e) (oneI w5 _ _) (by omega) (by omega) (le_alloc HB5.out.size _) ?_; intro v7 w7 hown hgrow))
        have HB7 := Lib.hid (below_app (HB5.out.alloc HB5.out.size _) hgrow (HO5.out.alloc _) (Nat.le_refl _) (le_alloc HB5.out.size _))
        have HL7 := Lib.hid ((HL5.out.alloc _).kept hgrow (own_types HO5.out HL5.out (by decide)))
        have HX7 := Lib.hid (block_app ((Below.heap_alloc _ _ Q (Array.getElem?_eq_some_iff.1 HX5.out).1).trans HX5.out) (HO5.out.alloc _) (by decide) hgrow)
        have HO7 : Hid (w7.ownsRow w.heap.size 3 1 v7 (atSn l c q (k + 1)).length ((atSn l c q (k + 1)).map (Value.int .i64))) := Lib.hid (by rw [HNX.out, if_pos (by trivial), List.length_append, List.map_append]; exact hown)
        clear hown hgrow
        go_roundw
        case rel => exact ⟨k + 1, by omega, by go_num, HO7, HL7, HX7, HB7⟩
        case measure => simp [intOf]; omega
      | false =>
        go_wp2_with (first | (go_at_call 21; refine (HC1.out _).mono ?_; rintro e w5 ⟨v5, rfl, o5, b5⟩; have HO5 := Lib.hid (ownV_later HO1.out b5); have HL5 := Lib.hid (ownV_later HL1.out b5); have HX5 := Lib.hid ((b5.block Q (Array.getElem?_eq_some_iff.1 HX1.out).1).trans HX1.out); have HB5 := Lib.hid (HB1.out.trans (b5.mono HB1.out.size)); have HR5 := Lib.hid (reads_ints o5 (by have := HC6.out; omega)); clear o5 b5) | (go_at_call 26; refine (HHS.out _ _ HR5.out).mono ?_; rintro e w6 ⟨rfl, rfl⟩))
        have HO7 : Hid (w5.ownsRow w.heap.size 3 1 u7 (atSn l c q (k + 1)).length ((atSn l c q (k + 1)).map (Value.int .i64))) := Lib.hid (by rw [HNX.out, if_neg (by simp), List.append_nil]; exact HO5.out)
        go_roundw
        case rel => exact ⟨k + 1, by omega, by go_num, HO7, HL5, HX5, HB5⟩
        case measure => simp [intOf]; omega
    · have hd : decide ((k : Int) < (l.length : Int)) = false := decide_eq_false (by omega)
      have hd9 : decide (k < l.length) = false := decide_eq_false hlt
      have HF : Hid (wr.ownsRow w.heap.size 3 1 u7 (atS l c q).length ((atS l c q).map (Value.int .i64))) := Lib.hid (by
        have h9 := HO.out
        rw [show k = l.length by omega, ← HAT.out] at h9
        exact h9)
      go_wp2
      go_ret
      exact ⟨_, rfl, HF.out, HB.out⟩
end Go.Proofs.YtmhgejljjjmejaaDoor
