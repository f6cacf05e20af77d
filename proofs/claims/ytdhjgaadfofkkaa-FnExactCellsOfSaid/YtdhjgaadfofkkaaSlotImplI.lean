/-
  The program's contracts of chapter 8, ninth part: CellsOf, SlotsAt.
-/
import Derived.Test.YtdhjgaadfofkkaaSlotImplH
namespace Go.Proofs.Ytdhjgaadfofkkaa
open Go.RowKit

theorem brd_col {g : Int × Int × ByteArray} {x : SlotV} (h : x ∈ slG g) : (brd g).2.1 = g.2.1 := by
  obtain ⟨hg, -⟩ := slG_small h
  unfold brd
  rw [if_pos hg]
set_option maxRecDepth 100000 in
set_option maxHeartbeats 3200000 in
theorem icel_any (r c : Int) (s : ByteArray) (x0 : Int) (x1 : Bool) (x2 x3 : Int) (hs : s.size ≤ 4194304) (w : World) :
    Calls Try.prog 15 #[.agg #[.int .i64 r, .int .i64 c, .string s], .agg #[.int .i64 x0, .bool x1, .int .i64 x2, .int .i64 x3]] w fun e w' => ∃ v, e = .returned v ∧ w'.ownsRow w.heap.size 3 1 v (clG (r, c, s) (x0, x1, x2, x3)).length ((clG (r, c, s) (x0, x1, x2, x3)).map (Value.int .i64)) ∧ Below w.heap.size w w' := by
  have HBO := Lib.hid (fun w => ibo_any r c s hs w)
  have HSB := Lib.hid (fun w => slots_brd (r, c, s) w)
  have HLEN := Lib.hid (slG_length (r, c, s))
  have HCO : Hid ((x0, x1, x2, x3) ∈ slG (r, c, s) → ∀ w : World, Calls Try.prog 27 #[brdV (brd (r, c, s)), .agg #[.int .i64 x0, .bool x1, .int .i64 x2, .int .i64 x3]] w fun e w' => ∃ v, e = .returned v ∧ w'.ownsRow w.heap.size 3 1 v (clG (r, c, s) (x0, x1, x2, x3)).length ((clG (r, c, s) (x0, x1, x2, x3)).map (Value.int .i64)) ∧ Below w.heap.size w w') := Lib.hid (fun h w => by
    have hcol := brd_col h
    obtain ⟨-, h1, h2, h3, -⟩ := slG_small h
    rw [clG_in h]
    have h9 := icellsof_any (brd (r, c, s)).1 (brd (r, c, s)).2.1 ((brd (r, c, s)).2.2 : Int) x0 x1 x2 x3 (by rw [hcol]; exact h1) h2 h3 w
    rw [hcol] at h9
    unfold brdV
    rw [hcol]
    exact h9)
  have HNO : Hid ((x0, x1, x2, x3) ∉ slG (r, c, s) → clG (r, c, s) (x0, x1, x2, x3) = []) := Lib.hid (fun h => if_neg h)
  obtain ⟨l, hl⟩ : ∃ l, l = slG (r, c, s) := ⟨_, rfl⟩
  rw [← hl] at HSB HCO HNO HLEN
  clear hl
  obtain ⟨⟨b0, b1, b2⟩, hb⟩ : ∃ b, b = brd (r, c, s) := ⟨_, rfl⟩
  rw [← hb] at HBO HSB HCO
  clear hb
  simp only [brdV] at HBO HSB HCO
  obtain ⟨C, hC⟩ : ∃ C, C = clG (r, c, s) (x0, x1, x2, x3) := ⟨_, rfl⟩
  rw [← hC] at HCO HNO ⊢
  clear hC
  have HX := Lib.hid (box33 (Below.refl _ ((w.alloc (.cells #[.int .i64 r, .int .i64 c, .string s] 27)).alloc (.cells #[.int .i64 x0, .bool x1, .int .i64 x2, .int .i64 x3] 36))))
  obtain ⟨W0, hW0⟩ : ∃ W0, W0 = (w.alloc (.cells #[.int .i64 r, .int .i64 c, .string s] 27)).alloc (.cells #[.int .i64 x0, .bool x1, .int .i64 x2, .int .i64 x3] 36) := ⟨_, rfl⟩
  rw [← hW0] at HX
  have hws : W0.heap.size = w.heap.size + 2 := by rw [hW0]; simp
  obtain ⟨d0, d1, d2, -, -, -⟩ := cells3 HX.out.1
  go_enter Try.func15, Try.ntmps15
  rw [hW0] at d0 d1 d2
  go_wp2_with fail
  rw [← hW0] at d0 d1 d2 ⊢
  clear hW0
  go_wp2_with (go_at_call 23; refine (HBO.out _).mono ?_; rintro e w1 ⟨rfl, bb1⟩; have HB1 := Lib.hid bb1; clear bb1)
  obtain ⟨Q, hQ⟩ : ∃ Q, Q = w1.heap.size := ⟨_, rfl⟩
  have HBB := Lib.hid ((Below.refl w1.heap.size w1).alloc (Nat.le_refl _) (.cells #[.int .i64 b0, .int .i64 b1, .int .u64 (b2 : Int)] 48))
  have hnb := new_block w1 (.cells #[.int .i64 b0, .int .i64 b1, .int .u64 (b2 : Int)] 48)
  obtain ⟨W2, hW2⟩ : ∃ W2, W2 = w1.alloc (.cells #[.int .i64 b0, .int .i64 b1, .int .u64 (b2 : Int)] 48) := ⟨_, rfl⟩
  rw [← hW2] at HBB hnb ⊢
  rw [← hQ] at hnb ⊢
  have hs2 : W2.heap.size = Q + 1 := by rw [hW2, hQ]; simp
  have hQw : w.heap.size + 2 ≤ Q := by rw [hQ, ← hws]; exact HB1.out.size
  have HBW2 : Hid (Below W0.heap.size W0 W2) := Lib.hid (btrans HB1.out HBB.out)
  have HNB := Lib.hid hnb
  have HKP : Hid (∀ W : World, Below W2.heap.size W2 W → W.cell? ⟨Q, 0, none⟩ = some (.int .i64 b0) ∧ W.cell? ⟨Q, 1, none⟩ = some (.int .i64 b1) ∧ W.cell? ⟨Q, 2, none⟩ = some (.int .u64 (b2 : Int)) ∧ W.cell? ⟨w.heap.size + 1, 0, none⟩ = some (.int .i64 x0) ∧ W.cell? ⟨w.heap.size + 1, 1, none⟩ = some (.bool x1) ∧ W.cell? ⟨w.heap.size + 1, 2, none⟩ = some (.int .i64 x2) ∧ W.cell? ⟨w.heap.size + 1, 3, none⟩ = some (.int .i64 x3)) := Lib.hid (fun W h => by
    have h1 := (h.block Q (by omega)).trans HNB.out
    have h2 := (h.block (w.heap.size + 1) (by omega)).trans ((HBW2.out.block (w.heap.size + 1) (by omega)).trans HX.out.2.1)
    exact ⟨Joins.cell_of_block h1 0, Joins.cell_of_block h1 1, Joins.cell_of_block h1 2, Joins.cell_of_block h2 0, Joins.cell_of_block h2 1, Joins.cell_of_block h2 2, Joins.cell_of_block h2 3⟩)
  have HW2 : Hid (Below w.heap.size w W2) := Lib.hid (HX.out.2.2.trans (HBW2.out.mono HX.out.2.2.size))
  obtain ⟨k0, k1, k2, e0, e1, e2, e3⟩ := HKP.out _ (Below.refl _ _)
  obtain ⟨p, hp⟩ : ∃ p, p = decide ((x0, x1, x2, x3) ∈ l) := ⟨_, rfl⟩
  have HCN := Lib.hid (fun v w h => contains_any l x0 x1 x2 x3 (by have := HLEN.out; omega) v w h)
  rw [← hp] at HCN
  have HP := Lib.hid hp
  clear hp hW2 hQ d0 d1 d2 hnb
  cases p with
  | true =>
    have HCE := Lib.hid (HCO.out (of_decide_eq_true HP.out.symm))
    go_region_held3 (fun w' => w'.cell? ⟨Q, 0, none⟩ = some (.int .i64 b0) ∧ w'.cell? ⟨Q, 1, none⟩ = some (.int .i64 b1) ∧ w'.cell? ⟨Q, 2, none⟩ = some (.int .u64 (b2 : Int)) ∧ w'.cell? ⟨w.heap.size + 1, 0, none⟩ = some (.int .i64 x0) ∧ w'.cell? ⟨w.heap.size + 1, 1, none⟩ = some (.bool x1) ∧ w'.cell? ⟨w.heap.size + 1, 2, none⟩ = some (.int .i64 x2) ∧ w'.cell? ⟨w.heap.size + 1, 3, none⟩ = some (.int .i64 x3)) (first | exact ⟨k0, k1, k2, e0, e1, e2, e3⟩ | exact HKP.out _ B4.out | exact HKP.out _ B3.out) (first | (go_at_call 24; refine Calls.mono (HSB.out _) ?_; rintro e w3 ⟨v3, rfl, o3, b3⟩; have B3 : Hid (Below W2.heap.size W2 w3) := Lib.hid (by first | exact b3 | exact ((Below.refl _ _).drew).trans b3); have R3 := Lib.hid (reads_Slot_own o3 rfl (by have := HLEN.out; omega)); clear o3 b3) | (go_at_call 26; refine Calls.mono (HCN.out _ _ (by first | exact R3.out | exact R3.out.now ((Below.refl _ _).drew))) ?_; rintro e w4 ⟨rfl, b4⟩; have B4 : Hid (Below W2.heap.size W2 w4) := Lib.hid (by first | exact btrans B3.out b4 | exact btrans B3.out.drew b4); clear b4))
    all_goals obtain ⟨m0, m1, m2, n0, n1, n2, n3⟩ := HKP.out _ B4.out
    all_goals go_wp2_with (go_at_call 27; refine (HCE.out _).mono ?_; rintro e w5 ⟨v5, rfl, o5, b5⟩; have B5 := Lib.hid (btrans B4.out b5); have O5 := Lib.hid (own_widen o5 (Nat.le_trans HW2.out.size B4.out.size)); clear o5 b5)
    all_goals (go_ret; exact ⟨_, rfl, O5.out, HW2.out.trans (B5.out.mono HW2.out.size)⟩)
  | false =>
    have HC0 := Lib.hid (HNO.out (of_decide_eq_false HP.out.symm))
    go_region_held3 (fun w' => w'.cell? ⟨Q, 0, none⟩ = some (.int .i64 b0) ∧ w'.cell? ⟨Q, 1, none⟩ = some (.int .i64 b1) ∧ w'.cell? ⟨Q, 2, none⟩ = some (.int .u64 (b2 : Int)) ∧ w'.cell? ⟨w.heap.size + 1, 0, none⟩ = some (.int .i64 x0) ∧ w'.cell? ⟨w.heap.size + 1, 1, none⟩ = some (.bool x1) ∧ w'.cell? ⟨w.heap.size + 1, 2, none⟩ = some (.int .i64 x2) ∧ w'.cell? ⟨w.heap.size + 1, 3, none⟩ = some (.int .i64 x3)) (first | exact ⟨k0, k1, k2, e0, e1, e2, e3⟩ | exact HKP.out _ B4.out | exact HKP.out _ B3.out) (first | (go_at_call 24; refine Calls.mono (HSB.out _) ?_; rintro e w3 ⟨v3, rfl, o3, b3⟩; have B3 : Hid (Below W2.heap.size W2 w3) := Lib.hid (by first | exact b3 | exact ((Below.refl _ _).drew).trans b3); have R3 := Lib.hid (reads_Slot_own o3 rfl (by have := HLEN.out; omega)); clear o3 b3) | (go_at_call 26; refine Calls.mono (HCN.out _ _ (by first | exact R3.out | exact R3.out.now ((Below.refl _ _).drew))) ?_; rintro e w4 ⟨rfl, b4⟩; have B4 : Hid (Below W2.heap.size W2 w4) := Lib.hid (by first | exact btrans B3.out b4 | exact btrans B3.out.drew b4); clear b4))
    all_goals go_wp2_with fail
    all_goals (go_ret; exact ⟨_, rfl, by rw [HC0.out]; exact own_widen (own_zero _ 3 1) (by have h1 := HW2.out.size; have h2 := B4.out.size; first | omega | (simp; omega)), HW2.out.trans ((by first | exact B4.out.alloc B4.out.size _ | exact B4.out.drew.alloc B4.out.drew.size _ : Below W2.heap.size W2 _).mono HW2.out.size)⟩)
set_option maxHeartbeats 800000 in
theorem idxI_any (l : List Int) (x : Int) (hl : l.length ≤ 16777216) (v : Value) (w : World) (hv : Reads w.heap.size w v .i64 l) :
    Calls Try.prog 42 #[v, .int .i64 x] w fun e w' => (∃ i : Int, e = .returned (.int .i64 i) ∧ decide (0 ≤ i) = hasI l x) ∧ w = w' := by
  obtain ⟨-, a0, cap, rfl, -, hc⟩ := hv
  have HC := Lib.hid hc
  clear hc
  go_enter Try.func42, Try.ntmps42
  go_wp2
  go_loopw [8] (fun i wr => ∃ k : Nat, k ≤ l.length ∧ i = .int .i64 k ∧ Hid (∀ y ∈ l.take k, y ≠ x) ∧ w = wr) (fun i _ => l.length - (intOf i).toNat)
  case atStart => exact ⟨0, Nat.zero_le _, rfl, Lib.hid (by simp), rfl⟩
  case round =>
    obtain ⟨k, hk, rfl, HN, rfl⟩ := hrel
    by_cases hlt : k < l.length
    · have hd : decide ((k : Int) < (l.length : Int)) = true := decide_eq_true (by omega)
      obtain ⟨b, off, rfl, hb, q0⟩ := HC.out k hlt
      have HT : Hid (l.take (k + 1) = l.take k ++ [l.getD k 0]) := Lib.hid (by rw [List.take_succ_eq_append_getElem hlt, List.getD_eq_getElem?_getD, List.getElem?_eq_getElem hlt]; rfl)
      have HM : Hid (l.getD k 0 ∈ l) := Lib.hid (by rw [List.getD_eq_getElem?_getD, List.getElem?_eq_getElem hlt]; exact List.getElem_mem hlt)
      obtain ⟨z, hz⟩ : ∃ z, z = l.getD k 0 := ⟨_, rfl⟩
      rw [← hz] at q0 HT HM
      clear hz
      by_cases he : x = z
      · subst he
        have HF : Hid (hasI l x = true) := Lib.hid (hasI_iff.2 HM.out)
        go_wp2
        go_ret
        exact ⟨⟨(k : Int), rfl, by rw [HF.out]; exact decide_eq_true (by omega)⟩, rfl⟩
      · have hne : (x == z) = false := by simpa using he
        have HN2 : Hid (∀ y ∈ l.take (k + 1), y ≠ x) := Lib.hid (fun y hy => by
          rw [HT.out] at hy
          rcases List.mem_append.1 hy with h | h
          · exact HN.out y h
          · simp only [List.mem_singleton] at h; subst h; exact fun e => he e.symm)
        clear he
        go_wp2
        go_roundw
        case rel => exact ⟨k + 1, by omega, by go_num, HN2, by trivial⟩
        case measure => simp [intOf]; omega
    · have hd : decide ((k : Int) < (l.length : Int)) = false := decide_eq_false (by omega)
      have HF : Hid (hasI l x = false) := Lib.hid (by
        rcases hb : hasI l x with _ | _
        · rfl
        · have h9 := hasI_iff.1 hb
          have h8 := HN.out
          rw [List.take_of_length_le (by omega)] at h8
          exact absurd rfl (h8 x h9))
      go_wp2
      go_ret
      exact ⟨⟨-1, rfl, by rw [HF.out]; rfl⟩, rfl⟩
theorem conI_any (l : List Int) (x : Int) (hl : l.length ≤ 16777216) (v : Value) (w : World) (hv : Reads w.heap.size w v .i64 l) :
    Calls Try.prog 29 #[v, .int .i64 x] w fun e w' => e = .returned (.bool (hasI l x)) ∧ w = w' := by
  have HI := Lib.hid (idxI_any l x hl v w hv)
  clear hv
  go_enter Try.func29, Try.ntmps29
  go_wp2_with (go_at_call 42; refine HI.out.mono ?_; rintro e w2 ⟨⟨i, rfl, hi⟩, rfl⟩; have HIE := Lib.hid hi; clear hi)
  go_ret
  exact ⟨by rw [← HIE.out]; rfl, rfl⟩
end Go.Proofs.Ytdhjgaadfofkkaa
