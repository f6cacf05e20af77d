/-
  The model's contracts of chapter 12: l12Letter, l12Support, Support.
-/
import Derived.Test.YtmhgejljjjmejaaDomPure
import Derived.Test.YtmhgejljjjmejaaNest
import Derived.Test.YtmhgejljjjmejaaCrossSpecE
import Derived.Test.YtmhgejljjjmejaaCrossLaw
import Derived.Deep.RegionWith
namespace Go.Proofs.Ytmhgejljjjmejaa
open Go.RowKit

theorem domAt_snoc (l : List ByteArray) (x : ByteArray) (p : Nat) (b : UInt8) : domAt (l ++ [x]) p b = (domAt l p b || (decide (p < x.size) && decide (x.data.toList.getD p 0 = b))) := by
  unfold domAt
  rw [List.any_append]
  simp
theorem domAt_hit {l : List ByteArray} {k p : Nat} {b : UInt8} (hk : k < l.length) (h : p < (l.getD k ⟨#[]⟩).size) (h2 : (l.getD k ⟨#[]⟩).data.toList.getD p 0 = b) : domAt l p b = true :=
  List.any_eq_true.2 ⟨l.getD k ⟨#[]⟩, by simp [List.getD, hk], by rw [decide_eq_true h, decide_eq_true h2]; rfl⟩
set_option maxRecDepth 100000 in
set_option maxHeartbeats 1600000 in
theorem sl12l_any (l : List ByteArray) (hl : l.length ≤ 16777216) (p : Nat) (b : UInt8) (v : Value) (w : World) (hv : ReadsS w.heap.size w v l) (hzs : ∀ z ∈ l, z.size ≤ 1048576) :
    Calls Try.prog 37 #[v, .int .i64 p, .int .u8 b.toNat] w fun e w' => e = .returned (.bool (domAt l p b)) ∧ w = w' := by
  obtain ⟨-, a0, cap, rfl, -, hc⟩ := hv.cells
  have HC := Lib.hid hc
  have HZS := Lib.hid hzs
  clear hc hv hzs
  go_enter Try.func37, Try.ntmps37
  go_wp2
  go_loopw [7] (fun i wr => ∃ k : Nat, k ≤ l.length ∧ i = .int .i64 k ∧ Hid (domAt (l.take k) p b = false) ∧ w = wr) (fun i _ => l.length - (intOf i).toNat)
  case atStart => exact ⟨0, Nat.zero_le _, rfl, Lib.hid (by simp [domAt]), rfl⟩
  case round =>
    obtain ⟨k, hk, rfl, HN, rfl⟩ := hrel
    by_cases hlt : k < l.length
    · have hd : decide ((k : Int) < (l.length : Int)) = true := decide_eq_true (by omega)
      obtain ⟨bb, off, rfl, hb, q0⟩ := HC.out k hlt
      have hxs := HZS.out _ (by simp [List.getD, hlt] : l.getD k ⟨#[]⟩ ∈ l)
      have HT : Hid (l.take (k + 1) = l.take k ++ [l.getD k ⟨#[]⟩]) := Lib.hid (by rw [List.take_succ_eq_append_getElem hlt]; simp [List.getD, hlt])
      have HHIT := Lib.hid (fun h h2 => domAt_hit (p := p) (b := b) hlt h h2)
      obtain ⟨x, hx⟩ : ∃ x, x = l.getD k ⟨#[]⟩ := ⟨_, rfl⟩
      rw [← hx] at q0 hxs HT HHIT
      clear hx
      by_cases hin : p < x.size
      · have hpd : decide ((p : Int) < (x.size : Int)) = true := decide_eq_true (by omega)
        have h255 : x[p].toNat ≤ 255 := by have := x[p].toNat_lt; omega
        have HGD := Lib.hid (getD_byte x p hin)
        by_cases he : x[p] = b
        · have HF := Lib.hid (HHIT.out hin (by rw [HGD.out]; exact he))
          have hbe : ((x[p].toNat : Int) == (b.toNat : Int)) = true := by rw [he]; exact beq_self_eq_true _
          clear HHIT he
          go_wp2
          go_ret
          exact ⟨by rw [HF.out]; rfl, rfl⟩
        · have HN2 : Hid (domAt (l.take (k + 1)) p b = false) := Lib.hid (by rw [HT.out, domAt_snoc, HN.out, HGD.out, decide_eq_false he]; simp)
          have hbe : ((x[p].toNat : Int) == (b.toNat : Int)) = false := beq_eq_false_iff_ne.2 (fun h => he (UInt8.toNat_inj.1 (by omega)))
          clear HHIT he
          go_wp2
          go_roundw
          case rel => exact ⟨k + 1, by omega, by go_num, HN2, by trivial⟩
          case measure => simp [intOf]; omega
      · have hpd : decide ((p : Int) < (x.size : Int)) = false := decide_eq_false (by omega)
        have HN2 : Hid (domAt (l.take (k + 1)) p b = false) := Lib.hid (by rw [HT.out, domAt_snoc, HN.out, decide_eq_false hin]; simp)
        clear HHIT
        go_wp2
        go_roundw
        case rel => exact ⟨k + 1, by omega, by go_num, HN2, by trivial⟩
        case measure => simp [intOf]; omega
    · have hd : decide ((k : Int) < (l.length : Int)) = false := decide_eq_false (by omega)
      have HF : Hid (domAt l p b = false) := Lib.hid (by have h9 := HN.out; rw [List.take_of_length_le (by omega)] at h9; exact h9)
      go_wp2
      go_ret
      exact ⟨by rw [HF.out]; rfl, rfl⟩
/-- What a list of crossings keeps to, for a slot's word and domains. -/
def XFor (X : List CrossV) (n slot size : Nat) : Prop := ∀ x ∈ X, ∃ i j p r q : Nat, x = ((i : Int), (j : Int), (p : Int), (r : Int), (q : Int)) ∧ i < n ∧ j < n ∧ p ≤ 1048576 ∧ r ≤ 1048576 ∧ (i = slot → p < size) ∧ (j = slot → r < size)
theorem supM_app (M N : List (Nat × Nat × Nat)) (D : List (List ByteArray)) (w : ByteArray) : supM (M ++ N) D w = (supM M D w && supM N D w) := by
  unfold supM
  rw [List.all_append]
theorem supX_take_no {X : List CrossV} {D : List (List ByteArray)} {slot k : Nat} {w : ByteArray} (hk : k < X.length) (h : supM (meetX slot (X.getD k none_Crossing)) D w = false) : supM (meetS X slot) D w = false := by
  have h1 : X = X.take k ++ [X.getD k none_Crossing] ++ X.drop (k + 1) := by
    conv => lhs; rw [← List.take_append_drop (k + 1) X]
    rw [List.take_succ_eq_append_getElem hk]
    simp [List.getD, hk]
  rw [h1]
  unfold meetS
  rw [List.flatMap_append, List.flatMap_append, supM_app, supM_app, List.flatMap_cons, List.flatMap_nil, List.append_nil, h, Bool.and_false, Bool.false_and]
theorem meetX_parts (slot : Nat) (i j p r q : Nat) : meetX slot ((i : Int), (j : Int), (p : Int), (r : Int), (q : Int)) = (if i = slot then [(p, j, r)] else []) ++ (if j = slot then [(r, i, p)] else []) := by
  unfold meetX
  simp only [Int.toNat_natCast]
  by_cases h1 : i = slot <;> by_cases h2 : j = slot
  · rw [if_pos (show (i : Int) = slot by omega), if_pos (show (j : Int) = slot by omega), if_pos h1, if_pos h2]
  · rw [if_pos (show (i : Int) = slot by omega), if_neg (show ¬ (j : Int) = slot by omega), if_pos h1, if_neg h2]
  · rw [if_neg (show ¬ (i : Int) = slot by omega), if_pos (show (j : Int) = slot by omega), if_neg h1, if_pos h2]
  · rw [if_neg (show ¬ (i : Int) = slot by omega), if_neg (show ¬ (j : Int) = slot by omega), if_neg h1, if_neg h2]
/-- The first test of a crossing, the second. -/
def tstA (D : List (List ByteArray)) (w : ByteArray) (slot i p j r : Nat) : Bool := decide (i = slot) && !domAt (D.getD j []) r (w.data.toList.getD p 0)
theorem tst_meet (D : List (List ByteArray)) (w : ByteArray) (slot i j p r q : Nat) : supM (meetX slot ((i : Int), (j : Int), (p : Int), (r : Int), (q : Int))) D w = (!tstA D w slot i p j r && !tstA D w slot j r i p) := by
  rw [meetX_parts, supM_app]
  unfold tstA
  congr 1
  · by_cases h1 : i = slot
    · rw [if_pos h1, decide_eq_true h1]; simp [supM, metM]
    · rw [if_neg h1, decide_eq_false h1]; rfl
  · by_cases h1 : j = slot
    · rw [if_pos h1, decide_eq_true h1]; simp [supM, metM]
    · rw [if_neg h1, decide_eq_false h1]; rfl
set_option maxRecDepth 100000 in
set_option maxHeartbeats 3200000 in
theorem sl12s_any (X : List CrossV) (D : List (List ByteArray)) (slot : Nat) (x : ByteArray) (hX : X.length ≤ 16777216) (hm : ∀ m ∈ D, m.length ≤ 1048576 ∧ ∀ z ∈ m, z.size ≤ 1048576) (hf : XFor X D.length slot x.size) (u v : Value) (w : World)
    (hu : ReadsCrossing w.heap.size w u X) (hv : ReadsN w.heap.size w v D) :
    Calls Try.prog 23 #[u, v, .int .i64 slot, .string x] w fun e w' => e = .returned (.bool (supM (meetS X slot) D x)) ∧ Below w.heap.size w w' := by
  obtain ⟨-, a0, cap, rfl, -, hc⟩ := hu.cells
  obtain ⟨-, a1, cap1, rfl, -, hd⟩ := hv.cells
  have HC := Lib.hid hc
  have HD := Lib.hid hd
  have HF := Lib.hid hf
  have HM := Lib.hid hm
  clear hc hd hu hv hf hm
  go_enter Try.func23, Try.ntmps23
  go_wp2
  go_loopw [9] (fun i wr => ∃ k : Nat, k ≤ X.length ∧ i = .int .i64 k ∧ Hid (supM (meetS (X.take k) slot) D x = true) ∧ Hid (Below w.heap.size w wr)) (fun i _ => X.length - (intOf i).toNat)
  case atStart => exact ⟨0, Nat.zero_le _, rfl, Lib.hid (by simp [supM, meetS]), Lib.hid (Below.refl _ _)⟩
  case round =>
    obtain ⟨k, hk, rfl, HN, HB⟩ := hrel
    by_cases hlt : k < X.length
    · have hd : decide ((k : Int) < (X.length : Int)) = true := decide_eq_true (by omega)
      obtain ⟨b, off, rfl, hb, q0, q1, q2, q3, q4⟩ := HC.out k hlt
      have q0 := (HB.out.cell (p := ⟨b, off + k * 5, none⟩) hb).trans q0
      have q1 := (HB.out.cell (p := ⟨b, off + k * 5 + 1, none⟩) hb).trans q1
      have q2 := (HB.out.cell (p := ⟨b, off + k * 5 + 2, none⟩) hb).trans q2
      have q3 := (HB.out.cell (p := ⟨b, off + k * 5 + 3, none⟩) hb).trans q3
      have HT : Hid (X.take (k + 1) = X.take k ++ [X.getD k none_Crossing]) := Lib.hid (by rw [List.take_succ_eq_append_getElem hlt]; simp [List.getD, hlt])
      have HNO := Lib.hid (fun h => supX_take_no (D := D) (slot := slot) (w := x) hlt h)
      obtain ⟨i, j, p, r, qq, hx, hi, hj, hp, hr, hpi, hrj⟩ := HF.out (X.getD k none_Crossing) (by simp [List.getD, hlt])
      rw [hx] at q0 q1 q2 q3 HT HNO
      rw [tst_meet] at HNO
      simp only at q0 q1 q2 q3
      clear hx
      obtain ⟨bi, oi, ui, ei, hbi, ci, hui⟩ := HD.out i hi
      obtain ⟨bj, oj, uj, ej, hbj, cj, huj⟩ := HD.out j hj
      subst ei
      injection ej with ej
      injection ej with ej1 ej2
      subst ej1 ej2
      have ci := (HB.out.cell (p := ⟨bi, oi + i, none⟩) hbi).trans ci
      have cj := (HB.out.cell (p := ⟨bi, oi + j, none⟩) hbi).trans cj
      have HUI : Hid (∀ n, ReadsS (wr.drewN n).heap.size (wr.drewN n) ui (D.getD i [])) := Lib.hid (fun n => ReadsV.now (ReadsV.now hui HB.out) (Joins.below_draws _ wr n))
      have HUJ : Hid (∀ n, ReadsS (wr.drewN n).heap.size (wr.drewN n) uj (D.getD j [])) := Lib.hid (fun n => ReadsV.now (ReadsV.now huj HB.out) (Joins.below_draws _ wr n))
      have HMI := Lib.hid (HM.out (D.getD i []) (by simp [List.getD, hi]))
      have HMJ := Lib.hid (HM.out (D.getD j []) (by simp [List.getD, hj]))
      obtain ⟨tA, hA⟩ : ∃ t, t = tstA D x slot i p j r := ⟨_, rfl⟩
      obtain ⟨tB, hB⟩ : ∃ t, t = tstA D x slot j r i p := ⟨_, rfl⟩
      have HTM := Lib.hid (tst_meet D x slot i j p r qq)
      rw [← hA, ← hB] at HNO HTM
      have HA := Lib.hid hA
      have HB' := Lib.hid hB
      clear hui huj hA hB
      go_wp2_with fail
      go_cut [46] (fun s wx => s = .bool tA ∧ Hid (Below wr.heap.size wr wx))
      case first =>
        by_cases e : i = slot
        · have hp' := hpi e
          have hie : ((i : Int) == (slot : Int)) = true := by rw [e]; exact beq_self_eq_true _
          have h255 : x[p].toNat ≤ 255 := by have := x[p].toNat_lt; omega
          have HCL := Lib.hid (fun (w : World) h => sl12l_any (D.getD j []) (by have := HMJ.out.1; omega) r x[p] uj w h HMJ.out.2)
          have HAE : Hid (tA = !domAt (D.getD j []) r x[p]) := Lib.hid (by rw [HA.out]; unfold tstA; rw [decide_eq_true e, getD_byte x p hp']; rfl)
          obtain ⟨t, ht⟩ : ∃ t, t = domAt (D.getD j []) r x[p] := ⟨_, rfl⟩
          rw [← ht] at HCL HAE
          clear ht HC HD
          go_quiet (first | (go_at_call 37; exact (HCL.out _ (HUJ.out _)).mono fun _ _ h => ⟨h.1, ⟨_, h.2.symm⟩⟩))
          all_goals (go_wp2_with fail; go_meet; exact ⟨by rw [HAE.out], Lib.hid (by first | exact Below.refl _ _ | exact Joins.below_draws _ _ _)⟩)
        · have hie : ((i : Int) == (slot : Int)) = false := beq_eq_false_iff_ne.2 (by omega)
          have HAE : Hid (tA = false) := Lib.hid (by rw [HA.out]; unfold tstA; rw [decide_eq_false e]; rfl)
          clear HC HD
          go_quiet (fail)
          all_goals (go_wp2_with fail; go_meet; exact ⟨by rw [HAE.out], Lib.hid (by first | exact Below.refl _ _ | exact Joins.below_draws _ _ _)⟩)
      case rest =>
        obtain ⟨rfl, HB1⟩ := hcut
        have HB := Lib.hid (HB.out.trans (HB1.out.mono HB.out.size))
        cases tA with
        | true =>
          have HG := Lib.hid (HNO.out rfl)
          go_wp2
          go_ret
          exact ⟨by rw [HG.out]; rfl, HB.out⟩
        | false =>
          obtain ⟨wy, hwy⟩ : ∃ wy, wy = wc := ⟨_, rfl⟩
          rw [← hwy] at HB1 HB ⊢
          clear hwy
          have hbw : b < wr.heap.size := World.block_lt_of_cell? wr _ q0
          have q0 := (HB1.out.cell (p := ⟨b, off + k * 5, none⟩) hbw).trans q0
          have q1 := (HB1.out.cell (p := ⟨b, off + k * 5 + 1, none⟩) hbw).trans q1
          have q2 := (HB1.out.cell (p := ⟨b, off + k * 5 + 2, none⟩) hbw).trans q2
          have q3 := (HB1.out.cell (p := ⟨b, off + k * 5 + 3, none⟩) hbw).trans q3
          have hbz : bi < wr.heap.size := World.block_lt_of_cell? wr _ ci
          have ci := (HB1.out.cell (p := ⟨bi, oi + i, none⟩) hbz).trans ci
          have HUI2 : Hid (∀ n, ReadsS (wy.drewN n).heap.size (wy.drewN n) ui (D.getD i [])) := Lib.hid (fun n => ReadsV.now (ReadsV.now (HUI.out 0) HB1.out) (Joins.below_draws _ wy n))
          go_wp2_with fail
          go_cut [77] (fun s wz => s = .bool tB ∧ Hid (Below wy.heap.size wy wz))
          case first =>
            by_cases e : j = slot
            · have hp' := hrj e
              have hie : ((j : Int) == (slot : Int)) = true := by rw [e]; exact beq_self_eq_true _
              have h255 : x[r].toNat ≤ 255 := by have := x[r].toNat_lt; omega
              have HCL := Lib.hid (fun (w : World) h => sl12l_any (D.getD i []) (by have := HMI.out.1; omega) p x[r] ui w h HMI.out.2)
              have HAE : Hid (tB = !domAt (D.getD i []) p x[r]) := Lib.hid (by rw [HB'.out]; unfold tstA; rw [decide_eq_true e, getD_byte x r hp']; rfl)
              obtain ⟨t, ht⟩ : ∃ t, t = domAt (D.getD i []) p x[r] := ⟨_, rfl⟩
              rw [← ht] at HCL HAE
              clear ht HC HD
              go_quiet (first | (go_at_call 37; exact (HCL.out _ (HUI2.out _)).mono fun _ _ h => ⟨h.1, ⟨_, h.2.symm⟩⟩))
              all_goals (go_wp2_with fail; go_meet; exact ⟨by rw [HAE.out], Lib.hid (by first | exact Below.refl _ _ | exact Joins.below_draws _ _ _)⟩)
            · have hie : ((j : Int) == (slot : Int)) = false := beq_eq_false_iff_ne.2 (by omega)
              have HAE : Hid (tB = false) := Lib.hid (by rw [HB'.out]; unfold tstA; rw [decide_eq_false e]; rfl)
              clear HC HD
              go_quiet (fail)
              all_goals (go_wp2_with fail; go_meet; exact ⟨by rw [HAE.out], Lib.hid (by first | exact Below.refl _ _ | exact Joins.below_draws _ _ _)⟩)
          case rest =>
            obtain ⟨rfl, HB2⟩ := hcut
            have HBF := Lib.hid (HB.out.trans (HB2.out.mono HB.out.size))
            cases tB with
            | true =>
              have HG := Lib.hid (HNO.out rfl)
              go_wp2
              go_ret
              exact ⟨by rw [HG.out]; rfl, HBF.out⟩
            | false =>
              have HNX : Hid (supM (meetS (X.take (k + 1)) slot) D x = true) := Lib.hid (by rw [HT.out, meetS_next, supM_app, HN.out, HTM.out]; rfl)
              go_wp2
              go_roundw
              case rel => exact ⟨k + 1, by omega, by go_num, HNX, HBF⟩
              case measure => simp [intOf]; omega
    · have hd : decide ((k : Int) < (X.length : Int)) = false := decide_eq_false (by omega)
      have HG : Hid (supM (meetS X slot) D x = true) := Lib.hid (by have h9 := HN.out; rw [List.take_of_length_le (by omega)] at h9; exact h9)
      go_wp2
      go_ret
      exact ⟨by rw [HG.out]; rfl, HB.out⟩
end Go.Proofs.Ytmhgejljjjmejaa
