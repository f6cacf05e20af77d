/-
  The model's contracts of chapter 8, fifth part: SlotsAt.
-/
import Derived.Test.YtdhjgaadfofkkaaSlotSpecD
import Derived.Deep.RegionWith
import Derived.Deep.RegionHeld3
namespace Go.Proofs.Ytdhjgaadfofkkaa
open Go.RowKit

/-- What SlotsAt answers, of a list of slots. -/
def atS (l : List SlotV) (c k : Int) : List Int := ((List.range l.length).filter fun i => hasI (cellsS c (l.getD i none_Slot)) k).map fun (i : Nat) => (i : Int)
def atSn (l : List SlotV) (c k : Int) (n : Nat) : List Int := ((List.range n).filter fun i => hasI (cellsS c (l.getD i none_Slot)) k).map fun (i : Nat) => (i : Int)
theorem atSn_next (l : List SlotV) (c k : Int) (n : Nat) : atSn l c k (n + 1) = atSn l c k n ++ (if hasI (cellsS c (l.getD n none_Slot)) k = true then [(n : Int)] else []) := by
  unfold atSn
  rw [List.range_succ, List.filter_append, List.map_append]
  congr 1
  by_cases h : hasI (cellsS c (l.getD n none_Slot)) k = true
  · rw [if_pos h, List.filter_cons_of_pos (p := fun i => hasI (cellsS c (l.getD i none_Slot)) k) h]; rfl
  · rw [if_neg h, List.filter_cons_of_neg (p := fun i => hasI (cellsS c (l.getD i none_Slot)) k) h]; rfl
theorem atSn_length (l : List SlotV) (c k : Int) (n : Nat) : (atSn l c k n).length ≤ n := by
  unfold atSn
  rw [List.length_map]
  refine Nat.le_trans (List.length_filter_le _ _) ?_
  rw [List.length_range]
  exact Nat.le_refl _
theorem clG_in {g : Int × Int × ByteArray} {x : SlotV} (h : x ∈ slG g) : clG g x = cellsS g.2.1 x := if_pos h
theorem cellsS_length (c : Int) (x : SlotV) : (cellsS c x).length = x.2.2.2.toNat := by
  unfold cellsS
  rw [List.length_map, List.length_range]
theorem clG_length (g : Int × Int × ByteArray) (x : SlotV) : (clG g x).length ≤ 6 := by
  unfold clG
  split
  · rename_i h
    obtain ⟨-, -, -, h1, -⟩ := slG_small h
    rw [cellsS_length]
    omega
  · exact Nat.zero_le _
theorem reads_ints {W : World} {base : Nat} {v : Value} {l : List Int} {e : TypeId} (h : W.ownsRow base e 1 v l.length (l.map (Value.int .i64))) (hl : l.length ≤ 140737488355328) : Reads W.heap.size W v .i64 l := reads_own h rfl hl
set_option maxRecDepth 100000 in
set_option maxHeartbeats 3200000 in
theorem ssat_any (r c : Int) (s : ByteArray) (q : Int) (hs : s.size ≤ 4194304) (w : World) :
    Calls Try.prog 19 #[.agg #[.int .i64 r, .int .i64 c, .string s], .int .i64 q] w fun e w' => ∃ v, e = .returned v ∧ w'.ownsRow w.heap.size 3 1 v (atS (slG (r, c, s)) c q).length ((atS (slG (r, c, s)) c q).map (Value.int .i64)) ∧ Below w.heap.size w w' := by
  obtain ⟨i0, hi, hz0, hz1, hz2⟩ := info_parts info_int
  have HSL := Lib.hid (fun w => ssl_any r c s hs w)
  have HCL := Lib.hid (fun (x : SlotV) (hx : x ∈ slG (r, c, s)) w => by
    have h := scl_any r c s x.1 x.2.1 x.2.2.1 x.2.2.2 hs w
    rw [show ((x.1, x.2.1, x.2.2.1, x.2.2.2) : SlotV) = x from rfl, clG_in hx] at h
    exact h)
  have HKP := Lib.hid (box3_all w r c s 27)
  have HW : Hid (Below w.heap.size w (w.alloc (.cells #[.int .i64 r, .int .i64 c, .string s] 27))) := Lib.hid ((Below.refl _ _).alloc (Nat.le_refl _) _)
  obtain ⟨d0, d1, d2⟩ := HKP.out _ (Below.refl _ _)
  have HLEN := Lib.hid (slG_length (r, c, s))
  have HSM := Lib.hid (fun x hx => slG_small (g := (r, c, s)) (x := x) hx)
  obtain ⟨l, hl⟩ : ∃ l, l = slG (r, c, s) := ⟨_, rfl⟩
  rw [← hl] at HSL HCL HLEN HSM ⊢
  clear hl
  have hl72 := HLEN.out
  have HAT : Hid (atS l c q = atSn l c q l.length) := Lib.hid rfl
  go_enter Try.func19, Try.ntmps19
  go_wp2_with fail
  obtain ⟨W0, hW0⟩ : ∃ W0, W0 = w.alloc (.cells #[.int .i64 r, .int .i64 c, .string s] 27) := ⟨_, rfl⟩
  have hws : W0.heap.size = w.heap.size + 1 := by rw [hW0]; simp
  rw [← hW0] at HKP HW d0 d1 d2 ⊢
  clear hW0
  have HO0 : Hid ((W0.alloc (.cells #[] 3)).ownsRow W0.heap.size 3 1 (.slice (some ⟨w.heap.size + 1, 0, none⟩) 0 0) 0 []) := Lib.hid (by rw [← hws]; exact own_zero W0 3 1)
  have HB0 := Lib.hid ((Below.refl W0.heap.size W0).alloc (Nat.le_refl _) (.cells #[] 3))
  go_wp2_with (go_at_call 7; refine (HSL.out _).mono ?_; rintro e w2 ⟨v2, rfl, o2, b2⟩; obtain ⟨a0, cap, rfl⟩ := ownV_slice o2; have HO2 := Lib.hid (ownV_later HO0.out b2); have HB2 := Lib.hid (HB0.out.trans (b2.mono HB0.out.size)); have HL2 := Lib.hid (own_widen o2 HB0.out.size); clear o2 b2)
  go_loopw [5, 7] (fun o i wr => ∃ k : Nat, k ≤ l.length ∧ i = .int .i64 k ∧ Hid (wr.ownsRow W0.heap.size 3 1 o (atSn l c q k).length ((atSn l c q k).map (Value.int .i64))) ∧ Hid (wr.ownsRow W0.heap.size 36 4 (.slice a0 l.length cap) l.length (row_Slot l)) ∧ Hid (Below W0.heap.size W0 wr)) (fun _ i _ => l.length - (intOf i).toNat)
  case atStart => exact ⟨0, Nat.zero_le _, rfl, HO2, HL2, HB2⟩
  case round =>
    obtain ⟨k, hk, rfl, HO, HL, HB⟩ := hrel
    obtain ⟨y0, y1, y2⟩ := HKP.out _ HB.out
    by_cases hlt : k < l.length
    · obtain ⟨b, rfl, q0, q1, q2, q3⟩ := slot_cells HL.out rfl k hlt
      have HI := Lib.hid (getD_in hlt)
      have HNX := Lib.hid (atSn_next l c q k)
      have HLN := Lib.hid (atSn_length l c q k)
      obtain ⟨y, hy⟩ : ∃ y, y = l.getD k none_Slot := ⟨_, rfl⟩
      rw [← hy] at q0 q1 q2 q3 HI HNX
      clear hy
      have HC1 := Lib.hid (HCL.out y HI.out)
      have HC6 : Hid ((cellsS c y).length ≤ 6) := Lib.hid (by rw [cellsS_length]; have := (HSM.out _ HI.out).2.2.2.1; omega)
      obtain ⟨t0, t1, t2, t3⟩ := y
      simp only at q0 q1 q2 q3 HC1
      obtain ⟨Z, hZ⟩ : ∃ Z, Z = cellsS c (t0, t1, t2, t3) := ⟨_, rfl⟩
      obtain ⟨A, hA⟩ : ∃ A, A = atSn l c q k := ⟨_, rfl⟩
      rw [← hZ] at HC1 HC6 HNX
      rw [← hA] at HO HNX HLN
      have ha72 : A.length ≤ 72 := by have := HLN.out; omega
      have HHS := Lib.hid (fun v w h => shasI_any Z q (by have := HC6.out; omega) v w h)
      obtain ⟨p, hp⟩ : ∃ p, p = hasI Z q := ⟨_, rfl⟩
      rw [← hp] at HHS HNX
      clear hZ hA hp HLN
      cases p with
      | true =>
        go_wp2
        go_region_with (first | (go_at_call 13; refine Calls.mono (HC1.out _) ?_; rintro e w3 ⟨v3, rfl, o3, b3⟩; have BT3 : Hid (Below wr.heap.size wr w3) := Lib.hid (by first | exact b3 | exact ((Below.refl wr.heap.size wr).drew).trans b3); have HR3 := Lib.hid (reads_ints o3 (by have := HC6.out; omega)); clear o3 b3) | (go_at_call 28; refine Calls.mono (HHS.out _ _ (by first | exact HR3.out | exact HR3.out.now ((Below.refl _ _).drew))) ?_; rintro e w4 ⟨rfl, b4⟩; have BT4 : Hid (Below wr.heap.size wr w4) := Lib.hid (BT3.out.trans ((by first | exact b4 | exact ((Below.refl _ _).drew).trans b4 : Below w3.heap.size w3 w4).mono BT3.out.size)); clear b4))
        all_goals have HO4 := Lib.hid (ownV_later HO.out BT4.out)
        all_goals have HL4 := Lib.hid (ownV_later HL.out BT4.out)
        all_goals have HB4 := Lib.hid (HB.out.trans (BT4.out.mono HB.out.size))
        all_goals clear HO HL HB BT3 BT4 HR3 q0 q1 q2 q3 y0 y1 y2
        all_goals go_wp2_with (at_builtin; refine appendV_reads _ rfl _ _ 34 rfl W0.heap.size 3 i0 (.int .i64 0) 1 8 Try.underlying34 hi hz0 hz1 hz2 rfl (by decide) _ A.length _ rfl (HO4.out.alloc _) (some ⟨w4.heap.size, 0, none⟩) 1 1 [.int .i64 (k : Int)] rfl rfl (by simp [Value.oneCell']) (fun e => by cases e) (oneI w4 _ _) (by omega) (by omega) (le_alloc HB4.out.size _) ?_; intro v5 w5 hown hgrow)
        all_goals have HB5 := Lib.hid (below_app (HB4.out.alloc HB4.out.size _) hgrow (HO4.out.alloc _) (Nat.le_refl _) (le_alloc HB4.out.size _))
        all_goals have HL5 := Lib.hid ((HL4.out.alloc _).kept hgrow (own_types HO4.out HL4.out (by decide)))
        all_goals have HO5 : Hid (w5.ownsRow W0.heap.size 3 1 v5 (atSn l c q (k + 1)).length ((atSn l c q (k + 1)).map (Value.int .i64))) := Lib.hid (by rw [HNX.out, if_pos (by trivial), List.length_append, List.map_append]; exact hown)
        all_goals clear hown hgrow
        all_goals go_roundw
        all_goals first | exact ⟨k + 1, by omega, by go_num, HO5, HL5, HB5⟩ | (simp [intOf]; omega)
      | false =>
        go_wp2
        go_region_with (first | (go_at_call 13; refine Calls.mono (HC1.out _) ?_; rintro e w3 ⟨v3, rfl, o3, b3⟩; have BT3 : Hid (Below wr.heap.size wr w3) := Lib.hid (by first | exact b3 | exact ((Below.refl wr.heap.size wr).drew).trans b3); have HR3 := Lib.hid (reads_ints o3 (by have := HC6.out; omega)); clear o3 b3) | (go_at_call 28; refine Calls.mono (HHS.out _ _ (by first | exact HR3.out | exact HR3.out.now ((Below.refl _ _).drew))) ?_; rintro e w4 ⟨rfl, b4⟩; have BT4 : Hid (Below wr.heap.size wr w4) := Lib.hid (BT3.out.trans ((by first | exact b4 | exact ((Below.refl _ _).drew).trans b4 : Below w3.heap.size w3 w4).mono BT3.out.size)); clear b4))
        all_goals have HO4 : Hid (w4.ownsRow W0.heap.size 3 1 u5 (atSn l c q (k + 1)).length ((atSn l c q (k + 1)).map (Value.int .i64))) := Lib.hid (by rw [HNX.out, if_neg (by simp), List.append_nil]; exact ownV_later HO.out BT4.out)
        all_goals have HL4 := Lib.hid (ownV_later HL.out BT4.out)
        all_goals have HB4 := Lib.hid (HB.out.trans (BT4.out.mono HB.out.size))
        all_goals clear HO HL HB BT3 BT4 HR3 q0 q1 q2 q3 y0 y1 y2
        all_goals go_wp2
        all_goals go_roundw
        all_goals first | exact ⟨k + 1, by omega, by go_num, HO4, HL4, HB4⟩ | (simp [intOf]; omega)
    · have HF : Hid (wr.ownsRow w.heap.size 3 1 u5 (atS l c q).length ((atS l c q).map (Value.int .i64))) := Lib.hid (by
        have h9 := HO.out
        rw [show k = l.length by omega, ← HAT.out] at h9
        exact own_widen h9 (by omega))
      go_wp2
      go_ret
      exact ⟨_, rfl, HF.out, HW.out.trans (HB.out.mono HW.out.size)⟩
end Go.Proofs.Ytdhjgaadfofkkaa
