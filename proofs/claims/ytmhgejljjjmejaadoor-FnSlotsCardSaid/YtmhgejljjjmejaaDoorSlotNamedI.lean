/-
  SlotNamed of the program: the closure, slices.IndexFunc, SlotNamed.
-/
import Derived.Test.YtmhgejljjjmejaaDoorSlotNamedS
import Derived.Test.YtmhgejljjjmejaaDoorSlotImplG
import Derived.Test.YtmhgejljjjmejaaDoorGridS
import Derived.Deep.RegionWith
import Derived.Deep.RegionHeld3
namespace Go.Proofs.YtmhgejljjjmejaaDoor
open Go.RowKit

set_option maxRecDepth 100000 in
set_option maxHeartbeats 1600000 in
/-- The closure: whether the slot has the name that it captured. -/
theorem named1_any (x0 : Int) (x1 : Bool) (x2 x3 : Int) (h0 : -9223372036854775808 ≤ x0) (h1 : x0 ≤ 9223372036854775807) (b : Nat) (nm : ByteArray) (w : World) (hV : PT w) (hb : b < w.heap.size) (hc : w.cell? ⟨b, 0, none⟩ = some (.string nm)) :
    Calls Tryd.prog 23 #[.agg #[.int .i64 x0, .bool x1, .int .i64 x2, .int .i64 x3], .pointer (some ⟨b, 0, none⟩)] w fun e w' => e = .returned (.bool (decide (nameB x0 x1 = nm))) ∧ Below w.heap.size w w' := by
  have HW : Hid (Below w.heap.size w (w.alloc (.cells #[.int .i64 x0, .bool x1, .int .i64 x2, .int .i64 x3] 33))) := Lib.hid ((Below.refl _ _).alloc (Nat.le_refl _) _)
  have HV := Lib.hid hV
  have HB := Lib.hid hb
  have HC := Lib.hid hc
  clear hV hb hc
  have HCN := Lib.hid (fun w hV => iname_any x0 x1 x2 x3 h0 h1 w hV)
  obtain ⟨Z, hZ⟩ : ∃ Z, Z = nameB x0 x1 := ⟨_, rfl⟩
  rw [← hZ] at HCN ⊢
  clear hZ h0 h1
  go_enter Tryd.func23, Tryd.ntmps23
  go_wp2_with fail
  obtain ⟨W1, hW1⟩ : ∃ W1, W1 = w.alloc (.cells #[.int .i64 x0, .bool x1, .int .i64 x2, .int .i64 x3] 33) := ⟨_, rfl⟩
  have hwz : W1.heap.size = w.heap.size + 1 := by rw [hW1]; simp
  have e0 : W1.cell? ⟨w.heap.size, 0, none⟩ = some (.int .i64 x0) := by rw [hW1]; simp
  have e1 : W1.cell? ⟨w.heap.size, 1, none⟩ = some (.bool x1) := by rw [hW1]; simp
  have e2 : W1.cell? ⟨w.heap.size, 2, none⟩ = some (.int .i64 x2) := by rw [hW1]; simp
  have e3 : W1.cell? ⟨w.heap.size, 3, none⟩ = some (.int .i64 x3) := by rw [hW1]; simp
  rw [← hW1] at HW ⊢
  clear hW1
  have HV1 := Lib.hid (HV.out.later HW.out)
  have HK : Hid (∀ w', Below W1.heap.size W1 w' → w'.cell? ⟨b, 0, none⟩ = some (.string nm)) := Lib.hid (fun w' h => ((HW.out.trans (h.mono (by omega))).cell (p := ⟨b, 0, none⟩) HB.out).trans HC.out)
  have e4 := HK.out _ (Below.refl _ _)
  go_region_with (first | (go_at_call 11; refine Calls.mono (HCN.out _ (by first | exact HV1.out | exact HV1.out.later ((Below.refl W1.heap.size W1).drew) | exact HV1.out)) ?_; rintro e w3 ⟨rfl, b3⟩; have BT3 : Hid (Below W1.heap.size W1 w3) := Lib.hid (by first | exact b3 | exact ((Below.refl W1.heap.size W1).drew).trans b3); have e4 := HK.out _ BT3.out; clear b3))
  all_goals go_wp2
  all_goals go_ret
  all_goals exact ⟨by rw [str_beq]; rfl, HW.out.trans (BT3.out.mono (by omega))⟩

theorem named1_val : ∀ (fn : Fn) (first cap : Array Value) (w : World), (Instr.makeFunc fn first cap).run Tryd.prog w = .ok (.func fn first cap) w := fun _ _ _ _ => rfl
set_option maxRecDepth 100000 in
set_option maxHeartbeats 1600000 in
/-- slices.IndexFunc with the closure. -/
theorem idxF_any (l : List SlotV) (hn : ∀ x ∈ l, -9223372036854775808 ≤ x.1 ∧ x.1 ≤ 9223372036854775807) (hl : l.length ≤ 16777216) (b : Nat) (nm : ByteArray) (v : Value) (w : World) (hV : PT w) (hb : b < w.heap.size) (hcb : w.cell? ⟨b, 0, none⟩ = some (.string nm)) (hv : ReadsSlot w.heap.size w v l) :
    Calls Tryd.prog 22 #[v, .func (.func 23) #[] #[.pointer (some ⟨b, 0, none⟩)]] w fun e w' => ∃ i, NamedAt l nm i ∧ e = .returned (.int .i64 i) ∧ Below w.heap.size w w' := by
  obtain ⟨-, a0, cap, rfl, -, hc⟩ := hv.cells
  have HC := Lib.hid hc
  have HV := Lib.hid hV
  have HNUM := Lib.hid hn
  have HK : Hid (∀ w', Below w.heap.size w w' → b < w'.heap.size ∧ w'.cell? ⟨b, 0, none⟩ = some (.string nm)) := Lib.hid (fun w' h => ⟨Nat.lt_of_lt_of_le hb h.size, (h.cell (p := ⟨b, 0, none⟩) hb).trans hcb⟩)
  clear hc hv hV hn hb hcb
  go_enter Tryd.func22, Tryd.ntmps22
  go_wp2
  go_loopw [8] (fun i wr => ∃ k : Nat, k ≤ l.length ∧ i = .int .i64 k ∧ Hid (∀ y ∈ l.take k, nameB y.1 y.2.1 ≠ nm) ∧ Hid (Below w.heap.size w wr)) (fun i _ => l.length - (intOf i).toNat)
  case atStart => exact ⟨0, Nat.zero_le _, rfl, Lib.hid (by simp), Lib.hid (Below.refl _ _)⟩
  case round =>
    obtain ⟨k, hk, rfl, HN, HB⟩ := hrel
    by_cases hlt : k < l.length
    · have hd : decide ((k : Int) < (l.length : Int)) = true := decide_eq_true (by omega)
      obtain ⟨b1, off, rfl, hb1, q0, q1, q2, q3⟩ := HC.out k hlt
      have q0 := (HB.out.cell (p := ⟨b1, off + k * 4, none⟩) hb1).trans q0
      have q1 := (HB.out.cell (p := ⟨b1, off + k * 4 + 1, none⟩) hb1).trans q1
      have q2 := (HB.out.cell (p := ⟨b1, off + k * 4 + 2, none⟩) hb1).trans q2
      have q3 := (HB.out.cell (p := ⟨b1, off + k * 4 + 3, none⟩) hb1).trans q3
      have HT := Lib.hid (take_getD hlt)
      have HI := Lib.hid (getD_in hlt)
      have HY : Hid (nameB (l.getD k none_Slot).1 (l.getD k none_Slot).2.1 = nm → NamedAt l nm k) := Lib.hid (fun h => Or.inr ⟨k, rfl, hlt, h, HN.out⟩)
      obtain ⟨y, hy⟩ : ∃ y, y = l.getD k none_Slot := ⟨_, rfl⟩
      rw [← hy] at q0 q1 q2 q3 HT HI HY
      clear hy
      have hn := HNUM.out _ HI.out
      obtain ⟨t0, t1, t2, t3⟩ := y
      have HCN := Lib.hid (fun w hV hb hc => named1_any t0 t1 t2 t3 hn.1 hn.2 b nm w hV hb hc)
      clear hn
      simp only at q0 q1 q2 q3 HCN HY
      obtain ⟨Z, hZ⟩ : ∃ Z, Z = nameB t0 t1 := ⟨_, rfl⟩
      have HT2 : Hid (¬ Z = nm → ∀ y ∈ l.take (k + 1), nameB y.1 y.2.1 ≠ nm) := Lib.hid (fun hne y hy => by
        rw [HT.out] at hy
        rcases List.mem_append.1 hy with h | h
        · exact HN.out y h
        · rw [List.mem_singleton.1 h]; rw [hZ] at hne; exact hne)
      rw [← hZ] at HCN HY
      clear hZ HT HI
      by_cases he : Z = nm
      · have HG := Lib.hid (HY.out he)
        rw [decide_eq_true he] at HCN
        clear HY HT2 he
        go_wp2_with (go_at_call 23; refine (HCN.out _ (HV.out.later HB.out) (HK.out _ HB.out).1 (HK.out _ HB.out).2).mono ?_; rintro e w3 ⟨rfl, b3⟩; have HB3 := Lib.hid (HB.out.trans (b3.mono HB.out.size)); clear b3)
        go_ret
        exact ⟨_, HG.out, rfl, HB3.out⟩
      · have HN2 := Lib.hid (HT2.out he)
        rw [decide_eq_false he] at HCN
        clear HY HT2 HN he
        go_wp2_with (go_at_call 23; refine (HCN.out _ (HV.out.later HB.out) (HK.out _ HB.out).1 (HK.out _ HB.out).2).mono ?_; rintro e w3 ⟨rfl, b3⟩; have HB3 := Lib.hid (HB.out.trans (b3.mono HB.out.size)); clear b3)
        go_roundw
        case rel => exact ⟨k + 1, by omega, by go_num, HN2, HB3⟩
        case measure => simp [intOf]; omega
    · have hd : decide ((k : Int) < (l.length : Int)) = false := decide_eq_false (by omega)
      obtain rfl : k = l.length := by omega
      have HG : Hid (NamedAt l nm (-1)) := Lib.hid (Or.inl ⟨rfl, fun y hy => HN.out y (by rw [List.take_length]; exact hy)⟩)
      go_wp2
      go_ret
      exact ⟨_, HG.out, rfl, HB.out⟩
set_option maxRecDepth 100000 in
set_option maxHeartbeats 1600000 in
/-- The program's SlotNamed. -/
theorem inamed_any (r c : Int) (s : ByteArray) (nm : ByteArray) (hs : s.size ≤ 4194304) (w : World) (hV : PT w) :
    Calls Tryd.prog 10 #[.agg #[.int .i64 r, .int .i64 c, .string s], .string nm] w fun e w' => ∃ i, NamedAt (slG (r, c, s)) nm i ∧ e = .returned (.int .i64 i) ∧ Below w.heap.size w w' := by
  have hmf := named1_val
  have HSL := Lib.hid (fun w => islo_any r c s hs w)
  have HLEN := Lib.hid (slG_length (r, c, s))
  have HNUM := Lib.hid (fun x hx => slot_num (g := (r, c, s)) (x := x) hx)
  obtain ⟨l, hl⟩ : ∃ l, l = slG (r, c, s) := ⟨_, rfl⟩
  rw [← hl] at HSL HLEN HNUM ⊢
  clear hl
  have HV := Lib.hid hV
  clear hV
  go_enter Tryd.func10, Tryd.ntmps10
  go_wp2_with fail
  obtain ⟨W0, hW0⟩ : ∃ W0, W0 = (w.alloc (.cells #[.int .i64 r, .int .i64 c, .string s] 25)).alloc (.cells #[.string nm] 9) := ⟨_, rfl⟩
  have hws : W0.heap.size = w.heap.size + 2 := by rw [hW0]; simp
  have d0 : W0.cell? ⟨w.heap.size, 0, none⟩ = some (.int .i64 r) := by rw [hW0]; simp
  have d1 : W0.cell? ⟨w.heap.size, 1, none⟩ = some (.int .i64 c) := by rw [hW0]; simp
  have d2 : W0.cell? ⟨w.heap.size, 2, none⟩ = some (.string s) := by rw [hW0]; simp
  have HNM : Hid (W0.cell? ⟨w.heap.size + 1, 0, none⟩ = some (.string nm)) := Lib.hid (by rw [hW0]; simp)
  have HW : Hid (Below w.heap.size w W0) := Lib.hid (by rw [hW0]; exact ((Below.refl _ _).alloc (Nat.le_refl _) _).alloc (by simp) _)
  rw [← hW0]
  clear hW0
  go_wp2_with (first | (go_at_call 6; refine (HSL.out _).mono ?_; rintro e w2 ⟨v2, rfl, o2, b2⟩; have HB2 := Lib.hid b2; have HL2 := Lib.hid o2; clear o2 b2) | (go_at_call 22; refine (idxF_any l HNUM.out (by have := HLEN.out; omega) (w.heap.size + 1) nm _ _ (HV.out.later (HW.out.trans (HB2.out.mono HW.out.size))) (by have := HB2.out.size; omega) ((HB2.out.cell (p := ⟨w.heap.size + 1, 0, none⟩) (show w.heap.size + 1 < W0.heap.size by omega)).trans HNM.out) (reads_Slot_own HL2.out rfl (by have := HLEN.out; omega))).mono ?_; rintro e w3 ⟨i, HN, rfl, b3⟩))
  go_ret
  exact ⟨_, HN, rfl, (HW.out.trans (HB2.out.mono HW.out.size)).trans (b3.mono (HW.out.trans (HB2.out.mono HW.out.size)).size)⟩

theorem u_SlotNamed {x : Int × Int × ByteArray} {nm : ByteArray} {i j : Int} (h : NamedAt (slG x) nm i) (h' : NamedAt (slG x) nm j) : i = j := h.unique h'
theorem i_SlotNamed (r c : Int) (s : ByteArray) (nm : ByteArray) (w : World) (_hK : ok_Grid (r, c, s)) (hs : s.size ≤ 1048576) (_hn : nm.size ≤ 1048576) (hV : PT w) :
    Calls Tryd.prog 10 #[.agg #[.int .i64 r, .int .i64 c, .string s], .string nm] w fun e w' => ∃ i, NamedAt (slG (r, c, s)) nm i ∧ e = .returned (.int .i64 i) ∧ Below w.heap.size w w' := inamed_any r c s nm (by omega) w hV
end Go.Proofs.YtmhgejljjjmejaaDoor
