/-
  The walk of the law FnVarints: true at every byte slice.
-/
import Derived.Test.YtffjolonpkhmoaaSame
import Derived.Test.YtffjolonpkhmoaaDrawBytes
import Derived.Test.YtffjolonpkhmoaaImplReadInts
import Derived.Deep.RegionWith
import Derived.BigRegion
import Derived.Deep.DeepCutAuto
import Derived.Deep.RegionHeld3
namespace Go.Proofs.Ytffjolonpkhmoaa.fnVarints
open Go.RowKit

theorem prefix_at (L : List Int) (x : Int) (h : 0 ≤ x ∧ x ≤ 1000000000000) : RD (L ++ uv x) L.length x (L ++ uv x).length := by
  have e : uv x = enc x.toNat := by unfold uv; rw [if_pos h]
  refine ⟨by omega, h.1, h.2, by rw [e, List.length_append]; omega, ?_⟩
  rw [Int.toNat_natCast, List.drop_left, e]
  exact List.prefix_rfl
theorem at_in {L : List Int} {x k next : Int} {ok : Bool} (h : 0 ≤ x ∧ x ≤ 1000000000000) (hA : RdAns (L ++ uv x) L.length k next ok) : k = x ∧ next = (L ++ uv x).length ∧ ok = true := by
  obtain ⟨h1, h2, h3⟩ := rdans_unique (Or.inl ⟨rfl, prefix_at L x h⟩) hA
  exact ⟨h1, h2, h3⟩
theorem at_out {L : List Int} {k next : Int} {ok : Bool} (hA : RdAns L L.length k next ok) : k = 0 ∧ next = 0 ∧ ok = false := by
  obtain ⟨h1, h2, h3⟩ := rdans_unique (Or.inr ⟨rfl, rfl, rfl, rd_none (p := []) (r := []) (by simp) (by simp) (Or.inl rfl)⟩) hA
  exact ⟨h1, h2, h3⟩
theorem app_bytes {L : List Int} {x : Int} (hL : ∀ z ∈ L, 0 ≤ z ∧ z ≤ 255) : ∀ z ∈ L ++ uv x, 0 ≤ z ∧ z ≤ 255 := by
  intro z hz
  rcases List.mem_append.1 hz with h | h
  · exact hL z h
  · exact uv_byte x z h

theorem rd_parts {Y : List Int} {o m aft : Int} (h : RD Y o m aft) : ∃ q M e : Nat, o = (q : Int) ∧ m = (M : Int) ∧ aft = ((q + e : Nat) : Int) ∧ M ≤ 1000000000000 ∧ 0 < e ∧ q + e ≤ Y.length ∧ (Y.drop q).take e = uv M ∧ (uv M).length = e := by
  have hn := rd_next h
  obtain ⟨a0, a1, a2, a3, a4⟩ := h
  obtain ⟨q, rfl⟩ : ∃ q : Nat, o = (q : Int) := ⟨o.toNat, by omega⟩
  obtain ⟨M, rfl⟩ : ∃ M : Nat, m = (M : Int) := ⟨m.toNat, by omega⟩
  rw [Int.toNat_natCast] at a3 a4
  rw [Int.toNat_natCast] at a4
  have e : uv (M : Int) = enc M := by unfold uv; rw [if_pos ⟨a1, a2⟩]; rfl
  have hp : 0 < (enc M).length := by
    obtain ⟨p, x, e1, _⟩ := enc_shape M
    rw [e1]; simp
  refine ⟨q, M, (enc M).length, rfl, rfl, by omega, by omega, hp, by omega, ?_, by rw [e]⟩
  rw [e]
  exact (List.prefix_iff_eq_take.1 a4).symm

set_option maxRecDepth 100000 in
set_option maxHeartbeats 1600000 in
theorem walk (v0 : Value) (l0 : List Int) (w : World) (hR : Reads w.heap.size w v0 .u8 l0) (hB : ∀ z ∈ l0, 0 ≤ z ∧ z ≤ 255) :
    Calls Try.prog 3 #[v0] w fun e w' => e = .returned (.bool true) ∧ Below w.heap.size w w' := by
  obtain ⟨a0, cap, rfl⟩ : ∃ a0 cap, v0 = .slice a0 l0.length cap := ⟨hR.2.choose, hR.2.choose_spec.choose, hR.2.choose_spec.choose_spec.1⟩
  have hc := code_of_reads hR rfl hB
  clear hR hB
  by_cases hbig : 1048576 < l0.length
  · go_enter Try.func3, Try.ntmps3
    go_wp2_with (go_at_call 12; refine (big_yes l0.length cap a0 hbig _).mono ?_; rintro e w1 ⟨rfl, rfl⟩)
    go_ret
    exact ⟨rfl, Below.refl _ _⟩
  · go_enter Try.func3, Try.ntmps3
    go_wp2_with (first | (go_at_call 12; refine (big_no l0.length cap a0 (by omega) _).mono ?_; rintro e w0 ⟨rfl, rfl⟩) | (go_at_call 13; refine (dau_any l0.length cap a0 _ hc (by omega)).mono ?_; rintro e w1 ⟨L, vb, x, hL, hLB, hx0, hx1, rfl, o1, b1⟩; obtain ⟨ab, cb, rfl⟩ := own_slice o1))
    have HX0 : Hid (-9223372036854775808 ≤ x) := Lib.hid hx0
    have HX1 : Hid (x ≤ 9223372036854775807) := Lib.hid hx1
    have HO1 := Lib.hid o1
    clear o1 hx0 hx1
    go_wp2_with (go_at_call 14; refine (i_AppendUvarint _ L x _ (reads_own HO1.out rfl (by omega)) hLB (by omega) HX0.out HX1.out).mono ?_; rintro e w2 ⟨X, vx, hX, hXn, rfl, o2, b2⟩; obtain ⟨ax, cx, rfl⟩ := own_slice o2; have HXX := Lib.hid hX; clear hX)
    have HB2 := Lib.hid (btrans b1 b2)
    have HOb := Lib.hid (own_later HO1.out b2)
    have HO2 := Lib.hid o2
    clear o2 b1 b2 HO1
    have hXl : X.length ≤ 8 := by have := uv_length x; rw [HXX.out, List.length_append]; omega
    have HXB : Hid (∀ z ∈ X, 0 ≤ z ∧ z ≤ 255) := Lib.hid (by rw [HXX.out]; exact app_bytes hLB)
    go_upto_region 6 with (go_at_call 15; refine (i_ReadUvarint _ X L.length _ (reads_own HO2.out rfl (by omega)) HXB.out (by omega) (by omega) (by omega)).mono ?_; rintro e w3 ⟨k, next, ok, HA, rfl, b3⟩)
    have HB3 := Lib.hid (btrans HB2.out b3)
    have HOb3 := Lib.hid (own_later HOb.out b3)
    have HO3 := Lib.hid (own_later HO2.out b3)
    clear b3 HB2 HOb HO2
    have HH : Hid ((0 ≤ x ∧ x ≤ 1000000000000 ∧ k = x ∧ next = X.length ∧ ok = true) ∨ (x < 0 ∧ X = L ∧ k = 0 ∧ next = 0 ∧ ok = false) ∨ (1000000000000 < x ∧ X = L ∧ k = 0 ∧ next = 0 ∧ ok = false)) := Lib.hid (by
      have h9 := HXX.out
      by_cases hx : 0 ≤ x ∧ x ≤ 1000000000000
      · obtain ⟨h1, h2, h3⟩ := at_in hx (by rw [← h9]; exact HA)
        exact Or.inl ⟨hx.1, hx.2, h1, by rw [h2, h9], h3⟩
      · have e : X = L := by rw [h9]; unfold uv; rw [if_neg hx, List.append_nil]
        rw [e] at HA
        obtain ⟨h1, h2, h3⟩ := at_out HA
        by_cases h4 : x < 0
        · exact Or.inr (Or.inl ⟨h4, e, h1, h2, h3⟩)
        · exact Or.inr (Or.inr ⟨by omega, e, h1, h2, h3⟩))
    clear HA HXX
    rcases HH.out with ⟨h1, h2, rfl, rfl, rfl⟩ | ⟨h1, rfl, rfl, rfl, rfl⟩ | ⟨h1, rfl, rfl, rfl, rfl⟩
    all_goals clear HH
    all_goals have FL := Lib.hid trivial
    all_goals go_upto_region 11 with (go_at_call 16; have FG := FL; refine (same_bytes _ _ _ _ (reads_own HO3.out rfl (by omega)) (reads_own HOb3.out rfl (by omega))).mono ?_; rintro e w4 ⟨rfl, b4⟩; clear FL FG)
    all_goals first | (have HBC := Lib.hid (btrans HB3.out b4); clear b4) | (have HBC := HB3)
    all_goals clear HB3 HO3 HOb3 HXB HX0 HX1 hXl hXn
    any_goals (clear FL)
    all_goals
      go_wp2_with (go_at_call 17; refine (dru_any l0.length cap a0 _ (code_later hc HBC.out) (by omega)).mono ?_; rintro e w5 ⟨Y, vy, o, hY, hYB, ho0, ho1, rfl, oy, b5⟩; obtain ⟨ay, cy, rfl⟩ := own_slice oy)
      have HB5 := Lib.hid (btrans HBC.out b5)
      have HYB := Lib.hid hYB
      have HY5 := Lib.hid (reads_own oy rfl (by omega))
      clear b5 HBC hYB oy
      go_upto_region 13 with (go_at_call 15; refine (i_ReadUvarint _ Y o _ HY5.out HYB.out (by omega) (by omega) (by omega)).mono ?_; rintro e w6 ⟨m, aft, fine, HA, rfl, b6⟩)
      have HB6 := Lib.hid (btrans HB5.out b6)
      have HY6 := Lib.hid (HY5.out.now b6)
      have HA6 := Lib.hid HA
      clear b6 HB5 HY5
      rcases HA with ⟨rfl, hrd⟩ | ⟨rfl, rfl, rfl, hno⟩
      · obtain ⟨q, M, e, rfl, rfl, rfl, hM, he, hqe, htake, hlen⟩ := rd_parts hrd
        have HT := Lib.hid htake
        have HLE := Lib.hid hlen
        obtain ⟨b, off, cy', e1, hbl, -⟩ := HY6.out.some (by intro h; rw [h] at hqe; simp at hqe; omega)
        cases e1
        have hcap : Y.length ≤ cy := by
          obtain ⟨-, a1, c1, e1, h1, -⟩ := HY6.out
          cases e1
          exact h1.2.1
        clear hrd HA6 htake hlen
        go_upto_region 16 with fail
        have hc1 : q + e ≤ cy := by omega
        have hc2 : (q : Int) + e ≤ cy := by omega
        have hc3 : ¬ q = cy := by omega
        have hc4 : ((q : Int) + e).toNat = q + e := by omega
        have hc5 : (q : Int) ≤ (q : Int) + e := by omega
        have hc6 : (0 : Int) ≤ (q : Int) := by omega
        have hd1 : decide (0 ≤ (q : Int)) = true := decide_eq_true (by omega)
        have hd2 : decide ((q : Int) + e ≤ (Y.length : Int)) = true := decide_eq_true (by omega)
        have hd3 : decide ((q : Int) < (q : Int) + e) = true := decide_eq_true (by omega)
        have HAP : Hid (Calls Try.prog 14 #[.slice (some ⟨w6.heap.size, 0, none⟩) 0 0, .int .i64 M] (w6.alloc (.cells #[] 5)).drew fun e w' => ∃ v', e = .returned v' ∧ w'.ownsRow w6.heap.size 5 1 v' (uv M).length ((uv M).map (Value.int .u8)) ∧ Below w6.heap.size w6 w') := Lib.hid (by
          have hd : Below w6.heap.size w6 (w6.alloc (.cells #[] 5)).drew := ((Below.refl _ _).alloc (Nat.le_refl _) _).drew
          refine (i_AppendUvarint _ [] M _ (reads_own (l := []) (W := (w6.alloc (.cells #[] 5)).drew) (own_empty w6 _) rfl (by simp)) (by simp) (by simp) (by omega) (by omega)).mono ?_
          rintro e w7 ⟨X7, v7, hX7, -, rfl, o7, b7⟩
          rw [List.nil_append] at hX7
          subst hX7
          exact ⟨v7, rfl, own_wide o7 hd.size, btrans hd b7⟩)
        go_region_held3 (fun w' => True) (exact trivial) (first | (go_at_call 16; have HSB := same_bytes (uv M) v7 (.slice (some ⟨b, off + q, none⟩) e (cy - q)) w7 (reads_own o7 rfl (by have := uv_length M; omega)) (by have h9 := reads_sub (lo := q) (m := e) (HY6.out.now b7) hqe; rw [HT.out] at h9; exact h9); refine HSB.mono ?_; rintro en w8 ⟨rfl, b8⟩) | (go_at_call 14; refine HAP.out.mono ?_; rintro en w7 ⟨v7, rfl, o7, b7⟩))
        all_goals go_wp2
        all_goals go_ret
        all_goals exact ⟨rfl, btrans HB6.out (btrans b7 b8)⟩
      · go_wp2_with (go_at_call 18; refine (s_ReadUvarint _ Y o _ HY6.out HYB.out (by omega) (by omega) (by omega)).mono ?_; rintro e w7 ⟨m', aft', want, HA', rfl, b7⟩; obtain ⟨rfl, rfl, rfl⟩ := u_ReadUvarint HA6.out HA')
        go_ret
        exact ⟨rfl, btrans HB6.out b7⟩
end Go.Proofs.Ytffjolonpkhmoaa.fnVarints
