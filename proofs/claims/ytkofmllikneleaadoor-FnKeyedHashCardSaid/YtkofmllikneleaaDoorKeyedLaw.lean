/-
  The walk of the law FnKeyedHash: true at every byte slice.
-/
import Derived.Test.YtkofmllikneleaaDoorSame
import Derived.Test.YtkofmllikneleaaDoorDrawCrypto
import Derived.Test.YtkofmllikneleaaDoorTabs
import Derived.Test.YtkofmllikneleaaDoorAt
import Derived.Deep.RegionWith
import Derived.BigRegion
import Derived.Deep.Cut
namespace Go.Proofs.YtkofmllikneleaaDoor.fnKeyedHash
open Go.RowKit

theorem hstep_value {d v v' : Int} (h : hstep d v = hstep d v') : v % 2147483647 = v' % 2147483647 := by
  unfold hstep at h
  omega
theorem undo (d t : Int) : (1523789695 * (d * 1000003 + t)) % 2147483647 = (d + 1523789695 * t) % 2147483647 := by
  rw [show 1523789695 * (d * 1000003 + t) = (d + 1523789695 * t) + 2147483647 * (709572 * d) by omega]
  exact Int.add_mul_emod_self_left ..
theorem hstep_from {d d' v : Int} (h0 : 0 ≤ d) (h1 : d ≤ 2147483646) (h0' : 0 ≤ d') (h1' : d' ≤ 2147483646) (h : hstep d v = hstep d' v) : d = d' := by
  unfold hstep at h
  rw [Int.add_assoc, Int.add_assoc] at h
  obtain ⟨t, ht⟩ : ∃ t, t = v % 2147483647 + 13 := ⟨_, rfl⟩
  rw [← ht] at h
  have h2 : (1523789695 * (d * 1000003 + t)) % 2147483647 = (1523789695 * (d' * 1000003 + t)) % 2147483647 := by rw [Int.mul_emod, h, ← Int.mul_emod]
  rw [undo, undo] at h2
  obtain ⟨y, hy⟩ : ∃ y, y = 1523789695 * t := ⟨_, rfl⟩
  rw [← hy] at h2
  clear hy ht h
  omega
theorem foldl_ne : ∀ (l : List Int) (d d' : Int), 0 ≤ d → d ≤ 2147483646 → 0 ≤ d' → d' ≤ 2147483646 → d ≠ d' → l.foldl hstep d ≠ l.foldl hstep d'
  | [], _, _, _, _, _, _, h => h
  | v :: l, d, d', h0, h1, h0', h1', h => foldl_ne l (hstep d v) (hstep d' v) (hstep_range _ _).1 (hstep_range _ _).2 (hstep_range _ _).1 (hstep_range _ _).2 (fun e => h (hstep_from h0 h1 h0' h1' e))
/-- One value changed modulo 2147483647 changes the keyed hash. -/
theorem khash_set (s : Int) (l : List Int) (i : Nat) (hi : i < l.length) (v : Int) (hv : v % 2147483647 ≠ l.getD i 0 % 2147483647) : khash s (l.set i v) ≠ khash s l := by
  have e1 : l = l.take i ++ l.getD i 0 :: l.drop (i + 1) := by
    rw [List.getD_eq_getElem?_getD, List.getElem?_eq_getElem hi, Option.getD_some, ← List.drop_eq_getElem_cons hi, List.take_append_drop]
  have e2 : l.set i v = l.take i ++ v :: l.drop (i + 1) := List.set_eq_take_append_cons_drop .. |>.trans (by rw [if_pos hi])
  unfold khash hash
  rw [e2]
  conv => rhs; rw [e1]
  simp only [List.cons_append, List.append_assoc, List.foldl_cons, List.foldl_append]
  intro e
  have hr := fun (x : List Int) (y z : Int) => foldl_range x (hstep y z) (hstep_range _ _).1 (hstep_range _ _).2
  exact foldl_ne _ _ _ (hstep_range _ _).1 (hstep_range _ _).2 (hstep_range _ _).1 (hstep_range _ _).2 (fun e => hv (hstep_value e)) (hstep_from (hr _ _ _).1 (hr _ _ _).2 (hr _ _ _).1 (hr _ _ _).2 e)

theorem hash_args (s : Int) (L : List Int) (h0 : -1 ≤ s) (h1 : s ≤ 2147483648) (h : ∀ z ∈ L, -1 ≤ z ∧ z ≤ 2147483648) : ∀ z ∈ s :: L ++ [s], -9223372036854775808 ≤ z ∧ z ≤ 9223372036854775807 := by
  intro z hz
  simp only [List.cons_append, List.mem_cons, List.mem_append, List.not_mem_nil, or_false] at hz
  rcases hz with rfl | hz | rfl
  · omega
  · have := h z hz; omega
  · omega
theorem set_args (L : List Int) (r : Nat) (V : Int) (h0 : 0 ≤ V) (h1 : V ≤ 2147483646) (h : ∀ z ∈ L, -1 ≤ z ∧ z ≤ 2147483648) : ∀ z ∈ L.set r V, -9223372036854775808 ≤ z ∧ z ≤ 9223372036854775807 := by
  intro z hz
  rcases List.mem_or_eq_of_mem_set hz with h2 | h2
  · have := h z h2; omega
  · omega
theorem infoIk : (Tryd.prog.info? 3).map (fun i => (i.zero, i.size, i.bytes)) = some (some (.int .i64 0), 1, 8) := by kernel_rfl

set_option maxRecDepth 100000 in
set_option maxHeartbeats 1600000 in
theorem walk (v0 : Value) (l0 : List Int) (w : World) (hR : Reads w.heap.size w v0 .u8 l0) (hB : ∀ z ∈ l0, 0 ≤ z ∧ z ≤ 255) (hT : Tabs w) :
    Calls Tryd.prog 3 #[v0] w fun e w' => e = .returned (.bool true) ∧ Below w.heap.size w w' := by
  obtain ⟨a0, cap, rfl⟩ : ∃ a0 cap, v0 = .slice a0 l0.length cap := ⟨hR.2.choose, hR.2.choose_spec.choose, hR.2.choose_spec.choose_spec.1⟩
  have hc := code_of_reads hR rfl hB
  have HT := Lib.hid hT
  clear hT
  clear hR hB
  by_cases hbig : 1048576 < l0.length
  · go_enter Tryd.func3, Tryd.ntmps3
    go_wp2_with (go_at_call 5; refine (big_yes l0.length cap a0 hbig _).mono ?_; rintro e w1 ⟨rfl, rfl⟩)
    go_ret
    exact ⟨rfl, Below.refl _ _⟩
  · obtain ⟨i0, hi, hz0, hz1, hz2⟩ := info_parts infoIk
    go_enter Tryd.func3, Tryd.ntmps3
    go_wp2_with (first | (go_at_call 5; refine (big_no l0.length cap a0 (by omega) _).mono ?_; rintro e w0 ⟨rfl, rfl⟩) | (go_at_call 6; refine (dkh_any l0.length cap a0 _ hc (by omega)).mono ?_; rintro e w1 ⟨s, L, vl, hs0, hs1, hL, hLB, rfl, o1, b1⟩; obtain ⟨al, cl, rfl⟩ := own_slice o1; have HLB := Lib.hid hLB; have HO1 := Lib.hid o1; have HB1 := Lib.hid b1; clear o1 b1 hLB))
    go_upto_region 5 with (go_at_call 7; refine (i_KeyedHash s _ L _ (by omega) (by omega) (reads_own HO1.out rfl (by omega)) (fun z hz => by have := HLB.out z hz; omega) (by omega)).mono ?_; rintro e w2 ⟨H, hH, rfl, b2⟩; have HH := Lib.hid hH; have hH0 : 0 ≤ H ∧ H ≤ 2147483646 := (by rw [hH]; exact khash_range s L); clear hH)
    have hd1 : decide (H < 0) = false := decide_eq_false (by omega)
    have hd2 : decide ((2147483647 : Int) ≤ H) = false := decide_eq_false (by omega)
    have HB2 := Lib.hid (btrans HB1.out b2)
    have HO2 := Lib.hid (own_later HO1.out b2)
    clear b2 HB1 HO1
    have HNIL : Hid (al = none → cl = 0) := Lib.hid (fun e => by
      obtain ⟨-, a1, c1, e1, h1, -⟩ := reads_own HO2.out rfl (by omega)
      cases e1
      exact h1.1 e)
    have HSRC : Hid (∀ j, j < L.length → ∃ b off, al = some ⟨b, off, none⟩ ∧ b < w2.heap.size ∧ w2.cell? ⟨b, off + j, none⟩ = some (.int .i64 (L.getD j 0))) := Lib.hid (by
      obtain ⟨-, a1, c1, e1, -, h1⟩ := reads_own HO2.out rfl (by omega)
      cases e1
      exact h1)
    go_upto_region 7 with (first | (go_at_call 8; refine (i_Hash v4 (s :: L ++ [s]) w4 (reads_own HO4.out rfl (by simp; omega)) (fun z hz => ?_) (by simp; omega)).mono ?_; exact hash_args s L hs0 hs1 HLB.out z hz; rintro e w5 ⟨r, hr, rfl, b5⟩; obtain rfl : H = r := (by rw [HH.out, hr]; rfl); clear hr) | (at_builtin; have hown' := hown.alloc (.cells #[.int .i64 s] 3); refine append_reads_g _ ?_ _ _ 24 rfl w2.heap.size 3 i0 (.int .i64 0) 8 Tryd.underlying24 hi hz0 hz1 hz2 rfl _ _ _ rfl hown' (some ⟨w3.heap.size, 0, none⟩) 1 1 .i64 [s] rfl rfl (fun e => by cases e) (one_src w3 _ .i64 _) (by omega) (by omega) (le_alloc b3.size _) ?_; rfl; intro v4 w4 hown4 hgrow4; have b4 := below_own (b3.alloc b3.size _) hgrow4 hown' (Nat.le_refl _) (le_alloc b3.size _); have HO4 : Hid (w4.ownsRow w2.heap.size 3 1 v4 (s :: L ++ [s]).length ((s :: L ++ [s]).map (Value.int .i64))) := Lib.hid (by have h9 := hown4; rw [Nat.add_comm 1 L.length] at h9; simpa using h9)) | (at_builtin; refine append_reads_g _ ?_ _ _ 24 rfl w2.heap.size 3 i0 (.int .i64 0) 8 Tryd.underlying24 hi hz0 hz1 hz2 rfl _ 1 [.int .i64 s] rfl (own_one w2 _ _) al L.length cl .i64 L rfl rfl HNIL.out (alloc_src HSRC.out _) (by omega) (by omega) (by simp) ?_; rfl; intro v3 w3 hown hgrow; have b3 := below_own ((Below.refl w2.heap.size w2).alloc (Nat.le_refl _) _) hgrow (own_one w2 _ _) (Nat.le_refl _) (by simp)))
    have HB5 := Lib.hid (btrans (btrans HB2.out b4) b5)
    have HO5 := Lib.hid (own_later HO2.out (b4.trans (b5.mono b4.size)))
    clear HB2 HO2 HNIL HSRC b5 HO4 b4 hown4 hgrow4 hown' b3 hown hgrow
    by_cases hpos : 0 < L.length
    · obtain ⟨b, off, cl', e1, hbl, hcl⟩ := (reads_own HO5.out rfl (by omega)).some (by intro h; rw [h] at hpos; simp at hpos)
      cases e1
      have HCL := Lib.hid hcl
      clear hcl
      go_upto_region 9 with (at_builtin; refine append_reads _ rfl _ _ 24 rfl w5.heap.size 3 i0 (.int .i64 0) 8 Tryd.underlying24 hi hz0 hz1 hz2 rfl _ 0 [] rfl (own_empty w5 _) (some ⟨b, off, none⟩) L.length cl .i64 L rfl rfl (fun e => by cases e) (fun j hj => ⟨b, off, rfl, (World.grownBy_alloc w5 _ none).cell (HCL.out j hj) (by simp)⟩) (by omega) (by omega) (by simp) ?_; intro v6 w6 hown hgrow; rw [Nat.zero_add, List.nil_append] at hown)
      have HB6 := Lib.hid (btrans HB5.out (below_own ((Below.refl w5.heap.size w5).alloc (Nat.le_refl _) _) hgrow (own_empty w5 _) (Nat.le_refl _) (by simp)))
      have hown2 := hown
      obtain ⟨-, ⟨-, h0⟩ | ⟨g, capm, cur, rfl, hbg, -, -, -, -, -⟩⟩ := hown2
      · omega
      have HM6 := Lib.hid hown
      clear hown hgrow
      have FL := Lib.hid trivial
      go_upto_region 10 with (go_at_call 9; have FG := FL; refine (at_any l0.length cap a0 _ _ (code_later hc HB6.out) (by omega) 0 (by decide) (by decide)).mono ?_; rintro e w7 ⟨x0, hx00, hx01, rfl, rfl⟩; obtain ⟨r, hr⟩ : ∃ r : Nat, x0 % (L.length : Int) = (r : Int) := ⟨(x0 % (L.length : Int)).toNat, by have := Int.emod_nonneg x0 (show (L.length : Int) ≠ 0 by omega); omega⟩; have hrl : r < L.length := (by have := Int.emod_lt_of_pos x0 (show (0 : Int) < L.length by omega); omega); clear FL FG)
      obtain ⟨z, hz⟩ : ∃ z, z = L.getD r 0 := ⟨_, rfl⟩
      have hz01 : -1 ≤ z ∧ z ≤ 2147483648 := HLB.out z (by rw [hz]; simp [List.getD, hrl])
      have hcm := (HM6.out.cellAt r (by omega)).trans (show (L.map (Value.int .i64))[r]? = some (.int .i64 z) by rw [hz]; simp [List.getD, hrl])
      have hfm := HM6.out.frozenAt r
      have HZ := Lib.hid hz
      clear hz
      go_region_with (first | (go_at_call 9; refine Calls.mono (at_any l0.length cap a0 _ _ (code_later hc HB6.out.drew) (by omega) 1 (by decide) (by decide)) ?_; rintro e w7 ⟨y, hy0, hy1, rfl, rfl⟩; have hwv : IntKind.i64.wrap (IntKind.i64.wrap (z + 1) + y) = z + 1 + y := (by rw [show IntKind.i64.wrap (z + 1) = z + 1 by rw [IntKind.wrap_i64]; omega, IntKind.wrap_i64]; omega)) | (go_at_call 10; refine Calls.mono (smod_any _ 2147483647 (by decide) (by decide) _) ?_; rintro e w8 ⟨rfl, rfl⟩))
      all_goals
        obtain ⟨V, hV⟩ : ∃ V, V = (z + 1 + y) % 2147483647 := ⟨_, rfl⟩
        rw [← hV]
        have hV0 : 0 ≤ V ∧ V ≤ 2147483646 := by omega
        have hVz : V % 2147483647 ≠ L.getD r 0 % 2147483647 := by rw [← HZ.out, hV]; omega
        have HKS : Hid (khash s (L.set r V) ≠ khash s L) := Lib.hid (khash_set s L r hrl V hVz)
        clear hV hVz
        have HM7 : Hid ((w6.setCell ⟨g, r, none⟩ (.int .i64 V)).drew.ownsRow w5.heap.size 3 1 (.slice (some ⟨g, 0, none⟩) L.length capm) L.length ((L.set r V).map (Value.int .i64))) := Lib.hid (by
          have h9 := (HM6.out.stored r (.int .i64 V)).1
          rw [List.map_set]
          exact h9)
        have hgw : w.heap.size ≤ g := Nat.le_trans HB5.out.size hbg
        have HB7 := Lib.hid (HB6.out.setCell (p := ⟨g, r, none⟩) hgw (.int .i64 V)).drew
        obtain ⟨W7, hW7⟩ : ∃ W7, W7 = (w6.setCell ⟨g, r, none⟩ (.int .i64 V)).drew := ⟨_, rfl⟩
        rw [← hW7] at HM7 HB7 ⊢
        have hsl : (L.set r V).length = L.length := List.length_set
        clear hW7 hcm hfm HM6 HB6
        go_upto_region 13 with (go_at_call 7; refine (i_KeyedHash s _ (L.set r V) _ (by omega) (by omega) (reads_own HM7.out (by omega) (by omega)) (fun q hq => ?_) (by omega)).mono ?_; exact set_args L r V hV0.1 hV0.2 HLB.out q hq; rintro e w8 ⟨H2, hH2, rfl, b8⟩; have hne : (H2 == H) = false := (by rw [beq_eq_false_iff_ne, hH2, HH.out]; exact HKS.out); clear hH2)
        have HBT := Lib.hid (btrans HB7.out b8)
        go_wp2_with (first | (go_at_call 11; refine (dds_any l0.length cap a0 _ (code_later hc HBT.out) (by omega)).mono ?_; rintro e w10 ⟨x, t, hx0, hx1, ht, rfl, b10⟩) | (go_at_call 13; refine (i_DeriveFromString x t _ (by omega) (by omega) (by omega) (HT.out.later (btrans HBT.out b10))).mono ?_; rintro e w11 ⟨r, hr, rfl, b11⟩; have hrg : 1 ≤ r ∧ r ≤ 2147483646 := (by rw [hr]; exact derive_range x t); clear hr) | (go_at_call 12; refine (i_IsValidKey r _ (by omega) (by omega)).mono ?_; rintro e w12 ⟨q, hq, rfl, b12⟩; obtain rfl : q = true := (by rw [hq]; exact decide_eq_true hrg); clear hq))
        go_ret
        exact ⟨rfl, btrans (btrans (btrans HBT.out b10) b11) b12⟩
    · have HBT := HB5
      have h0 : L.length = 0 := by omega
      go_wp2_with (first | (go_at_call 11; refine (dds_any l0.length cap a0 _ (code_later hc HBT.out) (by omega)).mono ?_; rintro e w10 ⟨x, t, hx0, hx1, ht, rfl, b10⟩) | (go_at_call 13; refine (i_DeriveFromString x t _ (by omega) (by omega) (by omega) (HT.out.later (btrans HBT.out b10))).mono ?_; rintro e w11 ⟨r, hr, rfl, b11⟩; have hrg : 1 ≤ r ∧ r ≤ 2147483646 := (by rw [hr]; exact derive_range x t); clear hr) | (go_at_call 12; refine (i_IsValidKey r _ (by omega) (by omega)).mono ?_; rintro e w12 ⟨q, hq, rfl, b12⟩; obtain rfl : q = true := (by rw [hq]; exact decide_eq_true hrg); clear hq))
      go_ret
      exact ⟨rfl, btrans (btrans (btrans HBT.out b10) b11) b12⟩
end Go.Proofs.YtkofmllikneleaaDoor.fnKeyedHash
