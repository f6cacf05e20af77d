/-
  Contracts of impl.Mod, impl.Hash, impl.IsValidKey, impl.BytesToInts.
-/
import Derived.Test.YtkofmllikneleaaDoorCryptoStd
namespace Go.Proofs.YtkofmllikneleaaDoor
open Go.RowKit

/-- impl.Mod where the divisor is in range. -/
theorem imod_any (n m : Int) (h1 : 1 ≤ m) (h2 : m ≤ 1000000000000) (w : World) :
    Calls Tryd.prog 19 #[.int .i64 n, .int .i64 m] w fun e w' => e = .returned (.int .i64 (n % m)) ∧ w = w' := by
  by_cases h3 : 0 ≤ n
  · have b1 : 0 ≤ n % m := Int.emod_nonneg _ (by omega)
    go_enter Tryd.func19, Tryd.ntmps19
    go_wp2_with (go_at_call 22; refine (inr_yes _ _ _ (by omega) (by omega) _).mono ?_; rintro e w1 ⟨rfl, rfl⟩)
    go_ret
    exact ⟨rfl, rfl⟩
  · obtain ⟨b1, b2⟩ := tmod_neg_bounds (show n < 0 by omega) (show 0 < m by omega)
    have c1 : 0 ≤ n % m := Int.emod_nonneg _ (by omega)
    have c2 : n % m < m := Int.emod_lt_of_pos _ (by omega)
    have hE : n.tmod m % m = n % m := tmod_emod n m
    obtain ⟨t, ht⟩ : ∃ t, t = n.tmod m := ⟨_, rfl⟩
    by_cases h4 : n.tmod m < 0
    · have HE : Hid (n.tmod m + m = n % m) := Lib.hid (by
        rw [← hE, ← Int.add_emod_right, Int.emod_eq_of_lt (by omega) (by omega)])
      clear hE ht
      go_enter Tryd.func19, Tryd.ntmps19
      go_wp2_with (go_at_call 22; refine (inr_yes _ _ _ (by omega) (by omega) _).mono ?_; rintro e w1 ⟨rfl, rfl⟩)
      go_ret
      exact ⟨by rw [← HE.out]; rfl, rfl⟩
    · have HE : Hid (n.tmod m = n % m) := Lib.hid (by rw [← hE, Int.emod_eq_of_lt (by omega) (by omega)])
      clear hE ht
      go_enter Tryd.func19, Tryd.ntmps19
      go_wp2_with (go_at_call 22; refine (inr_yes _ _ _ (by omega) (by omega) _).mono ?_; rintro e w1 ⟨rfl, rfl⟩)
      go_ret
      exact ⟨by rw [← HE.out]; rfl, rfl⟩

set_option maxHeartbeats 800000 in
theorem ih_any (l : List Int) (hl : l.length ≤ 2097152) (v : Value) (w : World) (hv : Reads w.heap.size w v .i64 l) :
    Calls Tryd.prog 8 #[v] w fun e w' => e = .returned (.int .i64 (hash l)) ∧ Below w.heap.size w w' := by
  obtain ⟨-, a0, cap, rfl, -, hc⟩ := hv
  have HC := Lib.hid hc
  clear hc
  go_enter Tryd.func8, Tryd.ntmps8
  go_wp2
  go_loopw [3, 8] (fun dv i wr => ∃ (k : Nat) (d : Int), k ≤ l.length ∧ i = .int .i64 k ∧ dv = .int .i64 d ∧ Hid (d = hash (l.take k)) ∧ 0 ≤ d ∧ d ≤ 2147483646 ∧ Below w.heap.size w wr) (fun _ i _ => l.length - (intOf i).toNat)
  case atStart => exact ⟨0, 11, Nat.zero_le _, rfl, rfl, Lib.hid rfl, by decide, by decide, Below.refl _ _⟩
  case round =>
    obtain ⟨k, d, hk, rfl, rfl, HD, hd0, hd1, hbl⟩ := hrel
    by_cases hlt : k < l.length
    · obtain ⟨b, off, rfl, hb, hcell⟩ := HC.out k hlt
      obtain ⟨z, hz⟩ : ∃ z, z = l.getD k 0 := ⟨_, rfl⟩
      rw [← hz] at hcell
      have hc1 := (hbl.cell (p := ⟨b, off + k, none⟩) hb).trans hcell
      have hm0 : 0 ≤ z % 2147483647 := Int.emod_nonneg _ (by decide)
      have hm1 : z % 2147483647 ≤ 2147483646 := by have := Int.emod_lt_of_pos z (show (0 : Int) < 2147483647 by decide); omega
      have HE : Hid (hash (l.take (k + 1)) = hstep d z) := Lib.hid (by rw [hash_next l k hlt, ← hz, ← HD.out])
      clear hcell hz
      go_wp2_with (go_at_call 19; refine (imod_any z 2147483647 (by omega) (by omega) _).mono ?_; rintro e w2 ⟨rfl, rfl⟩)
      go_roundw
      case rel => exact ⟨k + 1, (d * 1000003 + z % 2147483647 + 13) % 2147483647, by omega, by go_num, rfl, Lib.hid (HE.out.symm), by omega, by omega, hbl⟩
      case measure => simp [intOf]; omega
    · have hk' : k = l.length := by omega
      have HF : Hid (d = hash l) := Lib.hid (by rw [HD.out, hk', List.take_length])
      clear hk'
      go_wp2
      go_ret
      exact ⟨by rw [HF.out]; rfl, hbl⟩
theorem i_Hash (v : Value) (l : List Int) (w : World) (hR : Reads w.heap.size w v .i64 l) (_hB : ∀ z ∈ l, -9223372036854775808 ≤ z ∧ z ≤ 9223372036854775807) (hl : l.length ≤ 1048576) :
    Calls Tryd.prog 8 #[v] w fun e w' => ∃ r, r = hash l ∧ e = .returned (.int .i64 r) ∧ Below w.heap.size w w' :=
  (ih_any l (by omega) v w hR).mono fun _ _ ⟨h1, h2⟩ => ⟨_, rfl, h1, h2⟩
theorem i_IsValidKey (s : Int) (w : World) (_lo : -9223372036854775808 ≤ s) (_hi : s ≤ 9223372036854775807) :
    Calls Tryd.prog 12 #[.int .i64 s] w fun e w' => ∃ r, r = decide (1 ≤ s ∧ s ≤ 2147483646) ∧ e = .returned (.bool r) ∧ Below w.heap.size w w' := by
  obtain ⟨r, hr⟩ : ∃ r, r = decide (1 ≤ s ∧ s ≤ 2147483646) := ⟨_, rfl⟩
  have HC := Lib.hid (inr_any s 1 2147483646)
  rw [← hr] at HC
  have HR := Lib.hid hr
  clear hr
  go_enter Tryd.func12, Tryd.ntmps12
  go_wp2_with (go_at_call 22; refine (HC.out _).mono ?_; rintro e w2 ⟨rfl, rfl⟩)
  go_ret
  exact ⟨r, HR.out, rfl, Below.refl _ _⟩

set_option maxHeartbeats 800000 in
theorem ib2i_any (l : List Int) (hl : l.length ≤ 2097152) (hb : ∀ z ∈ l, 0 ≤ z ∧ z ≤ 255) (v : Value) (w : World) (hv : Reads w.heap.size w v .u8 l) :
    Calls Tryd.prog 23 #[v] w fun e w' => ∃ v', e = .returned v' ∧ w'.ownsRow w.heap.size 3 1 v' (b2i l).length ((b2i l).map (Value.int .i64)) ∧ Below w.heap.size w w' := by
  obtain ⟨i0, hi, hz0, hz1, hz2⟩ := info_parts infoInt3
  obtain ⟨-, a0, cap, rfl, -, hc⟩ := hv
  have HC := Lib.hid hc
  have HB := Lib.hid hb
  clear hc hb
  go_enter Tryd.func23, Tryd.ntmps23
  go_wp2
  go_loopw [3, 11] (fun o i wr => ∃ k : Nat, k ≤ l.length ∧ i = .int .i64 k ∧ Hid (wr.ownsRow w.heap.size 3 1 o (k + 1) (((l.length : Int) :: l.take k).map (Value.int .i64))) ∧ Below w.heap.size w wr) (fun _ i _ => l.length - (intOf i).toNat)
  case atStart => exact ⟨0, Nat.zero_le _, rfl, Lib.hid (own_one w _ _), (Below.refl _ _).alloc (Nat.le_refl _) _⟩
  case round =>
    obtain ⟨k, hk, rfl, HO, hbl⟩ := hrel
    by_cases hlt : k < l.length
    · obtain ⟨b, off, rfl, hb, hcell⟩ := HC.out k hlt
      obtain ⟨z, hz⟩ : ∃ z, z = l.getD k 0 := ⟨_, rfl⟩
      rw [← hz] at hcell
      have hc1 := (hbl.cell (p := ⟨b, off + k, none⟩) hb).trans hcell
      have hz0' : 0 ≤ z ∧ z ≤ 255 := HB.out z (by rw [hz]; simp [List.getD, hlt])
      have HE : Hid (l.take (k + 1) = l.take k ++ [z]) := Lib.hid (by rw [List.take_succ_eq_append_getElem hlt, hz]; simp [List.getD, hlt])
      clear hcell hz
      go_wp2_with (at_builtin; refine append_reads _ rfl _ _ 24 rfl w.heap.size 3 i0 (.int .i64 0) 8 Tryd.underlying24 hi hz0 hz1 hz2 rfl _ _ _ rfl (HO.out.alloc _) (some ⟨wr.heap.size, 0, none⟩) 1 1 .i64 [_] rfl rfl (fun e => by cases e) (one_src wr _ .i64 _) (by omega) (by omega) (by have := hbl.size; simp; omega) ?_; intro v2 w2 hown2 hgrow2)
      have HO2 : Hid (w2.ownsRow w.heap.size 3 1 v2 (k + 1 + 1) (((l.length : Int) :: l.take (k + 1)).map (Value.int .i64))) := Lib.hid (by rw [HE.out]; simpa using hown2)
      have hb2 := below_own (hbl.alloc hbl.size _) hgrow2 (HO.out.alloc _) (Nat.le_refl _) (by have := hbl.size; simp; omega)
      clear hown2 hgrow2
      go_roundw
      case rel => exact ⟨k + 1, by omega, by go_num, HO2, hb2⟩
      case measure => simp [intOf]; omega
    · have hk' : k = l.length := by omega
      have HF : Hid (wr.ownsRow w.heap.size 3 1 _ (b2i l).length ((b2i l).map (Value.int .i64))) := Lib.hid (by have h9 := HO.out; rw [hk', List.take_length] at h9; exact h9)
      clear hk'
      go_wp2
      go_ret
      exact ⟨_, rfl, HF.out, hbl⟩
theorem i_BytesToInts (v : Value) (l : List Int) (w : World) (hR : Reads w.heap.size w v .u8 l) (hB : ∀ z ∈ l, 0 ≤ z ∧ z ≤ 255) (hl : l.length ≤ 1048576) :
    Calls Tryd.prog 23 #[v] w fun e w' => ∃ L v', L = b2i l ∧ L.length ≤ 16777216 ∧ e = .returned v' ∧ w'.ownsRow w.heap.size 3 1 v' L.length (L.map (Value.int .i64)) ∧ Below w.heap.size w w' :=
  (ib2i_any l (by omega) hB v w hR).mono fun _ _ ⟨v', h1, h2, h3⟩ => ⟨_, v', rfl, by unfold b2i; simp; omega, h1, h2, h3⟩
end Go.Proofs.YtkofmllikneleaaDoor
