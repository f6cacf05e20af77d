/-
  Plain facts on the hash and the cipher of chapter 3, and the model's contracts.
-/
import Derived.Test.YtkofmllikneleaaDoorInts
import Derived.Test.YtkofmllikneleaaDoorModC
import Derived.BigQuiet
namespace Go.Proofs.YtkofmllikneleaaDoor
open Go.RowKit

/-- One step of the hash. -/
def hstep (d v : Int) : Int := (d * 1000003 + v % 2147483647 + 13) % 2147483647
def hash (l : List Int) : Int := l.foldl hstep 11
theorem hstep_range (d v : Int) : 0 ≤ hstep d v ∧ hstep d v ≤ 2147483646 := by unfold hstep; omega
theorem foldl_range : ∀ (l : List Int) (d : Int), 0 ≤ d → d ≤ 2147483646 → 0 ≤ l.foldl hstep d ∧ l.foldl hstep d ≤ 2147483646
  | [], _, h0, h1 => ⟨h0, h1⟩
  | v :: l, d, _, _ => foldl_range l (hstep d v) (hstep_range d v).1 (hstep_range d v).2
theorem hash_range (l : List Int) : 0 ≤ hash l ∧ hash l ≤ 2147483646 := foldl_range l 11 (by decide) (by decide)
theorem hash_next (l : List Int) (k : Nat) (h : k < l.length) : hash (l.take (k + 1)) = hstep (hash (l.take k)) (l.getD k 0) := by
  unfold hash
  rw [List.take_succ_eq_append_getElem h, List.foldl_append]
  simp [List.getD, h]
/-- The keyed hash. -/
def khash (k : Int) (l : List Int) : Int := hash (k :: l ++ [k])
theorem khash_range (k : Int) (l : List Int) : 0 ≤ khash k l ∧ khash k l ≤ 2147483646 := hash_range _

set_option maxHeartbeats 800000 in
theorem sh_any (l : List Int) (hl : l.length ≤ 2097152) (v : Value) (w : World) (hv : Reads w.heap.size w v .i64 l) :
    Calls Tryd.prog 34 #[v] w fun e w' => e = .returned (.int .i64 (hash l)) ∧ Below w.heap.size w w' := by
  obtain ⟨-, a0, cap, rfl, -, hc⟩ := hv
  have HC := Lib.hid hc
  clear hc
  go_enter Tryd.func34, Tryd.ntmps34
  go_wp2
  go_loopw [3, 4] (fun dv i wr => ∃ (k : Nat) (d : Int), k ≤ l.length ∧ i = .int .i64 k ∧ dv = .int .i64 d ∧ Hid (d = hash (l.take k)) ∧ 0 ≤ d ∧ d ≤ 2147483646 ∧ Below w.heap.size w wr) (fun _ i _ => l.length - (intOf i).toNat)
  case atStart => exact ⟨0, 11, Nat.zero_le _, rfl, rfl, Lib.hid rfl, by decide, by decide, Below.refl _ _⟩
  case round =>
    obtain ⟨k, d, hk, rfl, rfl, HD, hd0, hd1, hbl⟩ := hrel
    by_cases hlt : k < l.length
    · obtain ⟨b, off, rfl, hb, hcell⟩ := HC.out k hlt
      obtain ⟨z, hz⟩ : ∃ z, z = l.getD k 0 := ⟨_, rfl⟩
      rw [← hz] at hcell
      have hc1 := (hbl.cell (p := ⟨b, off + k, none⟩) hb).trans hcell
      have hm0 : 0 ≤ z % 2147483647 := Int.emod_nonneg _ (by decide)
      have hm1 : z % 2147483647 ≤ 2147483646 := by have := Int.emod_lt_of_pos z (show (0 : Int) < 2147483647 by decide); omega
      have HE : Hid (hash (l.take (k + 1)) = hstep d z) := Lib.hid (by rw [hash_next l k hlt, ← hz, ← HD.out])
      clear hcell hz
      go_wp2_with (go_at_call 10; refine (smod_any z 2147483647 (by omega) (by omega) _).mono ?_; rintro e w2 ⟨rfl, rfl⟩)
      go_roundw
      case rel => exact ⟨k + 1, (d * 1000003 + z % 2147483647 + 13) % 2147483647, by omega, by go_num, rfl, Lib.hid (HE.out.symm), by omega, by omega, hbl⟩
      case measure => simp [intOf]; omega
    · have hk' : k = l.length := by omega
      have HF : Hid (d = hash l) := Lib.hid (by rw [HD.out, hk', List.take_length])
      clear hk'
      go_wp2
      go_ret
      exact ⟨by rw [HF.out]; rfl, hbl⟩

theorem infoInt3 : (Tryd.prog.info? 3).map (fun i => (i.zero, i.size, i.bytes)) = some (some (.int .i64 0), 1, 8) := by kernel_rfl

set_option maxHeartbeats 800000 in
theorem skh_any (s : Int) (l : List Int) (hl : l.length ≤ 1500000) (v : Value) (w : World) (hv : Reads w.heap.size w v .i64 l) :
    Calls Tryd.prog 26 #[.int .i64 s, v] w fun e w' => e = .returned (.int .i64 (khash s l)) ∧ Below w.heap.size w w' := by
  obtain ⟨i0, hi, hz0, hz1, hz2⟩ := info_parts infoInt3
  obtain ⟨-, a0, cap, rfl, hcap, hc⟩ := hv
  have HC := Lib.hid hc
  have HNIL := Lib.hid hcap
  clear hc hcap
  go_enter Tryd.func26, Tryd.ntmps26
  go_wp2_with (first | (go_at_call 34; refine (sh_any (s :: l ++ [s]) (by simp; omega) v2 w2 (reads_own HO2.out rfl (by simp; omega))).mono ?_; rintro e w3 ⟨rfl, b3⟩) | (at_builtin; have hown' := hown.alloc (.cells #[.int .i64 s] 3); refine append_reads _ rfl _ _ 24 rfl w.heap.size 3 i0 (.int .i64 0) 8 Tryd.underlying24 hi hz0 hz1 hz2 rfl _ _ _ rfl hown' (some ⟨w1.heap.size, 0, none⟩) 1 1 .i64 [s] rfl rfl (fun e => by cases e) (one_src w1 _ .i64 _) (by omega) (by omega) (by have := b1.size; simp; omega) ?_; intro v2 w2 hown2 hgrow2; have b2 := below_own (b1.alloc b1.size _) hgrow2 hown' (Nat.le_refl _) (by have := b1.size; simp; omega); have HO2 : Hid (w2.ownsRow w.heap.size 3 1 v2 (s :: l ++ [s]).length ((s :: l ++ [s]).map (Value.int .i64))) := Lib.hid (by have h9 := hown2; rw [Nat.add_comm 1 l.length] at h9; simpa using h9)) | (at_builtin; refine append_reads _ rfl _ _ 24 rfl w.heap.size 3 i0 (.int .i64 0) 8 Tryd.underlying24 hi hz0 hz1 hz2 rfl _ 1 [.int .i64 s] rfl (own_one w _ _) a0 l.length cap .i64 l rfl rfl HNIL.out.1 (alloc_src HC.out _) (by omega) (by omega) (by simp) ?_; intro v1 w1 hown hgrow; have b1 := below_own ((Below.refl w.heap.size w).alloc (Nat.le_refl _) _) hgrow (own_one w _ _) (Nat.le_refl _) (by simp)))
  go_ret
  exact ⟨rfl, btrans b2 b3⟩
end Go.Proofs.YtkofmllikneleaaDoor
