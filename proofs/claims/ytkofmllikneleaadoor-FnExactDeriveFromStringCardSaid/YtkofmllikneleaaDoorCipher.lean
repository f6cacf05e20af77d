/-
  The model's contracts of chapter 3: BytesToInts, the cipher, derived keys.
-/
import Derived.Test.YtkofmllikneleaaDoorHash
import Derived.Deep.RegionHeld3
namespace Go.Proofs.YtkofmllikneleaaDoor
open Go.RowKit

def encAt (s : Int) (i : Nat) (x : Int) : Int := (x + khash s [(i : Int)] % 256) % 256
def decAt (s : Int) (i : Nat) (x : Int) : Int := (x - khash s [(i : Int)] % 256) % 256
def encL (s : Int) (l : List Int) : List Int := l.mapIdx (encAt s)
def decL (s : Int) (l : List Int) : List Int := l.mapIdx (decAt s)
theorem enc_range (s : Int) (i : Nat) (x : Int) : 0 ≤ encAt s i x ∧ encAt s i x ≤ 255 := by unfold encAt; omega
theorem dec_range (s : Int) (i : Nat) (x : Int) : 0 ≤ decAt s i x ∧ decAt s i x ≤ 255 := by unfold decAt; omega
theorem enc_value {z H : Int} (h0 : 0 ≤ z) (h1 : z ≤ 255) (h2 : 0 ≤ H) : IntKind.u8.wrap ((IntKind.i64.wrap (IntKind.i64.wrap z + H.tmod 256)).tmod 256) = (z + H % 256) % 256 := by
  rw [Int.tmod_eq_emod_of_nonneg h2, show IntKind.i64.wrap z = z by rw [IntKind.wrap_i64]; omega, show IntKind.i64.wrap (z + H % 256) = z + H % 256 by rw [IntKind.wrap_i64]; omega, Int.tmod_eq_emod_of_nonneg (by omega), IntKind.wrap_u8]
  omega
theorem dec_value {z H : Int} (h0 : 0 ≤ z) (h1 : z ≤ 255) (h2 : 0 ≤ H) : IntKind.u8.wrap ((IntKind.i64.wrap (IntKind.i64.wrap z - H.tmod 256)) % 256) = (z - H % 256) % 256 := by
  rw [Int.tmod_eq_emod_of_nonneg h2, show IntKind.i64.wrap z = z by rw [IntKind.wrap_i64]; omega, show IntKind.i64.wrap (z - H % 256) = z - H % 256 by rw [IntKind.wrap_i64]; omega, IntKind.wrap_u8]
  omega
theorem encL_length (s : Int) (l : List Int) : (encL s l).length = l.length := by simp [encL]
theorem decL_length (s : Int) (l : List Int) : (decL s l).length = l.length := by simp [decL]
theorem encL_byte (s : Int) (l : List Int) : ∀ z ∈ encL s l, 0 ≤ z ∧ z ≤ 255 := by
  intro z hz
  obtain ⟨i, h, rfl⟩ := List.mem_iff_getElem.1 hz
  simp only [encL, List.getElem_mapIdx]
  exact enc_range s i _
theorem decL_byte (s : Int) (l : List Int) : ∀ z ∈ decL s l, 0 ≤ z ∧ z ≤ 255 := by
  intro z hz
  obtain ⟨i, h, rfl⟩ := List.mem_iff_getElem.1 hz
  simp only [decL, List.getElem_mapIdx]
  exact dec_range s i _
theorem dec_enc (s : Int) (l : List Int) (h : ∀ z ∈ l, 0 ≤ z ∧ z ≤ 255) : decL s (encL s l) = l := by
  refine List.ext_getElem (by simp [decL, encL]) fun i h1 h2 => ?_
  have := h l[i] (List.getElem_mem _)
  simp only [decL, encL, List.getElem_mapIdx, decAt, encAt]
  omega
theorem enc_dec (s : Int) (l : List Int) (h : ∀ z ∈ l, 0 ≤ z ∧ z ≤ 255) : encL s (decL s l) = l := by
  refine List.ext_getElem (by simp [decL, encL]) fun i h1 h2 => ?_
  have := h l[i] (List.getElem_mem _)
  simp only [decL, encL, List.getElem_mapIdx, decAt, encAt]
  omega
theorem encL_next (s : Int) (l : List Int) (k : Nat) (h : k < l.length) : encL s (l.take (k + 1)) = encL s (l.take k) ++ [encAt s k (l.getD k 0)] := by
  unfold encL
  rw [List.take_succ_eq_append_getElem h, List.mapIdx_concat]
  simp [List.getD, h, Nat.min_eq_left (Nat.le_of_lt h)]
theorem decL_next (s : Int) (l : List Int) (k : Nat) (h : k < l.length) : decL s (l.take (k + 1)) = decL s (l.take k) ++ [decAt s k (l.getD k 0)] := by
  unfold decL
  rw [List.take_succ_eq_append_getElem h, List.mapIdx_concat]
  simp [List.getD, h, Nat.min_eq_left (Nat.le_of_lt h)]
/-- What BytesToInts answers. -/
def b2i (l : List Int) : List Int := (l.length : Int) :: l
theorem infoU8c : (Tryd.prog.info? 5).map (fun i => (i.zero, i.size, i.bytes)) = some (some (.int .u8 0), 1, 1) := by kernel_rfl

set_option maxHeartbeats 800000 in
theorem sb2i_any (l : List Int) (hl : l.length ≤ 2097152) (hb : ∀ z ∈ l, 0 ≤ z ∧ z ≤ 255) (v : Value) (w : World) (hv : Reads w.heap.size w v .u8 l) :
    Calls Tryd.prog 27 #[v] w fun e w' => ∃ v', e = .returned v' ∧ w'.ownsRow w.heap.size 3 1 v' (b2i l).length ((b2i l).map (Value.int .i64)) ∧ Below w.heap.size w w' := by
  obtain ⟨i0, hi, hz0, hz1, hz2⟩ := info_parts infoInt3
  obtain ⟨-, a0, cap, rfl, -, hc⟩ := hv
  have HC := Lib.hid hc
  have HB := Lib.hid hb
  clear hc hb
  go_enter Tryd.func27, Tryd.ntmps27
  go_wp2
  go_loopw [3, 4] (fun o i wr => ∃ k : Nat, k ≤ l.length ∧ i = .int .i64 k ∧ Hid (wr.ownsRow w.heap.size 3 1 o (k + 1) (((l.length : Int) :: l.take k).map (Value.int .i64))) ∧ Below w.heap.size w wr) (fun _ i _ => l.length - (intOf i).toNat)
  case atStart => exact ⟨0, Nat.zero_le _, rfl, Lib.hid (own_one w _ _), (Below.refl _ _).alloc (Nat.le_refl _) _⟩
  case round =>
    obtain ⟨k, hk, rfl, HO, hbl⟩ := hrel
    by_cases hlt : k < l.length
    · obtain ⟨b, off, rfl, hb, hcell⟩ := HC.out k hlt
      obtain ⟨z, hz⟩ : ∃ z, z = l.getD k 0 := ⟨_, rfl⟩
      rw [← hz] at hcell
      have hc1 := (hbl.cell (p := ⟨b, off + k, none⟩) hb).trans hcell
      have hz0' : 0 ≤ z ∧ z ≤ 255 := HB.out z (by rw [hz]; simp [List.getD, hlt])
      have HE : Hid (l.take (k + 1) = l.take k ++ [z]) := Lib.hid (by rw [List.take_succ_eq_append_getElem hlt, hz]; simp [List.getD, hlt])
      clear hcell hz
      go_wp2_with (at_builtin; refine append_reads _ rfl _ _ 24 rfl w.heap.size 3 i0 (.int .i64 0) 8 Tryd.underlying24 hi hz0 hz1 hz2 rfl _ _ _ rfl (HO.out.alloc _) (some ⟨wr.heap.size, 0, none⟩) 1 1 .i64 [_] rfl rfl (fun e => by cases e) (one_src wr _ .i64 _) (by omega) (by omega) (by have := hbl.size; simp; omega) ?_; intro v2 w2 hown2 hgrow2)
      have HO2 : Hid (w2.ownsRow w.heap.size 3 1 v2 (k + 1 + 1) (((l.length : Int) :: l.take (k + 1)).map (Value.int .i64))) := Lib.hid (by rw [HE.out]; simpa using hown2)
      have hb2 := below_own (hbl.alloc hbl.size _) hgrow2 (HO.out.alloc _) (Nat.le_refl _) (by have := hbl.size; simp; omega)
      clear hown2 hgrow2
      go_roundw
      case rel => exact ⟨k + 1, by omega, by go_num, HO2, hb2⟩
      case measure => simp [intOf]; omega
    · have hk' : k = l.length := by omega
      have HF : Hid (wr.ownsRow w.heap.size 3 1 _ (b2i l).length ((b2i l).map (Value.int .i64))) := Lib.hid (by have h9 := HO.out; rw [hk', List.take_length] at h9; exact h9)
      clear hk'
      go_wp2
      go_ret
      exact ⟨_, rfl, HF.out, hbl⟩

end Go.Proofs.YtkofmllikneleaaDoor
