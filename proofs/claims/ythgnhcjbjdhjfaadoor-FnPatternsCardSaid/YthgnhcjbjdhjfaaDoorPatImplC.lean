/-
  The program's contracts of chapter 6: MeetPatterns.
-/
import Derived.Test.YthgnhcjbjdhjfaaDoorPatImplB
import Derived.Test.YthgnhcjbjdhjfaaDoorListSpec
import Derived.Test.YthgnhcjbjdhjfaaDoorMix
namespace Go.Proofs.YthgnhcjbjdhjfaaDoor
open Go.RowKit

/-- The signs after the first j open places have been taken from q. -/
def mixB (p q : ByteArray) (L : List Nat) (i : Nat) : UInt8 := if i ∈ L then q.data.toList.getD i 0 else p.data.toList.getD i 0
theorem mixB_next (p q : ByteArray) (L : List Nat) (t : Nat) (k : Nat) : mixB p q (L ++ [t]) k = if k = t then q.data.toList.getD t 0 else mixB p q L k := by
  unfold mixB
  by_cases e : k = t
  · subst e
    rw [if_pos (by simp), if_pos rfl]
  · rw [if_neg e]
    by_cases h : k ∈ L
    · rw [if_pos (List.mem_append_left _ h), if_pos h]
    · rw [if_neg (by simp [h, e]), if_neg h]
theorem mix_meet (p q : ByteArray) (h : p.size ≤ 8) : mixL p.size (mixB p q (itemsTo (opS p) 64)) = meetL p q p.size := by
  unfold mixL meetL
  refine List.map_congr_left fun i hi => ?_
  have hi2 := List.mem_range.1 hi
  unfold mixB meetB
  have hm : i ∈ itemsTo (opS p) 64 ↔ p.data.toList.getD i 0 = 63 := by
    unfold opS
    rw [itemsTo_set _ _ _ (by omega), List.mem_filter]
    simp only [beq_iff_eq]
    exact ⟨fun h => h.2, fun h => ⟨hi, h⟩⟩
  by_cases e : p.data.toList.getD i 0 = 63
  · rw [if_pos (hm.2 e), if_pos e]
  · rw [if_neg (fun h => e (hm.1 h)), if_neg e]
theorem natI_at (l : List Nat) (j : Nat) (h : j < l.length) : (natI l).getD j 0 = ((l.getD j 0 : Nat) : Int) := by
  unfold natI
  rw [List.getD_eq_getElem?_getD, List.getD_eq_getElem?_getD, List.getElem?_map, List.getElem?_eq_getElem h]
  rfl
theorem take_at {α : Type} (l : List α) (j : Nat) (d : α) (h : j < l.length) : l.take (j + 1) = l.take j ++ [l.getD j d] := by
  rw [List.take_succ_eq_append_getElem h, List.getD_eq_getElem?_getD, List.getElem?_eq_getElem h, Option.getD_some]

set_option maxHeartbeats 3200000 in
theorem imeet_any (p q : ByteArray) (w : World) (hm : ML w) (hd : DB w) (hps : p.size ≤ 1048576) (hqs : q.size ≤ 1048576) :
    Calls Tryd.prog 9 #[.string p, .string q] w fun e w' => e = .returned (.tuple #[.string (meetP p q).1, .bool (meetP p q).2]) ∧ Below w.heap.size w w' := by
  obtain ⟨a, ha⟩ : ∃ a, a = meetOk p q := ⟨_, rfl⟩
  have HA := Lib.hid (fun w (h : ML w) => icm_any p q w h hps hqs)
  rw [← ha] at HA
  have HM := Lib.hid hm
  have HD := Lib.hid hd
  clear hm hd
  cases a with
  | false =>
    have HF : Hid (meetP p q = (⟨#[]⟩, false)) := Lib.hid (by unfold meetP; rw [← ha]; rfl)
    clear ha
    go_enter Tryd.func9, Tryd.ntmps9
    go_wp2_with (go_at_call 37; refine (HA.out _ HM.out).mono ?_; rintro e w1 ⟨rfl, b1⟩; have HB1 := Lib.hid b1; clear b1)
    go_ret2
    exact ⟨by rw [HF.out]; rfl, HB1.out⟩
  | true =>
    have h9 := ha.symm
    unfold meetOk at h9
    simp only [Bool.and_eq_true, decide_eq_true_eq] at h9
    have hp8 := (isP_size h9.1.1).2
    have HSZ := Lib.hid h9.2.1
    have hlt := opS_lt p hp8
    have HF : Hid (meetP p q = (strOfNums (numsL (mixL p.size (mixB p q (itemsTo (opS p) 64)))), true)) := Lib.hid (by
      unfold meetP
      rw [← ha, if_pos rfl, str_nums, mix_meet p q hp8])
    have HIT : Hid (∀ k ∈ itemsTo (opS p) 64, k < p.size) := Lib.hid (fun k hk => by
      have h3 := itemsTo_lt hk
      unfold opS at h3
      rw [setTo_bit] at h3
      have h4 := h3.2
      simp only [Bool.and_eq_true, decide_eq_true_eq] at h4
      exact h4.1)
    have hL64 := itemsTo_length (opS p) 64
    have HI := Lib.hid (fun w h => itemsI_any (opS p) (by omega) w h)
    obtain ⟨L, hL⟩ : ∃ L, L = itemsTo (opS p) 64 := ⟨_, rfl⟩
    rw [← hL] at HF HIT HI hL64
    clear ha h9 hL
    go_enter Tryd.func9, Tryd.ntmps9
    go_wp2_with (first | (go_at_call 37; go_loud (refine (HA.out _ HM.out).mono ?_; rintro e w1 ⟨rfl, b1⟩; obtain ⟨c, W1, hconv, hc1, hc2, hb1, hsz, hmix⟩ := conv_mix p w1 (by omega); have HB1 := Lib.hid (btrans b1 hb1); have HX1 := Lib.hid hmix; have hg1 := b1.size; clear b1 hb1 hmix)) | (go_at_call 38; go_loud (refine (iopen_any p hp8 _).mono ?_; rintro e w2 ⟨rfl, b2⟩; have HB2 := Lib.hid (btrans HB1.out b2); have HX2 := Lib.hid (HX1.out.later b2); have hz2 := b2.size; clear b2)) | (go_at_call 39; go_loud (refine (HI.out _ (HD.out.later HB2.out)).mono ?_; rintro e w3 ⟨v3, rfl, o3, b3⟩; obtain ⟨al, cl, rfl⟩ := own_form o3; have HB3 := Lib.hid (btrans HB2.out b3); have HX3 := Lib.hid (HX2.out.later b3); have HR3 := Lib.hid (reads_own o3 rfl (by rw [natI_length]; omega)); have HG3 := Lib.hid (fun b off (e : al = some ⟨b, off, none⟩) => (o3.lt b (by rw [e]; rfl)).1); clear b3 o3)))
    have hnl := natI_length L
    have HCELL : Hid (∀ j, j < L.length → ∃ b off, al = some ⟨b, off, none⟩ ∧ b ≠ w1.heap.size ∧ w3.cell? ⟨b, off + j, none⟩ = some (.int .i64 ((L.getD j 0 : Nat) : Int))) := Lib.hid (by
      obtain ⟨-, a1, c1, e1, -, h1⟩ := HR3.out
      cases e1
      intro j hj
      obtain ⟨b, off, e2, -, e3⟩ := h1 j (by omega)
      refine ⟨b, off, e2, ?_, by rw [e3, natI_at L j hj]⟩
      have := HG3.out b off e2
      omega)
    rw [hnl]
    clear HX1 HX2 HR3 HG3 HB1 HB2 hnl hconv
    go_loopw [8, 19] (fun _ i wr => ∃ j : Nat, j ≤ L.length ∧ i = .int .i64 j ∧ Hid (MixAt wr w1.heap.size p.size (mixB p q (L.take j))) ∧ Hid (∀ j, j < L.length → ∃ b off, al = some ⟨b, off, none⟩ ∧ b ≠ w1.heap.size ∧ wr.cell? ⟨b, off + j, none⟩ = some (.int .i64 ((L.getD j 0 : Nat) : Int))) ∧ Below w.heap.size w wr) (fun _ i _ => L.length - (intOf i).toNat)
    case atStart => exact ⟨0, Nat.zero_le _, rfl, HX3, HCELL, HB3.out⟩
    case round =>
      obtain ⟨j, hj, rfl, HX, HC, hbl⟩ := hrel
      by_cases hlt2 : j < L.length
      · obtain ⟨b, off, rfl, hbn, hc⟩ := HC.out j hlt2
        obtain ⟨t, ht⟩ : ∃ t, t = L.getD j 0 := ⟨_, rfl⟩
        have HTK : Hid (L.take (j + 1) = L.take j ++ [t]) := Lib.hid (by rw [ht]; exact take_at L j 0 hlt2)
        have htp : t < p.size := by rw [ht]; exact HIT.out _ (getD_mem L j 0 hlt2)
        have htq : t < q.size := by have := HSZ.out; omega
        rw [← ht] at hc
        have hf := HX.out.unfrozen t htp
        have hcc := HX.out.cell t htp
        have HX2 : Hid (MixAt (wr.setCell ⟨w1.heap.size, t, none⟩ (.int .u8 (q[t].toNat : Int))) w1.heap.size p.size (mixB p q (L.take (j + 1)))) := Lib.hid (by
          refine HX.out.set t htp q[t] fun k hk => ?_
          rw [HTK.out, mixB_next, getD_byte q t htq])
        have HC2 : Hid (∀ i, i < L.length → ∃ b' off', (some ⟨b, off, none⟩ : Option Addr) = some ⟨b', off', none⟩ ∧ b' ≠ w1.heap.size ∧ (wr.setCell ⟨w1.heap.size, t, none⟩ (.int .u8 (q[t].toNat : Int))).cell? ⟨b', off' + i, none⟩ = some (.int .i64 ((L.getD i 0 : Nat) : Int))) := Lib.hid (fun i hi => by
          obtain ⟨b', off', e1, e2, e3⟩ := HC.out i hi
          exact ⟨b', off', e1, e2, (World.cell?_setCell_other _ _ _ _ (by intro e; exact e2 (congrArg Addr.block e).symm)).trans e3⟩)
        clear ht
        go_wp2
        go_roundw
        case rel => exact ⟨j + 1, by omega, by go_num, HX2, HC2, hbl.setCell hg1 _⟩
        case measure => simp [intOf]; omega
      · have hconv := conv_own (mix_reads HX.out hc1 hc2)
        have HV : Hid (strOfNums (numsL (mixL p.size (mixB p q (L.take j)))) = strOfNums (numsL (mixL p.size (mixB p q L)))) := Lib.hid (by rw [List.take_of_length_le (by omega)])
        rw [HV.out] at hconv
        go_wp2
        go_ret2
        exact ⟨by rw [HF.out]; rfl, hbl⟩
end Go.Proofs.YthgnhcjbjdhjfaaDoor
