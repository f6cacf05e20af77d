/-
  The walk of the law FnCipher: true at every byte slice.
-/
import Derived.Test.YtkofmllikneleaaSame
import Derived.Test.YtkofmllikneleaaDrawCrypto
import Derived.Test.YtkofmllikneleaaCryptoImpl
namespace Go.Proofs.Ytkofmllikneleaa.fnCipher
open Go.RowKit

set_option maxRecDepth 100000 in
set_option maxHeartbeats 1600000 in
theorem walk (v0 : Value) (l0 : List Int) (w : World) (hR : Reads w.heap.size w v0 .u8 l0) (hB : ∀ z ∈ l0, 0 ≤ z ∧ z ≤ 255) :
    Calls Try.prog 3 #[v0] w fun e w' => e = .returned (.bool true) ∧ Below w.heap.size w w' := by
  obtain ⟨a0, cap, rfl⟩ : ∃ a0 cap, v0 = .slice a0 l0.length cap := ⟨hR.2.choose, hR.2.choose_spec.choose, hR.2.choose_spec.choose_spec.1⟩
  have hc := code_of_reads hR rfl hB
  clear hR hB
  by_cases hbig : 1048576 < l0.length
  · go_enter Try.func3, Try.ntmps3
    go_wp2_with (go_at_call 10; refine (big_yes l0.length cap a0 hbig _).mono ?_; rintro e w1 ⟨rfl, rfl⟩)
    go_ret
    exact ⟨rfl, Below.refl _ _⟩
  · go_enter Try.func3, Try.ntmps3
    go_wp2_with (first | (go_at_call 10; refine (big_no l0.length cap a0 (by omega) _).mono ?_; rintro e w0 ⟨rfl, rfl⟩) | (go_at_call 11; refine (dre_any l0.length cap a0 _ hc (by omega)).mono ?_; rintro e w1 ⟨s, D, vb, hs0, hs1, hD, hDB, rfl, o1, b1⟩; obtain ⟨ab, cb, rfl⟩ := own_slice o1; have HDB := Lib.hid hDB; have HO1 := Lib.hid o1; have HB1 := Lib.hid b1; clear o1 b1 hDB))
    have FL := Lib.hid trivial
    go_wp2_with (go_at_call 14; have FG := FL; refine (i_Encrypt s _ D _ (by omega) (by omega) (reads_own HO1.out rfl (by omega)) HDB.out (by omega)).mono ?_; rintro e w2 ⟨E, ve, hE, hEn, rfl, oe, b2⟩; obtain ⟨ae, ce, rfl⟩ := own_slice oe; have HE := Lib.hid hE; clear hE FL FG)
    have HEL : Hid (E.length = D.length) := Lib.hid (by rw [HE.out, encL_length])
    have HEB : Hid (∀ z ∈ E, 0 ≤ z ∧ z ≤ 255) := Lib.hid (by rw [HE.out]; exact encL_byte s D)
    have HB2 := Lib.hid (btrans HB1.out b2)
    have HO2 := Lib.hid (own_later HO1.out b2)
    have HE2 := Lib.hid oe
    clear oe b2 HB1 HO1
    have FL := Lib.hid trivial
    go_wp2_with (go_at_call 13; have FG := FL; refine (i_Decrypt s _ E _ (by omega) (by omega) (reads_own HE2.out rfl (by have := HEL.out; omega)) HEB.out (by have := HEL.out; omega)).mono ?_; rintro e w3 ⟨F, vf, hF, hFn, rfl, of, b3⟩; obtain rfl : D = F := (by rw [hF, HE.out]; exact (dec_enc s D HDB.out).symm); clear hF FL FG)
    have HB3 := Lib.hid (btrans HB2.out b3)
    have HO3 := Lib.hid (own_later HO2.out b3)
    have HF3 := Lib.hid of
    clear of b3 HB2 HO2 HE2
    have FL := Lib.hid trivial
    go_wp2_with (go_at_call 12; have FG := FL; refine (same_bytes D _ _ _ (reads_own HF3.out rfl (by omega)) (reads_own HO3.out rfl (by omega))).mono ?_; rintro e w4 ⟨rfl, b4⟩; clear FL FG)
    have HB4 := Lib.hid (btrans HB3.out b4)
    have HO4 := Lib.hid (own_later HO3.out b4)
    clear b4 HB3 HO3 HF3
    have FL := Lib.hid trivial
    go_wp2_with (go_at_call 13; have FG := FL; refine (i_Decrypt s _ D _ (by omega) (by omega) (reads_own HO4.out rfl (by omega)) HDB.out (by omega)).mono ?_; rintro e w5 ⟨G, vg, hG, hGn, rfl, og, b5⟩; obtain ⟨ag, cg, rfl⟩ := own_slice og; have HG := Lib.hid hG; clear hG FL FG)
    have HGL : Hid (G.length = D.length) := Lib.hid (by rw [HG.out, decL_length])
    have HGB : Hid (∀ z ∈ G, 0 ≤ z ∧ z ≤ 255) := Lib.hid (by rw [HG.out]; exact decL_byte s D)
    have HB5 := Lib.hid (btrans HB4.out b5)
    have HO5 := Lib.hid (own_later HO4.out b5)
    have HG5 := Lib.hid og
    clear og b5 HB4 HO4
    have FL := Lib.hid trivial
    go_wp2_with (go_at_call 14; have FG := FL; refine (i_Encrypt s _ G _ (by omega) (by omega) (reads_own HG5.out rfl (by have := HGL.out; omega)) HGB.out (by have := HGL.out; omega)).mono ?_; rintro e w6 ⟨H, vh, hH, hHn, rfl, oh, b6⟩; obtain rfl : D = H := (by rw [hH, HG.out]; exact (enc_dec s D HDB.out).symm); clear hH FL FG)
    have HB6 := Lib.hid (btrans HB5.out b6)
    have HO6 := Lib.hid (own_later HO5.out b6)
    have HH6 := Lib.hid oh
    clear oh b6 HB5 HO5 HG5
    have FL := Lib.hid trivial
    go_wp2_with (go_at_call 12; have FG := FL; refine (same_bytes D _ _ _ (reads_own HH6.out rfl (by omega)) (reads_own HO6.out rfl (by omega))).mono ?_; rintro e w7 ⟨rfl, b7⟩; clear FL FG)
    have HB7 := Lib.hid (btrans HB6.out b7)
    have HO7 := Lib.hid (own_later HO6.out b7)
    clear b7 HB6 HO6 HH6
    go_wp2_with (go_at_call 14; refine (i_Encrypt s _ D _ (by omega) (by omega) (reads_own HO7.out rfl (by omega)) HDB.out (by omega)).mono ?_; rintro e w8 ⟨K, vk, hK, hKn, rfl, ok, b8⟩; obtain ⟨ak, ck, rfl⟩ := own_slice ok; have hKL : K.length = D.length := (by rw [hK, encL_length]); clear hK)
    go_ret
    exact ⟨rfl, btrans HB7.out b8⟩
end Go.Proofs.Ytkofmllikneleaa.fnCipher
