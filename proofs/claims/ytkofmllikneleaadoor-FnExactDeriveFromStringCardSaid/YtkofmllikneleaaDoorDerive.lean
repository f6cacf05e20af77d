/-
  The model's DeriveFromString, and the contracts of chapter 3 in the form that the exact laws' walks ask.
-/
import Derived.Test.YtkofmllikneleaaDoorCipher
import Derived.Test.YtkofmllikneleaaDoorStrBytes
namespace Go.Proofs.YtkofmllikneleaaDoor
open Go.RowKit

/-- What DeriveFromString answers. -/
def derive (s : Int) (t : ByteArray) : Int := if 1 < khash s (b2i (bytesI t)) then khash s (b2i (bytesI t)) else 1
theorem derive_range (s : Int) (t : ByteArray) : 1 ≤ derive s t ∧ derive s t ≤ 2147483646 := by
  have := khash_range s (b2i (bytesI t))
  unfold derive
  split <;> omega

set_option maxHeartbeats 800000 in
theorem sder_any (s : Int) (t : ByteArray) (ht : t.size ≤ 1048576) (w : World) :
    Calls Tryd.prog 14 #[.int .i64 s, .string t] w fun e w' => e = .returned (.int .i64 (derive s t)) ∧ Below w.heap.size w w' := by
  have hconv : ∀ W : World, (convert 9 22 (.string t)).run Tryd.prog W = .ok (.slice (some ⟨W.heap.size, 0, none⟩) t.size (grownCap W t.size 0 5)) (Lib.bytesWorld W 5 t) := fun W => Lib.run_convert_string_bytes W _ _ _ t Tryd.underlying9 Tryd.underlying22 Tryd.underlying5
  have hbl := bytesI_length t
  obtain ⟨H, hH⟩ : ∃ H, H = khash s (b2i (bytesI t)) := ⟨_, rfl⟩
  have HD : Hid ((if 1 < H then H else 1) = derive s t) := Lib.hid (by unfold derive; rw [hH])
  have HH := Lib.hid hH
  have HBL := Lib.hid hbl
  clear hH hbl
  go_enter Tryd.func14, Tryd.ntmps14
  go_wp2_with (first | (go_at_call 27; refine (sb2i_any (bytesI t) (by have := HBL.out; omega) (bytesI_byte t) _ _ (reads_conv w _ t (by omega))).mono ?_; rintro e w2 ⟨v2, rfl, o2, b2⟩; have B2 := Lib.hid (btrans (conv_below w 5 t) b2)) | (go_at_call 26; refine (skh_any s (b2i (bytesI t)) (by have := HBL.out; unfold b2i; simp; omega) v2 _ (reads_own o2 rfl (by have := HBL.out; unfold b2i; simp; omega))).mono ?_; rintro e w3 ⟨rfl, b3⟩) | (go_at_call 25; rw [← HH.out]; refine (smax_any 1 H _).mono ?_; rintro e w4 ⟨rfl, rfl⟩))
  all_goals go_ret
  · exact ⟨by rw [← HD.out, if_pos h]; rfl, btrans B2.out b3⟩
  · exact ⟨by rw [← HD.out, if_neg (by omega)]; rfl, btrans B2.out b3⟩
end Go.Proofs.YtkofmllikneleaaDoor
