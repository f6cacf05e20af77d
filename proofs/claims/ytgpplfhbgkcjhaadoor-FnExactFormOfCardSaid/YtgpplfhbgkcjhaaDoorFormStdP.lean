/-
  The model's contract of IsConnected; the contracts of PartsOf and IsConnected, of the model and of the program, in the form that the exact laws' walks ask: s_F, i_F, and u_F: the relation fixes the answer.
-/
import Derived.Test.YtgpplfhbgkcjhaaDoorFormBC
import Derived.Test.YtgpplfhbgkcjhaaDoorFormG
import Derived.Test.YtgpplfhbgkcjhaaDoorGridS
namespace Go.Proofs.YtgpplfhbgkcjhaaDoor
open Go.RowKit

set_option maxHeartbeats 800000 in
theorem scn_any (r c : Int) (s : ByteArray) (hs : s.size ≤ 4194304) (w : World) :
    Calls Tryd.prog 21 #[.agg #[.int .i64 r, .int .i64 c, .string s]] w fun e w' => e = .returned (.bool (decide (partsG (r, c, s) = 1))) ∧ Below w.heap.size w w' := by
  have HPA := Lib.hid (fun w => spt_any r c s hs w)
  have HE : Hid ((partsG (r, c, s) == 1) = decide (partsG (r, c, s) = 1)) := Lib.hid (by rw [Bool.eq_iff_iff]; simp)
  rw [← HE.out]
  clear HE
  obtain ⟨P, hP⟩ : ∃ P, P = partsG (r, c, s) := ⟨_, rfl⟩
  rw [← hP] at HPA ⊢
  clear hP
  go_enter Tryd.func21, Tryd.ntmps21
  go_wp2_with (go_at_call 28; refine (HPA.out _).mono ?_; rintro e w4 ⟨rfl, b4⟩; have HB4 := Lib.hid (box1_of b4); clear b4)
  go_ret
  exact ⟨rfl, HB4.out⟩
theorem u_PartsOf {x : Int × Int × ByteArray} {r r' : Int} (h : r = partsG x) (h' : r' = partsG x) : r = r' := h.trans h'.symm
theorem s_PartsOf (r c : Int) (s : ByteArray) (w : World) (_hK : ok_Grid (r, c, s)) (hs : s.size ≤ 1048576) :
    Calls Tryd.prog 28 #[.agg #[.int .i64 r, .int .i64 c, .string s]] w fun e w' => ∃ x, x = partsG (r, c, s) ∧ e = .returned (.int .i64 x) ∧ Below w.heap.size w w' :=
  (spt_any r c s (by omega) w).mono fun _ _ ⟨h1, h2⟩ => ⟨_, rfl, h1, h2⟩
theorem i_PartsOf (r c : Int) (s : ByteArray) (w : World) (_hK : ok_Grid (r, c, s)) (hs : s.size ≤ 1048576) (hD : DB w) :
    Calls Tryd.prog 29 #[.agg #[.int .i64 r, .int .i64 c, .string s]] w fun e w' => ∃ x, x = partsG (r, c, s) ∧ e = .returned (.int .i64 x) ∧ Below w.heap.size w w' :=
  (ipt_any r c s (by omega) w hD).mono fun _ _ ⟨h1, h2⟩ => ⟨_, rfl, h1, h2⟩
theorem u_IsConnected {x : Int × Int × ByteArray} {r r' : Bool} (h : r = decide (partsG x = 1)) (h' : r' = decide (partsG x = 1)) : r = r' := h.trans h'.symm
theorem s_IsConnected (r c : Int) (s : ByteArray) (w : World) (_hK : ok_Grid (r, c, s)) (hs : s.size ≤ 1048576) :
    Calls Tryd.prog 21 #[.agg #[.int .i64 r, .int .i64 c, .string s]] w fun e w' => ∃ x, x = decide (partsG (r, c, s) = 1) ∧ e = .returned (.bool x) ∧ Below w.heap.size w w' :=
  (scn_any r c s (by omega) w).mono fun _ _ ⟨h1, h2⟩ => ⟨_, rfl, h1, h2⟩
theorem i_IsConnected (r c : Int) (s : ByteArray) (w : World) (_hK : ok_Grid (r, c, s)) (hs : s.size ≤ 1048576) (hD : DB w) :
    Calls Tryd.prog 23 #[.agg #[.int .i64 r, .int .i64 c, .string s]] w fun e w' => ∃ x, x = decide (partsG (r, c, s) = 1) ∧ e = .returned (.bool x) ∧ Below w.heap.size w w' :=
  (icn_any r c s (by omega) w hD).mono fun _ _ ⟨h1, h2⟩ => ⟨_, rfl, h1, h2⟩
end Go.Proofs.YtgpplfhbgkcjhaaDoor
