/-
  The contracts of chapter 9, of the model and of the program, in the form that the exact laws' walks ask: s_F, i_F, and u_F: the relation fixes the answer.
  The contracts of chapter 9 (CheckedShare), of the model and of the program, in the form that the exact laws' walks ask: s_F, i_F, and u_F: the relation fixes the answer.
-/
import Derived.Test.YtpcmobbenhppbaaCrossSpecE
import Derived.Test.YtpcmobbenhppbaaCrossImplF
import Derived.Test.YtpcmobbenhppbaaGridS
namespace Go.Proofs.Ytpcmobbenhppbaa
open Go.RowKit

theorem u_CrossingsOf {x : Int × Int × ByteArray} {L L' : List CrossV} (h : L = crossS x) (h' : L' = crossS x) : L = L' := h.trans h'.symm
theorem s_CrossingsOf (r c : Int) (s : ByteArray) (w : World) (_hK : ok_Grid (r, c, s)) (hs : s.size ≤ 1048576) :
    Calls Try.prog 20 #[.agg #[.int .i64 r, .int .i64 c, .string s]] w fun e w' => ∃ L v', L = crossS (r, c, s) ∧ L.length ≤ 16777216 ∧ e = .returned v' ∧ w'.ownsRow w.heap.size 36 5 v' L.length (row_Crossing L) ∧ Below w.heap.size w w' :=
  (scr_any r c s (by omega) w).mono fun _ _ ⟨v', h1, h2, h3⟩ => ⟨_, v', rfl, crossS_len _ (by show s.size ≤ _; omega), h1, h2, h3⟩
theorem i_CrossingsOf (r c : Int) (s : ByteArray) (w : World) (_hK : ok_Grid (r, c, s)) (hs : s.size ≤ 1048576) :
    Calls Try.prog 12 #[.agg #[.int .i64 r, .int .i64 c, .string s]] w fun e w' => ∃ L v', L = crossS (r, c, s) ∧ L.length ≤ 16777216 ∧ e = .returned v' ∧ w'.ownsRow w.heap.size 36 5 v' L.length (row_Crossing L) ∧ Below w.heap.size w w' :=
  (icr_any r c s (by omega) w).mono fun _ _ ⟨v', h1, h2, h3⟩ => ⟨_, v', rfl, crossS_len _ (by show s.size ≤ _; omega), h1, h2, h3⟩
theorem u_IsChecked {x : Int × Int × ByteArray} {k : Int} {r r' : Bool} (h : r = chkL (slG x) x.2.1 k) (h' : r' = chkL (slG x) x.2.1 k) : r = r' := h.trans h'.symm
theorem s_IsChecked (r c : Int) (s : ByteArray) (k : Int) (w : World) (_hK : ok_Grid (r, c, s)) (hs : s.size ≤ 1048576) (_lo : -9223372036854775808 ≤ k) (_hi : k ≤ 9223372036854775807) :
    Calls Try.prog 25 #[.agg #[.int .i64 r, .int .i64 c, .string s], .int .i64 k] w fun e w' => ∃ x, x = chkL (slG (r, c, s)) c k ∧ e = .returned (.bool x) ∧ Below w.heap.size w w' :=
  (sck_any r c s k (by omega) w).mono fun _ _ ⟨h1, h2⟩ => ⟨_, rfl, h1, h2⟩
theorem i_IsChecked (r c : Int) (s : ByteArray) (k : Int) (w : World) (_hK : ok_Grid (r, c, s)) (hs : s.size ≤ 1048576) (lo : -9223372036854775808 ≤ k) (hi : k ≤ 9223372036854775807) :
    Calls Try.prog 14 #[.agg #[.int .i64 r, .int .i64 c, .string s], .int .i64 k] w fun e w' => ∃ x, x = chkL (slG (r, c, s)) c k ∧ e = .returned (.bool x) ∧ Below w.heap.size w w' :=
  (ick_any r c s k (by omega) lo hi w).mono fun _ _ ⟨h1, h2⟩ => ⟨_, rfl, h1, h2⟩
theorem u_UncheckedIn {x : Int × Int × ByteArray} {k : Int} {r r' : Int} (h : r = unchS x k) (h' : r' = unchS x k) : r = r' := h.trans h'.symm
theorem s_UncheckedIn (r c : Int) (s : ByteArray) (k : Int) (w : World) (_hK : ok_Grid (r, c, s)) (hs : s.size ≤ 1048576) (lo : -9223372036854775808 ≤ k) (hi : k ≤ 9223372036854775807) :
    Calls Try.prog 26 #[.agg #[.int .i64 r, .int .i64 c, .string s], .int .i64 k] w fun e w' => ∃ x, x = unchS (r, c, s) k ∧ e = .returned (.int .i64 x) ∧ Below w.heap.size w w' :=
  (sun_any r c s k (by omega) lo hi w).mono fun _ _ ⟨h1, h2⟩ => ⟨_, rfl, h1, h2⟩
theorem i_UncheckedIn (r c : Int) (s : ByteArray) (k : Int) (w : World) (_hK : ok_Grid (r, c, s)) (hs : s.size ≤ 1048576) (lo : -9223372036854775808 ≤ k) (hi : k ≤ 9223372036854775807) :
    Calls Try.prog 18 #[.agg #[.int .i64 r, .int .i64 c, .string s], .int .i64 k] w fun e w' => ∃ x, x = unchS (r, c, s) k ∧ e = .returned (.int .i64 x) ∧ Below w.heap.size w w' :=
  (iun_any r c s k (by omega) lo hi w).mono fun _ _ ⟨h1, h2⟩ => ⟨_, rfl, h1, h2⟩
theorem u_CrossedBy {x : Int × Int × ByteArray} {k : Int} {L L' : List Int} (h : L = crossedS x k) (h' : L' = crossedS x k) : L = L' := h.trans h'.symm
theorem s_CrossedBy (r c : Int) (s : ByteArray) (k : Int) (w : World) (_hK : ok_Grid (r, c, s)) (hs : s.size ≤ 1048576) (_lo : -9223372036854775808 ≤ k) (_hi : k ≤ 9223372036854775807) :
    Calls Try.prog 27 #[.agg #[.int .i64 r, .int .i64 c, .string s], .int .i64 k] w fun e w' => ∃ L v', L = crossedS (r, c, s) k ∧ L.length ≤ 16777216 ∧ e = .returned v' ∧ w'.ownsRow w.heap.size 3 1 v' L.length (L.map (Value.int .i64)) ∧ Below w.heap.size w w' :=
  (scb_any r c s k (by omega) w).mono fun _ _ ⟨v', h1, h2, h3⟩ => ⟨_, v', rfl, crossedS_len _ _ (by show s.size ≤ _; omega), h1, h2, h3⟩
theorem i_CrossedBy (r c : Int) (s : ByteArray) (k : Int) (w : World) (_hK : ok_Grid (r, c, s)) (hs : s.size ≤ 1048576) (_lo : -9223372036854775808 ≤ k) (_hi : k ≤ 9223372036854775807) :
    Calls Try.prog 16 #[.agg #[.int .i64 r, .int .i64 c, .string s], .int .i64 k] w fun e w' => ∃ L v', L = crossedS (r, c, s) k ∧ L.length ≤ 16777216 ∧ e = .returned v' ∧ w'.ownsRow w.heap.size 3 1 v' L.length (L.map (Value.int .i64)) ∧ Below w.heap.size w w' :=
  (icb_any r c s k (by omega) w).mono fun _ _ ⟨v', h1, h2, h3⟩ => ⟨_, v', rfl, crossedS_len _ _ (by show s.size ≤ _; omega), h1, h2, h3⟩
end Go.Proofs.Ytpcmobbenhppbaa
namespace Go.Proofs.Ytpcmobbenhppbaa
open Go.RowKit

theorem u_CheckedShare {x : Int × Int × ByteArray} {r0 r1 r0' r1' : Int} (h : (r0, r1) = shareS x) (h' : (r0', r1') = shareS x) : r0 = r0' ∧ r1 = r1' := by
  have h9 := h.trans h'.symm
  simpa using h9
theorem s_CheckedShare (r c : Int) (s : ByteArray) (w : World) (_hK : ok_Grid (r, c, s)) (hs : s.size ≤ 1048576) :
    Calls Try.prog 31 #[.agg #[.int .i64 r, .int .i64 c, .string s]] w fun e w' => ∃ x y, (x, y) = shareS (r, c, s) ∧ e = .returned (.tuple #[.int .i64 x, .int .i64 y]) ∧ Below w.heap.size w w' :=
  (ssh_any r c s (by omega) w).mono fun _ _ ⟨h1, h2⟩ => ⟨_, _, rfl, h1, h2⟩
theorem i_CheckedShare (r c : Int) (s : ByteArray) (w : World) (_hK : ok_Grid (r, c, s)) (hs : s.size ≤ 1048576) :
    Calls Try.prog 17 #[.agg #[.int .i64 r, .int .i64 c, .string s]] w fun e w' => ∃ x y, (x, y) = shareS (r, c, s) ∧ e = .returned (.tuple #[.int .i64 x, .int .i64 y]) ∧ Below w.heap.size w w' :=
  (ish_any r c s (by omega) w).mono fun _ _ ⟨h1, h2⟩ => ⟨_, _, rfl, h1, h2⟩
end Go.Proofs.Ytpcmobbenhppbaa
