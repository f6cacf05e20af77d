/-
  The contracts of SlotsOf, CellsOf, SlotsAt, of the model and of the program, in the form that the exact laws' walks ask: s_F, i_F, and u_F: the relation fixes the answer.
-/
import Derived.Test.YtdhjgaadfofkkaaSlotImplJ
import Derived.Test.YtdhjgaadfofkkaaGridS
namespace Go.Proofs.Ytdhjgaadfofkkaa
open Go.RowKit

theorem u_SlotsOf {x : Int × Int × ByteArray} {L L' : List SlotV} (h : L = slG x) (h' : L' = slG x) : L = L' := h.trans h'.symm
theorem s_SlotsOf (r c : Int) (s : ByteArray) (w : World) (_hK : ok_Grid (r, c, s)) (hs : s.size ≤ 1048576) :
    Calls Try.prog 7 #[.agg #[.int .i64 r, .int .i64 c, .string s]] w fun e w' => ∃ L v', L = slG (r, c, s) ∧ L.length ≤ 16777216 ∧ e = .returned v' ∧ w'.ownsRow w.heap.size 36 4 v' L.length (row_Slot L) ∧ Below w.heap.size w w' :=
  (ssl_any r c s (by omega) w).mono fun _ _ ⟨v', h1, h2, h3⟩ => ⟨_, v', rfl, Nat.le_trans (slG_length _) (by decide), h1, h2, h3⟩
theorem i_SlotsOf (r c : Int) (s : ByteArray) (w : World) (_hK : ok_Grid (r, c, s)) (hs : s.size ≤ 1048576) :
    Calls Try.prog 9 #[.agg #[.int .i64 r, .int .i64 c, .string s]] w fun e w' => ∃ L v', L = slG (r, c, s) ∧ L.length ≤ 16777216 ∧ e = .returned v' ∧ w'.ownsRow w.heap.size 36 4 v' L.length (row_Slot L) ∧ Below w.heap.size w w' :=
  (islo_any r c s (by omega) w).mono fun _ _ ⟨v', h1, h2, h3⟩ => ⟨_, v', rfl, Nat.le_trans (slG_length _) (by decide), h1, h2, h3⟩
theorem u_CellsOf {x : Int × Int × ByteArray} {y : Int × Bool × Int × Int} {L L' : List Int} (h : L = clG x y) (h' : L' = clG x y) : L = L' := h.trans h'.symm
theorem s_CellsOf (r c : Int) (s : ByteArray) (x0 : Int) (x1 : Bool) (x2 x3 : Int) (w : World) (_hK : ok_Grid (r, c, s)) (hs : s.size ≤ 1048576) (_hK' : ok_Slot (x0, x1, x2, x3)) :
    Calls Try.prog 13 #[.agg #[.int .i64 r, .int .i64 c, .string s], .agg #[.int .i64 x0, .bool x1, .int .i64 x2, .int .i64 x3]] w fun e w' => ∃ L v', L = clG (r, c, s) (x0, x1, x2, x3) ∧ L.length ≤ 16777216 ∧ e = .returned v' ∧ w'.ownsRow w.heap.size 3 1 v' L.length (L.map (Value.int .i64)) ∧ Below w.heap.size w w' :=
  (scl_any r c s x0 x1 x2 x3 (by omega) w).mono fun _ _ ⟨v', h1, h2, h3⟩ => ⟨_, v', rfl, Nat.le_trans (clG_length _ _) (by decide), h1, h2, h3⟩
theorem i_CellsOf (r c : Int) (s : ByteArray) (x0 : Int) (x1 : Bool) (x2 x3 : Int) (w : World) (_hK : ok_Grid (r, c, s)) (hs : s.size ≤ 1048576) (_hK' : ok_Slot (x0, x1, x2, x3)) :
    Calls Try.prog 15 #[.agg #[.int .i64 r, .int .i64 c, .string s], .agg #[.int .i64 x0, .bool x1, .int .i64 x2, .int .i64 x3]] w fun e w' => ∃ L v', L = clG (r, c, s) (x0, x1, x2, x3) ∧ L.length ≤ 16777216 ∧ e = .returned v' ∧ w'.ownsRow w.heap.size 3 1 v' L.length (L.map (Value.int .i64)) ∧ Below w.heap.size w w' :=
  (icel_any r c s x0 x1 x2 x3 (by omega) w).mono fun _ _ ⟨v', h1, h2, h3⟩ => ⟨_, v', rfl, Nat.le_trans (clG_length _ _) (by decide), h1, h2, h3⟩
theorem atS_len (g : Int × Int × ByteArray) (c k : Int) : (atS (slG g) c k).length ≤ 16777216 := by
  have h1 := atSn_length (slG g) c k (slG g).length
  have h2 := slG_length g
  exact Nat.le_trans h1 (by omega)
theorem u_SlotsAt {x : Int × Int × ByteArray} {k : Int} {L L' : List Int} (h : L = atS (slG x) x.2.1 k) (h' : L' = atS (slG x) x.2.1 k) : L = L' := h.trans h'.symm
theorem s_SlotsAt (r c : Int) (s : ByteArray) (k : Int) (w : World) (_hK : ok_Grid (r, c, s)) (hs : s.size ≤ 1048576) (_lo : -9223372036854775808 ≤ k) (_hi : k ≤ 9223372036854775807) :
    Calls Try.prog 19 #[.agg #[.int .i64 r, .int .i64 c, .string s], .int .i64 k] w fun e w' => ∃ L v', L = atS (slG (r, c, s)) c k ∧ L.length ≤ 16777216 ∧ e = .returned v' ∧ w'.ownsRow w.heap.size 3 1 v' L.length (L.map (Value.int .i64)) ∧ Below w.heap.size w w' :=
  (ssat_any r c s k (by omega) w).mono fun _ _ ⟨v', h1, h2, h3⟩ => ⟨_, v', rfl, atS_len _ _ _, h1, h2, h3⟩
theorem i_SlotsAt (r c : Int) (s : ByteArray) (k : Int) (w : World) (_hK : ok_Grid (r, c, s)) (hs : s.size ≤ 1048576) (_lo : -9223372036854775808 ≤ k) (_hi : k ≤ 9223372036854775807) :
    Calls Try.prog 20 #[.agg #[.int .i64 r, .int .i64 c, .string s], .int .i64 k] w fun e w' => ∃ L v', L = atS (slG (r, c, s)) c k ∧ L.length ≤ 16777216 ∧ e = .returned v' ∧ w'.ownsRow w.heap.size 3 1 v' L.length (L.map (Value.int .i64)) ∧ Below w.heap.size w w' :=
  (isat_any r c s k (by omega) w).mono fun _ _ ⟨v', h1, h2, h3⟩ => ⟨_, v', rfl, atS_len _ _ _, h1, h2, h3⟩
end Go.Proofs.Ytdhjgaadfofkkaa
