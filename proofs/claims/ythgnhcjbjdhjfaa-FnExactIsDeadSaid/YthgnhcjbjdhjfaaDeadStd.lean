/-
  IsDead and CountChoices as the exact laws' walks take them.
-/
import Derived.Test.YthgnhcjbjdhjfaaDead
import Derived.Test.YthgnhcjbjdhjfaaBoxN
namespace Go.Proofs.Ythgnhcjbjdhjfaa
open Go.RowKit

theorem s_IsDead (v : Value) (l : List (List ByteArray)) (w : World) (hv : ReadsN w.heap.size w v l) (hl : l.length ≤ 1048576) (_ : ∀ m ∈ l, m.length ≤ 1048576 ∧ ∀ z ∈ m, z.size ≤ 1048576) :
    Calls Try.prog 29 #[v] w fun e w' => ∃ r, r = deadF l ∧ e = .returned (.bool r) ∧ Below w.heap.size w w' :=
  (sdead_any l (by omega) v w hv).mono fun _ _ ⟨he, hb⟩ => ⟨_, rfl, he, hb⟩
theorem i_IsDead (v : Value) (l : List (List ByteArray)) (w : World) (hv : ReadsN w.heap.size w v l) (hl : l.length ≤ 1048576) (_ : ∀ m ∈ l, m.length ≤ 1048576 ∧ ∀ z ∈ m, z.size ≤ 1048576) :
    Calls Try.prog 30 #[v] w fun e w' => ∃ r, r = deadF l ∧ e = .returned (.bool r) ∧ Below w.heap.size w w' :=
  (idead_any l (by omega) v w hv).mono fun _ _ ⟨he, hb⟩ => ⟨_, rfl, he, hb⟩
theorem u_IsDead {l : List (List ByteArray)} {r r' : Bool} (h : r = deadF l) (h' : r' = deadF l) : r = r' := h.trans h'.symm
theorem s_CountChoices (v : Value) (l : List (List ByteArray)) (w : World) (hv : ReadsN w.heap.size w v l) (hl : l.length ≤ 1048576) (hz : ∀ m ∈ l, m.length ≤ 1048576 ∧ ∀ z ∈ m, z.size ≤ 1048576) :
    Calls Try.prog 31 #[v] w fun e w' => ∃ r : Int, r = (sumN l : Nat) ∧ e = .returned (.int .i64 r) ∧ Below w.heap.size w w' :=
  (scnt_any l (by omega) (fun m hm => by have := (hz m hm).1; omega) v w hv).mono fun _ _ ⟨he, hb⟩ => ⟨_, rfl, he, hb⟩
theorem i_CountChoices (v : Value) (l : List (List ByteArray)) (w : World) (hv : ReadsN w.heap.size w v l) (hl : l.length ≤ 1048576) (hz : ∀ m ∈ l, m.length ≤ 1048576 ∧ ∀ z ∈ m, z.size ≤ 1048576) :
    Calls Try.prog 32 #[v] w fun e w' => ∃ r : Int, r = (sumN l : Nat) ∧ e = .returned (.int .i64 r) ∧ Below w.heap.size w w' :=
  (icnt12_any l (by omega) (fun m hm => by have := (hz m hm).1; omega) v w hv).mono fun _ _ ⟨he, hb⟩ => ⟨_, rfl, he, hb⟩
theorem u_CountChoices {l : List (List ByteArray)} {r r' : Int} (h : r = (sumN l : Nat)) (h' : r' = (sumN l : Nat)) : r = r' := h.trans h'.symm
end Go.Proofs.Ythgnhcjbjdhjfaa
