/-
  Contracts of draws of chapter 5: l5Raw, l5Some.
  Contracts of the draws of chapter 6.
-/
import Derived.Test.YtmhgejljjjmejaaDoorDrawWord
import Derived.Test.YtmhgejljjjmejaaDoorPatB
namespace Go.Proofs.YtmhgejljjjmejaaDoor
open Go.RowKit

def raws5 : List Int := [-1, 0, 99, 100, 1000, 1001, 9223372036854775807, -9223372036854775808]
theorem raws5_in : ∀ z ∈ raws5, LO ≤ z ∧ z ≤ HI := by decide
theorem raw5_any (B : Nat) (w : World) (c n cap : Nat) (a0 : Option Addr) (hk : Cur B w c n cap a0) :
    Calls Tryd.prog 50 #[.pointer (some ⟨c, 0, none⟩)] w (Gives AnyInt B w c n cap a0) := by
  go_enter Tryd.func50, Tryd.ntmps50
  go_wp2_with (go_at_call 51; refine (int_any LO HI w.heap.size 8 (by decide) (by decide) B _ c n cap a0 (hk.alloc _) hk.ne (fun j hj => row_ints w raws5 3 LO HI raws5_in j hj)).mono ?_; rintro e w1 ⟨v, ⟨x, hx0, hx1, rfl⟩, rfl, hk1, hg1⟩; clear hk)
  go_ret
  exact ⟨_, ⟨x, hx0, hx1, rfl⟩, rfl, hk1, gtrans (World.grownBy_alloc w _ _) hg1⟩

/-- What l5Some leaves: at most five texts of at most ten bytes. -/
def SomeDrawn (B : Nat) (w : World) (c n cap : Nat) (a0 : Option Addr) (e : Ending) (w' : World) : Prop :=
  ∃ (L : List ByteArray) (v : Value), L.length ≤ 5 ∧ (∀ z ∈ L, z.size ≤ 10) ∧ e = .returned v ∧ w'.ownsRow w.heap.size 9 1 v L.length (L.map Value.string) ∧ Cur B w' c n cap a0 ∧ w.grownBy w' (some c)

end Go.Proofs.YtmhgejljjjmejaaDoor
namespace Go.Proofs.YtmhgejljjjmejaaDoor
open Go.RowKit

def any6 (z : ByteArray) : List ByteArray := [z, z, z, z, z, ⟨#[]⟩, ⟨#[63]⟩, ⟨#[65, 63]⟩, ⟨#[63, 63, 63, 63, 63, 63, 63, 63, 63]⟩, ⟨#[63, 63, 63, 63, 63, 63, 63, 63]⟩]
theorem any6_in {z : ByteArray} (hz : z.size ≤ 5) : ∀ y ∈ any6 z, y.size ≤ 10 := by
  intro y hy
  simp only [any6, List.mem_cons, List.not_mem_nil, or_false] at hy
  rcases hy with rfl | rfl | rfl | rfl | rfl | rfl | rfl | rfl | rfl | rfl <;> first | omega | decide
theorem pick_strs {W : World} {b m : Nat} : ∀ n, (∀ j, j < n → ∃ z : ByteArray, z.size ≤ m ∧ W.cell? ⟨b, j, none⟩ = some (.string z)) → ∃ L : List ByteArray, L.length = n ∧ (∀ z ∈ L, z.size ≤ m) ∧ ∀ j, j < n → W.cell? ⟨b, j, none⟩ = some (.string (L.getD j ⟨#[]⟩))
  | 0, _ => ⟨[], rfl, by simp, fun j hj => by omega⟩
  | n + 1, h => by
    obtain ⟨L, h1, h2, h3⟩ := pick_strs n (fun j hj => h j (by omega))
    obtain ⟨z, hz, hc⟩ := h n (by omega)
    refine ⟨L ++ [z], by simp [h1], fun y hy => ?_, fun j hj => ?_⟩
    · rcases List.mem_append.1 hy with h4 | h4
      · exact h2 y h4
      · simp only [List.mem_singleton] at h4; subst h4; exact hz
    · rcases Nat.lt_or_ge j n with h4 | h4
      · rw [h3 j h4, List.getD_eq_getElem?_getD, List.getD_eq_getElem?_getD, List.getElem?_append_left (by omega)]
      · obtain rfl : j = n := by omega
        rw [hc, List.getD_eq_getElem?_getD, List.getElem?_append_right (by omega), h1]
        simp
theorem readsS_cells {W : World} {b n : Nat} {L : List ByteArray} (hb : b < W.heap.size) (hn : n ≤ 1048576) (hL : L.length = n) (h : ∀ j, j < n → W.cell? ⟨b, j, none⟩ = some (.string (L.getD j ⟨#[]⟩))) : ReadsS W.heap.size W (.slice (some ⟨b, 0, none⟩) n n) L := by
  refine ⟨by omega, by simp, _, _, by rw [hL], ⟨(fun e => by cases e), by omega, by omega⟩, fun j hj => ⟨b, 0, rfl, hb, ?_⟩⟩
  rw [Nat.mul_one, hL] at hj
  rw [Nat.zero_add, h j hj, List.getElem?_map, List.getD_eq_getElem?_getD, List.getElem?_eq_getElem (by omega)]
  rfl
/-- Words and a text. -/
def WordsText (w : World) (e : Ending) (w' : World) : Prop :=
  ∃ (L : List ByteArray) (v : Value) (x : ByteArray), L.length ≤ 35 ∧ (∀ z ∈ L, z.size ≤ 10) ∧ x.size ≤ 10 ∧ e = .returned (.tuple #[v, .string x]) ∧ ReadsS w'.heap.size w' v L ∧ Below w.heap.size w w'
def at6 : List Int := [0, 1, 2, 4, 8, -1, 9223372036854775807]
theorem at6_in : ∀ z ∈ at6, LO ≤ z ∧ z ≤ HI := by decide
/-- Words and a number. -/
def WordsInt (w : World) (e : Ending) (w' : World) : Prop :=
  ∃ (L : List ByteArray) (v : Value) (t : Int), L.length ≤ 35 ∧ (∀ z ∈ L, z.size ≤ 10) ∧ LO ≤ t ∧ t ≤ HI ∧ e = .returned (.tuple #[v, .int .i64 t]) ∧ ReadsS w'.heap.size w' v L ∧ Below w.heap.size w w'
end Go.Proofs.YtmhgejljjjmejaaDoor
