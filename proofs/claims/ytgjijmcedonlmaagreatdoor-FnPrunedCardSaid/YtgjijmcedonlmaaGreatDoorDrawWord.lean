/-
  Contracts of the draws of chapter 4: texts of at most ten bytes.
-/
import Derived.Test.YtgjijmcedonlmaaGreatDoorDraw
import Derived.Test.YtgjijmcedonlmaaGreatDoorWordP
namespace Go.Proofs.YtgjijmcedonlmaaGreatDoor
open Go.RowKit

/-- A text of at most n bytes. -/
def Txt (n : Nat) (v : Value) : Prop := ∃ z : ByteArray, z.size ≤ n ∧ v = .string z
def words4 : List ByteArray := [⟨#[99, 97, 116]⟩, ⟨#[97, 99, 116]⟩, ⟨#[116, 97, 99]⟩, ⟨#[97, 114, 99]⟩, ⟨#[99, 97, 114]⟩, ⟨#[101, 114, 97]⟩, ⟨#[97, 114, 101]⟩, ⟨#[101, 97, 114]⟩, ⟨#[97, 116, 101]⟩, ⟨#[116, 101, 97]⟩, ⟨#[101, 97, 116]⟩, ⟨#[115, 101, 97]⟩, ⟨#[116, 97, 114]⟩, ⟨#[114, 97, 116]⟩, ⟨#[97, 114, 116]⟩, ⟨#[97, 110, 116]⟩, ⟨#[116, 97, 110]⟩, ⟨#[110, 101, 116]⟩, ⟨#[116, 101, 110]⟩, ⟨#[114, 101, 115, 116]⟩, ⟨#[116, 114, 101, 101]⟩, ⟨#[115, 116, 97, 114]⟩, ⟨#[114, 97, 116, 115]⟩, ⟨#[97, 114, 116, 115]⟩, ⟨#[101, 97, 115, 116]⟩, ⟨#[115, 101, 97, 116]⟩, ⟨#[116, 101, 97, 115]⟩, ⟨#[110, 101, 116, 115]⟩, ⟨#[116, 101, 110, 115]⟩, ⟨#[115, 101, 110, 116]⟩, ⟨#[116, 114, 97, 99, 101]⟩, ⟨#[114, 101, 97, 99, 116]⟩, ⟨#[99, 114, 97, 116, 101]⟩, ⟨#[115, 116, 97, 114, 101]⟩, ⟨#[116, 101, 97, 114, 115]⟩]
theorem words4_in : ∀ z ∈ words4, z.size ≤ 5 := by decide
set_option maxHeartbeats 800000 in
theorem ws4_any (w : World) :
    Calls Tryz.prog 80 #[] w fun e w' => ∃ o, e = .returned (.slice (some ⟨w.heap.size, 0, none⟩) 35 35) ∧ w' = w.alloc o ∧ ∀ j, j < 35 → ∃ z : ByteArray, z.size ≤ 5 ∧ (w.alloc o).cell? ⟨w.heap.size, j, none⟩ = some (.string z) := by
  go_enter Tryz.func80, Tryz.ntmps80
  go_wp2
  go_ret
  exact ⟨_, rfl, rfl, fun j hj => row_strs w words4 9 _ words4_in j hj⟩
theorem w4_any (B : Nat) (w : World) (c n cap : Nat) (a0 : Option Addr) (hk : Cur B w c n cap a0) :
    Calls Tryz.prog 76 #[.pointer (some ⟨c, 0, none⟩)] w (Gives (Txt 5) B w c n cap a0) := by
  go_enter Tryz.func76, Tryz.ntmps76
  go_wp2_with (first | (go_at_call 80; refine (ws4_any _).mono ?_; rintro e w1 ⟨o, rfl, rfl, hl⟩) | (go_at_call 72; refine (str_any (fun z => z.size ≤ 5) w.heap.size 35 (by decide) (by decide) B _ c n cap a0 (hk.alloc _) hk.ne hl).mono ?_; rintro e w2 ⟨v, ⟨z, hz, rfl⟩, rfl, hk1, hg1⟩))
  go_ret
  exact ⟨_, ⟨z, hz, rfl⟩, rfl, hk1, gtrans (World.grownBy_alloc w _ _) hg1⟩
def any4 (z : ByteArray) : List ByteArray := [z, z, z, z, z, ⟨#[]⟩, ⟨#[65]⟩, ⟨#[97, 32, 98]⟩, ⟨#[116, 111, 111, 108, 111, 110, 103, 101, 114]⟩, ⟨#[116, 111, 111, 108, 111, 110, 103]⟩, z ++ ⟨#[63]⟩, ⟨#[122]⟩]
theorem any4_in {z : ByteArray} (hz : z.size ≤ 5) : ∀ y ∈ any4 z, y.size ≤ 10 := by
  intro y hy
  simp only [any4, List.mem_cons, List.not_mem_nil, or_false] at hy
  have h9 : (z ++ ⟨#[63]⟩).size = z.size + 1 := by simp [ByteArray.size_append]; rfl
  rcases hy with rfl | rfl | rfl | rfl | rfl | rfl | rfl | rfl | rfl | rfl | rfl | rfl <;> first | omega | decide
set_option maxHeartbeats 800000 in
theorem a4_any (B : Nat) (w : World) (c n cap : Nat) (a0 : Option Addr) (hk : Cur B w c n cap a0) :
    Calls Tryz.prog 40 #[.pointer (some ⟨c, 0, none⟩)] w (Gives (Txt 10) B w c n cap a0) := by
  go_enter Tryz.func40, Tryz.ntmps40
  go_wp2_with (first | (go_at_call 76; refine (w4_any B _ c n cap a0 hk).mono ?_; rintro e w1 ⟨v, ⟨z, hz, rfl⟩, rfl, hk1, hg1⟩) | (go_at_call 72; refine (str_any (fun z => z.size ≤ 10) w1.heap.size 12 (by decide) (by decide) B _ c n cap a0 (hk1.alloc _) hk1.ne (fun j hj => row_strs w1 (any4 z) 9 _ (any4_in hz) j hj)).mono ?_; rintro e w2 ⟨v, ⟨y, hy, rfl⟩, rfl, hk2, hg2⟩))
  go_ret
  exact ⟨_, ⟨y, hy, rfl⟩, rfl, hk2, gtrans hg1 (gtrans (World.grownBy_alloc w1 _ _) hg2)⟩

/-- Two texts. -/
def Txts (w : World) (e : Ending) (w' : World) : Prop :=
  ∃ x y : ByteArray, x.size ≤ 10 ∧ y.size ≤ 10 ∧ e = .returned (.tuple #[.string x, .string y]) ∧ Below w.heap.size w w'
end Go.Proofs.YtgjijmcedonlmaaGreatDoor
