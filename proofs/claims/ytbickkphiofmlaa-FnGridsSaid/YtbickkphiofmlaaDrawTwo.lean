/-
  Contracts of the drawing functions over the cursor that build lists (spec.l1Odd, l1Raw, l1Num, l1One) and of spec.l1New.
-/
import Derived.Test.YtbickkphiofmlaaDraw
namespace Go.Proofs.Ytbickkphiofmlaa
open Go.RowKit

theorem Cur.alloc {B c n cap : Nat} {w : World} {a0 : Option Addr} (hk : Cur B w c n cap a0) (o : Obj) : Cur B (w.alloc o) c n cap a0 := by
  obtain ⟨hB, hc, i, h, hk⟩ := hk
  have hlt : c < w.heap.size := (Array.getElem?_eq_some_iff.1 hk).1
  exact ⟨hB, hc.kept (World.grownBy_alloc w o _) hB, i, h, ((World.grownBy_alloc w o none).block c hlt (by simp)).trans hk⟩
theorem Cur.ne {B c n cap : Nat} {w : World} {a0 : Option Addr} (hk : Cur B w c n cap a0) : w.heap.size ≠ c := by
  obtain ⟨hB, hc, i, h, hk⟩ := hk
  have hlt : c < w.heap.size := (Array.getElem?_eq_some_iff.1 hk).1
  omega
theorem row_ints (w : World) (zs : List Int) (t : TypeId) (lo hi : Int) (h : ∀ z ∈ zs, lo ≤ z ∧ z ≤ hi) (j : Nat) (hj : j < zs.length) :
    ∃ z : Int, lo ≤ z ∧ z ≤ hi ∧ (w.alloc (.cells (zs.map (Value.int .i64)).toArray t)).cell? ⟨w.heap.size, j, none⟩ = some (.int .i64 z) := by
  refine ⟨zs[j], (h _ (List.getElem_mem _)).1, (h _ (List.getElem_mem _)).2, ?_⟩
  rw [World.cell?_alloc_mark]
  simp [hj]
theorem row_strs (w : World) (zs : List ByteArray) (t : TypeId) (P : ByteArray → Prop) (h : ∀ z ∈ zs, P z) (j : Nat) (hj : j < zs.length) :
    ∃ z : ByteArray, P z ∧ (w.alloc (.cells (zs.map Value.string).toArray t)).cell? ⟨w.heap.size, j, none⟩ = some (.string z) := by
  refine ⟨zs[j], h _ (List.getElem_mem _), ?_⟩
  rw [World.cell?_alloc_mark]
  simp [hj]

/-- The bounds of an int. -/
def LO : Int := -9223372036854775808
def HI : Int := 9223372036854775807
def AnyInt : Value → Prop := IntIn LO HI
theorem any_of {lo hi : Int} {v : Value} (h : IntIn lo hi v) (h1 : -9223372036854775808 ≤ lo) (h2 : hi ≤ 9223372036854775807) : AnyInt v := by
  obtain ⟨x, h0, h3, rfl⟩ := h
  exact ⟨x, by unfold LO; omega, by unfold HI; omega, rfl⟩
def odds : List Int := [-1, 0, 1, 2, 255, 256, 65535, 2147483647, 2147483648, 4294967295, 4294967296, -2147483648, 9223372036854775807, -9223372036854775808]
theorem odds_in : ∀ z ∈ odds, LO ≤ z ∧ z ≤ HI := by decide
theorem Gives.any {P Q : Value → Prop} {B c n cap : Nat} {w w' : World} {a0 : Option Addr} {e : Ending} (h : Gives P B w c n cap a0 e w') (hPQ : ∀ v, P v → Q v) : Gives Q B w c n cap a0 e w' := by
  obtain ⟨v, hv, h⟩ := h
  exact ⟨v, hPQ v hv, h⟩

def raws : List Int := [-1, 1000000000000, 1000000000001]
theorem raws_in : ∀ z ∈ raws, LO ≤ z ∧ z ≤ HI := by decide
def nums : List Int := [0, 1, 127, 128, 2147483646, 2147483647, 1000000000000]
theorem nums_in : ∀ z ∈ nums, (0 : Int) ≤ z ∧ z ≤ 1000000000000 := by decide
theorem mul_in {y z : Int} (h0 : 0 ≤ y) (h1 : y ≤ 999999) (h2 : 0 ≤ z) (h3 : z ≤ 999999) : 0 ≤ y * z ∧ y * z ≤ 999998000001 :=
  ⟨Int.mul_nonneg h0 h2, Int.le_trans (Int.mul_le_mul h1 h3 h2 (by decide)) (by decide)⟩
theorem new_empty (cap : Nat) (a0 : Option Addr) (w : World) :
    Calls Try.prog 29 #[.slice a0 0 cap] w fun e w' => ∃ c, e = .returned (.pointer (some ⟨c, 0, none⟩)) ∧ Cur w.heap.size w' c 0 cap a0 ∧ Below w.heap.size w w' := by
  go_enter Try.func29, Try.ntmps29
  go_wp2
  go_loop [3, 4] (fun h i => (∃ x : Int, h = .int .i64 x) ∧ i = .int .i64 0) (fun _ _ => 0)
  case atStart => exact ⟨⟨_, rfl⟩, rfl⟩
  case round =>
    obtain ⟨⟨x, rfl⟩, rfl⟩ := hrel
    go_wp2
    go_ret
    refine ⟨_, rfl, ⟨Nat.le_refl _, ⟨by decide, fun j hj => by omega⟩, 0, x, heap_alloc_new w _⟩, (Below.refl _ _).alloc (Nat.le_refl _) _⟩
theorem new_some (n cap b off : Nat) (w : World) (hc : Code w.heap.size w (some ⟨b, off, none⟩) n) (hn : n ≤ 1048576) :
    Calls Try.prog 29 #[.slice (some ⟨b, off, none⟩) n cap] w fun e w' => ∃ c, e = .returned (.pointer (some ⟨c, 0, none⟩)) ∧ Cur w.heap.size w' c n cap (some ⟨b, off, none⟩) ∧ Below w.heap.size w w' := by
  have HC := Lib.hid hc
  clear hc
  go_enter Try.func29, Try.ntmps29
  go_wp2
  go_loop [3, 4] (fun h i => ∃ (k : Nat) (x : Int), k ≤ n ∧ h = .int .i64 x ∧ i = .int .i64 k) (fun _ i => n - (intOf i).toNat)
  case atStart => exact ⟨0, _, Nat.zero_le _, rfl, rfl⟩
  case round =>
    obtain ⟨k, x, hk, rfl, rfl⟩ := hrel
    by_cases h1 : k < n
    · obtain ⟨b', off', z, e1, e2, e3, e4, e5⟩ := HC.out.2 k h1
      cases e1
      clear e2
      have d1 : decide ((k : Int) < n) = true := decide_eq_true (by omega)
      by_cases h2 : k < 4000
      · have d2 : decide ((k : Int) < 4000) = true := decide_eq_true (by omega)
        go_wp2
        go_round
        case rel => exact ⟨k + 1, _, by omega, rfl, by go_num⟩
        case measure => simp [intOf]; omega
      · have d2 : decide ((k : Int) < 4000) = false := decide_eq_false (by omega)
        go_wp2
        go_ret
        exact ⟨_, rfl, ⟨Nat.le_refl _, HC.out.kept (World.grownBy_alloc w _ _) (Nat.le_refl _), 0, x, heap_alloc_new w _⟩, (Below.refl _ _).alloc (Nat.le_refl _) _⟩
    · have d1 : decide ((k : Int) < n) = false := decide_eq_false (by omega)
      go_wp2
      go_ret
      exact ⟨_, rfl, ⟨Nat.le_refl _, HC.out.kept (World.grownBy_alloc w _ _) (Nat.le_refl _), 0, x, heap_alloc_new w _⟩, (Below.refl _ _).alloc (Nat.le_refl _) _⟩
/-- spec.l1New: a new cursor over the code. -/
theorem new_any (n cap : Nat) (a0 : Option Addr) (w : World) (hc : Code w.heap.size w a0 n) (hn : n ≤ 1048576) :
    Calls Try.prog 29 #[.slice a0 n cap] w fun e w' => ∃ c, e = .returned (.pointer (some ⟨c, 0, none⟩)) ∧ Cur w.heap.size w' c n cap a0 ∧ Below w.heap.size w w' := by
  by_cases h : n = 0
  · subst h
    exact new_empty cap a0 w
  · obtain ⟨b, off, x, rfl, _⟩ := hc.2 0 (by omega)
    exact new_some n cap b off w hc hn
end Go.Proofs.Ytbickkphiofmlaa
