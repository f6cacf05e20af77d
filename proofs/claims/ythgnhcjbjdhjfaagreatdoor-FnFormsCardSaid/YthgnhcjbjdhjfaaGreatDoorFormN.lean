/-
  The rules of form as the program lays them; the contracts of FormName, of the model and of the program.
-/
import Derived.Test.YthgnhcjbjdhjfaaGreatDoorFormPure
import Derived.Test.YthgnhcjbjdhjfaaGreatDoorGridImplE
namespace Go.Proofs.YthgnhcjbjdhjfaaGreatDoor
open Go.RowKit

def ruleA0 : Value := .agg #[.func (.func 11) #[] #[]]
def ruleA1 : Value := .agg #[.func (.func 17) #[] #[]]
def ruleA2 : Value := .agg #[.func (.func 9) #[] #[]]
def ruleA3 : Value := .agg #[.func (.func 59) #[] #[]]
def ruleA4 : Value := .agg #[.func (.func 60) #[] #[]]
def ruleA5 : Value := .agg #[.func (.func 61) #[] #[]]
/-- The block of the six rules: code, name, rule. -/
def rulesC : Array Value := #[.int .i64 1, .string ⟨#[103, 114, 105, 100]⟩, .iface 104 ruleA0, .int .i64 2, .string ⟨#[116, 117, 114, 110]⟩, .iface 104 ruleA1, .int .i64 3, .string ⟨#[112, 97, 114, 116, 115]⟩, .iface 104 ruleA2, .int .i64 4, .string ⟨#[115, 104, 111, 114, 116]⟩, .iface 107 ruleA3, .int .i64 5, .string ⟨#[97, 108, 111, 110, 101]⟩, .iface 107 ruleA4, .int .i64 5, .string ⟨#[97, 108, 111, 110, 101]⟩, .iface 104 ruleA5]
set_option maxHeartbeats 800000 in
theorem irules_any (w : World) :
    Calls Tryz.prog 31 #[] w fun e w' => e = .returned (.slice (some ⟨w.heap.size, 0, none⟩) 6 6) ∧ w' = w.alloc (.cells rulesC 59) := by
  go_enter Tryz.func31, Tryz.ntmps31
  go_wp2
  go_ret
  exact ⟨rfl, rfl⟩
theorem rules_cells {W : World} {b : Nat} (h : W.heap[b]? = some (.cells rulesC 59)) : (W.cell? ⟨b, 0, none⟩ = some (.int .i64 1) ∧ W.cell? ⟨b, 1, none⟩ = some (.string ⟨#[103, 114, 105, 100]⟩) ∧ W.cell? ⟨b, 2, none⟩ = some (.iface 104 ruleA0)) ∧ (W.cell? ⟨b, 3, none⟩ = some (.int .i64 2) ∧ W.cell? ⟨b, 4, none⟩ = some (.string ⟨#[116, 117, 114, 110]⟩) ∧ W.cell? ⟨b, 5, none⟩ = some (.iface 104 ruleA1)) ∧ (W.cell? ⟨b, 6, none⟩ = some (.int .i64 3) ∧ W.cell? ⟨b, 7, none⟩ = some (.string ⟨#[112, 97, 114, 116, 115]⟩) ∧ W.cell? ⟨b, 8, none⟩ = some (.iface 104 ruleA2)) ∧ (W.cell? ⟨b, 9, none⟩ = some (.int .i64 4) ∧ W.cell? ⟨b, 10, none⟩ = some (.string ⟨#[115, 104, 111, 114, 116]⟩) ∧ W.cell? ⟨b, 11, none⟩ = some (.iface 107 ruleA3)) ∧ (W.cell? ⟨b, 12, none⟩ = some (.int .i64 5) ∧ W.cell? ⟨b, 13, none⟩ = some (.string ⟨#[97, 108, 111, 110, 101]⟩) ∧ W.cell? ⟨b, 14, none⟩ = some (.iface 107 ruleA4)) ∧ (W.cell? ⟨b, 15, none⟩ = some (.int .i64 5) ∧ W.cell? ⟨b, 16, none⟩ = some (.string ⟨#[97, 108, 111, 110, 101]⟩) ∧ W.cell? ⟨b, 17, none⟩ = some (.iface 104 ruleA5)) :=
  ⟨⟨Joins.cell_of_block h 0, Joins.cell_of_block h 1, Joins.cell_of_block h 2⟩, ⟨Joins.cell_of_block h 3, Joins.cell_of_block h 4, Joins.cell_of_block h 5⟩, ⟨Joins.cell_of_block h 6, Joins.cell_of_block h 7, Joins.cell_of_block h 8⟩, ⟨Joins.cell_of_block h 9, Joins.cell_of_block h 10, Joins.cell_of_block h 11⟩, ⟨Joins.cell_of_block h 12, Joins.cell_of_block h 13, Joins.cell_of_block h 14⟩, ⟨Joins.cell_of_block h 15, Joins.cell_of_block h 16, Joins.cell_of_block h 17⟩⟩
/-- The name of a code. -/
def nameF (q : Int) : ByteArray := if q = 0 then ⟨#[102, 105, 110, 101]⟩ else if q = 1 then ⟨#[103, 114, 105, 100]⟩ else if q = 2 then ⟨#[116, 117, 114, 110]⟩ else if q = 3 then ⟨#[112, 97, 114, 116, 115]⟩ else if q = 4 then ⟨#[115, 104, 111, 114, 116]⟩ else if q = 5 then ⟨#[97, 108, 111, 110, 101]⟩ else ⟨#[]⟩
set_option maxHeartbeats 1600000 in
theorem ifn_any (q : Int) (w : World) :
    Calls Tryz.prog 8 #[.int .i64 q] w fun e w' => e = .returned (.string (nameF q)) ∧ Below w.heap.size w w' := by
  have HRU := Lib.hid (fun w => irules_any w)
  by_cases h0 : q = 0
  · subst h0
    go_enter Tryz.func8, Tryz.ntmps8
    go_wp2
    go_ret
    exact ⟨rfl, Below.refl _ _⟩
  · have hb0 : (q == 0) = false := by simpa using h0
    go_enter Tryz.func8, Tryz.ntmps8
    go_wp2_with (go_at_call 31; refine (HRU.out _).mono ?_; rintro e w1 ⟨rfl, hw1⟩; have HX1 : Hid (w1.heap[w.heap.size]? = some (.cells rulesC 59)) := Lib.hid (by rw [hw1]; exact new_block w _); have HB1 : Hid (Below w.heap.size w w1) := Lib.hid (by rw [hw1]; exact (Below.refl _ _).alloc (Nat.le_refl _) _); clear hw1)
    go_loopw [9] (fun i wr => ∃ k : Nat, k ≤ 6 ∧ i = .int .i64 (k : Int) ∧ Hid ((1 ≤ k → q ≠ 1) ∧ (2 ≤ k → q ≠ 2) ∧ (3 ≤ k → q ≠ 3) ∧ (4 ≤ k → q ≠ 4) ∧ (5 ≤ k → q ≠ 5)) ∧ Hid (wr.heap[w.heap.size]? = some (.cells rulesC 59)) ∧ Hid (Below w.heap.size w wr)) (fun i _ => 6 - (intOf i).toNat)
    case atStart => exact ⟨0, by omega, rfl, Lib.hid (by omega), HX1, HB1⟩
    case round =>
      clear HX1 HB1
      obtain ⟨k, hk, rfl, HQ, HX, HB⟩ := hrel
      have HC := Lib.hid (rules_cells HX.out)
      have HBA : Hid (∀ o : Obj, Below w.heap.size w (wr.alloc o)) := Lib.hid (fun o => HB.out.alloc HB.out.size o)
      have HXA : Hid (∀ o : Obj, (wr.alloc o).heap[w.heap.size]? = some (.cells rulesC 59)) := Lib.hid (fun o => (((Below.refl wr.heap.size wr).alloc (Nat.le_refl _) o).block w.heap.size (Array.getElem?_eq_some_iff.1 HX.out).1).trans HX.out)
      rcases k with _ | _ | _ | _ | _ | _ | _ | k
      · obtain ⟨q0, q1, q2⟩ := HC.out.1
        by_cases hq : q = 1
        · subst hq
          go_wp2
          go_ret
          exact ⟨rfl, HBA.out _⟩
        · have hq1 : ((1 : Int) == q) = false := by simp; omega
          have HQ1 := Lib.hid hq
          clear hq
          go_wp2
          go_roundw
          case rel => exact ⟨1, by omega, by go_num, Lib.hid (by have h1 := HQ.out; have h2 := HQ1.out; omega), HXA.out _, HBA.out _⟩
          case measure => simp [intOf]
      · obtain ⟨q0, q1, q2⟩ := HC.out.2.1
        by_cases hq : q = 2
        · subst hq
          go_wp2
          go_ret
          exact ⟨rfl, HBA.out _⟩
        · have hq1 : ((2 : Int) == q) = false := by simp; omega
          have HQ1 := Lib.hid hq
          clear hq
          go_wp2
          go_roundw
          case rel => exact ⟨2, by omega, by go_num, Lib.hid (by have h1 := HQ.out; have h2 := HQ1.out; omega), HXA.out _, HBA.out _⟩
          case measure => simp [intOf]
      · obtain ⟨q0, q1, q2⟩ := HC.out.2.2.1
        by_cases hq : q = 3
        · subst hq
          go_wp2
          go_ret
          exact ⟨rfl, HBA.out _⟩
        · have hq1 : ((3 : Int) == q) = false := by simp; omega
          have HQ1 := Lib.hid hq
          clear hq
          go_wp2
          go_roundw
          case rel => exact ⟨3, by omega, by go_num, Lib.hid (by have h1 := HQ.out; have h2 := HQ1.out; omega), HXA.out _, HBA.out _⟩
          case measure => simp [intOf]
      · obtain ⟨q0, q1, q2⟩ := HC.out.2.2.2.1
        by_cases hq : q = 4
        · subst hq
          go_wp2
          go_ret
          exact ⟨rfl, HBA.out _⟩
        · have hq1 : ((4 : Int) == q) = false := by simp; omega
          have HQ1 := Lib.hid hq
          clear hq
          go_wp2
          go_roundw
          case rel => exact ⟨4, by omega, by go_num, Lib.hid (by have h1 := HQ.out; have h2 := HQ1.out; omega), HXA.out _, HBA.out _⟩
          case measure => simp [intOf]
      · obtain ⟨q0, q1, q2⟩ := HC.out.2.2.2.2.1
        by_cases hq : q = 5
        · subst hq
          go_wp2
          go_ret
          exact ⟨rfl, HBA.out _⟩
        · have hq1 : ((5 : Int) == q) = false := by simp; omega
          have HQ1 := Lib.hid hq
          clear hq
          go_wp2
          go_roundw
          case rel => exact ⟨5, by omega, by go_num, Lib.hid (by have h1 := HQ.out; have h2 := HQ1.out; omega), HXA.out _, HBA.out _⟩
          case measure => simp [intOf]
      · obtain ⟨q0, q1, q2⟩ := HC.out.2.2.2.2.2
        have hq1 : ((5 : Int) == q) = false := by have h1 := HQ.out; simp; omega
        go_wp2
        go_roundw
        case rel => exact ⟨6, by omega, by go_num, Lib.hid (by have h1 := HQ.out; omega), HXA.out _, HBA.out _⟩
        case measure => simp [intOf]
      · have HF : Hid (nameF q = ⟨#[]⟩) := Lib.hid (by
          have h1 := HQ.out
          have h2 : ¬ q = 0 := by simpa using hb0
          unfold nameF
          rw [if_neg (by omega), if_neg (by omega), if_neg (by omega), if_neg (by omega), if_neg (by omega), if_neg (by omega)])
        go_wp2
        go_ret
        exact ⟨by rw [HF.out]; rfl, HB.out⟩
      · omega
end Go.Proofs.YthgnhcjbjdhjfaaGreatDoor
