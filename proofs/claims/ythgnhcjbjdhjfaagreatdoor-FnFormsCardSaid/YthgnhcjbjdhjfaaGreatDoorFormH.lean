/-
  The contracts of FormOf, of the model and of the program.
-/
import Derived.Test.YthgnhcjbjdhjfaaGreatDoorFormE
import Derived.Test.YthgnhcjbjdhjfaaGreatDoorFormStdP
namespace Go.Proofs.YthgnhcjbjdhjfaaGreatDoor
open Go.RowKit

/-- The code of a form, off the answers of the tests. -/
def codeOf (p0 p1 p2 p3 p4 p5 : Bool) : Int := if p0 = false then 1 else if p1 = false then 2 else if p2 = false then 3 else if p3 = false then 4 else if p4 = false then 5 else if p5 = false then 5 else 0
theorem form_code (g : Int × Int × ByteArray) : formG g = codeOf (isG g) (symG g) (decide (partsG g = 1)) (!shortG g) (!halfG g) (!looseG g) := by
  unfold formG codeOf
  by_cases hp : partsG g = 1
  · rw [if_pos hp, decide_eq_true hp]
    cases isG g <;> cases symG g <;> cases shortG g <;> cases halfG g <;> cases looseG g <;> rfl
  · rw [if_neg hp, decide_eq_false hp]
    cases isG g <;> cases symG g <;> rfl
theorem mth_k0 (w : World) : (method 364 104 ruleA0 "loop.example/g03003/impl.isKept").run Tryz.prog w = .ok (212, ruleA0) w := by kernel_rfl
theorem mth_k1 (w : World) : (method 364 104 ruleA1 "loop.example/g03003/impl.isKept").run Tryz.prog w = .ok (212, ruleA1) w := by kernel_rfl
theorem mth_k2 (w : World) : (method 364 104 ruleA2 "loop.example/g03003/impl.isKept").run Tryz.prog w = .ok (212, ruleA2) w := by kernel_rfl
theorem mth_k3 (w : World) : (method 364 107 ruleA3 "loop.example/g03003/impl.isKept").run Tryz.prog w = .ok (213, ruleA3) w := by kernel_rfl
theorem mth_k4 (w : World) : (method 364 107 ruleA4 "loop.example/g03003/impl.isKept").run Tryz.prog w = .ok (213, ruleA4) w := by kernel_rfl
theorem mth_k5 (w : World) : (method 364 104 ruleA5 "loop.example/g03003/impl.isKept").run Tryz.prog w = .ok (212, ruleA5) w := by kernel_rfl
set_option maxRecDepth 100000 in
set_option maxHeartbeats 3200000 in
theorem ifo_any (r c : Int) (s : ByteArray) (hs : s.size ≤ 1048576) (w : World) (hD : DB w) :
    Calls Tryz.prog 7 #[.agg #[.int .i64 r, .int .i64 c, .string s]] w fun e w' => e = .returned (.int .i64 (formG (r, c, s))) ∧ Below w.heap.size w w' := by
  have HD := Lib.hid hD
  clear hD
  have hm0 := mth_k0
  have hm1 := mth_k1
  have hm2 := mth_k2
  have hm3 := mth_k3
  have hm4 := mth_k4
  have hm5 := mth_k5
  have HF := Lib.hid (form_code (r, c, s))
  rw [HF.out]
  clear HF
  have HRU := Lib.hid (fun w => irules_any w)
  have HK0 := Lib.hid (fun w => ikept0 r c s hs w)
  have HK1 := Lib.hid (fun w => ikept1 r c s hs w)
  have HK2 := Lib.hid (fun w hd => ikept2 r c s hs w hd)
  have HK3 := Lib.hid (fun hg w => ikept3 r c s hg w)
  have HK4 := Lib.hid (fun hg w => ikept4 r c s hg w)
  have HK5 := Lib.hid (fun hg w => ikept5 r c s hg w)
  obtain ⟨p0, hp0⟩ : ∃ p, p = isG (r, c, s) := ⟨_, rfl⟩
  obtain ⟨p1, hp1⟩ : ∃ p, p = symG (r, c, s) := ⟨_, rfl⟩
  obtain ⟨p2, hp2⟩ : ∃ p, p = decide (partsG (r, c, s) = 1) := ⟨_, rfl⟩
  obtain ⟨p3, hp3⟩ : ∃ p, p = !shortG (r, c, s) := ⟨_, rfl⟩
  obtain ⟨p4, hp4⟩ : ∃ p, p = !halfG (r, c, s) := ⟨_, rfl⟩
  obtain ⟨p5, hp5⟩ : ∃ p, p = !looseG (r, c, s) := ⟨_, rfl⟩
  rw [← hp0] at HK0 HK3 HK4 HK5 ⊢
  rw [← hp1] at HK1 ⊢
  rw [← hp2] at HK2 ⊢
  rw [← hp3] at HK3 ⊢
  rw [← hp4] at HK4 ⊢
  rw [← hp5] at HK5 ⊢
  clear hp0 hp1 hp2 hp3 hp4 hp5
  go_enter Tryz.func7, Tryz.ntmps7
  have HX0 : Hid ((w.alloc (.cells #[.int .i64 r, .int .i64 c, .string s] 25)).heap[w.heap.size]? = some (.cells #[.int .i64 r, .int .i64 c, .string s] 25)) := Lib.hid (new_block w _)
  have HB0 : Hid (Below w.heap.size w (w.alloc (.cells #[.int .i64 r, .int .i64 c, .string s] 25))) := Lib.hid ((Below.refl _ _).alloc (Nat.le_refl _) _)
  go_wp2_with (go_at_call 31; refine (HRU.out _).mono ?_; rintro e w1 ⟨rfl, hw1⟩; have HR1 : Hid (w1.heap[w.heap.size + 1]? = some (.cells rulesC 59)) := Lib.hid (by rw [hw1]; have h9 := new_block (w.alloc (.cells #[.int .i64 r, .int .i64 c, .string s] 25)) (.cells rulesC 59); simpa using h9); have HB1 : Hid (Below w.heap.size w w1) := Lib.hid (by rw [hw1]; exact HB0.out.alloc HB0.out.size _); have HX1 : Hid (w1.heap[w.heap.size]? = some (.cells #[.int .i64 r, .int .i64 c, .string s] 25)) := Lib.hid (by rw [hw1, Below.heap_alloc _ _ w.heap.size (by simp)]; exact HX0.out); clear hw1)
  go_loopw [7] (fun i wr => ∃ k : Nat, k ≤ 6 ∧ i = .int .i64 (k : Int) ∧ Hid ((1 ≤ k → p0 = true) ∧ (2 ≤ k → p1 = true) ∧ (3 ≤ k → p2 = true) ∧ (4 ≤ k → p3 = true) ∧ (5 ≤ k → p4 = true) ∧ (6 ≤ k → p5 = true)) ∧ Hid (wr.heap[w.heap.size + 1]? = some (.cells rulesC 59)) ∧ Hid (wr.heap[w.heap.size]? = some (.cells #[.int .i64 r, .int .i64 c, .string s] 25)) ∧ Hid (Below w.heap.size w wr)) (fun i _ => 6 - (intOf i).toNat)
  case atStart => exact ⟨0, by omega, rfl, Lib.hid ⟨by omega, by omega, by omega, by omega, by omega, by omega⟩, HR1, HX1, HB1⟩
  case round =>
    clear HR1 HX1 HB1 HX0 HB0
    obtain ⟨k, hk, rfl, HQ, HR, HX, HB⟩ := hrel
    have HC := Lib.hid (rules_cells HR.out)
    have HBA : Hid (∀ o : Obj, Below w.heap.size w (wr.alloc o)) := Lib.hid (fun o => HB.out.alloc HB.out.size o)
    have HRA : Hid (∀ o : Obj, (wr.alloc o).heap[w.heap.size + 1]? = some (.cells rulesC 59)) := Lib.hid (fun o => block_later HR.out ((Below.refl wr.heap.size wr).alloc (Nat.le_refl _) o) (Array.getElem?_eq_some_iff.1 HR.out).1)
    have HXA : Hid (∀ o : Obj, (wr.alloc o).heap[w.heap.size]? = some (.cells #[.int .i64 r, .int .i64 c, .string s] 25)) := Lib.hid (fun o => block_later HX.out ((Below.refl wr.heap.size wr).alloc (Nat.le_refl _) o) (Array.getElem?_eq_some_iff.1 HX.out).1)
    rcases k with _ | _ | _ | _ | _ | _ | _ | k
    · obtain ⟨q0, q1, q2⟩ := HC.out.1
      obtain ⟨g0, g1, g2⟩ := gbox (HXA.out (.cells #[.int .i64 1, .string ⟨#[103, 114, 105, 100]⟩, .iface 104 ruleA0] 59))
      rcases hp : p0 with _ | _
      · have HE : Hid (codeOf p0 p1 p2 p3 p4 p5 = 1) := Lib.hid (by unfold codeOf; rw [hp]; cases p5 <;> cases p4 <;> cases p3 <;> cases p2 <;> cases p1 <;> rfl)
        rw [hp] at HK0
        go_wp2_with (go_at_call 212; refine (HK0.out _).mono ?_; rintro e w5 ⟨rfl, b5⟩; have HB5 := Lib.hid ((HBA.out (.cells #[.int .i64 1, .string ⟨#[103, 114, 105, 100]⟩, .iface 104 ruleA0] 59)).trans (b5.mono (HBA.out (.cells #[.int .i64 1, .string ⟨#[103, 114, 105, 100]⟩, .iface 104 ruleA0] 59)).size)); have HR5 := Lib.hid (block_later (HRA.out (.cells #[.int .i64 1, .string ⟨#[103, 114, 105, 100]⟩, .iface 104 ruleA0] 59)) b5 (Array.getElem?_eq_some_iff.1 (HRA.out (.cells #[.int .i64 1, .string ⟨#[103, 114, 105, 100]⟩, .iface 104 ruleA0] 59))).1); have HX5 := Lib.hid (block_later (HXA.out (.cells #[.int .i64 1, .string ⟨#[103, 114, 105, 100]⟩, .iface 104 ruleA0] 59)) b5 (Array.getElem?_eq_some_iff.1 (HXA.out (.cells #[.int .i64 1, .string ⟨#[103, 114, 105, 100]⟩, .iface 104 ruleA0] 59))).1); have hn5 := Joins.cell_of_block (block_later (new_block wr (.cells #[.int .i64 1, .string ⟨#[103, 114, 105, 100]⟩, .iface 104 ruleA0] 59)) b5 (by simp)) 0; simp only [List.getElem?_toArray, List.getElem?_cons_zero] at hn5; clear b5)
        go_ret
        exact ⟨by rw [← hp, HE.out]; rfl, HB5.out⟩
      · rw [hp] at HK0
        have HQ2 : Hid ((1 ≤ 1 → p0 = true) ∧ (2 ≤ 1 → p1 = true) ∧ (3 ≤ 1 → p2 = true) ∧ (4 ≤ 1 → p3 = true) ∧ (5 ≤ 1 → p4 = true) ∧ (6 ≤ 1 → p5 = true)) := Lib.hid ⟨fun _ => hp, fun h => by omega, fun h => by omega, fun h => by omega, fun h => by omega, fun h => by omega⟩
        clear hp
        go_wp2_with (go_at_call 212; refine (HK0.out _).mono ?_; rintro e w5 ⟨rfl, b5⟩; have HB5 := Lib.hid ((HBA.out (.cells #[.int .i64 1, .string ⟨#[103, 114, 105, 100]⟩, .iface 104 ruleA0] 59)).trans (b5.mono (HBA.out (.cells #[.int .i64 1, .string ⟨#[103, 114, 105, 100]⟩, .iface 104 ruleA0] 59)).size)); have HR5 := Lib.hid (block_later (HRA.out (.cells #[.int .i64 1, .string ⟨#[103, 114, 105, 100]⟩, .iface 104 ruleA0] 59)) b5 (Array.getElem?_eq_some_iff.1 (HRA.out (.cells #[.int .i64 1, .string ⟨#[103, 114, 105, 100]⟩, .iface 104 ruleA0] 59))).1); have HX5 := Lib.hid (block_later (HXA.out (.cells #[.int .i64 1, .string ⟨#[103, 114, 105, 100]⟩, .iface 104 ruleA0] 59)) b5 (Array.getElem?_eq_some_iff.1 (HXA.out (.cells #[.int .i64 1, .string ⟨#[103, 114, 105, 100]⟩, .iface 104 ruleA0] 59))).1); have hn5 := Joins.cell_of_block (block_later (new_block wr (.cells #[.int .i64 1, .string ⟨#[103, 114, 105, 100]⟩, .iface 104 ruleA0] 59)) b5 (by simp)) 0; simp only [List.getElem?_toArray, List.getElem?_cons_zero] at hn5; clear b5)
        go_roundw
        case rel => exact ⟨1, by omega, by go_num, Lib.hid ⟨fun h => by first | trivial | exact HQ2.out.1 h, fun h => by first | trivial | exact HQ2.out.2.1 h, fun h => by first | trivial | exact HQ2.out.2.2.1 h, fun h => by first | trivial | exact HQ2.out.2.2.2.1 h, fun h => by first | trivial | exact HQ2.out.2.2.2.2.1 h, fun h => by first | trivial | exact HQ2.out.2.2.2.2.2 h⟩, HR5, HX5, HB5⟩
        case measure => simp [intOf]
    · obtain ⟨q0, q1, q2⟩ := HC.out.2.1
      obtain ⟨g0, g1, g2⟩ := gbox (HXA.out (.cells #[.int .i64 2, .string ⟨#[116, 117, 114, 110]⟩, .iface 104 ruleA1] 59))
      rcases hp : p1 with _ | _
      · have HE : Hid (codeOf p0 p1 p2 p3 p4 p5 = 2) := Lib.hid (by have e0 := HQ.out.1 (by omega); unfold codeOf; rw [e0, hp]; cases p5 <;> cases p4 <;> cases p3 <;> cases p2 <;> cases p1 <;> rfl)
        rw [hp] at HK1
        go_wp2_with (go_at_call 212; refine (HK1.out _).mono ?_; rintro e w5 ⟨rfl, b5⟩; have HB5 := Lib.hid ((HBA.out (.cells #[.int .i64 2, .string ⟨#[116, 117, 114, 110]⟩, .iface 104 ruleA1] 59)).trans (b5.mono (HBA.out (.cells #[.int .i64 2, .string ⟨#[116, 117, 114, 110]⟩, .iface 104 ruleA1] 59)).size)); have HR5 := Lib.hid (block_later (HRA.out (.cells #[.int .i64 2, .string ⟨#[116, 117, 114, 110]⟩, .iface 104 ruleA1] 59)) b5 (Array.getElem?_eq_some_iff.1 (HRA.out (.cells #[.int .i64 2, .string ⟨#[116, 117, 114, 110]⟩, .iface 104 ruleA1] 59))).1); have HX5 := Lib.hid (block_later (HXA.out (.cells #[.int .i64 2, .string ⟨#[116, 117, 114, 110]⟩, .iface 104 ruleA1] 59)) b5 (Array.getElem?_eq_some_iff.1 (HXA.out (.cells #[.int .i64 2, .string ⟨#[116, 117, 114, 110]⟩, .iface 104 ruleA1] 59))).1); have hn5 := Joins.cell_of_block (block_later (new_block wr (.cells #[.int .i64 2, .string ⟨#[116, 117, 114, 110]⟩, .iface 104 ruleA1] 59)) b5 (by simp)) 0; simp only [List.getElem?_toArray, List.getElem?_cons_zero] at hn5; clear b5)
        go_ret
        exact ⟨by rw [← hp, HE.out]; rfl, HB5.out⟩
      · rw [hp] at HK1
        have HQ2 : Hid ((1 ≤ 2 → p0 = true) ∧ (2 ≤ 2 → p1 = true) ∧ (3 ≤ 2 → p2 = true) ∧ (4 ≤ 2 → p3 = true) ∧ (5 ≤ 2 → p4 = true) ∧ (6 ≤ 2 → p5 = true)) := Lib.hid ⟨fun _ => HQ.out.1 (by omega), fun _ => hp, fun h => by omega, fun h => by omega, fun h => by omega, fun h => by omega⟩
        clear hp
        go_wp2_with (go_at_call 212; refine (HK1.out _).mono ?_; rintro e w5 ⟨rfl, b5⟩; have HB5 := Lib.hid ((HBA.out (.cells #[.int .i64 2, .string ⟨#[116, 117, 114, 110]⟩, .iface 104 ruleA1] 59)).trans (b5.mono (HBA.out (.cells #[.int .i64 2, .string ⟨#[116, 117, 114, 110]⟩, .iface 104 ruleA1] 59)).size)); have HR5 := Lib.hid (block_later (HRA.out (.cells #[.int .i64 2, .string ⟨#[116, 117, 114, 110]⟩, .iface 104 ruleA1] 59)) b5 (Array.getElem?_eq_some_iff.1 (HRA.out (.cells #[.int .i64 2, .string ⟨#[116, 117, 114, 110]⟩, .iface 104 ruleA1] 59))).1); have HX5 := Lib.hid (block_later (HXA.out (.cells #[.int .i64 2, .string ⟨#[116, 117, 114, 110]⟩, .iface 104 ruleA1] 59)) b5 (Array.getElem?_eq_some_iff.1 (HXA.out (.cells #[.int .i64 2, .string ⟨#[116, 117, 114, 110]⟩, .iface 104 ruleA1] 59))).1); have hn5 := Joins.cell_of_block (block_later (new_block wr (.cells #[.int .i64 2, .string ⟨#[116, 117, 114, 110]⟩, .iface 104 ruleA1] 59)) b5 (by simp)) 0; simp only [List.getElem?_toArray, List.getElem?_cons_zero] at hn5; clear b5)
        go_roundw
        case rel => exact ⟨2, by omega, by go_num, Lib.hid ⟨fun h => by first | trivial | exact HQ2.out.1 h, fun h => by first | trivial | exact HQ2.out.2.1 h, fun h => by first | trivial | exact HQ2.out.2.2.1 h, fun h => by first | trivial | exact HQ2.out.2.2.2.1 h, fun h => by first | trivial | exact HQ2.out.2.2.2.2.1 h, fun h => by first | trivial | exact HQ2.out.2.2.2.2.2 h⟩, HR5, HX5, HB5⟩
        case measure => simp [intOf]
    · obtain ⟨q0, q1, q2⟩ := HC.out.2.2.1
      obtain ⟨g0, g1, g2⟩ := gbox (HXA.out (.cells #[.int .i64 3, .string ⟨#[112, 97, 114, 116, 115]⟩, .iface 104 ruleA2] 59))
      rcases hp : p2 with _ | _
      · have HE : Hid (codeOf p0 p1 p2 p3 p4 p5 = 3) := Lib.hid (by have e0 := HQ.out.1 (by omega); have e1 := HQ.out.2.1 (by omega); unfold codeOf; rw [e0, e1, hp]; cases p5 <;> cases p4 <;> cases p3 <;> cases p2 <;> cases p1 <;> rfl)
        rw [hp] at HK2
        go_wp2_with (go_at_call 212; refine (HK2.out _ (HD.out.later (HBA.out (.cells #[.int .i64 3, .string ⟨#[112, 97, 114, 116, 115]⟩, .iface 104 ruleA2] 59)))).mono ?_; rintro e w5 ⟨rfl, b5⟩; have HB5 := Lib.hid ((HBA.out (.cells #[.int .i64 3, .string ⟨#[112, 97, 114, 116, 115]⟩, .iface 104 ruleA2] 59)).trans (b5.mono (HBA.out (.cells #[.int .i64 3, .string ⟨#[112, 97, 114, 116, 115]⟩, .iface 104 ruleA2] 59)).size)); have HR5 := Lib.hid (block_later (HRA.out (.cells #[.int .i64 3, .string ⟨#[112, 97, 114, 116, 115]⟩, .iface 104 ruleA2] 59)) b5 (Array.getElem?_eq_some_iff.1 (HRA.out (.cells #[.int .i64 3, .string ⟨#[112, 97, 114, 116, 115]⟩, .iface 104 ruleA2] 59))).1); have HX5 := Lib.hid (block_later (HXA.out (.cells #[.int .i64 3, .string ⟨#[112, 97, 114, 116, 115]⟩, .iface 104 ruleA2] 59)) b5 (Array.getElem?_eq_some_iff.1 (HXA.out (.cells #[.int .i64 3, .string ⟨#[112, 97, 114, 116, 115]⟩, .iface 104 ruleA2] 59))).1); have hn5 := Joins.cell_of_block (block_later (new_block wr (.cells #[.int .i64 3, .string ⟨#[112, 97, 114, 116, 115]⟩, .iface 104 ruleA2] 59)) b5 (by simp)) 0; simp only [List.getElem?_toArray, List.getElem?_cons_zero] at hn5; clear b5)
        go_ret
        exact ⟨by rw [← hp, HE.out]; rfl, HB5.out⟩
      · rw [hp] at HK2
        have HQ2 : Hid ((1 ≤ 3 → p0 = true) ∧ (2 ≤ 3 → p1 = true) ∧ (3 ≤ 3 → p2 = true) ∧ (4 ≤ 3 → p3 = true) ∧ (5 ≤ 3 → p4 = true) ∧ (6 ≤ 3 → p5 = true)) := Lib.hid ⟨fun _ => HQ.out.1 (by omega), fun _ => HQ.out.2.1 (by omega), fun _ => hp, fun h => by omega, fun h => by omega, fun h => by omega⟩
        clear hp
        go_wp2_with (go_at_call 212; refine (HK2.out _ (HD.out.later (HBA.out (.cells #[.int .i64 3, .string ⟨#[112, 97, 114, 116, 115]⟩, .iface 104 ruleA2] 59)))).mono ?_; rintro e w5 ⟨rfl, b5⟩; have HB5 := Lib.hid ((HBA.out (.cells #[.int .i64 3, .string ⟨#[112, 97, 114, 116, 115]⟩, .iface 104 ruleA2] 59)).trans (b5.mono (HBA.out (.cells #[.int .i64 3, .string ⟨#[112, 97, 114, 116, 115]⟩, .iface 104 ruleA2] 59)).size)); have HR5 := Lib.hid (block_later (HRA.out (.cells #[.int .i64 3, .string ⟨#[112, 97, 114, 116, 115]⟩, .iface 104 ruleA2] 59)) b5 (Array.getElem?_eq_some_iff.1 (HRA.out (.cells #[.int .i64 3, .string ⟨#[112, 97, 114, 116, 115]⟩, .iface 104 ruleA2] 59))).1); have HX5 := Lib.hid (block_later (HXA.out (.cells #[.int .i64 3, .string ⟨#[112, 97, 114, 116, 115]⟩, .iface 104 ruleA2] 59)) b5 (Array.getElem?_eq_some_iff.1 (HXA.out (.cells #[.int .i64 3, .string ⟨#[112, 97, 114, 116, 115]⟩, .iface 104 ruleA2] 59))).1); have hn5 := Joins.cell_of_block (block_later (new_block wr (.cells #[.int .i64 3, .string ⟨#[112, 97, 114, 116, 115]⟩, .iface 104 ruleA2] 59)) b5 (by simp)) 0; simp only [List.getElem?_toArray, List.getElem?_cons_zero] at hn5; clear b5)
        go_roundw
        case rel => exact ⟨3, by omega, by go_num, Lib.hid ⟨fun h => by first | trivial | exact HQ2.out.1 h, fun h => by first | trivial | exact HQ2.out.2.1 h, fun h => by first | trivial | exact HQ2.out.2.2.1 h, fun h => by first | trivial | exact HQ2.out.2.2.2.1 h, fun h => by first | trivial | exact HQ2.out.2.2.2.2.1 h, fun h => by first | trivial | exact HQ2.out.2.2.2.2.2 h⟩, HR5, HX5, HB5⟩
        case measure => simp [intOf]
    · obtain ⟨q0, q1, q2⟩ := HC.out.2.2.2.1
      obtain ⟨g0, g1, g2⟩ := gbox (HXA.out (.cells #[.int .i64 4, .string ⟨#[115, 104, 111, 114, 116]⟩, .iface 107 ruleA3] 59))
      have HP0 := Lib.hid (HQ.out.1 (by omega))
      rcases hp : p3 with _ | _
      · have HE : Hid (codeOf p0 p1 p2 p3 p4 p5 = 4) := Lib.hid (by have e0 := HQ.out.1 (by omega); have e1 := HQ.out.2.1 (by omega); have e2 := HQ.out.2.2.1 (by omega); unfold codeOf; rw [e0, e1, e2, hp]; cases p5 <;> cases p4 <;> cases p3 <;> cases p2 <;> cases p1 <;> rfl)
        rw [hp] at HK3
        go_wp2_with (go_at_call 213; refine (HK3.out HP0.out _).mono ?_; rintro e w5 ⟨rfl, b5⟩; have HB5 := Lib.hid ((HBA.out (.cells #[.int .i64 4, .string ⟨#[115, 104, 111, 114, 116]⟩, .iface 107 ruleA3] 59)).trans (b5.mono (HBA.out (.cells #[.int .i64 4, .string ⟨#[115, 104, 111, 114, 116]⟩, .iface 107 ruleA3] 59)).size)); have HR5 := Lib.hid (block_later (HRA.out (.cells #[.int .i64 4, .string ⟨#[115, 104, 111, 114, 116]⟩, .iface 107 ruleA3] 59)) b5 (Array.getElem?_eq_some_iff.1 (HRA.out (.cells #[.int .i64 4, .string ⟨#[115, 104, 111, 114, 116]⟩, .iface 107 ruleA3] 59))).1); have HX5 := Lib.hid (block_later (HXA.out (.cells #[.int .i64 4, .string ⟨#[115, 104, 111, 114, 116]⟩, .iface 107 ruleA3] 59)) b5 (Array.getElem?_eq_some_iff.1 (HXA.out (.cells #[.int .i64 4, .string ⟨#[115, 104, 111, 114, 116]⟩, .iface 107 ruleA3] 59))).1); have hn5 := Joins.cell_of_block (block_later (new_block wr (.cells #[.int .i64 4, .string ⟨#[115, 104, 111, 114, 116]⟩, .iface 107 ruleA3] 59)) b5 (by simp)) 0; simp only [List.getElem?_toArray, List.getElem?_cons_zero] at hn5; clear b5)
        go_ret
        exact ⟨by rw [← hp, HE.out]; rfl, HB5.out⟩
      · rw [hp] at HK3
        have HQ2 : Hid ((1 ≤ 4 → p0 = true) ∧ (2 ≤ 4 → p1 = true) ∧ (3 ≤ 4 → p2 = true) ∧ (4 ≤ 4 → p3 = true) ∧ (5 ≤ 4 → p4 = true) ∧ (6 ≤ 4 → p5 = true)) := Lib.hid ⟨fun _ => HQ.out.1 (by omega), fun _ => HQ.out.2.1 (by omega), fun _ => HQ.out.2.2.1 (by omega), fun _ => hp, fun h => by omega, fun h => by omega⟩
        clear hp
        go_wp2_with (go_at_call 213; refine (HK3.out HP0.out _).mono ?_; rintro e w5 ⟨rfl, b5⟩; have HB5 := Lib.hid ((HBA.out (.cells #[.int .i64 4, .string ⟨#[115, 104, 111, 114, 116]⟩, .iface 107 ruleA3] 59)).trans (b5.mono (HBA.out (.cells #[.int .i64 4, .string ⟨#[115, 104, 111, 114, 116]⟩, .iface 107 ruleA3] 59)).size)); have HR5 := Lib.hid (block_later (HRA.out (.cells #[.int .i64 4, .string ⟨#[115, 104, 111, 114, 116]⟩, .iface 107 ruleA3] 59)) b5 (Array.getElem?_eq_some_iff.1 (HRA.out (.cells #[.int .i64 4, .string ⟨#[115, 104, 111, 114, 116]⟩, .iface 107 ruleA3] 59))).1); have HX5 := Lib.hid (block_later (HXA.out (.cells #[.int .i64 4, .string ⟨#[115, 104, 111, 114, 116]⟩, .iface 107 ruleA3] 59)) b5 (Array.getElem?_eq_some_iff.1 (HXA.out (.cells #[.int .i64 4, .string ⟨#[115, 104, 111, 114, 116]⟩, .iface 107 ruleA3] 59))).1); have hn5 := Joins.cell_of_block (block_later (new_block wr (.cells #[.int .i64 4, .string ⟨#[115, 104, 111, 114, 116]⟩, .iface 107 ruleA3] 59)) b5 (by simp)) 0; simp only [List.getElem?_toArray, List.getElem?_cons_zero] at hn5; clear b5)
        go_roundw
        case rel => exact ⟨4, by omega, by go_num, Lib.hid ⟨fun h => by first | trivial | exact HQ2.out.1 h, fun h => by first | trivial | exact HQ2.out.2.1 h, fun h => by first | trivial | exact HQ2.out.2.2.1 h, fun h => by first | trivial | exact HQ2.out.2.2.2.1 h, fun h => by first | trivial | exact HQ2.out.2.2.2.2.1 h, fun h => by first | trivial | exact HQ2.out.2.2.2.2.2 h⟩, HR5, HX5, HB5⟩
        case measure => simp [intOf]
    · obtain ⟨q0, q1, q2⟩ := HC.out.2.2.2.2.1
      obtain ⟨g0, g1, g2⟩ := gbox (HXA.out (.cells #[.int .i64 5, .string ⟨#[97, 108, 111, 110, 101]⟩, .iface 107 ruleA4] 59))
      have HP0 := Lib.hid (HQ.out.1 (by omega))
      rcases hp : p4 with _ | _
      · have HE : Hid (codeOf p0 p1 p2 p3 p4 p5 = 5) := Lib.hid (by have e0 := HQ.out.1 (by omega); have e1 := HQ.out.2.1 (by omega); have e2 := HQ.out.2.2.1 (by omega); have e3 := HQ.out.2.2.2.1 (by omega); unfold codeOf; rw [e0, e1, e2, e3, hp]; cases p5 <;> cases p4 <;> cases p3 <;> cases p2 <;> cases p1 <;> rfl)
        rw [hp] at HK4
        go_wp2_with (go_at_call 213; refine (HK4.out HP0.out _).mono ?_; rintro e w5 ⟨rfl, b5⟩; have HB5 := Lib.hid ((HBA.out (.cells #[.int .i64 5, .string ⟨#[97, 108, 111, 110, 101]⟩, .iface 107 ruleA4] 59)).trans (b5.mono (HBA.out (.cells #[.int .i64 5, .string ⟨#[97, 108, 111, 110, 101]⟩, .iface 107 ruleA4] 59)).size)); have HR5 := Lib.hid (block_later (HRA.out (.cells #[.int .i64 5, .string ⟨#[97, 108, 111, 110, 101]⟩, .iface 107 ruleA4] 59)) b5 (Array.getElem?_eq_some_iff.1 (HRA.out (.cells #[.int .i64 5, .string ⟨#[97, 108, 111, 110, 101]⟩, .iface 107 ruleA4] 59))).1); have HX5 := Lib.hid (block_later (HXA.out (.cells #[.int .i64 5, .string ⟨#[97, 108, 111, 110, 101]⟩, .iface 107 ruleA4] 59)) b5 (Array.getElem?_eq_some_iff.1 (HXA.out (.cells #[.int .i64 5, .string ⟨#[97, 108, 111, 110, 101]⟩, .iface 107 ruleA4] 59))).1); have hn5 := Joins.cell_of_block (block_later (new_block wr (.cells #[.int .i64 5, .string ⟨#[97, 108, 111, 110, 101]⟩, .iface 107 ruleA4] 59)) b5 (by simp)) 0; simp only [List.getElem?_toArray, List.getElem?_cons_zero] at hn5; clear b5)
        go_ret
        exact ⟨by rw [← hp, HE.out]; rfl, HB5.out⟩
      · rw [hp] at HK4
        have HQ2 : Hid ((1 ≤ 5 → p0 = true) ∧ (2 ≤ 5 → p1 = true) ∧ (3 ≤ 5 → p2 = true) ∧ (4 ≤ 5 → p3 = true) ∧ (5 ≤ 5 → p4 = true) ∧ (6 ≤ 5 → p5 = true)) := Lib.hid ⟨fun _ => HQ.out.1 (by omega), fun _ => HQ.out.2.1 (by omega), fun _ => HQ.out.2.2.1 (by omega), fun _ => HQ.out.2.2.2.1 (by omega), fun _ => hp, fun h => by omega⟩
        clear hp
        go_wp2_with (go_at_call 213; refine (HK4.out HP0.out _).mono ?_; rintro e w5 ⟨rfl, b5⟩; have HB5 := Lib.hid ((HBA.out (.cells #[.int .i64 5, .string ⟨#[97, 108, 111, 110, 101]⟩, .iface 107 ruleA4] 59)).trans (b5.mono (HBA.out (.cells #[.int .i64 5, .string ⟨#[97, 108, 111, 110, 101]⟩, .iface 107 ruleA4] 59)).size)); have HR5 := Lib.hid (block_later (HRA.out (.cells #[.int .i64 5, .string ⟨#[97, 108, 111, 110, 101]⟩, .iface 107 ruleA4] 59)) b5 (Array.getElem?_eq_some_iff.1 (HRA.out (.cells #[.int .i64 5, .string ⟨#[97, 108, 111, 110, 101]⟩, .iface 107 ruleA4] 59))).1); have HX5 := Lib.hid (block_later (HXA.out (.cells #[.int .i64 5, .string ⟨#[97, 108, 111, 110, 101]⟩, .iface 107 ruleA4] 59)) b5 (Array.getElem?_eq_some_iff.1 (HXA.out (.cells #[.int .i64 5, .string ⟨#[97, 108, 111, 110, 101]⟩, .iface 107 ruleA4] 59))).1); have hn5 := Joins.cell_of_block (block_later (new_block wr (.cells #[.int .i64 5, .string ⟨#[97, 108, 111, 110, 101]⟩, .iface 107 ruleA4] 59)) b5 (by simp)) 0; simp only [List.getElem?_toArray, List.getElem?_cons_zero] at hn5; clear b5)
        go_roundw
        case rel => exact ⟨5, by omega, by go_num, Lib.hid ⟨fun h => by first | trivial | exact HQ2.out.1 h, fun h => by first | trivial | exact HQ2.out.2.1 h, fun h => by first | trivial | exact HQ2.out.2.2.1 h, fun h => by first | trivial | exact HQ2.out.2.2.2.1 h, fun h => by first | trivial | exact HQ2.out.2.2.2.2.1 h, fun h => by first | trivial | exact HQ2.out.2.2.2.2.2 h⟩, HR5, HX5, HB5⟩
        case measure => simp [intOf]
    · obtain ⟨q0, q1, q2⟩ := HC.out.2.2.2.2.2
      obtain ⟨g0, g1, g2⟩ := gbox (HXA.out (.cells #[.int .i64 5, .string ⟨#[97, 108, 111, 110, 101]⟩, .iface 104 ruleA5] 59))
      have HP0 := Lib.hid (HQ.out.1 (by omega))
      rcases hp : p5 with _ | _
      · have HE : Hid (codeOf p0 p1 p2 p3 p4 p5 = 5) := Lib.hid (by have e0 := HQ.out.1 (by omega); have e1 := HQ.out.2.1 (by omega); have e2 := HQ.out.2.2.1 (by omega); have e3 := HQ.out.2.2.2.1 (by omega); have e4 := HQ.out.2.2.2.2.1 (by omega); unfold codeOf; rw [e0, e1, e2, e3, e4, hp]; cases p5 <;> cases p4 <;> cases p3 <;> cases p2 <;> cases p1 <;> rfl)
        rw [hp] at HK5
        go_wp2_with (go_at_call 212; refine (HK5.out HP0.out _).mono ?_; rintro e w5 ⟨rfl, b5⟩; have HB5 := Lib.hid ((HBA.out (.cells #[.int .i64 5, .string ⟨#[97, 108, 111, 110, 101]⟩, .iface 104 ruleA5] 59)).trans (b5.mono (HBA.out (.cells #[.int .i64 5, .string ⟨#[97, 108, 111, 110, 101]⟩, .iface 104 ruleA5] 59)).size)); have HR5 := Lib.hid (block_later (HRA.out (.cells #[.int .i64 5, .string ⟨#[97, 108, 111, 110, 101]⟩, .iface 104 ruleA5] 59)) b5 (Array.getElem?_eq_some_iff.1 (HRA.out (.cells #[.int .i64 5, .string ⟨#[97, 108, 111, 110, 101]⟩, .iface 104 ruleA5] 59))).1); have HX5 := Lib.hid (block_later (HXA.out (.cells #[.int .i64 5, .string ⟨#[97, 108, 111, 110, 101]⟩, .iface 104 ruleA5] 59)) b5 (Array.getElem?_eq_some_iff.1 (HXA.out (.cells #[.int .i64 5, .string ⟨#[97, 108, 111, 110, 101]⟩, .iface 104 ruleA5] 59))).1); have hn5 := Joins.cell_of_block (block_later (new_block wr (.cells #[.int .i64 5, .string ⟨#[97, 108, 111, 110, 101]⟩, .iface 104 ruleA5] 59)) b5 (by simp)) 0; simp only [List.getElem?_toArray, List.getElem?_cons_zero] at hn5; clear b5)
        go_ret
        exact ⟨by rw [← hp, HE.out]; rfl, HB5.out⟩
      · rw [hp] at HK5
        have HQ2 : Hid ((1 ≤ 6 → p0 = true) ∧ (2 ≤ 6 → p1 = true) ∧ (3 ≤ 6 → p2 = true) ∧ (4 ≤ 6 → p3 = true) ∧ (5 ≤ 6 → p4 = true) ∧ (6 ≤ 6 → p5 = true)) := Lib.hid ⟨fun _ => HQ.out.1 (by omega), fun _ => HQ.out.2.1 (by omega), fun _ => HQ.out.2.2.1 (by omega), fun _ => HQ.out.2.2.2.1 (by omega), fun _ => HQ.out.2.2.2.2.1 (by omega), fun _ => hp⟩
        clear hp
        go_wp2_with (go_at_call 212; refine (HK5.out HP0.out _).mono ?_; rintro e w5 ⟨rfl, b5⟩; have HB5 := Lib.hid ((HBA.out (.cells #[.int .i64 5, .string ⟨#[97, 108, 111, 110, 101]⟩, .iface 104 ruleA5] 59)).trans (b5.mono (HBA.out (.cells #[.int .i64 5, .string ⟨#[97, 108, 111, 110, 101]⟩, .iface 104 ruleA5] 59)).size)); have HR5 := Lib.hid (block_later (HRA.out (.cells #[.int .i64 5, .string ⟨#[97, 108, 111, 110, 101]⟩, .iface 104 ruleA5] 59)) b5 (Array.getElem?_eq_some_iff.1 (HRA.out (.cells #[.int .i64 5, .string ⟨#[97, 108, 111, 110, 101]⟩, .iface 104 ruleA5] 59))).1); have HX5 := Lib.hid (block_later (HXA.out (.cells #[.int .i64 5, .string ⟨#[97, 108, 111, 110, 101]⟩, .iface 104 ruleA5] 59)) b5 (Array.getElem?_eq_some_iff.1 (HXA.out (.cells #[.int .i64 5, .string ⟨#[97, 108, 111, 110, 101]⟩, .iface 104 ruleA5] 59))).1); have hn5 := Joins.cell_of_block (block_later (new_block wr (.cells #[.int .i64 5, .string ⟨#[97, 108, 111, 110, 101]⟩, .iface 104 ruleA5] 59)) b5 (by simp)) 0; simp only [List.getElem?_toArray, List.getElem?_cons_zero] at hn5; clear b5)
        go_roundw
        case rel => exact ⟨6, by omega, by go_num, Lib.hid ⟨fun h => by first | trivial | exact HQ2.out.1 h, fun h => by first | trivial | exact HQ2.out.2.1 h, fun h => by first | trivial | exact HQ2.out.2.2.1 h, fun h => by first | trivial | exact HQ2.out.2.2.2.1 h, fun h => by first | trivial | exact HQ2.out.2.2.2.2.1 h, fun h => by first | trivial | exact HQ2.out.2.2.2.2.2 h⟩, HR5, HX5, HB5⟩
        case measure => simp [intOf]
    · have HE : Hid (codeOf p0 p1 p2 p3 p4 p5 = 0) := Lib.hid (by
        obtain ⟨e0, e1, e2, e3, e4, e5⟩ := HQ.out
        rw [e0 (by omega), e1 (by omega), e2 (by omega), e3 (by omega), e4 (by omega), e5 (by omega)]; rfl)
      go_wp2
      go_ret
      exact ⟨by rw [HE.out]; rfl, HB.out⟩
    · omega
end Go.Proofs.YthgnhcjbjdhjfaaGreatDoor
