/-
  The model's contracts of chapter 10, second part: what one cell leads to.
-/
import Derived.Test.YtgpplfhbgkcjhaaDoorFormD
import Derived.Test.YtgpplfhbgkcjhaaDoorCrossPure
import Derived.Deep.DeepCutAuto
namespace Go.Proofs.YtgpplfhbgkcjhaaDoor
open Go.RowKit

def isF : Option Value → Bool
  | some (.bool false) => true
  | _ => false
def boolN : Value → Nat
  | .bool true => 1
  | _ => 0
/-- How many cells of a row are false. -/
def falses (w : World) (g n : Nat) : Nat := ((List.range n).filter fun k => isF (w.cell? ⟨g, k, none⟩)).length
def nf (B : List Bool) : Nat := ((List.range B.length).filter fun k => !B.getD k false).length
theorem falses_is {w : World} {base g n cap : Nat} {e : TypeId} {B : List Bool} (h : w.ownsRow base e 1 (.slice (some ⟨g, 0, none⟩) n cap) n (B.map Value.bool)) (hn : B.length = n) : falses w g n = nf B := by
  unfold falses nf
  rw [hn]
  congr 1
  apply List.filter_congr
  intro k hk
  rw [List.mem_range] at hk
  rw [h.cellAt k (by omega)]
  have hk2 : k < B.length := by omega
  simp only [List.getElem?_map, List.getElem?_eq_getElem hk2, Option.map_some, List.getD_eq_getElem?_getD, Option.getD_some]
  cases B[k] <;> rfl
theorem near_ltF {c n i k : Nat} (hc : 2 ≤ c) {r : Nat} (hn : n = r * c) (hi : i < n) (h : nearN c n i k) : k < n := by
  rcases h with ⟨h1, h2⟩ | ⟨h1, h2⟩ | ⟨h1, h2⟩ | ⟨h1, h2⟩
  · omega
  · subst h2
    refine Nat.lt_of_le_of_ne hi fun h9 => ?_
    have h3 : (i + 1) % c = 0 := by rw [h9, hn]; simp
    exact (mod_succ hc).1 h3 h1
  · omega
  · omega
theorem bool_cell {w : World} {base g n cap : Nat} {e : TypeId} {B : List Bool} (h : w.ownsRow base e 1 (.slice (some ⟨g, 0, none⟩) n cap) n (B.map Value.bool)) (hn : B.length = n) {k : Nat} (hk : k < n) : w.cell? ⟨g, k, none⟩ = some (.bool (B.getD k false)) := by
  rw [h.cellAt k (by omega)]
  have hk2 : k < B.length := by omega
  simp only [List.getElem?_map, List.getElem?_eq_getElem hk2, Option.map_some, List.getD_eq_getElem?_getD, Option.getD_some]
theorem set_getD (B : List Bool) (m k : Nat) (hm : m < B.length) : (B.set m true).getD k false = (decide (k = m) || B.getD k false) := by
  rw [List.getD_eq_getElem?_getD, List.getElem?_set, List.getD_eq_getElem?_getD]
  by_cases h : m = k
  · subst h; simp [hm]
  · rw [if_neg h, decide_eq_false (fun e => h e.symm), Bool.false_or]
theorem filter_oneF (p q : Nat → Bool) (k : Nat) (hq : ∀ i, i ≠ k → q i = p i) (hk : q k = true) : ∀ n, ((List.range n).filter q).length = ((List.range n).filter p).length + if k < n ∧ p k = false then 1 else 0
  | 0 => by simp
  | n + 1 => by
    rw [List.range_succ, List.filter_append, List.filter_append, List.length_append, List.length_append, filter_oneF p q k hq hk n]
    by_cases e : n = k
    · subst e
      rw [List.filter_cons_of_pos hk]
      cases hp : p n
      · rw [List.filter_cons_of_neg (by rw [hp]; decide)]; simp
      · rw [List.filter_cons_of_pos hp]; simp
    · have h1 : ([n].filter q).length = ([n].filter p).length := by rw [List.filter_cons, List.filter_cons, hq n e]; rfl
      rw [h1]
      by_cases h2 : k < n ∧ p k = false
      · rw [if_pos h2, if_pos ⟨by omega, h2.2⟩]; omega
      · rw [if_neg h2, if_neg (fun h => h2 ⟨by omega, h.2⟩)]; omega
theorem nf_set (B : List Bool) (m : Nat) (hm : m < B.length) (h : B.getD m false = false) : nf (B.set m true) + 1 = nf B := by
  unfold nf
  rw [List.length_set]
  have h1 := filter_oneF (fun k => !(B.set m true).getD k false) (fun k => !B.getD k false) m (fun i hi => by
    simp only [set_getD B m i hm, decide_eq_false hi, Bool.false_or]) (by simp only [h]; rfl) B.length
  rw [h1, if_pos ⟨hm, by simp only [set_getD B m m hm]; simp⟩]
theorem store_bool {B : List Bool} {m : Nat} : (B.map Value.bool).set m (.bool true) = (B.set m true).map Value.bool := by rw [List.map_set]
theorem block_grown {W W' : World} {b g : Nat} {o : Obj} (h : W.heap[b]? = some o) (hg : W.grownBy W' (some g)) (hne : g ≠ b) : W'.heap[b]? = some o :=
  (hg.block b (Array.getElem?_eq_some_iff.1 h).1 (fun e => hne (by simp at e; exact e.symm))).trans h
/-- A row of marks of what one cell leads to. -/
def ReachRow (W : World) (s : ByteArray) (C i base g cap : Nat) : Prop := ∃ B : List Bool, B.length = s.size ∧ (∀ k, B.getD k false = reachB (whF s) C s.size i k) ∧ W.ownsRow base 4 1 (.slice (some ⟨g, 0, none⟩) s.size cap) s.size (B.map Value.bool)
set_option maxRecDepth 100000 in
set_option maxHeartbeats 1600000 in
theorem sreach_any (R C : Nat) (s : ByteArray) (h3 : 2 ≤ C) (h4 : C ≤ 6) (hn : s.size = R * C) (h36 : s.size ≤ 36) (i : Nat) (hi : i < s.size) (base g cap : Nat) (w : World) (hgw : g < w.heap.size)
    (ho : w.ownsRow base 4 1 (.slice (some ⟨g, 0, none⟩) s.size cap) s.size ((List.replicate s.size false).map Value.bool)) :
    Calls Tryd.prog 47 #[.agg #[.int .i64 (R : Int), .int .i64 (C : Int), .string s], .slice (some ⟨g, 0, none⟩) s.size cap, .int .i64 (i : Int)] w fun e w' => e = .returned (.slice (some ⟨g, 0, none⟩) s.size cap) ∧ ReachRow w' s C i base g cap ∧ w.grownBy w' (some g) := by
  have HMD : Hid (∀ (B : List Bool), B.getD i false = true → (∀ k, B.getD k false = true → Reach (whF s) C s.size i k) → (∀ j, j < s.size → whF s j = true → B.getD j false = false → ∀ k, nearN C s.size j k → B.getD k false = false) → ∀ k, B.getD k false = reachB (whF s) C s.size i k) := Lib.hid (fun B h1 h2 h3 => marks_done h1 h2 h3)
  have HN := Lib.hid hn
  clear hn
  have HO0 := Lib.hid ho
  clear ho
  go_enter Tryd.func47, Tryd.ntmps47
  have HL0 : Hid ((List.replicate s.size false).length = s.size) := Lib.hid (by simp)
  have hc := bool_cell HO0.out HL0.out hi
  have hf := HO0.out.frozenAt i
  have hst := HO0.out.stored i (.bool true)
  rw [store_bool] at hst
  have HS := Lib.hid hst
  clear hst
  have hcA : (w.alloc (.cells #[.int .i64 (R : Int), .int .i64 (C : Int), .string s] 25)).cell? ⟨g, i, none⟩ = some (.bool ((List.replicate s.size false).getD i false)) := bool_cell (HO0.out.alloc _) HL0.out hi
  have hfA := (HO0.out.alloc (.cells #[.int .i64 (R : Int), .int .i64 (C : Int), .string s] 25)).frozenAt i
  obtain ⟨B0, hB0⟩ : ∃ B0, B0 = (List.replicate s.size false) := ⟨_, rfl⟩
  rw [← hB0] at hc hcA HS HL0
  go_wp2_with fail
  obtain ⟨W1, hW1⟩ : ∃ W1, W1 = (w.setCell ⟨g, i, none⟩ (.bool true)).alloc (.cells #[.int .i64 (R : Int), .int .i64 (C : Int), .string s] 25) := ⟨_, rfl⟩
  have HR1 : Hid (W1.ownsRow base 4 1 (.slice (some ⟨g, 0, none⟩) s.size cap) s.size ((B0.set i true).map Value.bool)) := Lib.hid (by rw [hW1]; exact HS.out.1.alloc _)
  have HG1 : Hid (w.grownBy W1 (some g)) := Lib.hid (by rw [hW1]; exact grown_trans HS.out.2 (World.grownBy_alloc _ _ _))
  have HX1 : Hid (W1.heap[w.heap.size]? = some (.cells #[.int .i64 (R : Int), .int .i64 (C : Int), .string s] 25)) := Lib.hid (by
    rw [hW1]
    have h9 := new_block (w.setCell ⟨g, i, none⟩ (.bool true)) (.cells #[.int .i64 (R : Int), .int .i64 (C : Int), .string s] 25)
    simpa using h9)
  have HL1 : Hid ((B0.set i true).length = s.size) := Lib.hid (by rw [List.length_set]; exact HL0.out)
  have HI1 : Hid ((B0.set i true).getD i false = true) := Lib.hid (by rw [set_getD _ _ _ (by have := HL0.out; omega)]; simp)
  have HP1 : Hid (∀ k, (B0.set i true).getD k false = true → Reach (whF s) C s.size i k) := Lib.hid (fun k h => by
    rw [set_getD _ _ _ (by have := HL0.out; omega), hB0] at h
    simp only [Bool.or_eq_true, decide_eq_true_eq] at h
    rcases h with rfl | h
    · exact .base
    · exfalso
      rw [List.getD_eq_getElem?_getD, List.getElem?_replicate] at h
      split at h <;> simp at h)
  rw [← hW1]
  clear hW1 HS hc hf hcA hfA HO0 hB0 HL0
  obtain ⟨B1, hB1⟩ : ∃ B1, B1 = B0.set i true := ⟨_, rfl⟩
  rw [← hB1] at HR1 HL1 HI1 HP1
  clear hB1 B0
  have hgx : ¬ g = w.heap.size := by omega
  go_loopw [7] (fun ag wr => ∃ (B : List Bool) (q : Bool), ag = .bool q ∧ Hid (B.length = s.size) ∧ Hid (B.getD i false = true) ∧ Hid (∀ k, B.getD k false = true → Reach (whF s) C s.size i k) ∧ Hid (q = false → ∀ j, j < s.size → whF s j = true → B.getD j false = false → ∀ k, nearN C s.size j k → B.getD k false = false) ∧ Hid (wr.ownsRow base 4 1 (.slice (some ⟨g, 0, none⟩) s.size cap) s.size (B.map Value.bool)) ∧ Hid (wr.heap[w.heap.size]? = some (.cells #[.int .i64 (R : Int), .int .i64 (C : Int), .string s] 25)) ∧ Hid (w.grownBy wr (some g))) (fun ag wr => falses wr g s.size + boolN ag)
  case atStart => exact ⟨B1, true, rfl, HL1, HI1, HP1, Lib.hid (fun h => by cases h), HR1, HX1, HG1⟩
  case round =>
    clear HL1 HI1 HP1 HR1 HX1 HG1
    obtain ⟨B, q, rfl, HL, HI, HP, HC, HR, HX, HG⟩ := hrel
    cases q with
    | false =>
      have HF := Lib.hid (HMD.out B HI.out HP.out (HC.out rfl))
      go_wp2
      go_ret
      exact ⟨rfl, ⟨B, HL.out, HF.out, HR.out⟩, HG.out⟩
    | true =>
      clear HC
      have HFA := Lib.hid (falses_is HR.out HL.out)
      go_wp2_with fail
      obtain ⟨wq, rfl⟩ : ∃ wq, wq = wr := ⟨wr, rfl⟩
      go_loopw [7, 8] (fun ag m wr => ∃ (B2 : List Bool) (q : Bool) (j : Nat), ag = .bool q ∧ m = .int .i64 (j : Int) ∧ j ≤ s.size ∧ Hid (B2.length = s.size) ∧ Hid (B2.getD i false = true) ∧ Hid (∀ k, B2.getD k false = true → Reach (whF s) C s.size i k) ∧ Hid (q = false → B2 = B ∧ ∀ k, k < j → whF s k = true → B.getD k false = false → ∀ k2, nearN C s.size k k2 → B.getD k2 false = false) ∧ Hid (q = true → nf B2 < nf B) ∧ Hid (wr.ownsRow base 4 1 (.slice (some ⟨g, 0, none⟩) s.size cap) s.size (B2.map Value.bool)) ∧ Hid (wr.heap[w.heap.size]? = some (.cells #[.int .i64 (R : Int), .int .i64 (C : Int), .string s] 25)) ∧ Hid (w.grownBy wr (some g))) (fun _ m _ => s.size - (intOf m).toNat)
      case atStart => exact ⟨B, false, 0, rfl, rfl, Nat.zero_le _, HL, HI, HP, Lib.hid (fun _ => ⟨rfl, fun k hk => by omega⟩), Lib.hid (fun h => by cases h), HR, HX, HG⟩
      case round =>
        clear HI HP HR HX HG
        obtain ⟨B2, q, m, rfl, rfl, hm, HL2, HI2, HP2, HCF, HCT, HR2, HX2, HG2⟩ := hrel
        by_cases hlt : m < s.size
        · have hd : decide ((m : Int) < (s.size : Int)) = true := decide_eq_true (by omega)
          have hd9 : decide (m < s.size) = true := decide_eq_true hlt
          have hcm := bool_cell HR2.out HL2.out hlt
          obtain ⟨gx0, gx1, gx2⟩ := gbox HX2.out
          have HBY : Hid (s.data.toList.getD m 0 = s[m]) := Lib.hid (by
            have h9 : m < s.data.toList.length := by rw [size_list]; exact hlt
            rw [List.getD_eq_getElem?_getD, List.getElem?_eq_getElem h9]
            rfl)
          rcases hy : B2.getD m false with _ | _
          · rw [hy] at hcm
            have HY := Lib.hid hy
            clear hy
            by_cases h46 : s[m] = 46
            · have hq2 : ((s[m].toNat : Int) != 46) = false := by simp [h46]
              have HW : Hid (whF s m = true) := Lib.hid (by unfold whF; rw [HBY.out]; exact decide_eq_true h46)
              clear h46
              have hC0 : 0 < C := by omega
              have hmC := Nat.mod_lt m hC0
              have hrem : (m : Int).tmod (C : Int) = ((m % C : Nat) : Int) := by rw [Int.tmod_eq_emod_of_nonneg (by omega)]; simp
              have HX1 : Hid (0 < m % C → ∃ m1 : Nat, (m : Int) - 1 = (m1 : Int) ∧ m1 < s.size ∧ wr.cell? ⟨g, m1, none⟩ = some (.bool (B2.getD (m - 1) false))) := Lib.hid (fun h => by
                have h0 : 0 < m := Nat.pos_of_ne_zero fun h9 => by subst h9; simp at h
                exact ⟨m - 1, by omega, by omega, bool_cell HR2.out HL2.out (by omega)⟩)
              have HX2' : Hid (m % C + 1 < C → ∃ m1 : Nat, (m : Int) + 1 = (m1 : Int) ∧ m1 < s.size ∧ wr.cell? ⟨g, m1, none⟩ = some (.bool (B2.getD (m + 1) false))) := Lib.hid (fun h => by
                have h9 := near_ltF h3 HN.out hlt (.inr (.inl ⟨h, rfl⟩))
                exact ⟨m + 1, by omega, h9, bool_cell HR2.out HL2.out h9⟩)
              have HX3 : Hid (C ≤ m → ∃ m1 : Nat, (m : Int) - (C : Int) = (m1 : Int) ∧ m1 < s.size ∧ wr.cell? ⟨g, m1, none⟩ = some (.bool (B2.getD (m - C) false))) := Lib.hid (fun h => ⟨m - C, by omega, by omega, bool_cell HR2.out HL2.out (by omega)⟩)
              have HX4 : Hid (m + C < s.size → ∃ m1 : Nat, (m : Int) + (C : Int) = (m1 : Int) ∧ m1 < s.size ∧ wr.cell? ⟨g, m1, none⟩ = some (.bool (B2.getD (m + C) false))) := Lib.hid (fun h => ⟨m + C, by omega, h, bool_cell HR2.out HL2.out h⟩)
              have HNT : Hid ((decide (0 < m % C) && B2.getD (m - 1) false || decide (m % C + 1 < C) && B2.getD (m + 1) false || decide (C ≤ m) && B2.getD (m - C) false || decide (m + C < s.size) && B2.getD (m + C) false) = true → ∃ k, nearN C s.size m k ∧ B2.getD k false = true) := Lib.hid (fun h => by
                simp only [Bool.or_eq_true, Bool.and_eq_true, decide_eq_true_eq] at h
                rcases h with ((⟨h1, h2⟩ | ⟨h1, h2⟩) | ⟨h1, h2⟩) | ⟨h1, h2⟩
                · have h0 : 0 < m := Nat.pos_of_ne_zero fun h9 => by subst h9; simp at h1
                  exact ⟨m - 1, .inl ⟨h1, by omega⟩, h2⟩
                · exact ⟨m + 1, .inr (.inl ⟨h1, rfl⟩), h2⟩
                · exact ⟨m - C, .inr (.inr (.inl ⟨h1, by omega⟩)), h2⟩
                · exact ⟨m + C, .inr (.inr (.inr ⟨h1, rfl⟩)), h2⟩)
              have HNF : Hid ((decide (0 < m % C) && B2.getD (m - 1) false || decide (m % C + 1 < C) && B2.getD (m + 1) false || decide (C ≤ m) && B2.getD (m - C) false || decide (m + C < s.size) && B2.getD (m + C) false) = false → ∀ k, nearN C s.size m k → B2.getD k false = false) := Lib.hid (fun h k hk => by
                simp only [Bool.or_eq_false_iff, Bool.and_eq_false_iff, decide_eq_false_iff_not] at h
                obtain ⟨⟨⟨h1, h2⟩, h5⟩, h6⟩ := h
                rcases hk with ⟨k1, k2⟩ | ⟨k1, k2⟩ | ⟨k1, k2⟩ | ⟨k1, k2⟩
                · rw [show k = m - 1 by omega]; exact h1.resolve_left (fun h => h k1)
                · rw [k2]; exact h2.resolve_left (fun h => h k1)
                · rw [show k = m - C by omega]; exact h5.resolve_left (fun h => h k1)
                · rw [k2]; exact h6.resolve_left (fun h => h k1))
              obtain ⟨x1, hx1⟩ : ∃ x, x = B2.getD (m - 1) false := ⟨_, rfl⟩
              obtain ⟨x2, hx2⟩ : ∃ x, x = B2.getD (m + 1) false := ⟨_, rfl⟩
              obtain ⟨x3, hx3⟩ : ∃ x, x = B2.getD (m - C) false := ⟨_, rfl⟩
              obtain ⟨x4, hx4⟩ : ∃ x, x = B2.getD (m + C) false := ⟨_, rfl⟩
              rw [← hx1] at HX1 HNT HNF
              rw [← hx2] at HX2' HNT HNF
              rw [← hx3] at HX3 HNT HNF
              rw [← hx4] at HX4 HNT HNF
              clear hx1 hx2 hx3 hx4
              obtain ⟨cm, hcmm⟩ : ∃ cm, cm = m % C := ⟨_, rfl⟩
              rw [← hcmm] at hmC hrem HX1 HX2' HNT HNF
              clear hcmm
              have D1 : decide ((0 : Int) < (cm : Int)) = decide (0 < cm) := decide_eq_decide.2 (by omega)
              have D2 : decide ((cm : Int) + 1 < (C : Int)) = decide (cm + 1 < C) := decide_eq_decide.2 (by omega)
              have D3 : decide ((C : Int) ≤ (m : Int)) = decide (C ≤ m) := decide_eq_decide.2 (by omega)
              have D4 : decide ((m : Int) + (C : Int) < (s.size : Int)) = decide (m + C < s.size) := decide_eq_decide.2 (by omega)
              have HC1 : Hid (decide (0 < cm) = true → ∃ m1 : Nat, (m : Int) - 1 = (m1 : Int) ∧ m1 < s.size ∧ wr.cell? ⟨g, m1, none⟩ = some (.bool x1)) := Lib.hid (fun h => HX1.out (of_decide_eq_true h))
              have HC2 : Hid (decide (cm + 1 < C) = true → ∃ m1 : Nat, (m : Int) + 1 = (m1 : Int) ∧ m1 < s.size ∧ wr.cell? ⟨g, m1, none⟩ = some (.bool x2)) := Lib.hid (fun h => HX2'.out (of_decide_eq_true h))
              have HC3 : Hid (decide (C ≤ m) = true → ∃ m1 : Nat, (m : Int) - (C : Int) = (m1 : Int) ∧ m1 < s.size ∧ wr.cell? ⟨g, m1, none⟩ = some (.bool x3)) := Lib.hid (fun h => HX3.out (of_decide_eq_true h))
              have HC4 : Hid (decide (m + C < s.size) = true → ∃ m1 : Nat, (m : Int) + (C : Int) = (m1 : Int) ∧ m1 < s.size ∧ wr.cell? ⟨g, m1, none⟩ = some (.bool x4)) := Lib.hid (fun h => HX4.out (of_decide_eq_true h))
              clear HX1 HX2' HX3 HX4
              have hsum : IntKind.i64.wrap ((m : Int) + (C : Int)) = (m : Int) + (C : Int) := by rw [IntKind.wrap_i64]; omega
              have E1 : decide (0 < cm) = decide (0 < cm) := rfl
              obtain ⟨t1, T1⟩ : ∃ t, decide (0 < cm) = t := ⟨_, rfl⟩
              obtain ⟨t2, T2⟩ : ∃ t, decide (cm + 1 < C) = t := ⟨_, rfl⟩
              obtain ⟨t3, T3⟩ : ∃ t, decide (C ≤ m) = t := ⟨_, rfl⟩
              obtain ⟨t4, T4⟩ : ∃ t, decide (m + C < s.size) = t := ⟨_, rfl⟩
              rw [T1] at D1 HC1 HNT HNF
              rw [T2] at D2 HC2 HNT HNF
              rw [T3] at D3 HC3 HNT HNF
              rw [T4] at D4 HC4 HNT HNF
              obtain ⟨nb, hnb⟩ : ∃ nb, nb = (t1 && x1 || t2 && x2 || t3 && x3 || t4 && x4) := ⟨_, rfl⟩
              rw [← hnb] at HNT HNF
              have HNB := Lib.hid hnb
              clear hnb E1
              go_upto_region 10 with (fail)
              go_cut [10] (fun v wx => v = .bool nb ∧ wx = wr)
              case first =>
                rcases t1 with _ | _
                · rcases t2 with _ | _
                  · rcases t3 with _ | _
                    · rcases t4 with _ | _
                      · go_wp2_with fail
                        go_meet
                        exact ⟨by rw [HNB.out]; rfl, rfl⟩
                      · obtain ⟨m4, e4, l4, c4⟩ := HC4.out rfl
                        rcases x4 with _ | _
                        · go_wp2_with fail
                          go_meet
                          exact ⟨by rw [HNB.out]; rfl, rfl⟩
                        · go_wp2_with fail
                          go_meet
                          exact ⟨by rw [HNB.out]; rfl, rfl⟩
                    · obtain ⟨m3, e3, l3, c3⟩ := HC3.out rfl
                      rcases x3 with _ | _
                      · rcases t4 with _ | _
                        · go_wp2_with fail
                          go_meet
                          exact ⟨by rw [HNB.out]; rfl, rfl⟩
                        · obtain ⟨m4, e4, l4, c4⟩ := HC4.out rfl
                          rcases x4 with _ | _
                          · go_wp2_with fail
                            go_meet
                            exact ⟨by rw [HNB.out]; rfl, rfl⟩
                          · go_wp2_with fail
                            go_meet
                            exact ⟨by rw [HNB.out]; rfl, rfl⟩
                      · go_wp2_with fail
                        go_meet
                        exact ⟨by rw [HNB.out]; rfl, rfl⟩
                  · obtain ⟨m2, e2, l2, c2⟩ := HC2.out rfl
                    rcases x2 with _ | _
                    · rcases t3 with _ | _
                      · rcases t4 with _ | _
                        · go_wp2_with fail
                          go_meet
                          exact ⟨by rw [HNB.out]; rfl, rfl⟩
                        · obtain ⟨m4, e4, l4, c4⟩ := HC4.out rfl
                          rcases x4 with _ | _
                          · go_wp2_with fail
                            go_meet
                            exact ⟨by rw [HNB.out]; rfl, rfl⟩
                          · go_wp2_with fail
                            go_meet
                            exact ⟨by rw [HNB.out]; rfl, rfl⟩
                      · obtain ⟨m3, e3, l3, c3⟩ := HC3.out rfl
                        rcases x3 with _ | _
                        · rcases t4 with _ | _
                          · go_wp2_with fail
                            go_meet
                            exact ⟨by rw [HNB.out]; rfl, rfl⟩
                          · obtain ⟨m4, e4, l4, c4⟩ := HC4.out rfl
                            rcases x4 with _ | _
                            · go_wp2_with fail
                              go_meet
                              exact ⟨by rw [HNB.out]; rfl, rfl⟩
                            · go_wp2_with fail
                              go_meet
                              exact ⟨by rw [HNB.out]; rfl, rfl⟩
                        · go_wp2_with fail
                          go_meet
                          exact ⟨by rw [HNB.out]; rfl, rfl⟩
                    · go_wp2_with fail
                      go_meet
                      exact ⟨by rw [HNB.out]; rfl, rfl⟩
                · obtain ⟨m1, e1, l1, c1⟩ := HC1.out rfl
                  rcases x1 with _ | _
                  · rcases t2 with _ | _
                    · rcases t3 with _ | _
                      · rcases t4 with _ | _
                        · go_wp2_with fail
                          go_meet
                          exact ⟨by rw [HNB.out]; rfl, rfl⟩
                        · obtain ⟨m4, e4, l4, c4⟩ := HC4.out rfl
                          rcases x4 with _ | _
                          · go_wp2_with fail
                            go_meet
                            exact ⟨by rw [HNB.out]; rfl, rfl⟩
                          · go_wp2_with fail
                            go_meet
                            exact ⟨by rw [HNB.out]; rfl, rfl⟩
                      · obtain ⟨m3, e3, l3, c3⟩ := HC3.out rfl
                        rcases x3 with _ | _
                        · rcases t4 with _ | _
                          · go_wp2_with fail
                            go_meet
                            exact ⟨by rw [HNB.out]; rfl, rfl⟩
                          · obtain ⟨m4, e4, l4, c4⟩ := HC4.out rfl
                            rcases x4 with _ | _
                            · go_wp2_with fail
                              go_meet
                              exact ⟨by rw [HNB.out]; rfl, rfl⟩
                            · go_wp2_with fail
                              go_meet
                              exact ⟨by rw [HNB.out]; rfl, rfl⟩
                        · go_wp2_with fail
                          go_meet
                          exact ⟨by rw [HNB.out]; rfl, rfl⟩
                    · obtain ⟨m2, e2, l2, c2⟩ := HC2.out rfl
                      rcases x2 with _ | _
                      · rcases t3 with _ | _
                        · rcases t4 with _ | _
                          · go_wp2_with fail
                            go_meet
                            exact ⟨by rw [HNB.out]; rfl, rfl⟩
                          · obtain ⟨m4, e4, l4, c4⟩ := HC4.out rfl
                            rcases x4 with _ | _
                            · go_wp2_with fail
                              go_meet
                              exact ⟨by rw [HNB.out]; rfl, rfl⟩
                            · go_wp2_with fail
                              go_meet
                              exact ⟨by rw [HNB.out]; rfl, rfl⟩
                        · obtain ⟨m3, e3, l3, c3⟩ := HC3.out rfl
                          rcases x3 with _ | _
                          · rcases t4 with _ | _
                            · go_wp2_with fail
                              go_meet
                              exact ⟨by rw [HNB.out]; rfl, rfl⟩
                            · obtain ⟨m4, e4, l4, c4⟩ := HC4.out rfl
                              rcases x4 with _ | _
                              · go_wp2_with fail
                                go_meet
                                exact ⟨by rw [HNB.out]; rfl, rfl⟩
                              · go_wp2_with fail
                                go_meet
                                exact ⟨by rw [HNB.out]; rfl, rfl⟩
                          · go_wp2_with fail
                            go_meet
                            exact ⟨by rw [HNB.out]; rfl, rfl⟩
                      · go_wp2_with fail
                        go_meet
                        exact ⟨by rw [HNB.out]; rfl, rfl⟩
                  · go_wp2_with fail
                    go_meet
                    exact ⟨by rw [HNB.out]; rfl, rfl⟩
              case rest =>
                obtain ⟨rfl, rfl⟩ := hcut
                clear HNB HC1 HC2 HC3 HC4 D1 D2 D3 D4 T1 T2 T3 T4 hsum hrem hmC
                cases nb with
                | false =>
                  have HF := Lib.hid (HNF.out rfl)
                  have HCF2 : Hid (q = false → B2 = B ∧ ∀ k, k < m + 1 → whF s k = true → B.getD k false = false → ∀ k2, nearN C s.size k k2 → B.getD k2 false = false) := Lib.hid (fun h => by
                    obtain ⟨e, h2⟩ := HCF.out h
                    refine ⟨e, fun k hk => ?_⟩
                    by_cases ek : k = m
                    · subst ek
                      rw [← e]
                      exact fun _ _ => HF.out
                    · exact h2 k (by omega))
                  clear HNT HNF
                  go_wp2_with fail
                  go_roundw
                  case rel => exact ⟨B2, q, m + 1, rfl, by go_num, by omega, HL2, HI2, HP2, HCF2, HCT, HR2, HX2, HG2⟩
                  case measure => simp [intOf]; omega
                | true =>
                  have hf := HR2.out.frozenAt m
                  have hst := HR2.out.stored m (.bool true)
                  rw [store_bool] at hst
                  have HS := Lib.hid hst
                  clear hst
                  have HL3 : Hid ((B2.set m true).length = s.size) := Lib.hid (by rw [List.length_set]; exact HL2.out)
                  have hml : m < B2.length := by rw [HL2.out]; exact hlt
                  have HI3 : Hid ((B2.set m true).getD i false = true) := Lib.hid (by rw [set_getD _ _ _ hml, HI2.out]; simp)
                  have HP3 : Hid (∀ k, (B2.set m true).getD k false = true → Reach (whF s) C s.size i k) := Lib.hid (fun k h => by
                    rw [set_getD _ _ _ hml] at h
                    simp only [Bool.or_eq_true, decide_eq_true_eq] at h
                    rcases h with rfl | h
                    · obtain ⟨k2, h1, h2⟩ := HNT.out rfl
                      exact .step k2 k (HP2.out k2 h2) h1 hlt HW.out
                    · exact HP2.out k h)
                  have HCT3 : Hid (true = true → nf (B2.set m true) < nf B) := Lib.hid (fun _ => by
                    have h1 := nf_set B2 m hml HY.out
                    cases q with
                    | false => rw [(HCF.out rfl).1] at h1 ⊢; omega
                    | true => have := HCT.out rfl; omega)
                  have HCF3 : Hid (true = false → B2.set m true = B ∧ ∀ k, k < m + 1 → whF s k = true → B.getD k false = false → ∀ k2, nearN C s.size k k2 → B.getD k2 false = false) := Lib.hid (fun h => by cases h)
                  have HX3 := Lib.hid (block_grown HX2.out HS.out.2 (by omega))
                  have HG3 := Lib.hid (grown_trans HG2.out HS.out.2)
                  have HR3 := Lib.hid HS.out.1
                  obtain ⟨B3, hB3⟩ : ∃ B3, B3 = B2.set m true := ⟨_, rfl⟩
                  rw [← hB3] at HL3 HI3 HP3 HCT3 HCF3 HR3
                  clear HNT HNF HS hB3 hml
                  go_wp2_with fail
                  go_roundw
                  case rel => exact ⟨B3, true, m + 1, rfl, by go_num, by omega, HL3, HI3, HP3, HCF3, HCT3, HR3, HX3, HG3⟩
                  case measure => simp [intOf]; omega
            · have hq2 : ((s[m].toNat : Int) != 46) = true := by simp; intro h; exact h46 (UInt8.toNat_inj.1 (by show s[m].toNat = 46; omega))
              have HCF2 : Hid (q = false → B2 = B ∧ ∀ k, k < m + 1 → whF s k = true → B.getD k false = false → ∀ k2, nearN C s.size k k2 → B.getD k2 false = false) := Lib.hid (fun h => by
                obtain ⟨e, h2⟩ := HCF.out h
                refine ⟨e, fun k hk hw => ?_⟩
                by_cases ek : k = m
                · subst ek
                  unfold whF at hw
                  rw [HBY.out] at hw
                  exact absurd (of_decide_eq_true hw) h46
                · exact h2 k (by omega) hw)
              clear h46
              go_wp2_with fail
              go_roundw
              case rel => exact ⟨B2, q, m + 1, rfl, by go_num, by omega, HL2, HI2, HP2, HCF2, HCT, HR2, HX2, HG2⟩
              case measure => simp [intOf]; omega
          · rw [hy] at hcm
            have HCF2 : Hid (q = false → B2 = B ∧ ∀ k, k < m + 1 → whF s k = true → B.getD k false = false → ∀ k2, nearN C s.size k k2 → B.getD k2 false = false) := Lib.hid (fun h => by
              obtain ⟨e, h2⟩ := HCF.out h
              refine ⟨e, fun k hk hw hb => ?_⟩
              by_cases ek : k = m
              · subst ek
                rw [← e, hy] at hb
                cases hb
              · exact h2 k (by omega) hw hb)
            clear hy
            go_wp2_with fail
            go_roundw
            case rel => exact ⟨B2, q, m + 1, rfl, by go_num, by omega, HL2, HI2, HP2, HCF2, HCT, HR2, HX2, HG2⟩
            case measure => simp [intOf]; omega
        · have hd : decide ((m : Int) < (s.size : Int)) = false := decide_eq_false (by omega)
          have hd9 : decide (m < s.size) = false := decide_eq_false hlt
          have HFB := Lib.hid (falses_is HR2.out HL2.out)
          have HCN : Hid (q = false → ∀ j, j < s.size → whF s j = true → B2.getD j false = false → ∀ k, nearN C s.size j k → B2.getD k false = false) := Lib.hid (fun h => by
            obtain ⟨e, h2⟩ := HCF.out h
            rw [e]
            exact fun j hj => h2 j (by omega))
          have HME : Hid (falses wr g s.size + boolN (.bool q) < falses wq g s.size + boolN (.bool true)) := Lib.hid (by
            rw [HFB.out, HFA.out]
            cases q with
            | false => rw [(HCF.out rfl).1]; simp [boolN]
            | true => have := HCT.out rfl; simp [boolN]; omega)
          go_wp2_with fail
          go_roundw
          case rel => exact ⟨B2, q, rfl, HL2, HI2, HP2, HCN, HR2, HX2, HG2⟩
          case measure =>
            exact HME.out
end Go.Proofs.YtgpplfhbgkcjhaaDoor
