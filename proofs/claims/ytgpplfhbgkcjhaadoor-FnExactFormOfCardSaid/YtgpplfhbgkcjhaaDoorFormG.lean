/-
  The model's contracts of chapter 10, second part: what one cell leads to.
  The model's contracts of chapter 10, third part: PartsOf.
-/
import Derived.Test.YtgpplfhbgkcjhaaDoorFormD
import Derived.Test.YtgpplfhbgkcjhaaDoorCrossPure
import Derived.Test.YtgpplfhbgkcjhaaDoorPatB
import Derived.Deep.DeepCutAuto
namespace Go.Proofs.YtgpplfhbgkcjhaaDoor
open Go.RowKit

def isF : Option Value → Bool
  | some (.bool false) => true
  | _ => false
def boolN : Value → Nat
  | .bool true => 1
  | _ => 0
/-- How many cells of a row are false. -/
def falses (w : World) (g n : Nat) : Nat := ((List.range n).filter fun k => isF (w.cell? ⟨g, k, none⟩)).length
def nf (B : List Bool) : Nat := ((List.range B.length).filter fun k => !B.getD k false).length
theorem falses_is {w : World} {base g n cap : Nat} {e : TypeId} {B : List Bool} (h : w.ownsRow base e 1 (.slice (some ⟨g, 0, none⟩) n cap) n (B.map Value.bool)) (hn : B.length = n) : falses w g n = nf B := by
  unfold falses nf
  rw [hn]
  congr 1
  apply List.filter_congr
  intro k hk
  rw [List.mem_range] at hk
  rw [h.cellAt k (by omega)]
  have hk2 : k < B.length := by omega
  simp only [List.getElem?_map, List.getElem?_eq_getElem hk2, Option.map_some, List.getD_eq_getElem?_getD, Option.getD_some]
  cases B[k] <;> rfl
theorem near_ltF {c n i k : Nat} (hc : 2 ≤ c) {r : Nat} (hn : n = r * c) (hi : i < n) (h : nearN c n i k) : k < n := by
  rcases h with ⟨h1, h2⟩ | ⟨h1, h2⟩ | ⟨h1, h2⟩ | ⟨h1, h2⟩
  · omega
  · subst h2
    refine Nat.lt_of_le_of_ne hi fun h9 => ?_
    have h3 : (i + 1) % c = 0 := by rw [h9, hn]; simp
    exact (mod_succ hc).1 h3 h1
  · omega
  · omega
theorem bool_cell {w : World} {base g n cap : Nat} {e : TypeId} {B : List Bool} (h : w.ownsRow base e 1 (.slice (some ⟨g, 0, none⟩) n cap) n (B.map Value.bool)) (hn : B.length = n) {k : Nat} (hk : k < n) : w.cell? ⟨g, k, none⟩ = some (.bool (B.getD k false)) := by
  rw [h.cellAt k (by omega)]
  have hk2 : k < B.length := by omega
  simp only [List.getElem?_map, List.getElem?_eq_getElem hk2, Option.map_some, List.getD_eq_getElem?_getD, Option.getD_some]
theorem set_getD (B : List Bool) (m k : Nat) (hm : m < B.length) : (B.set m true).getD k false = (decide (k = m) || B.getD k false) := by
  rw [List.getD_eq_getElem?_getD, List.getElem?_set, List.getD_eq_getElem?_getD]
  by_cases h : m = k
  · subst h; simp [hm]
  · rw [if_neg h, decide_eq_false (fun e => h e.symm), Bool.false_or]
theorem filter_oneF (p q : Nat → Bool) (k : Nat) (hq : ∀ i, i ≠ k → q i = p i) (hk : q k = true) : ∀ n, ((List.range n).filter q).length = ((List.range n).filter p).length + if k < n ∧ p k = false then 1 else 0
  | 0 => by simp
  | n + 1 => by
    rw [List.range_succ, List.filter_append, List.filter_append, List.length_append, List.length_append, filter_oneF p q k hq hk n]
    by_cases e : n = k
    · subst e
      rw [List.filter_cons_of_pos hk]
      cases hp : p n
      · rw [List.filter_cons_of_neg (by rw [hp]; decide)]; simp
      · rw [List.filter_cons_of_pos hp]; simp
    · have h1 : ([n].filter q).length = ([n].filter p).length := by rw [List.filter_cons, List.filter_cons, hq n e]; rfl
      rw [h1]
      by_cases h2 : k < n ∧ p k = false
      · rw [if_pos h2, if_pos ⟨by omega, h2.2⟩]; omega
      · rw [if_neg h2, if_neg (fun h => h2 ⟨by omega, h.2⟩)]; omega
theorem nf_set (B : List Bool) (m : Nat) (hm : m < B.length) (h : B.getD m false = false) : nf (B.set m true) + 1 = nf B := by
  unfold nf
  rw [List.length_set]
  have h1 := filter_oneF (fun k => !(B.set m true).getD k false) (fun k => !B.getD k false) m (fun i hi => by
    simp only [set_getD B m i hm, decide_eq_false hi, Bool.false_or]) (by simp only [h]; rfl) B.length
  rw [h1, if_pos ⟨hm, by simp only [set_getD B m m hm]; simp⟩]
theorem store_bool {B : List Bool} {m : Nat} : (B.map Value.bool).set m (.bool true) = (B.set m true).map Value.bool := by rw [List.map_set]
theorem block_grown {W W' : World} {b g : Nat} {o : Obj} (h : W.heap[b]? = some o) (hg : W.grownBy W' (some g)) (hne : g ≠ b) : W'.heap[b]? = some o :=
  (hg.block b (Array.getElem?_eq_some_iff.1 h).1 (fun e => hne (by simp at e; exact e.symm))).trans h
/-- A row of marks of what one cell leads to. -/
def ReachRow (W : World) (s : ByteArray) (C i base g cap : Nat) : Prop := ∃ B : List Bool, B.length = s.size ∧ (∀ k, B.getD k false = reachB (whF s) C s.size i k) ∧ W.ownsRow base 4 1 (.slice (some ⟨g, 0, none⟩) s.size cap) s.size (B.map Value.bool)
set_option maxRecDepth 100000 in
set_option maxHeartbeats 1600000 in
theorem sreach_any (R C : Nat) (s : ByteArray) (h3 : 2 ≤ C) (h4 : C ≤ 6) (hn : s.size = R * C) (h36 : s.size ≤ 36) (i : Nat) (hi : i < s.size) (base g cap : Nat) (w : World) (hgw : g < w.heap.size)
    (ho : w.ownsRow base 4 1 (.slice (some ⟨g, 0, none⟩) s.size cap) s.size ((List.replicate s.size false).map Value.bool)) :
    Calls Tryd.prog 47 #[.agg #[.int .i64 (R : Int), .int .i64 (C : Int), .string s], .slice (some ⟨g, 0, none⟩) s.size cap, .int .i64 (i : Int)] w fun e w' => e = .returned (.slice (some ⟨g, 0, none⟩) s.size cap) ∧ ReachRow w' s C i base g cap ∧ w.grownBy w' (some g) := by
  have HMD : Hid (∀ (B : List Bool), B.getD i false = true → (∀ k, B.getD k false = true → Reach (whF s) C s.size i k) → (∀ j, j < s.size → whF s j = true → B.getD j false = false → ∀ k, nearN C s.size j k → B.getD k false = false) → ∀ k, B.getD k false = reachB (whF s) C s.size i k) := Lib.hid (fun B h1 h2 h3 => marks_done h1 h2 h3)
  have HN := Lib.hid hn
  clear hn
  have HO0 := Lib.hid ho
  clear ho
  go_enter Tryd.func47, Tryd.ntmps47
  have HL0 : Hid ((List.replicate s.size false).length = s.size) := Lib.hid (by simp)
  have hc := bool_cell HO0.out HL0.out hi
  have hf := HO0.out.frozenAt i
  have hst := HO0.out.stored i (.bool true)
  rw [store_bool] at hst
  have HS := Lib.hid hst
  clear hst
  have hcA : (w.alloc (.cells #[.int .i64 (R : Int), .int .i64 (C : Int), .string s] 25)).cell? ⟨g, i, none⟩ = some (.bool ((List.replicate s.size false).getD i false)) := bool_cell (HO0.out.alloc _) HL0.out hi
  have hfA := (HO0.out.alloc (.cells #[.int .i64 (R : Int), .int .i64 (C : Int), .string s] 25)).frozenAt i
  obtain ⟨B0, hB0⟩ : ∃ B0, B0 = (List.replicate s.size false) := ⟨_, rfl⟩
  rw [← hB0] at hc hcA HS HL0
  go_wp2_with fail
  obtain ⟨W1, hW1⟩ : ∃ W1, W1 = (w.setCell ⟨g, i, none⟩ (.bool true)).alloc (.cells #[.int .i64 (R : Int), .int .i64 (C : Int), .string s] 25) := ⟨_, rfl⟩
  have HR1 : Hid (W1.ownsRow base 4 1 (.slice (some ⟨g, 0, none⟩) s.size cap) s.size ((B0.set i true).map Value.bool)) := Lib.hid (by rw [hW1]; exact HS.out.1.alloc _)
  have HG1 : Hid (w.grownBy W1 (some g)) := Lib.hid (by rw [hW1]; exact grown_trans HS.out.2 (World.grownBy_alloc _ _ _))
  have HX1 : Hid (W1.heap[w.heap.size]? = some (.cells #[.int .i64 (R : Int), .int .i64 (C : Int), .string s] 25)) := Lib.hid (by
    rw [hW1]
    have h9 := new_block (w.setCell ⟨g, i, none⟩ (.bool true)) (.cells #[.int .i64 (R : Int), .int .i64 (C : Int), .string s] 25)
    simpa using h9)
  have HL1 : Hid ((B0.set i true).length = s.size) := Lib.hid (by rw [List.length_set]; exact HL0.out)
  have HI1 : Hid ((B0.set i true).getD i false = true) := Lib.hid (by rw [set_getD _ _ _ (by have := HL0.out; omega)]; simp)
  have HP1 : Hid (∀ k, (B0.set i true).getD k false = true → Reach (whF s) C s.size i k) := Lib.hid (fun k h => by
    rw [set_getD _ _ _ (by have := HL0.out; omega), hB0] at h
    simp only [Bool.or_eq_true, decide_eq_true_eq] at h
    rcases h with rfl | h
    · exact .base
    · exfalso
      rw [List.getD_eq_getElem?_getD, List.getElem?_replicate] at h
      split at h <;> simp at h)
  rw [← hW1]
  clear hW1 HS hc hf hcA hfA HO0 hB0 HL0
  obtain ⟨B1, hB1⟩ : ∃ B1, B1 = B0.set i true := ⟨_, rfl⟩
  rw [← hB1] at HR1 HL1 HI1 HP1
  clear hB1 B0
  have hgx : ¬ g = w.heap.size := by omega
  go_loopw [7] (fun ag wr => ∃ (B : List Bool) (q : Bool), ag = .bool q ∧ Hid (B.length = s.size) ∧ Hid (B.getD i false = true) ∧ Hid (∀ k, B.getD k false = true → Reach (whF s) C s.size i k) ∧ Hid (q = false → ∀ j, j < s.size → whF s j = true → B.getD j false = false → ∀ k, nearN C s.size j k → B.getD k false = false) ∧ Hid (wr.ownsRow base 4 1 (.slice (some ⟨g, 0, none⟩) s.size cap) s.size (B.map Value.bool)) ∧ Hid (wr.heap[w.heap.size]? = some (.cells #[.int .i64 (R : Int), .int .i64 (C : Int), .string s] 25)) ∧ Hid (w.grownBy wr (some g))) (fun ag wr => falses wr g s.size + boolN ag)
  case atStart => exact ⟨B1, true, rfl, HL1, HI1, HP1, Lib.hid (fun h => by cases h), HR1, HX1, HG1⟩
  case round =>
    clear HL1 HI1 HP1 HR1 HX1 HG1
    obtain ⟨B, q, rfl, HL, HI, HP, HC, HR, HX, HG⟩ := hrel
    cases q with
    | false =>
      have HF := Lib.hid (HMD.out B HI.out HP.out (HC.out rfl))
      go_wp2
      go_ret
      exact ⟨rfl, ⟨B, HL.out, HF.out, HR.out⟩, HG.out⟩
    | true =>
      clear HC
      have HFA := Lib.hid (falses_is HR.out HL.out)
      go_wp2_with fail
      obtain ⟨wq, rfl⟩ : ∃ wq, wq = wr := ⟨wr, rfl⟩
      go_loopw [7, 8] (fun ag m wr => ∃ (B2 : List Bool) (q : Bool) (j : Nat), ag = .bool q ∧ m = .int .i64 (j : Int) ∧ j ≤ s.size ∧ Hid (B2.length = s.size) ∧ Hid (B2.getD i false = true) ∧ Hid (∀ k, B2.getD k false = true → Reach (whF s) C s.size i k) ∧ Hid (q = false → B2 = B ∧ ∀ k, k < j → whF s k = true → B.getD k false = false → ∀ k2, nearN C s.size k k2 → B.getD k2 false = false) ∧ Hid (q = true → nf B2 < nf B) ∧ Hid (wr.ownsRow base 4 1 (.slice (some ⟨g, 0, none⟩) s.size cap) s.size (B2.map Value.bool)) ∧ Hid (wr.heap[w.heap.size]? = some (.cells #[.int .i64 (R : Int), .int .i64 (C : Int), .string s] 25)) ∧ Hid (w.grownBy wr (some g))) (fun _ m _ => s.size - (intOf m).toNat)
      case atStart => exact ⟨B, false, 0, rfl, rfl, Nat.zero_le _, HL, HI, HP, Lib.hid (fun _ => ⟨rfl, fun k hk => by omega⟩), Lib.hid (fun h => by cases h), HR, HX, HG⟩
      case round =>
        clear HI HP HR HX HG
        obtain ⟨B2, q, m, rfl, rfl, hm, HL2, HI2, HP2, HCF, HCT, HR2, HX2, HG2⟩ := hrel
        by_cases hlt : m < s.size
        · have hd : decide ((m : Int) < (s.size : Int)) = true := decide_eq_true (by omega)
          have hd9 : decide (m < s.size) = true := decide_eq_true hlt
          have hcm := bool_cell HR2.out HL2.out hlt
          obtain ⟨gx0, gx1, gx2⟩ := gbox HX2.out
          have HBY : Hid (s.data.toList.getD m 0 = s[m]) := Lib.hid (by
            have h9 : m < s.data.toList.length := by rw [size_list]; exact hlt
            rw [List.getD_eq_getElem?_getD, List.getElem?_eq_getElem h9]
            rfl)
          rcases hy : B2.getD m false with _ | _
          · rw [hy] at hcm
            have HY := Lib.hid hy
            clear hy
            by_cases h46 : s[m] = 46
            · have hq2 : ((s[m].toNat : Int) != 46) = false := by simp [h46]
              have HW : Hid (whF s m = true) := Lib.hid (by unfold whF; rw [HBY.out]; exact decide_eq_true h46)
              clear h46
              have hC0 : 0 < C := by omega
              have hmC := Nat.mod_lt m hC0
              have hrem : (m : Int).tmod (C : Int) = ((m % C : Nat) : Int) := by rw [Int.tmod_eq_emod_of_nonneg (by omega)]; simp
              have HX1 : Hid (0 < m % C → ∃ m1 : Nat, (m : Int) - 1 = (m1 : Int) ∧ m1 < s.size ∧ wr.cell? ⟨g, m1, none⟩ = some (.bool (B2.getD (m - 1) false))) := Lib.hid (fun h => by
                have h0 : 0 < m := Nat.pos_of_ne_zero fun h9 => by subst h9; simp at h
                exact ⟨m - 1, by omega, by omega, bool_cell HR2.out HL2.out (by omega)⟩)
              have HX2' : Hid (m % C + 1 < C → ∃ m1 : Nat, (m : Int) + 1 = (m1 : Int) ∧ m1 < s.size ∧ wr.cell? ⟨g, m1, none⟩ = some (.bool (B2.getD (m + 1) false))) := Lib.hid (fun h => by
                have h9 := near_ltF h3 HN.out hlt (.inr (.inl ⟨h, rfl⟩))
                exact ⟨m + 1, by omega, h9, bool_cell HR2.out HL2.out h9⟩)
              have HX3 : Hid (C ≤ m → ∃ m1 : Nat, (m : Int) - (C : Int) = (m1 : Int) ∧ m1 < s.size ∧ wr.cell? ⟨g, m1, none⟩ = some (.bool (B2.getD (m - C) false))) := Lib.hid (fun h => ⟨m - C, by omega, by omega, bool_cell HR2.out HL2.out (by omega)⟩)
              have HX4 : Hid (m + C < s.size → ∃ m1 : Nat, (m : Int) + (C : Int) = (m1 : Int) ∧ m1 < s.size ∧ wr.cell? ⟨g, m1, none⟩ = some (.bool (B2.getD (m + C) false))) := Lib.hid (fun h => ⟨m + C, by omega, h, bool_cell HR2.out HL2.out h⟩)
              have HNT : Hid ((decide (0 < m % C) && B2.getD (m - 1) false || decide (m % C + 1 < C) && B2.getD (m + 1) false || decide (C ≤ m) && B2.getD (m - C) false || decide (m + C < s.size) && B2.getD (m + C) false) = true → ∃ k, nearN C s.size m k ∧ B2.getD k false = true) := Lib.hid (fun h => by
                simp only [Bool.or_eq_true, Bool.and_eq_true, decide_eq_true_eq] at h
                rcases h with ((⟨h1, h2⟩ | ⟨h1, h2⟩) | ⟨h1, h2⟩) | ⟨h1, h2⟩
                · have h0 : 0 < m := Nat.pos_of_ne_zero fun h9 => by subst h9; simp at h1
                  exact ⟨m - 1, .inl ⟨h1, by omega⟩, h2⟩
                · exact ⟨m + 1, .inr (.inl ⟨h1, rfl⟩), h2⟩
                · exact ⟨m - C, .inr (.inr (.inl ⟨h1, by omega⟩)), h2⟩
                · exact ⟨m + C, .inr (.inr (.inr ⟨h1, rfl⟩)), h2⟩)
              have HNF : Hid ((decide (0 < m % C) && B2.getD (m - 1) false || decide (m % C + 1 < C) && B2.getD (m + 1) false || decide (C ≤ m) && B2.getD (m - C) false || decide (m + C < s.size) && B2.getD (m + C) false) = false → ∀ k, nearN C s.size m k → B2.getD k false = false) := Lib.hid (fun h k hk => by
                simp only [Bool.or_eq_false_iff, Bool.and_eq_false_iff, decide_eq_false_iff_not] at h
                obtain ⟨⟨⟨h1, h2⟩, h5⟩, h6⟩ := h
                rcases hk with ⟨k1, k2⟩ | ⟨k1, k2⟩ | ⟨k1, k2⟩ | ⟨k1, k2⟩
                · rw [show k = m - 1 by omega]; exact h1.resolve_left (fun h => h k1)
                · rw [k2]; exact h2.resolve_left (fun h => h k1)
                · rw [show k = m - C by omega]; exact h5.resolve_left (fun h => h k1)
                · rw [k2]; exact h6.resolve_left (fun h => h k1))
              obtain ⟨x1, hx1⟩ : ∃ x, x = B2.getD (m - 1) false := ⟨_, rfl⟩
              obtain ⟨x2, hx2⟩ : ∃ x, x = B2.getD (m + 1) false := ⟨_, rfl⟩
              obtain ⟨x3, hx3⟩ : ∃ x, x = B2.getD (m - C) false := ⟨_, rfl⟩
              obtain ⟨x4, hx4⟩ : ∃ x, x = B2.getD (m + C) false := ⟨_, rfl⟩
              rw [← hx1] at HX1 HNT HNF
              rw [← hx2] at HX2' HNT HNF
              rw [← hx3] at HX3 HNT HNF
              rw [← hx4] at HX4 HNT HNF
              clear hx1 hx2 hx3 hx4
              obtain ⟨cm, hcmm⟩ : ∃ cm, cm = m % C := ⟨_, rfl⟩
              rw [← hcmm] at hmC hrem HX1 HX2' HNT HNF
              clear hcmm
              have D1 : decide ((0 : Int) < (cm : Int)) = decide (0 < cm) := decide_eq_decide.2 (by omega)
              have D2 : decide ((cm : Int) + 1 < (C : Int)) = decide (cm + 1 < C) := decide_eq_decide.2 (by omega)
              have D3 : decide ((C : Int) ≤ (m : Int)) = decide (C ≤ m) := decide_eq_decide.2 (by omega)
              have D4 : decide ((m : Int) + (C : Int) < (s.size : Int)) = decide (m + C < s.size) := decide_eq_decide.2 (by omega)
              have HC1 : Hid (decide (0 < cm) = true → ∃ m1 : Nat, (m : Int) - 1 = (m1 : Int) ∧ m1 < s.size ∧ wr.cell? ⟨g, m1, none⟩ = some (.bool x1)) := Lib.hid (fun h => HX1.out (of_decide_eq_true h))
              have HC2 : Hid (decide (cm + 1 < C) = true → ∃ m1 : Nat, (m : Int) + 1 = (m1 : Int) ∧ m1 < s.size ∧ wr.cell? ⟨g, m1, none⟩ = some (.bool x2)) := Lib.hid (fun h => HX2'.out (of_decide_eq_true h))
              have HC3 : Hid (decide (C ≤ m) = true → ∃ m1 : Nat, (m : Int) - (C : Int) = (m1 : Int) ∧ m1 < s.size ∧ wr.cell? ⟨g, m1, none⟩ = some (.bool x3)) := Lib.hid (fun h => HX3.out (of_decide_eq_true h))
              have HC4 : Hid (decide (m + C < s.size) = true → ∃ m1 : Nat, (m : Int) + (C : Int) = (m1 : Int) ∧ m1 < s.size ∧ wr.cell? ⟨g, m1, none⟩ = some (.bool x4)) := Lib.hid (fun h => HX4.out (of_decide_eq_true h))
              clear HX1 HX2' HX3 HX4
              have hsum : IntKind.i64.wrap ((m : Int) + (C : Int)) = (m : Int) + (C : Int) := by rw [IntKind.wrap_i64]; omega
              have E1 : decide (0 < cm) = decide (0 < cm) := rfl
              obtain ⟨t1, T1⟩ : ∃ t, decide (0 < cm) = t := ⟨_, rfl⟩
              obtain ⟨t2, T2⟩ : ∃ t, decide (cm + 1 < C) = t := ⟨_, rfl⟩
              obtain ⟨t3, T3⟩ : ∃ t, decide (C ≤ m) = t := ⟨_, rfl⟩
              obtain ⟨t4, T4⟩ : ∃ t, decide (m + C < s.size) = t := ⟨_, rfl⟩
              rw [T1] at D1 HC1 HNT HNF
              rw [T2] at D2 HC2 HNT HNF
              rw [T3] at D3 HC3 HNT HNF
              rw [T4] at D4 HC4 HNT HNF
              obtain ⟨nb, hnb⟩ : ∃ nb, nb = (t1 && x1 || t2 && x2 || t3 && x3 || t4 && x4) := ⟨_, rfl⟩
              rw [← hnb] at HNT HNF
              have HNB := Lib.hid hnb
              clear hnb E1
              go_upto_region 10 with (fail)
              go_cut [10] (fun v wx => v = .bool nb ∧ wx = wr)
              case first =>
                rcases t1 with _ | _
                · rcases t2 with _ | _
                  · rcases t3 with _ | _
                    · rcases t4 with _ | _
                      · go_wp2_with fail
                        go_meet
                        exact ⟨by rw [HNB.out]; rfl, rfl⟩
                      · obtain ⟨m4, e4, l4, c4⟩ := HC4.out rfl
                        rcases x4 with _ | _
                        · go_wp2_with fail
                          go_meet
                          exact ⟨by rw [HNB.out]; rfl, rfl⟩
                        · go_wp2_with fail
                          go_meet
                          exact ⟨by rw [HNB.out]; rfl, rfl⟩
                    · obtain ⟨m3, e3, l3, c3⟩ := HC3.out rfl
                      rcases x3 with _ | _
                      · rcases t4 with _ | _
                        · go_wp2_with fail
                          go_meet
                          exact ⟨by rw [HNB.out]; rfl, rfl⟩
                        · obtain ⟨m4, e4, l4, c4⟩ := HC4.out rfl
                          rcases x4 with _ | _
                          · go_wp2_with fail
                            go_meet
                            exact ⟨by rw [HNB.out]; rfl, rfl⟩
                          · go_wp2_with fail
                            go_meet
                            exact ⟨by rw [HNB.out]; rfl, rfl⟩
                      · go_wp2_with fail
                        go_meet
                        exact ⟨by rw [HNB.out]; rfl, rfl⟩
                  · obtain ⟨m2, e2, l2, c2⟩ := HC2.out rfl
                    rcases x2 with _ | _
                    · rcases t3 with _ | _
                      · rcases t4 with _ | _
                        · go_wp2_with fail
                          go_meet
                          exact ⟨by rw [HNB.out]; rfl, rfl⟩
                        · obtain ⟨m4, e4, l4, c4⟩ := HC4.out rfl
                          rcases x4 with _ | _
                          · go_wp2_with fail
                            go_meet
                            exact ⟨by rw [HNB.out]; rfl, rfl⟩
                          · go_wp2_with fail
                            go_meet
                            exact ⟨by rw [HNB.out]; rfl, rfl⟩
                      · obtain ⟨m3, e3, l3, c3⟩ := HC3.out rfl
                        rcases x3 with _ | _
                        · rcases t4 with _ | _
                          · go_wp2_with fail
                            go_meet
                            exact ⟨by rw [HNB.out]; rfl, rfl⟩
                          · obtain ⟨m4, e4, l4, c4⟩ := HC4.out rfl
                            rcases x4 with _ | _
                            · go_wp2_with fail
                              go_meet
                              exact ⟨by rw [HNB.out]; rfl, rfl⟩
                            · go_wp2_with fail
                              go_meet
                              exact ⟨by rw [HNB.out]; rfl, rfl⟩
                        · go_wp2_with fail
                          go_meet
                          exact ⟨by rw [HNB.out]; rfl, rfl⟩
                    · go_wp2_with fail
                      go_meet
                      exact ⟨by rw [HNB.out]; rfl, rfl⟩
                · obtain ⟨m1, e1, l1, c1⟩ := HC1.out rfl
                  rcases x1 with _ | _
                  · rcases t2 with _ | _
                    · rcases t3 with _ | _
                      · rcases t4 with _ | _
                        · go_wp2_with fail
                          go_meet
                          exact ⟨by rw [HNB.out]; rfl, rfl⟩
                        · obtain ⟨m4, e4, l4, c4⟩ := HC4.out rfl
                          rcases x4 with _ | _
                          · go_wp2_with fail
                            go_meet
                            exact ⟨by rw [HNB.out]; rfl, rfl⟩
                          · go_wp2_with fail
                            go_meet
                            exact ⟨by rw [HNB.out]; rfl, rfl⟩
                      · obtain ⟨m3, e3, l3, c3⟩ := HC3.out rfl
                        rcases x3 with _ | _
                        · rcases t4 with _ | _
                          · go_wp2_with fail
                            go_meet
                            exact ⟨by rw [HNB.out]; rfl, rfl⟩
                          · obtain ⟨m4, e4, l4, c4⟩ := HC4.out rfl
                            rcases x4 with _ | _
                            · go_wp2_with fail
                              go_meet
                              exact ⟨by rw [HNB.out]; rfl, rfl⟩
                            · go_wp2_with fail
                              go_meet
                              exact ⟨by rw [HNB.out]; rfl, rfl⟩
                        · go_wp2_with fail
                          go_meet
                          exact ⟨by rw [HNB.out]; rfl, rfl⟩
                    · obtain ⟨m2, e2, l2, c2⟩ := HC2.out rfl
                      rcases x2 with _ | _
                      · rcases t3 with _ | _
                        · rcases t4 with _ | _
                          · go_wp2_with fail
                            go_meet
                            exact ⟨by rw [HNB.out]; rfl, rfl⟩
                          · obtain ⟨m4, e4, l4, c4⟩ := HC4.out rfl
                            rcases x4 with _ | _
                            · go_wp2_with fail
                              go_meet
                              exact ⟨by rw [HNB.out]; rfl, rfl⟩
                            · go_wp2_with fail
                              go_meet
                              exact ⟨by rw [HNB.out]; rfl, rfl⟩
                        · obtain ⟨m3, e3, l3, c3⟩ := HC3.out rfl
                          rcases x3 with _ | _
                          · rcases t4 with _ | _
                            · go_wp2_with fail
                              go_meet
                              exact ⟨by rw [HNB.out]; rfl, rfl⟩
                            · obtain ⟨m4, e4, l4, c4⟩ := HC4.out rfl
                              rcases x4 with _ | _
                              · go_wp2_with fail
                                go_meet
                                exact ⟨by rw [HNB.out]; rfl, rfl⟩
                              · go_wp2_with fail
                                go_meet
                                exact ⟨by rw [HNB.out]; rfl, rfl⟩
                          · go_wp2_with fail
                            go_meet
                            exact ⟨by rw [HNB.out]; rfl, rfl⟩
                      · go_wp2_with fail
                        go_meet
                        exact ⟨by rw [HNB.out]; rfl, rfl⟩
                  · go_wp2_with fail
                    go_meet
                    exact ⟨by rw [HNB.out]; rfl, rfl⟩
              case rest =>
                obtain ⟨rfl, rfl⟩ := hcut
                clear HNB HC1 HC2 HC3 HC4 D1 D2 D3 D4 T1 T2 T3 T4 hsum hrem hmC
                cases nb with
                | false =>
                  have HF := Lib.hid (HNF.out rfl)
                  have HCF2 : Hid (q = false → B2 = B ∧ ∀ k, k < m + 1 → whF s k = true → B.getD k false = false → ∀ k2, nearN C s.size k k2 → B.getD k2 false = false) := Lib.hid (fun h => by
                    obtain ⟨e, h2⟩ := HCF.out h
                    refine ⟨e, fun k hk => ?_⟩
                    by_cases ek : k = m
                    · subst ek
                      rw [← e]
                      exact fun _ _ => HF.out
                    · exact h2 k (by omega))
                  clear HNT HNF
                  go_wp2_with fail
                  go_roundw
                  case rel => exact ⟨B2, q, m + 1, rfl, by go_num, by omega, HL2, HI2, HP2, HCF2, HCT, HR2, HX2, HG2⟩
                  case measure => simp [intOf]; omega
                | true =>
                  have hf := HR2.out.frozenAt m
                  have hst := HR2.out.stored m (.bool true)
                  rw [store_bool] at hst
                  have HS := Lib.hid hst
                  clear hst
                  have HL3 : Hid ((B2.set m true).length = s.size) := Lib.hid (by rw [List.length_set]; exact HL2.out)
                  have hml : m < B2.length := by rw [HL2.out]; exact hlt
                  have HI3 : Hid ((B2.set m true).getD i false = true) := Lib.hid (by rw [set_getD _ _ _ hml, HI2.out]; simp)
                  have HP3 : Hid (∀ k, (B2.set m true).getD k false = true → Reach (whF s) C s.size i k) := Lib.hid (fun k h => by
                    rw [set_getD _ _ _ hml] at h
                    simp only [Bool.or_eq_true, decide_eq_true_eq] at h
                    rcases h with rfl | h
                    · obtain ⟨k2, h1, h2⟩ := HNT.out rfl
                      exact .step k2 k (HP2.out k2 h2) h1 hlt HW.out
                    · exact HP2.out k h)
                  have HCT3 : Hid (true = true → nf (B2.set m true) < nf B) := Lib.hid (fun _ => by
                    have h1 := nf_set B2 m hml HY.out
                    cases q with
                    | false => rw [(HCF.out rfl).1] at h1 ⊢; omega
                    | true => have := HCT.out rfl; omega)
                  have HCF3 : Hid (true = false → B2.set m true = B ∧ ∀ k, k < m + 1 → whF s k = true → B.getD k false = false → ∀ k2, nearN C s.size k k2 → B.getD k2 false = false) := Lib.hid (fun h => by cases h)
                  have HX3 := Lib.hid (block_grown HX2.out HS.out.2 (by omega))
                  have HG3 := Lib.hid (grown_trans HG2.out HS.out.2)
                  have HR3 := Lib.hid HS.out.1
                  obtain ⟨B3, hB3⟩ : ∃ B3, B3 = B2.set m true := ⟨_, rfl⟩
                  rw [← hB3] at HL3 HI3 HP3 HCT3 HCF3 HR3
                  clear HNT HNF HS hB3 hml
                  go_wp2_with fail
                  go_roundw
                  case rel => exact ⟨B3, true, m + 1, rfl, by go_num, by omega, HL3, HI3, HP3, HCF3, HCT3, HR3, HX3, HG3⟩
                  case measure => simp [intOf]; omega
            · have hq2 : ((s[m].toNat : Int) != 46) = true := by simp; intro h; exact h46 (UInt8.toNat_inj.1 (by show s[m].toNat = 46; omega))
              have HCF2 : Hid (q = false → B2 = B ∧ ∀ k, k < m + 1 → whF s k = true → B.getD k false = false → ∀ k2, nearN C s.size k k2 → B.getD k2 false = false) := Lib.hid (fun h => by
                obtain ⟨e, h2⟩ := HCF.out h
                refine ⟨e, fun k hk hw => ?_⟩
                by_cases ek : k = m
                · subst ek
                  unfold whF at hw
                  rw [HBY.out] at hw
                  exact absurd (of_decide_eq_true hw) h46
                · exact h2 k (by omega) hw)
              clear h46
              go_wp2_with fail
              go_roundw
              case rel => exact ⟨B2, q, m + 1, rfl, by go_num, by omega, HL2, HI2, HP2, HCF2, HCT, HR2, HX2, HG2⟩
              case measure => simp [intOf]; omega
          · rw [hy] at hcm
            have HCF2 : Hid (q = false → B2 = B ∧ ∀ k, k < m + 1 → whF s k = true → B.getD k false = false → ∀ k2, nearN C s.size k k2 → B.getD k2 false = false) := Lib.hid (fun h => by
              obtain ⟨e, h2⟩ := HCF.out h
              refine ⟨e, fun k hk hw hb => ?_⟩
              by_cases ek : k = m
              · subst ek
                rw [← e, hy] at hb
                cases hb
              · exact h2 k (by omega) hw hb)
            clear hy
            go_wp2_with fail
            go_roundw
            case rel => exact ⟨B2, q, m + 1, rfl, by go_num, by omega, HL2, HI2, HP2, HCF2, HCT, HR2, HX2, HG2⟩
            case measure => simp [intOf]; omega
        · have hd : decide ((m : Int) < (s.size : Int)) = false := decide_eq_false (by omega)
          have hd9 : decide (m < s.size) = false := decide_eq_false hlt
          have HFB := Lib.hid (falses_is HR2.out HL2.out)
          have HCN : Hid (q = false → ∀ j, j < s.size → whF s j = true → B2.getD j false = false → ∀ k, nearN C s.size j k → B2.getD k false = false) := Lib.hid (fun h => by
            obtain ⟨e, h2⟩ := HCF.out h
            rw [e]
            exact fun j hj => h2 j (by omega))
          have HME : Hid (falses wr g s.size + boolN (.bool q) < falses wq g s.size + boolN (.bool true)) := Lib.hid (by
            rw [HFB.out, HFA.out]
            cases q with
            | false => rw [(HCF.out rfl).1]; simp [boolN]
            | true => have := HCT.out rfl; simp [boolN]; omega)
          go_wp2_with fail
          go_roundw
          case rel => exact ⟨B2, q, rfl, HL2, HI2, HP2, HCN, HR2, HX2, HG2⟩
          case measure =>
            exact HME.out
end Go.Proofs.YtgpplfhbgkcjhaaDoor
namespace Go.Proofs.YtgpplfhbgkcjhaaDoor
open Go.RowKit

theorem infoBoolP : (Tryd.prog.info? 4).map (fun i => (i.zero, i.size, i.bytes)) = some (some (.bool false), 1, 1) := by kernel_rfl
theorem block_app {W W' : World} {b base n : Nat} {o : Obj} {e : TypeId} {v : Value} {xs : List Value} (h : W.heap[b]? = some o) (ho : W.ownsRow base e 1 v n xs) (hg : W.grownBy W' v.ownBlock) (hb : b < base) : W'.heap[b]? = some o :=
  (hg.block b (Array.getElem?_eq_some_iff.1 h).1 (fun e => by have := (ho.lt b e.symm).1; omega)).trans h
theorem rep_snoc (k : Nat) : (List.replicate k false).map Value.bool ++ [.bool false] = (List.replicate (k + 1) false).map Value.bool := by
  rw [List.replicate_succ', List.map_append]; rfl
theorem bool_some {W : World} {base n : Nat} {e : TypeId} {v : Value} {xs : List Value} (h : W.ownsRow base e 1 v n xs) (h0 : 0 < n) : ∃ g cap, v = .slice (some ⟨g, 0, none⟩) n cap ∧ base ≤ g ∧ g < W.heap.size := by
  rcases h.2 with ⟨e9, hl⟩ | ⟨g, cap', cur, e9, h1, h2, -⟩
  · omega
  · exact ⟨g, cap', e9, h1, (Array.getElem?_eq_some_iff.1 h2).1⟩
theorem one_bytes (k : Nat) (hk : k ≤ 4194304) : (k + 1) * 1 ≤ 140737488355328 := by omega
/-- Two rows of marks joined up to a place. -/
def joinB (A O : List Bool) (k : Nat) : List Bool := (List.range A.length).map fun j => if j < k then A.getD j false || O.getD j false else A.getD j false
theorem joinB_len (A O : List Bool) (k : Nat) : (joinB A O k).length = A.length := by simp [joinB]
theorem joinB_get (A O : List Bool) (k j : Nat) : (joinB A O k).getD j false = if j < A.length then (if j < k then A.getD j false || O.getD j false else A.getD j false) else false := by
  unfold joinB
  rw [List.getD_eq_getElem?_getD, List.getElem?_map]
  by_cases h : j < A.length
  · rw [List.getElem?_range h, if_pos h]; rfl
  · rw [if_neg h, List.getElem?_eq_none (by simpa using h)]; rfl
theorem joinB_zero (A O : List Bool) : joinB A O 0 = A := by
  apply List.ext_getElem
  · simp [joinB]
  · intro j h1 h2
    simp [joinB, List.getD, h2]
theorem joinB_next (A O : List Bool) (k : Nat) (_hk : k < A.length) : (joinB A O k).set k (A.getD k false || O.getD k false) = joinB A O (k + 1) := by
  apply List.ext_getElem
  · simp [joinB]
  · intro j h1 h2
    rw [List.getElem_set]
    by_cases e : k = j
    · subst e; simp [joinB]
    · rw [if_neg e]
      simp only [joinB, List.getElem_map, List.getElem_range]
      by_cases h : j < k
      · rw [if_pos h, if_pos (by omega)]
      · rw [if_neg h, if_neg (by omega)]
theorem store_boolV {B : List Bool} {m : Nat} {b : Bool} : (B.map Value.bool).set m (.bool b) = (B.set m b).map Value.bool := by rw [List.map_set]
theorem keep_row {W W' : World} {base n g : Nat} {e : TypeId} {v : Value} {xs : List Value} (h : W.ownsRow base e 1 v n xs) (hg : W.grownBy W' (some g)) (hne : v.ownBlock ≠ some g) : W'.ownsRow base e 1 v n xs := h.kept hg (.inr hne)
/-- The parts have one cell each, apart from one another, that lead to all others. -/
theorem parts_repsG (W : Nat → Bool) (c n : Nat) (L : List Nat) : ∃ D : List Nat, D.length = (partsQ W c n L).2 ∧ (∀ d ∈ D, d ∈ L) ∧ D.Pairwise (fun a b => ¬ Reach W c n a b) ∧ (∀ k, (partsQ W c n L).1 k = true ↔ ∃ d ∈ D, Reach W c n d k) ∧ ∀ i ∈ L, ∃ d ∈ D, Reach W c n d i := by
  suffices h : ∀ M : List Nat, ∃ D : List Nat, D.length = (partsQ W c n M.reverse).2 ∧ (∀ d ∈ D, d ∈ M.reverse) ∧ D.Pairwise (fun a b => ¬ Reach W c n a b) ∧ (∀ k, (partsQ W c n M.reverse).1 k = true ↔ ∃ d ∈ D, Reach W c n d k) ∧ ∀ i ∈ M.reverse, ∃ d ∈ D, Reach W c n d i by
    have := h L.reverse
    rwa [List.reverse_reverse] at this
  intro M
  induction M with
  | nil => exact ⟨[], rfl, by simp, List.Pairwise.nil, by simp [partsQ], by simp⟩
  | cons i M ih =>
    obtain ⟨D, h1, h2, h3, h4, h5⟩ := ih
    rw [List.reverse_cons, partsQ_snoc]
    unfold stepQ
    by_cases hm : (partsQ W c n M.reverse).1 i = true
    · rw [if_pos hm]
      refine ⟨D, h1, fun d hd => List.mem_append_left _ (h2 d hd), h3, h4, fun j hj => ?_⟩
      rcases List.mem_append.1 hj with hj | hj
      · exact h5 j hj
      · rw [List.mem_singleton] at hj; subst hj; exact (h4 _).1 hm
    · rw [if_neg hm]
      refine ⟨D ++ [i], by rw [List.length_append, h1]; rfl, fun d hd => ?_, ?_, fun k => ?_, fun j hj => ?_⟩
      · rcases List.mem_append.1 hd with hd | hd
        · exact List.mem_append_left _ (h2 d hd)
        · exact List.mem_append_right _ hd
      · rw [List.pairwise_append]
        refine ⟨h3, List.pairwise_singleton _ _, fun a ha b hb hr => ?_⟩
        rw [List.mem_singleton] at hb
        subst hb
        exact hm ((h4 _).2 ⟨a, ha, hr⟩)
      · show ((partsQ W c n M.reverse).1 k || reachB W c n i k) = true ↔ _
        rw [Bool.or_eq_true, h4, reachB_iff]
        constructor
        · rintro (⟨d, hd, hr⟩ | hr)
          · exact ⟨d, List.mem_append_left _ hd, hr⟩
          · exact ⟨i, by simp, hr⟩
        · rintro ⟨d, hd, hr⟩
          rcases List.mem_append.1 hd with hd | hd
          · exact .inl ⟨d, hd, hr⟩
          · rw [List.mem_singleton] at hd; subst hd; exact .inr hr
      · rcases List.mem_append.1 hj with hj | hj
        · obtain ⟨d, hd, hr⟩ := h5 j hj
          exact ⟨d, List.mem_append_left _ hd, hr⟩
        · rw [List.mem_singleton] at hj; subst hj; exact ⟨j, by simp, .base⟩
theorem met_lt (g : Int × Int × ByteArray) (k : Nat) (hk : k ≤ g.2.2.size) : ∀ j, (partsTo g k).1 j = true → j < g.2.2.size := by
  intro j hj
  obtain ⟨D, -, d2, -, d4, -⟩ := parts_repsG (whF g.2.2) g.2.1.toNat g.2.2.size ((List.range k).filter (whF g.2.2))
  obtain ⟨d, hd, hr⟩ := (d4 j).1 hj
  have h1 := d2 d hd
  rw [List.mem_filter, List.mem_range] at h1
  exact reach_lt (by omega) hr
set_option maxRecDepth 100000 in
set_option maxHeartbeats 3200000 in
theorem spt_any (r c : Int) (s : ByteArray) (hs : s.size ≤ 4194304) (w : World) :
    Calls Tryd.prog 28 #[.agg #[.int .i64 r, .int .i64 c, .string s]] w fun e w' => e = .returned (.int .i64 (partsG (r, c, s))) ∧ Below w.heap.size w w' := by
  obtain ⟨i0, hi, hz0, hz1, hz2⟩ := info_parts infoBoolP
  have HIG := Lib.hid (fun w => sisg_any r c s hs w)
  have HPG : Hid (partsG (r, c, s) = if isG (r, c, s) = true then (((partsTo (r, c, s) s.size).2 : Nat) : Int) else 0) := Lib.hid rfl
  go_enter Tryd.func28, Tryd.ntmps28
  go_wp2_with fail
  obtain ⟨W1, hW1⟩ : ∃ W1, W1 = w.alloc (.cells #[.int .i64 r, .int .i64 c, .string s] 25) := ⟨_, rfl⟩
  have hs1 : W1.heap.size = w.heap.size + 1 := by rw [hW1]; simp
  have HB1 : Hid (Below w.heap.size w W1) := Lib.hid (by rw [hW1]; exact (Below.refl _ _).alloc (Nat.le_refl _) _)
  have HX1 : Hid (W1.heap[w.heap.size]? = some (.cells #[.int .i64 r, .int .i64 c, .string s] 25)) := Lib.hid (by rw [hW1]; exact new_block w _)
  rw [← hW1]
  clear hW1
  have HR2 : Hid ((W1.alloc (.cells #[] 4)).ownsRow (w.heap.size + 1) 4 1 (.slice (some ⟨w.heap.size + 1, 0, none⟩) 0 0) 0 ((List.replicate 0 false).map Value.bool)) := Lib.hid (by have h9 := own_empty W1 4; rw [hs1] at h9; exact h9)
  have HX2 : Hid ((W1.alloc (.cells #[] 4)).heap[w.heap.size]? = some (.cells #[.int .i64 r, .int .i64 c, .string s] 25)) := Lib.hid (by rw [Below.heap_alloc _ _ w.heap.size (by omega)]; exact HX1.out)
  have HB2 : Hid (Below w.heap.size w (W1.alloc (.cells #[] 4))) := Lib.hid (HB1.out.alloc HB1.out.size _)
  clear HX1 HB1
  go_loopw [4, 5] (fun v i wr => ∃ k : Nat, k ≤ s.size ∧ i = .int .i64 (k : Int) ∧ Hid (wr.ownsRow (w.heap.size + 1) 4 1 v k ((List.replicate k false).map Value.bool)) ∧ Hid (wr.heap[w.heap.size]? = some (.cells #[.int .i64 r, .int .i64 c, .string s] 25)) ∧ Hid (Below w.heap.size w wr)) (fun _ i _ => s.size - (intOf i).toNat)
  case atStart => exact ⟨0, Nat.zero_le _, rfl, HR2, HX2, HB2⟩
  case round =>
    clear HR2 HX2 HB2
    obtain ⟨k, hk, rfl, HR, HX, HB⟩ := hrel
    obtain ⟨gx0, gx1, gx2⟩ := gbox HX.out
    by_cases hlt : k < s.size
    · have hd : decide ((k : Int) < (s.size : Int)) = true := decide_eq_true (by omega)
      have hd9 : decide (k < s.size) = true := decide_eq_true hlt
      obtain ⟨a0, cap, rfl⟩ := ownV_slice HR.out
      have HBA := Lib.hid (HB.out.alloc HB.out.size (.cells #[.bool false] 4))
      have HXA : Hid ((wr.alloc (.cells #[.bool false] 4)).heap[w.heap.size]? = some (.cells #[.int .i64 r, .int .i64 c, .string s] 25)) := Lib.hid (by rw [Below.heap_alloc _ _ w.heap.size (Array.getElem?_eq_some_iff.1 HX.out).1]; exact HX.out)
      have HRA := Lib.hid (HR.out.alloc (.cells #[.bool false] 4))
      have hwb : w.heap.size + 1 ≤ (wr.alloc (.cells #[.bool false] 4)).heap.size := by have := (Array.getElem?_eq_some_iff.1 HX.out).1; simp; omega
      go_wp2_with (at_builtin; refine appendV_reads _ rfl _ _ 68 rfl (w.heap.size + 1) 4 i0 (.bool false) 1 1 Tryd.underlying68 hi hz0 hz1 hz2 rfl (by decide) _ _ _ rfl HRA.out (some ⟨wr.heap.size, 0, none⟩) 1 1 [.bool false] rfl rfl (fun u hu => by rw [List.mem_singleton.1 hu]; rfl) (fun e => by cases e) (one_srcP wr (.bool false) _) (by omega) (one_bytes k (by omega)) hwb ?_; intro v3 w3 hown hgrow)
      have HR3 : Hid (w3.ownsRow (w.heap.size + 1) 4 1 v3 (k + 1) ((List.replicate (k + 1) false).map Value.bool)) := Lib.hid (by rw [← rep_snoc]; exact hown)
      have HX3 := Lib.hid (block_app HXA.out HRA.out hgrow (by omega))
      have HB3 := Lib.hid (below_own HBA.out hgrow HRA.out (by omega) HBA.out.size)
      clear hown hgrow
      go_roundw
      case rel => exact ⟨k + 1, by omega, by go_num, HR3, HX3, HB3⟩
      case measure => simp [intOf]; omega
    · have hd : decide ((k : Int) < (s.size : Int)) = false := decide_eq_false (by omega)
      have hd9 : decide (k < s.size) = false := decide_eq_false hlt
      obtain rfl : k = s.size := by omega
      have HA0 : Hid (w.heap.size < wr.heap.size) := Lib.hid (Array.getElem?_eq_some_iff.1 HX.out).1
      cases hg : isG (r, c, s) with
      | false =>
        have HF : Hid (partsG (r, c, s) = 0) := Lib.hid (by rw [HPG.out, hg]; rfl)
        have HIG2 := Lib.hid (fun w => HIG.out w)
        rw [hg] at HIG2
        clear HPG HIG hg
        go_wp2_with fail
        go_loopw [3, 6] (fun n i wx => n = .int .i64 0 ∧ i = .int .i64 0 ∧ wx = wr) (fun _ _ _ => 0)
        case atStart => exact ⟨rfl, rfl, rfl⟩
        case round =>
          obtain ⟨rfl, rfl, rfl⟩ := hrel
          by_cases h0 : s.size = 0
          · have hd2 : decide ((0 : Int) < (s.size : Int)) = false := decide_eq_false (by omega)
            have hd3 : decide (0 < s.size) = false := decide_eq_false (by omega)
            go_wp2_with fail
            go_ret
            exact ⟨by rw [HF.out]; rfl, HB.out⟩
          · have hd2 : decide ((0 : Int) < (s.size : Int)) = true := decide_eq_true (by omega)
            have hd3 : decide (0 < s.size) = true := decide_eq_true (by omega)
            go_wp2_with (go_at_call 12; refine (HIG2.out _).mono ?_; rintro e w2 ⟨rfl, b2⟩; have HB2 := Lib.hid (HB.out.trans (b2.mono HB.out.size)); clear b2)
            go_ret
            exact ⟨by rw [HF.out]; rfl, HB2.out⟩
      | true =>
        have HF : Hid (partsG (r, c, s) = (((partsTo (r, c, s) s.size).2 : Nat) : Int)) := Lib.hid (by rw [HPG.out, hg]; rfl)
        rw [hg] at HIG
        clear HPG
        obtain ⟨R, C, rfl, rfl, r1, r2, c1, c2, hRC, h36⟩ := isG_nat hg
        have hp0 : 2 * 2 ≤ R * C := Nat.mul_le_mul r1 c1
        have HN := Lib.hid hRC
        have h4n : 4 ≤ s.size := by omega
        clear hRC hp0
        obtain ⟨g, cap, rfl, hg1, hg2⟩ := bool_some HR.out (by omega)
        have HREA := Lib.hid (fun i hi base g cap w h1 h2 => sreach_any R C s c1 c2 HN.out h36 i hi base g cap w h1 h2)
        have HTY : Hid (∀ k, whF s k = true → partsTo ((R : Int), (C : Int), s) (k + 1) = stepQ (whF s) C s.size (partsTo ((R : Int), (C : Int), s) k) k) := Lib.hid (fun k h => partsTo_yes ((R : Int), (C : Int), s) h)
        have HTN : Hid (∀ k, whF s k = false → partsTo ((R : Int), (C : Int), s) (k + 1) = partsTo ((R : Int), (C : Int), s) k) := Lib.hid (fun k h => partsTo_no ((R : Int), (C : Int), s) h)
        have HML : Hid (∀ k, k ≤ s.size → ∀ j, (partsTo ((R : Int), (C : Int), s) k).1 j = true → j < s.size) := Lib.hid (fun k hk => met_lt ((R : Int), (C : Int), s) k hk)
        have HT0 : Hid (partsTo ((R : Int), (C : Int), s) 0 = (fun _ => false, 0)) := Lib.hid rfl
        have HTL : Hid (∀ k, (partsTo ((R : Int), (C : Int), s) k).2 ≤ k) := Lib.hid (fun k => partsTo_le _ k)
        have HRB : Hid (∀ i, i < s.size → ∀ j, reachB (whF s) C s.size i j = true → j < s.size) := Lib.hid (fun i hi j h => reach_lt hi (reachB_iff.1 h))
        unfold stepQ at HTY
        obtain ⟨Q, hQ⟩ : ∃ Q, Q = partsTo ((R : Int), (C : Int), s) := ⟨_, rfl⟩
        rw [← hQ] at HF HTY HTN HML HT0 HTL
        clear hQ hg
        have HR4 : Hid (wr.ownsRow (w.heap.size + 1) 4 1 (.slice (some ⟨g, 0, none⟩) s.size cap) s.size ((List.replicate s.size false).map Value.bool)) := HR
        have HL4 : Hid ((List.replicate s.size false).length = s.size) := Lib.hid (by simp)
        have HM4 : Hid (∀ j, (List.replicate s.size false).getD j false = (Q 0).1 j) := Lib.hid (fun j => by
          rw [HT0.out, List.getD_eq_getElem?_getD, List.getElem?_replicate]
          split <;> rfl)
        obtain ⟨B4, hB4⟩ : ∃ B4, B4 = List.replicate s.size false := ⟨_, rfl⟩
        rw [← hB4] at HR4 HL4 HM4
        have HN0 : Hid ((Q 0).2 = 0) := Lib.hid (by rw [HT0.out])
        clear hB4 HR HT0
        go_wp2_with fail
        obtain ⟨wq, rfl⟩ : ∃ wq, wq = wr := ⟨wr, rfl⟩
        go_loopw [3, 6] (fun n i wr => ∃ (m : Nat) (B : List Bool), m ≤ s.size ∧ i = .int .i64 (m : Int) ∧ n = .int .i64 (((Q m).2 : Nat) : Int) ∧ Hid (B.length = s.size) ∧ Hid (∀ j, B.getD j false = (Q m).1 j) ∧ Hid (g < wr.heap.size) ∧ Hid (wr.ownsRow (w.heap.size + 1) 4 1 (.slice (some ⟨g, 0, none⟩) s.size cap) s.size (B.map Value.bool)) ∧ Hid (wr.heap[w.heap.size]? = some (.cells #[.int .i64 (R : Int), .int .i64 (C : Int), .string s] 25)) ∧ Hid (Below w.heap.size w wr)) (fun _ i _ => s.size - (intOf i).toNat)
        case atStart => exact ⟨0, B4, Nat.zero_le _, rfl, by rw [HN0.out]; rfl, HL4, HM4, Lib.hid hg2, HR4, HX, HB⟩
        case round =>
          clear HL4 HM4 HR4 HX HB HN0 gx0 gx1 gx2 HA0 hg2
          obtain ⟨m, B, hm, rfl, rfl, HL, HM, HGL, HR, HX, HB⟩ := hrel
          obtain ⟨gx0, gx1, gx2⟩ := gbox HX.out
          by_cases hlt2 : m < s.size
          · have hd2 : decide ((m : Int) < (s.size : Int)) = true := decide_eq_true (by omega)
            have hd3 : decide (m < s.size) = true := decide_eq_true hlt2
            have HBY : Hid (s.data.toList.getD m 0 = s[m]) := Lib.hid (by
              have h9 : m < s.data.toList.length := by rw [size_list]; exact hlt2
              rw [List.getD_eq_getElem?_getD, List.getElem?_eq_getElem h9]
              rfl)
            have HQ64 := Lib.hid (HTL.out m)
            by_cases h46 : s[m] = 46
            · have hq2 : ((s[m].toNat : Int) == 46) = true := by simp [h46]
              have HW : Hid (whF s m = true) := Lib.hid (by unfold whF; rw [HBY.out]; exact decide_eq_true h46)
              have HTY1 := Lib.hid (HTY.out m HW.out)
              clear h46 HBY
              rcases hy : (Q m).1 m with _ | _
              · have HY : Hid (B.getD m false = false) := Lib.hid ((HM.out m).trans hy)
                have HQ1 : Hid (Q (m + 1) = (fun j => (Q m).1 j || reachB (whF s) C s.size m j, (Q m).2 + 1)) := Lib.hid (by rw [HTY1.out, hy]; rfl)
                have HRBm := Lib.hid (HRB.out m hlt2)
                have hq64 := HQ64.out
                have hwn : IntKind.i64.wrap ((((Q m).2 : Nat) : Int) + 1) = (((Q m).2 : Nat) : Int) + 1 := by rw [IntKind.wrap_i64]; omega
                obtain ⟨N, hN⟩ : ∃ N, N = (Q m).2 := ⟨_, rfl⟩
                rw [← hN] at HQ1 hwn hq64 ⊢
                clear hy HTY1 hN HQ64
                go_wp2_with (go_at_call 12; refine (HIG.out _).mono ?_; rintro e w2 ⟨rfl, b2⟩; have HB2 := Lib.hid (HB.out.trans (b2.mono HB.out.size)); have HX2 := Lib.hid (block_later HX.out b2 (Array.getElem?_eq_some_iff.1 HX.out).1); have HR2 := Lib.hid (own_later HR.out b2); have HG2 : Hid (g < w2.heap.size) := Lib.hid (Nat.lt_of_lt_of_le HGL.out b2.size); obtain ⟨y0, y1, y2⟩ := gbox HX2.out; have hcm := bool_cell HR2.out HL.out hlt2; rw [HY.out] at hcm; clear b2)
                clear y0 y1 y2 hcm gx0 gx1 gx2 HR HX HB HGL
                obtain ⟨z2, hz2'⟩ : ∃ z2, z2 = w2.heap.size := ⟨_, rfl⟩
                have HZ : Hid (w.heap.size < z2 ∧ g < z2) := Lib.hid (by rw [hz2']; exact ⟨(Array.getElem?_eq_some_iff.1 HX2.out).1, HG2.out⟩)
                have HB3 := Lib.hid (HB2.out.alloc HB2.out.size (.cells #[] 4))
                have HX3 : Hid ((w2.alloc (.cells #[] 4)).heap[w.heap.size]? = some (.cells #[.int .i64 (R : Int), .int .i64 (C : Int), .string s] 25)) := Lib.hid (by rw [Below.heap_alloc _ _ w.heap.size (Array.getElem?_eq_some_iff.1 HX2.out).1]; exact HX2.out)
                have HR3 := Lib.hid (HR2.out.alloc (.cells #[] 4))
                have HO3 : Hid ((w2.alloc (.cells #[] 4)).ownsRow z2 4 1 (.slice (some ⟨z2, 0, none⟩) 0 0) 0 ((List.replicate 0 false).map Value.bool)) := Lib.hid (by rw [hz2']; exact own_empty w2 4)
                have HZ3 : Hid (z2 ≤ (w2.alloc (.cells #[] 4)).heap.size) := Lib.hid (by rw [hz2']; simp)
                rw [← hz2']
                clear hz2' HR2 HX2 HB2 HG2
                obtain ⟨wp, rfl⟩ : ∃ wp, wp = wr := ⟨wr, rfl⟩
                go_loopw [7, 8] (fun v i wr => ∃ k : Nat, k ≤ s.size ∧ i = .int .i64 (k : Int) ∧ Hid (wr.ownsRow z2 4 1 v k ((List.replicate k false).map Value.bool)) ∧ Hid (z2 ≤ wr.heap.size) ∧ Hid (wr.ownsRow (w.heap.size + 1) 4 1 (.slice (some ⟨g, 0, none⟩) s.size cap) s.size (B.map Value.bool)) ∧ Hid (wr.heap[w.heap.size]? = some (.cells #[.int .i64 (R : Int), .int .i64 (C : Int), .string s] 25)) ∧ Hid (Below w.heap.size w wr)) (fun _ i _ => s.size - (intOf i).toNat)
                case atStart => exact ⟨0, Nat.zero_le _, rfl, HO3, HZ3, HR3, HX3, HB3⟩
                case round =>
                  clear HO3 HZ3 HR3 HX3 HB3
                  obtain ⟨k, hk, rfl, HO, HZL, HR, HX, HB⟩ := hrel
                  by_cases hlt3 : k < s.size
                  · have hd4 : decide ((k : Int) < (s.size : Int)) = true := decide_eq_true (by omega)
                    have hd5 : decide (k < s.size) = true := decide_eq_true hlt3
                    obtain ⟨a7, cap7, rfl⟩ := ownV_slice HO.out
                    have HBA := Lib.hid (HB.out.alloc HB.out.size (.cells #[.bool false] 4))
                    have HXA : Hid ((wr.alloc (.cells #[.bool false] 4)).heap[w.heap.size]? = some (.cells #[.int .i64 (R : Int), .int .i64 (C : Int), .string s] 25)) := Lib.hid (by rw [Below.heap_alloc _ _ w.heap.size (Array.getElem?_eq_some_iff.1 HX.out).1]; exact HX.out)
                    have HRA := Lib.hid (HR.out.alloc (.cells #[.bool false] 4))
                    have HOA := Lib.hid (HO.out.alloc (.cells #[.bool false] 4))
                    have hwb : z2 ≤ (wr.alloc (.cells #[.bool false] 4)).heap.size := by have := HZL.out; simp; omega
                    go_wp2_with (at_builtin; refine appendV_reads _ rfl _ _ 68 rfl z2 4 i0 (.bool false) 1 1 Tryd.underlying68 hi hz0 hz1 hz2 rfl (by decide) _ _ _ rfl HOA.out (some ⟨wr.heap.size, 0, none⟩) 1 1 [.bool false] rfl rfl (fun u hu => by rw [List.mem_singleton.1 hu]; rfl) (fun e => by cases e) (one_srcP wr (.bool false) _) (by omega) (one_bytes k (by omega)) hwb ?_; intro v3 w3 hown hgrow)
                    have HO4 : Hid (w3.ownsRow z2 4 1 v3 (k + 1) ((List.replicate (k + 1) false).map Value.bool)) := Lib.hid (by rw [← rep_snoc]; exact hown)
                    have HX4 := Lib.hid (block_app HXA.out HOA.out hgrow HZ.out.1)
                    have HB4 := Lib.hid (below_own HBA.out hgrow HOA.out (Nat.le_of_lt HZ.out.1) HBA.out.size)
                    have HR4 : Hid (w3.ownsRow (w.heap.size + 1) 4 1 (.slice (some ⟨g, 0, none⟩) s.size cap) s.size (B.map Value.bool)) := Lib.hid (HRA.out.kept hgrow (.inr (fun e => by have h1 := (HOA.out.lt g e.symm).1; have := HZ.out.2; omega)))
                    have HZ4 : Hid (z2 ≤ w3.heap.size) := Lib.hid (Nat.le_trans hwb hgrow.size)
                    clear hown hgrow hwb
                    go_roundw
                    case rel => exact ⟨k + 1, by omega, by go_num, HO4, HZ4, HR4, HX4, HB4⟩
                    case measure => simp [intOf]; omega
                  · have hd4 : decide ((k : Int) < (s.size : Int)) = false := decide_eq_false (by omega)
                    have hd5 : decide (k < s.size) = false := decide_eq_false hlt3
                    obtain rfl : k = s.size := by omega
                    obtain ⟨g1, cap1, rfl, hgz, hg1w⟩ := bool_some HO.out (by omega)
                    have hne : ¬ g = g1 := by have := HZ.out.2; omega
                    have HRC := Lib.hid (HREA.out m hlt2 z2 g1 cap1 wr hg1w HO.out)
                    obtain ⟨x0, x1, x2⟩ := gbox HX.out
                    go_wp2_with (go_at_call 47; refine (HRC.out).mono ?_; rintro e w5 ⟨rfl, hrr, hgr⟩; have HRR := Lib.hid hrr; have HGR := Lib.hid hgr; clear hrr hgr)
                    obtain ⟨O, hOl, hOr, hOo⟩ := HRR.out
                    have HOL := Lib.hid hOl
                    have HOR : Hid (∀ j, O.getD j false = reachB (whF s) C s.size m j) := Lib.hid hOr
                    have HO5 := Lib.hid hOo
                    have HR5 : Hid (w5.ownsRow (w.heap.size + 1) 4 1 (.slice (some ⟨g, 0, none⟩) s.size cap) s.size ((joinB B O 0).map Value.bool)) := Lib.hid (by rw [joinB_zero]; exact keep_row HR.out HGR.out (fun e => hne (by simpa [Value.ownBlock] using e)))
                    have HX5 := Lib.hid (block_grown HX.out HGR.out (by have := HZ.out.1; omega))
                    have HB5 := Lib.hid (below_grown HB.out HGR.out HB.out.size (by have := HZ.out.1; omega))
                    have HG5 : Hid (g < w5.heap.size) := Lib.hid (Nat.lt_of_lt_of_le (Nat.lt_of_lt_of_le HZ.out.2 HZL.out) HGR.out.size)
                    clear hOl hOr hOo HRR HGR HO HR HX HB HZL x0 x1 x2 hg1w HRC
                    obtain ⟨wp2, rfl⟩ : ∃ wp2, wp2 = wr := ⟨wr, rfl⟩
                    go_loopw [9] (fun i wr => ∃ k : Nat, k ≤ s.size ∧ i = .int .i64 (k : Int) ∧ Hid (wr.ownsRow z2 4 1 (.slice (some ⟨g1, 0, none⟩) s.size cap1) s.size (O.map Value.bool)) ∧ Hid (g < wr.heap.size) ∧ Hid (wr.ownsRow (w.heap.size + 1) 4 1 (.slice (some ⟨g, 0, none⟩) s.size cap) s.size ((joinB B O k).map Value.bool)) ∧ Hid (wr.heap[w.heap.size]? = some (.cells #[.int .i64 (R : Int), .int .i64 (C : Int), .string s] 25)) ∧ Hid (Below w.heap.size w wr)) (fun i _ => s.size - (intOf i).toNat)
                    case atStart => exact ⟨0, Nat.zero_le _, rfl, HO5, HG5, HR5, HX5, HB5⟩
                    case round =>
                      clear HO5 HG5 HR5 HX5 HB5
                      obtain ⟨k, hk, rfl, HO, HGL, HR, HX, HB⟩ := hrel
                      by_cases hlt4 : k < s.size
                      · have hd6 : decide ((k : Int) < (s.size : Int)) = true := decide_eq_true (by omega)
                        have hd7 : decide (k < s.size) = true := decide_eq_true hlt4
                        have HJL : Hid ((joinB B O k).length = s.size) := Lib.hid (by rw [joinB_len]; exact HL.out)
                        have hc1 := bool_cell HR.out HJL.out hlt4
                        rw [show (joinB B O k).getD k false = B.getD k false by rw [joinB_get, if_pos (by rw [HL.out]; exact hlt4), if_neg (by omega)]] at hc1
                        have hc2 := bool_cell HO.out HOL.out hlt4
                        have hf := HR.out.frozenAt k
                        have hst := HR.out.stored k (.bool (B.getD k false || O.getD k false))
                        rw [store_boolV, joinB_next B O k (by rw [HL.out]; exact hlt4)] at hst
                        have HS := Lib.hid hst
                        clear hst
                        have HX6 := Lib.hid (block_grown HX.out HS.out.2 (by omega))
                        have HO6 := Lib.hid (keep_row HO.out HS.out.2 (fun e => hne (by have := e; simp [Value.ownBlock] at this; exact this.symm)))
                        have HB6 := Lib.hid (below_grown HB.out HS.out.2 HB.out.size (by omega))
                        have HG6 : Hid (g < _) := Lib.hid (Nat.lt_of_lt_of_le HGL.out HS.out.2.size)
                        have HR6 := Lib.hid HS.out.1
                        clear HS
                        obtain ⟨x, hx⟩ : ∃ x, x = B.getD k false := ⟨_, rfl⟩
                        obtain ⟨y, hy⟩ : ∃ y, y = O.getD k false := ⟨_, rfl⟩
                        rw [← hx] at hc1 HR6 HO6 HB6 HG6 HX6
                        rw [← hy] at hc2 HR6 HO6 HB6 HG6 HX6
                        clear hx hy
                        cases x with
                        | true =>
                          simp only [Bool.true_or] at HR6 HO6 HB6 HG6 HX6
                          go_wp2_with fail
                          go_roundw
                          case rel => exact ⟨k + 1, by omega, by go_num, HO6, HG6, HR6, HX6, HB6⟩
                          case measure => simp [intOf]; omega
                        | false =>
                          simp only [Bool.false_or] at HR6 HO6 HB6 HG6 HX6
                          go_wp2_with fail
                          go_roundw
                          case rel => exact ⟨k + 1, by omega, by go_num, HO6, HG6, HR6, HX6, HB6⟩
                          case measure => simp [intOf]; omega
                      · have hd6 : decide ((k : Int) < (s.size : Int)) = false := decide_eq_false (by omega)
                        have hd7 : decide (k < s.size) = false := decide_eq_false hlt4
                        obtain rfl : k = s.size := by omega
                        have HJL : Hid ((joinB B O s.size).length = s.size) := Lib.hid (by rw [joinB_len]; exact HL.out)
                        have HJM : Hid (∀ j, (joinB B O s.size).getD j false = (Q (m + 1)).1 j) := Lib.hid (fun j => by
                          rw [HQ1.out, joinB_get, HL.out]
                          by_cases hj : j < s.size
                          · rw [if_pos hj, if_pos hj, HM.out, HOR.out]
                          · rw [if_neg hj]
                            show false = ((Q m).1 j || reachB (whF s) C s.size m j)
                            have h1 : (Q m).1 j = false := by
                              cases h9 : (Q m).1 j
                              · rfl
                              · exact absurd (HML.out m (by omega) j h9) hj
                            have h2 : reachB (whF s) C s.size m j = false := by
                              cases h9 : reachB (whF s) C s.size m j
                              · rfl
                              · exact absurd (HRBm.out j h9) hj
                            rw [h1, h2]; rfl)
                        go_wp2_with fail
                        go_roundw
                        case rel => exact ⟨m + 1, joinB B O s.size, by omega, by go_num, by rw [HQ1.out]; rfl, HJL, HJM, HGL, HR, HX, HB⟩
                        case measure => simp [intOf]; omega
              · have HY : Hid (B.getD m false = true) := Lib.hid ((HM.out m).trans hy)
                have HQ1 : Hid (Q (m + 1) = Q m) := Lib.hid (by rw [HTY1.out, hy]; rfl)
                clear hy HTY1
                go_wp2_with (go_at_call 12; refine (HIG.out _).mono ?_; rintro e w2 ⟨rfl, b2⟩; have HB2 := Lib.hid (HB.out.trans (b2.mono HB.out.size)); have HX2 := Lib.hid (block_later HX.out b2 (Array.getElem?_eq_some_iff.1 HX.out).1); have HR2 := Lib.hid (own_later HR.out b2); have HG2 : Hid (g < w2.heap.size) := Lib.hid (Nat.lt_of_lt_of_le HGL.out b2.size); obtain ⟨y0, y1, y2⟩ := gbox HX2.out; have hcm := bool_cell HR2.out HL.out hlt2; rw [HY.out] at hcm; clear b2)
                go_roundw
                case rel => exact ⟨m + 1, B, by omega, by go_num, by rw [HQ1.out], HL, Lib.hid (fun j => by rw [HQ1.out]; exact HM.out j), HG2, HR2, HX2, HB2⟩
                case measure => simp [intOf]; omega
            · have hq2 : ((s[m].toNat : Int) == 46) = false := by simp; intro h; exact h46 (UInt8.toNat_inj.1 (by show s[m].toNat = 46; omega))
              have HQ1 := Lib.hid (HTN.out m (by unfold whF; rw [HBY.out]; exact decide_eq_false h46))
              clear h46 HBY
              go_wp2_with (go_at_call 12; refine (HIG.out _).mono ?_; rintro e w2 ⟨rfl, b2⟩; have HB2 := Lib.hid (HB.out.trans (b2.mono HB.out.size)); have HX2 := Lib.hid (block_later HX.out b2 (Array.getElem?_eq_some_iff.1 HX.out).1); have HR2 := Lib.hid (own_later HR.out b2); have HG2 : Hid (g < w2.heap.size) := Lib.hid (Nat.lt_of_lt_of_le HGL.out b2.size); obtain ⟨y0, y1, y2⟩ := gbox HX2.out; clear b2)
              go_roundw
              case rel => exact ⟨m + 1, B, by omega, by go_num, by rw [HQ1.out], HL, Lib.hid (fun j => by rw [HQ1.out]; exact HM.out j), HG2, HR2, HX2, HB2⟩
              case measure => simp [intOf]; omega
          · have hd2 : decide ((m : Int) < (s.size : Int)) = false := decide_eq_false (by omega)
            have hd3 : decide (m < s.size) = false := decide_eq_false hlt2
            have HE : Hid (m = s.size) := Lib.hid (by omega)
            go_wp2_with fail
            go_ret
            exact ⟨by rw [HF.out, HE.out]; rfl, HB.out⟩
end Go.Proofs.YtgpplfhbgkcjhaaDoor
