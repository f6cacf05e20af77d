/-
  Plain facts: the cells that have a pair are all white cells just if no white cell is loose; what the slots' rules say.
  The program's contracts of chapter 10, third part: the tests that the rules of form make.
  The program's contracts of chapter 10, fourth part: the rules of form, one by one.
-/
import Derived.Test.YthgnhcjbjdhjfaaGreatDoorFormPure
import Derived.Test.YthgnhcjbjdhjfaaGreatDoorPopN
import Derived.Test.YthgnhcjbjdhjfaaGreatDoorFormBC
import Derived.Test.YthgnhcjbjdhjfaaGreatDoorFormD
import Derived.Test.YthgnhcjbjdhjfaaGreatDoorUnchImpl
import Derived.Test.YthgnhcjbjdhjfaaGreatDoorFormN
namespace Go.Proofs.YthgnhcjbjdhjfaaGreatDoor
open Go.RowKit

theorem foldS_some : ∀ (L : List (Nat × Nat)) (o : Option PairV), o.isSome = true → (L.foldl stepP o).isSome = true
  | [], _, h => h
  | x :: L, o, _ => foldS_some L (stepP o x) (stepP_some o x)
theorem foldN_some (L : List (Nat × Nat)) : (L.foldl stepP none).isSome = decide (0 < L.length) := by
  cases L with
  | nil => rfl
  | cons x L => rw [List.foldl_cons, foldS_some L _ (stepP_some _ _)]; simp
theorem pair_some (g : Int × Int × ByteArray) (q : Int) : (pairQ (spotsTo g.2.1 (slG g) (slG g).length) q).isSome = decide (0 < (atS (slG g) g.2.1 q).length) := by
  have h := pairOf_eq (slG g) g.2.1 q slG_cells_nodup
  unfold pairOf at h
  rw [h, foldN_some, List.length_map, atS_inS, List.length_map]
theorem filter_sub (p f : Nat → Bool) : ∀ n, (∀ i, i < n → p i = true → f i = true) → ((List.range n).filter p).length ≤ ((List.range n).filter f).length ∧ (((List.range n).filter p).length = ((List.range n).filter f).length ↔ ∀ i, i < n → f i = true → p i = true)
  | 0, _ => ⟨Nat.le_refl _, by simp⟩
  | n + 1, h => by
    obtain ⟨h1, h2⟩ := filter_sub p f n (fun i hi => h i (by omega))
    rw [List.range_succ, List.filter_append, List.filter_append, List.length_append, List.length_append]
    cases hf : f n
    · have hp : p n = false := by
        cases h9 : p n
        · rfl
        · rw [h n (by omega) h9] at hf; cases hf
      rw [List.filter_cons_of_neg (by rw [hp]; decide), List.filter_cons_of_neg (by rw [hf]; decide)]
      refine ⟨by simpa using h1, ?_⟩
      simp only [List.filter_nil, List.length_nil, Nat.add_zero]
      rw [h2]
      exact ⟨fun h3 i hi hfi => by
        by_cases e : i = n
        · subst e; rw [hf] at hfi; cases hfi
        · exact h3 i (by omega) hfi, fun h3 i hi => h3 i (by omega)⟩
    · cases hp : p n
      · rw [List.filter_cons_of_neg (by rw [hp]; decide), List.filter_cons_of_pos hf]
        simp only [List.filter_nil, List.length_nil, List.length_cons]
        refine ⟨by omega, ⟨fun h3 => by omega, fun h3 => ?_⟩⟩
        have := h3 n (by omega) hf
        rw [hp] at this; cases this
      · rw [List.filter_cons_of_pos hp, List.filter_cons_of_pos hf]
        simp only [List.filter_nil, List.length_nil, List.length_cons]
        refine ⟨by omega, ⟨fun h3 i hi hfi => ?_, fun h3 => ?_⟩⟩
        · by_cases e : i = n
          · subst e; exact hp
          · exact h2.1 (by omega) i (by omega) hfi
        · have := h2.2 (fun i hi => h3 i (by omega)); omega
theorem brd_bits {g : Int × Int × ByteArray} (hg : isG g = true) (k : Nat) : (brd g).2.2.testBit k = (decide (k < g.2.2.size) && whF g.2.2 k) := by
  unfold brd
  rw [if_pos hg]
  show (wT g.2.2 g.2.2.size).testBit k = _
  unfold wT
  rw [setTo_bit]
  rfl
theorem cover_is {g : Int × Int × ByteArray} (hg : isG g = true) : decide (((sizeQ (spotsTo g.2.1 (slG g) (slG g).length) : Nat) : Int) = ((popN (brd g).2.2 : Nat) : Int)) = !looseG g := by
  have hn := isG_size hg
  have h1 := filter_sub (fun (q : Nat) => (pairQ (spotsTo g.2.1 (slG g) (slG g).length) (q : Int)).isSome) (fun (q : Nat) => (brd g).2.2.testBit q) 64 (fun i hi h => by
    rw [pair_some, decide_eq_true_eq] at h
    have h2 := atS_white h
    unfold isWh at h2
    simp only [Bool.and_eq_true, decide_eq_true_eq, Int.toNat_natCast] at h2
    rw [brd_bits hg, decide_eq_true (by omega)]
    unfold whF
    rw [decide_eq_true h2.2]; rfl)
  have e1 : sizeQ (spotsTo g.2.1 (slG g) (slG g).length) = ((List.range 64).filter fun (q : Nat) => (pairQ (spotsTo g.2.1 (slG g) (slG g).length) (q : Int)).isSome).length := rfl
  have e2 : popN (brd g).2.2 = ((List.range 64).filter fun q => (brd g).2.2.testBit q).length := (cntN_pop _).symm
  rw [← e1, ← e2] at h1
  have h3 : (((sizeQ (spotsTo g.2.1 (slG g) (slG g).length) : Nat) : Int) = ((popN (brd g).2.2 : Nat) : Int)) ↔ ∀ i, i < 64 → (brd g).2.2.testBit i = true → (pairQ (spotsTo g.2.1 (slG g) (slG g).length) (i : Int)).isSome = true := by
    rw [← h1.2]; omega
  rw [Bool.eq_iff_iff, decide_eq_true_eq, h3]
  simp only [Bool.not_eq_true']
  unfold looseG
  constructor
  · intro h
    rw [Bool.eq_false_iff]
    intro h9
    obtain ⟨i, hi, h8⟩ := List.any_eq_true.1 h9
    rw [List.mem_range] at hi
    simp only [Bool.and_eq_true, decide_eq_true_eq] at h8
    have h7 := h8.1
    unfold isWh at h7
    simp only [Bool.and_eq_true, decide_eq_true_eq, Int.toNat_natCast] at h7
    have h6 := h i (by omega) (by rw [brd_bits hg, decide_eq_true hi]; unfold whF; rw [decide_eq_true h7.2]; rfl)
    rw [pair_some, decide_eq_true_eq] at h6
    omega
  · intro h i hi hb
    rw [brd_bits hg] at hb
    simp only [Bool.and_eq_true, decide_eq_true_eq] at hb
    rw [pair_some, decide_eq_true_eq]
    refine Nat.pos_of_ne_zero fun h9 => ?_
    have h8 := List.any_eq_false.1 h i (List.mem_range.2 hb.1)
    rw [isWh_of hg hb.1 hb.2, decide_eq_true h9] at h8
    exact h8 rfl
end Go.Proofs.YthgnhcjbjdhjfaaGreatDoor
namespace Go.Proofs.YthgnhcjbjdhjfaaGreatDoor
open Go.RowKit

theorem ilong_any (a b : Int) (w : World) :
    Calls Tryz.prog 59 #[.int .i64 a, .int .i64 b] w fun e w' => e = .returned (.bool (decide (3 ≤ a))) ∧ w = w' := by
  go_enter Tryz.func59, Tryz.ntmps59
  go_wp2
  go_ret
  exact ⟨rfl, rfl⟩
theorem ichk_any (a b : Int) (hb : 0 ≤ b ∧ b ≤ 1000) (w : World) :
    Calls Tryz.prog 60 #[.int .i64 a, .int .i64 b] w fun e w' => e = .returned (.bool (decide (2 * b ≤ a))) ∧ w = w' := by
  have hw : IntKind.i64.wrap (2 * b) = 2 * b := by rw [IntKind.wrap_i64]; omega
  clear hb
  go_enter Tryz.func60, Tryz.ntmps60
  go_wp2
  go_ret
  exact ⟨rfl, rfl⟩
set_option maxRecDepth 100000 in
set_option maxHeartbeats 1600000 in
theorem icov_any (r c : Int) (s : ByteArray) (hg : isG (r, c, s) = true) (w : World) :
    Calls Tryz.prog 61 #[.agg #[.int .i64 r, .int .i64 c, .string s]] w fun e w' => e = .returned (.bool (!looseG (r, c, s))) ∧ Below w.heap.size w w' := by
  have h36 : s.size ≤ 36 := isG_size hg
  have HBO := Lib.hid (fun w => ibo_any r c s (by omega) w)
  have HPB := Lib.hid (fun w => pairs_brd r c s w)
  have HCV := Lib.hid (cover_is hg)
  have HPC : Hid (∀ w : World, Calls Tryz.prog 109 #[.int .u64 ((brd (r, c, s)).2.2 : Int)] w fun e w' => e = .returned (.int .i64 ((popN (brd (r, c, s)).2.2 : Nat) : Int)) ∧ w = w') := Lib.hid (fun w => pcount_any _ (by have := (brd_W hg).1.2.2.2.2.1; omega) w)
  simp only at HCV
  rw [← HCV.out]
  clear HCV
  obtain ⟨Sp, hSp⟩ : ∃ Sp, Sp = spotsTo c (slG (r, c, s)) (slG (r, c, s)).length := ⟨_, rfl⟩
  rw [← hSp] at HPB ⊢
  clear hSp hg
  obtain ⟨⟨b0, b1, b2⟩, hb⟩ : ∃ b, b = brd (r, c, s) := ⟨_, rfl⟩
  rw [← hb] at HBO HPB HPC ⊢
  clear hb
  simp only [brdV] at HBO HPB HPC ⊢
  have HEQ : Hid (((((sizeQ Sp : Nat) : Int)) == ((popN b2 : Nat) : Int)) = decide (((sizeQ Sp : Nat) : Int) = ((popN b2 : Nat) : Int))) := Lib.hid (by rw [Bool.eq_iff_iff]; simp)
  rw [← HEQ.out]
  clear HEQ
  obtain ⟨P, hP⟩ : ∃ P, P = ((popN b2 : Nat) : Int) := ⟨_, rfl⟩
  rw [← hP] at HPC ⊢
  clear hP
  go_enter Tryz.func61, Tryz.ntmps61
  go_wp2_with (first | (go_at_call 32; refine (HBO.out _).mono ?_; rintro e w1 ⟨rfl, bb1⟩; have HB1 := Lib.hid (box1_of bb1); have HB2 := Lib.hid (HB1.out.alloc HB1.out.size (.cells #[.int .i64 b0, .int .i64 b1, .int .u64 (b2 : Int)] 63)); have HX2 := Lib.hid (new_block w1 (.cells #[.int .i64 b0, .int .i64 b1, .int .u64 (b2 : Int)] 63)); clear bb1))
  obtain ⟨W2, hW2⟩ : ∃ W2, W2 = w1.alloc (.cells #[.int .i64 b0, .int .i64 b1, .int .u64 (b2 : Int)] 63) := ⟨_, rfl⟩
  rw [← hW2] at HB2 HX2 ⊢
  clear hW2
  have SOT : Hid (∀ W : World, Below W2.heap.size W2 W → W.cell? ⟨w1.heap.size, 0, none⟩ = some (.int .i64 b0) ∧ W.cell? ⟨w1.heap.size, 1, none⟩ = some (.int .i64 b1) ∧ W.cell? ⟨w1.heap.size, 2, none⟩ = some (.int .u64 (b2 : Int))) := Lib.hid (fun W h => by
    have h9 := block_later HX2.out h (Array.getElem?_eq_some_iff.1 HX2.out).1
    exact ⟨Joins.cell_of_block h9 0, Joins.cell_of_block h9 1, Joins.cell_of_block h9 2⟩)
  have hbn : Below W2.heap.size W2 W2 := Below.refl _ _
  obtain ⟨x0, x1, x2⟩ := SOT.out W2 hbn
  go_region_with (first | (go_at_call 39; refine Calls.mono (HPB.out _) ?_; rintro e w6 ⟨M, rfl, hM, m6, b6⟩; have HM6 := Lib.hid m6; have hbm : Below W2.heap.size W2 _ := (by first | exact hbn.trans (b6.mono hbn.size) | exact hbn.drew.trans b6); clear hbn; have hbn := hbm; clear hbm b6 m6 hM; have HB6 := Lib.hid (HB2.out.trans (hbn.mono HB2.out.size)); have hlen := fun ty => pm_len HM6.out ty; have hlen2 := fun ty => pm_len (pm_below HM6.out (Below.refl w6.heap.size w6).drew) ty; obtain ⟨y0, y1, y2⟩ := SOT.out _ hbn) | (go_at_call 109; refine Calls.mono (HPC.out _) ?_; rintro e w7 ⟨rfl, rfl⟩))
  all_goals go_wp2_with fail
  all_goals go_ret
  all_goals exact ⟨rfl, HB6.out⟩
end Go.Proofs.YthgnhcjbjdhjfaaGreatDoor
namespace Go.Proofs.YthgnhcjbjdhjfaaGreatDoor
open Go.RowKit

set_option maxHeartbeats 800000 in
theorem ikept0 (r c : Int) (s : ByteArray) (hs : s.size ≤ 1048576) (w : World) :
    Calls Tryz.prog 212 #[ruleA0, .agg #[.int .i64 r, .int .i64 c, .string s]] w fun e w' => e = .returned (.bool (isG (r, c, s))) ∧ Below w.heap.size w w' := by
  have HC := Lib.hid (fun w => iisg_any r c s (by omega) w)
  obtain ⟨q, hq⟩ : ∃ q, q = (isG (r, c, s)) := ⟨_, rfl⟩
  rw [← hq] at HC ⊢
  clear hq
  unfold ruleA0
  go_enter Tryz.func212, Tryz.ntmps212
  go_wp2_with (go_at_call 11; refine (HC.out _).mono ?_; rintro e w4 ⟨rfl, b4⟩; have HB4 := Lib.hid (box2_of b4); clear b4)
  go_ret
  exact ⟨rfl, HB4.out⟩
set_option maxHeartbeats 800000 in
theorem ikept1 (r c : Int) (s : ByteArray) (hs : s.size ≤ 1048576) (w : World) :
    Calls Tryz.prog 212 #[ruleA1, .agg #[.int .i64 r, .int .i64 c, .string s]] w fun e w' => e = .returned (.bool (symG (r, c, s))) ∧ Below w.heap.size w w' := by
  have HC := Lib.hid (fun w => isym_any r c s (by omega) w)
  obtain ⟨q, hq⟩ : ∃ q, q = (symG (r, c, s)) := ⟨_, rfl⟩
  rw [← hq] at HC ⊢
  clear hq
  unfold ruleA1
  go_enter Tryz.func212, Tryz.ntmps212
  go_wp2_with (go_at_call 17; refine (HC.out _).mono ?_; rintro e w4 ⟨rfl, b4⟩; have HB4 := Lib.hid (box2_of b4); clear b4)
  go_ret
  exact ⟨rfl, HB4.out⟩
set_option maxHeartbeats 800000 in
theorem ikept2 (r c : Int) (s : ByteArray) (hs : s.size ≤ 1048576) (w : World) (hD : DB w) :
    Calls Tryz.prog 212 #[ruleA2, .agg #[.int .i64 r, .int .i64 c, .string s]] w fun e w' => e = .returned (.bool (decide (partsG (r, c, s) = 1))) ∧ Below w.heap.size w w' := by
  have HD := Lib.hid (hD.later (((Below.refl w.heap.size w).alloc (Nat.le_refl _) (.cells #[.func (.func 9) #[] #[]] 104)).alloc (by simp) (.cells #[.int .i64 r, .int .i64 c, .string s] 25)))
  clear hD
  have HC := Lib.hid (fun w hd => icn_any r c s (by omega) w hd)
  obtain ⟨q, hq⟩ : ∃ q, q = (decide (partsG (r, c, s) = 1)) := ⟨_, rfl⟩
  rw [← hq] at HC ⊢
  clear hq
  unfold ruleA2
  go_enter Tryz.func212, Tryz.ntmps212
  go_wp2_with (go_at_call 9; refine (HC.out _ HD.out).mono ?_; rintro e w4 ⟨rfl, b4⟩; have HB4 := Lib.hid (box2_of b4); clear b4)
  go_ret
  exact ⟨rfl, HB4.out⟩
set_option maxHeartbeats 800000 in
theorem ikept5 (r c : Int) (s : ByteArray) (hg : isG (r, c, s) = true) (w : World) :
    Calls Tryz.prog 212 #[ruleA5, .agg #[.int .i64 r, .int .i64 c, .string s]] w fun e w' => e = .returned (.bool (!looseG (r, c, s))) ∧ Below w.heap.size w w' := by
  have HC := Lib.hid (fun w => icov_any r c s hg w)
  obtain ⟨q, hq⟩ : ∃ q, q = (!looseG (r, c, s)) := ⟨_, rfl⟩
  rw [← hq] at HC ⊢
  clear hq
  unfold ruleA5
  go_enter Tryz.func212, Tryz.ntmps212
  go_wp2_with (go_at_call 61; refine (HC.out _).mono ?_; rintro e w4 ⟨rfl, b4⟩; have HB4 := Lib.hid (box2_of b4); clear b4)
  go_ret
  exact ⟨rfl, HB4.out⟩
theorem unch_is {g : Int × Int × ByteArray} {i : Nat} (h : i < (slG g).length) : unchS g (i : Int) = (unchN (slG g) g.2.1 (cellsS g.2.1 ((slG g).getD i none_Slot)) : Nat) := by
  unfold unchS
  rw [if_pos (by omega), Int.toNat_natCast]
theorem short_is (g : Int × Int × ByteArray) : (∀ k, k < (slG g).length → decide (3 ≤ ((slG g).getD k none_Slot).2.2.2) = false → (!shortG g) = false) ∧ ((∀ k, k < (slG g).length → decide (3 ≤ ((slG g).getD k none_Slot).2.2.2) = true) → (!shortG g) = true) := by
  unfold shortG
  constructor
  · intro k hk h
    rw [short_yes hk (by simpa using h)]
    rfl
  · intro h
    rw [short_no (fun j hj => by have := h j hj; simpa using this)]
    rfl
theorem half_is (g : Int × Int × ByteArray) : (∀ k, k < (slG g).length → decide (2 * ((unchN (slG g) g.2.1 (cellsS g.2.1 ((slG g).getD k none_Slot)) : Nat) : Int) ≤ ((slG g).getD k none_Slot).2.2.2) = false → (!halfG g) = false) ∧ ((∀ k, k < (slG g).length → decide (2 * ((unchN (slG g) g.2.1 (cellsS g.2.1 ((slG g).getD k none_Slot)) : Nat) : Int) ≤ ((slG g).getD k none_Slot).2.2.2) = true) → (!halfG g) = true) := by
  unfold halfG
  constructor
  · intro k hk h
    rw [any_yes hk (by rw [unch_is hk]; simpa using h)]
    rfl
  · intro h
    rw [any_no (fun j hj => by have := h j hj; rw [unch_is hj]; simpa using this)]
    rfl
set_option maxRecDepth 100000 in
set_option maxHeartbeats 3200000 in
theorem ikept3 (r c : Int) (s : ByteArray) (hg : isG (r, c, s) = true) (w : World) :
    Calls Tryz.prog 213 #[ruleA3, .agg #[.int .i64 r, .int .i64 c, .string s]] w fun e w' => e = .returned (.bool (!shortG (r, c, s))) ∧ Below w.heap.size w w' := by
  have h36 : s.size ≤ 36 := isG_size hg
  have HBO := Lib.hid (fun w => ibo_any r c s (by omega) w)
  have HSB := Lib.hid (fun w => slots_brd (r, c, s) w)
  have HLEN := Lib.hid (slG_length (r, c, s))
  have HPB := Lib.hid (fun w => pairs_brd r c s w)
  have HIS := Lib.hid (short_is (r, c, s))
  have HUB : Hid (∀ x ∈ slG (r, c, s), ∀ (M : Nat) (w : World), PairMap w M (spotsTo c (slG (r, c, s)) (slG (r, c, s)).length) → Calls Tryz.prog 38 #[brdV (brd (r, c, s)), .agg #[.int .i64 x.1, .bool x.2.1, .int .i64 x.2.2.1, .int .i64 x.2.2.2], .map (some M)] w fun e w' => e = .returned (.int .i64 ((unchN (slG (r, c, s)) c (cellsS c x) : Nat) : Int)) ∧ Below w.heap.size w w') := Lib.hid (fun x hx M w hm => unch_brd (r, c, s) x hx M w hm)
  have HU6 : Hid (∀ k, k < (slG (r, c, s)).length → 0 ≤ ((unchN (slG (r, c, s)) c (cellsS c ((slG (r, c, s)).getD k none_Slot)) : Nat) : Int) ∧ ((unchN (slG (r, c, s)) c (cellsS c ((slG (r, c, s)).getD k none_Slot)) : Nat) : Int) ≤ 1000) := Lib.hid (fun k hk => by
    have h1 := unch_is (g := (r, c, s)) hk
    have h2 := unchS_range (r, c, s) (k : Int)
    rw [h1] at h2
    simp only at h2
    omega)
  try simp only at HIS
  obtain ⟨q, hq⟩ : ∃ q, q = (!shortG (r, c, s)) := ⟨_, rfl⟩
  rw [← hq] at HIS ⊢
  clear hq hg
  obtain ⟨l, hl⟩ : ∃ l, l = slG (r, c, s) := ⟨_, rfl⟩
  rw [← hl] at HSB HLEN HPB HUB HIS HU6
  clear hl
  obtain ⟨uu, huu⟩ : ∃ uu : Nat → Int, uu = fun k => ((unchN l c (cellsS c (l.getD k none_Slot)) : Nat) : Int) := ⟨_, rfl⟩
  have HUK : Hid (∀ k, ((unchN l c (cellsS c (l.getD k none_Slot)) : Nat) : Int) = uu k) := Lib.hid (fun k => by rw [huu])
  have HU6 : Hid (∀ k, k < l.length → 0 ≤ uu k ∧ uu k ≤ 1000) := Lib.hid (fun k hk => by have h9 := HU6.out k hk; rw [HUK.out] at h9; exact h9)
  clear huu
  have HY := Lib.hid HIS.out.1
  have HN := Lib.hid HIS.out.2
  clear HIS
  have hl72 := HLEN.out
  obtain ⟨Sp, hSp⟩ : ∃ Sp, Sp = spotsTo c l l.length := ⟨_, rfl⟩
  rw [← hSp] at HPB HUB
  clear hSp
  obtain ⟨⟨b0, b1, b2⟩, hb⟩ : ∃ b, b = brd (r, c, s) := ⟨_, rfl⟩
  rw [← hb] at HBO HSB HPB HUB
  clear hb
  simp only [brdV] at HBO HSB HPB HUB
  have HHO : Hid (∀ k, k < l.length → ∀ w : World, Calls Tryz.prog 59 #[.int .i64 (l.getD k none_Slot).2.2.2, .int .i64 (uu k)] w fun e w' => e = .returned (.bool (decide (3 ≤ (l.getD k none_Slot).2.2.2))) ∧ w = w') := Lib.hid (fun k hk w => ilong_any (l.getD k none_Slot).2.2.2 (uu k) w)
  unfold ruleA3
  go_enter Tryz.func213, Tryz.ntmps213
  have HR0 : Hid (((w.alloc (.cells #[.func (.func 59) #[] #[]] 107)).alloc (.cells #[.int .i64 r, .int .i64 c, .string s] 25)).heap[w.heap.size]? = some (.cells #[.func (.func 59) #[] #[]] 107)) := Lib.hid (by rw [Below.heap_alloc _ _ w.heap.size (by simp)]; exact new_block w _)
  go_wp2_with (first | (go_at_call 32; refine (HBO.out _).mono ?_; rintro e w1 ⟨rfl, bb1⟩; have HB1 := Lib.hid (box2_of bb1); have HB2 := Lib.hid (HB1.out.alloc HB1.out.size (.cells #[.int .i64 b0, .int .i64 b1, .int .u64 (b2 : Int)] 63)); have HR1 := Lib.hid (block_later HR0.out bb1 (by simp; omega)); have HR2 := Lib.hid (block_later HR1.out ((Below.refl w1.heap.size w1).alloc (Nat.le_refl _) (.cells #[.int .i64 b0, .int .i64 b1, .int .u64 (b2 : Int)] 63)) (Array.getElem?_eq_some_iff.1 HR1.out).1); have HX2 := Lib.hid (new_block w1 (.cells #[.int .i64 b0, .int .i64 b1, .int .u64 (b2 : Int)] 63)); clear bb1) | (go_at_call 39; refine (HPB.out _).mono ?_; rintro e w3 ⟨M, rfl, hM, m3, b3⟩; have HM3 := Lib.hid m3; have HX3 := Lib.hid (block_later HX2.out b3 (Array.getElem?_eq_some_iff.1 HX2.out).1); have HR3 := Lib.hid (block_later HR2.out b3 (Array.getElem?_eq_some_iff.1 HR2.out).1); have HB3 := Lib.hid (HB2.out.trans (b3.mono HB2.out.size)); obtain ⟨m0, m1, m2⟩ := (⟨Joins.cell_of_block HX3.out 0, Joins.cell_of_block HX3.out 1, Joins.cell_of_block HX3.out 2⟩ : w3.cell? ⟨w1.heap.size, 0, none⟩ = some (.int .i64 b0) ∧ w3.cell? ⟨w1.heap.size, 1, none⟩ = some (.int .i64 b1) ∧ w3.cell? ⟨w1.heap.size, 2, none⟩ = some (.int .u64 (b2 : Int))); clear m3 b3 hM) | (go_at_call 36; refine (HSB.out _).mono ?_; rintro e w4 ⟨v4, rfl, o4, b4⟩; obtain ⟨a0, cap, rfl⟩ := ownV_slice o4; have HM4 := Lib.hid (pm_below HM3.out b4); have HL4 := Lib.hid (own_widen o4 HB3.out.size); have HX4 := Lib.hid (block_later HX3.out b4 (Array.getElem?_eq_some_iff.1 HX3.out).1); have HR4 := Lib.hid (block_later HR3.out b4 (Array.getElem?_eq_some_iff.1 HR3.out).1); have HB4 := Lib.hid (HB3.out.trans (b4.mono HB3.out.size)); clear o4 b4))
  clear m0 m1 m2
  obtain ⟨nb, hnb⟩ : ∃ nb, nb = w1.heap.size := ⟨_, rfl⟩
  rw [← hnb] at HX4 ⊢
  clear hnb HX2 HX3 HR0 HR1 HR2 HR3 HB1 HB2 HB3 HM3 HBO HPB HSB
  go_loopw [20] (fun i wr => ∃ k : Nat, k ≤ l.length ∧ i = .int .i64 (k : Int) ∧ Hid (∀ j, j < k → decide (3 ≤ (l.getD j none_Slot).2.2.2) = true) ∧ Hid (PairMap wr M Sp) ∧ Hid (wr.ownsRow w.heap.size 34 4 (.slice a0 l.length cap) l.length (row_Slot l)) ∧ Hid (wr.heap[nb]? = some (.cells #[.int .i64 b0, .int .i64 b1, .int .u64 (b2 : Int)] 63)) ∧ Hid (wr.heap[w.heap.size]? = some (.cells #[.func (.func 59) #[] #[]] 107)) ∧ Hid (Below w.heap.size w wr)) (fun i _ => l.length - (intOf i).toNat)
  case atStart => exact ⟨0, Nat.zero_le _, rfl, Lib.hid (fun j hj => by omega), HM4, HL4, HX4, HR4, HB4⟩
  case round =>
    clear HM4 HL4 HX4 HR4 HB4
    obtain ⟨k, hk, rfl, HA, HM, HL, HX, HR, HB⟩ := hrel
    by_cases hlt : k < l.length
    · have hd : decide ((k : Int) < (l.length : Int)) = true := decide_eq_true (by omega)
      have hd9 : decide (k < l.length) = true := decide_eq_true hlt
      obtain ⟨b, rfl, q0, q1, q2, q3⟩ := slot_cells HL.out rfl k hlt
      have HUN := Lib.hid (HUB.out (l.getD k none_Slot) (getD_in hlt))
      rw [HUK.out] at HUN
      have HHK := Lib.hid (HHO.out k hlt)
      have HYK := Lib.hid (HY.out k hlt)
      have HAK : Hid (decide (3 ≤ (l.getD k none_Slot).2.2.2) = true → ∀ j, j < k + 1 → decide (3 ≤ (l.getD j none_Slot).2.2.2) = true) := Lib.hid (fun h j hj => by
        by_cases e : j = k
        · subst e; exact h
        · exact HA.out j (by omega))
      obtain ⟨u, hu⟩ : ∃ u, u = uu k := ⟨_, rfl⟩
      rw [← hu] at HUN HHK
      try rw [← hu] at HYK
      try rw [← hu] at HAK
      clear hu
      obtain ⟨y, hy⟩ : ∃ y, y = l.getD k none_Slot := ⟨_, rfl⟩
      rw [← hy] at q0 q1 q2 q3 HUN HHK HYK HAK
      clear hy
      obtain ⟨t0, t1, t2, t3⟩ := y
      simp only at q0 q1 q2 q3 HUN HHK HYK HAK
      go_wp2_with fail
      obtain ⟨W2, hW2⟩ : ∃ W2, W2 = wr.alloc (.cells #[.int .i64 t0, .bool t1, .int .i64 t2, .int .i64 t3] 34) := ⟨_, rfl⟩
      have bo := (Below.refl wr.heap.size wr).alloc (Nat.le_refl _) (.cells #[.int .i64 t0, .bool t1, .int .i64 t2, .int .i64 t3] 34)
      rw [← hW2] at bo
      have HM2 := Lib.hid (pm_below HM.out bo)
      have HL2 := Lib.hid (ownV_later HL.out bo)
      have HX2 := Lib.hid (block_later HX.out bo (Array.getElem?_eq_some_iff.1 HX.out).1)
      have HR2 := Lib.hid (block_later HR.out bo (Array.getElem?_eq_some_iff.1 HR.out).1)
      have HB2 := Lib.hid (HB.out.trans (bo.mono HB.out.size))
      have HS2 : Hid (W2.heap[wr.heap.size]? = some (.cells #[.int .i64 t0, .bool t1, .int .i64 t2, .int .i64 t3] 34)) := Lib.hid (by rw [hW2]; exact new_block wr _)
      rw [← hW2]
      clear hW2 bo HM HL HX HR HB q0 q1 q2 q3
      have SOT : Hid (∀ W : World, Below W2.heap.size W2 W → (W.cell? ⟨nb, 0, none⟩ = some (.int .i64 b0) ∧ W.cell? ⟨nb, 1, none⟩ = some (.int .i64 b1) ∧ W.cell? ⟨nb, 2, none⟩ = some (.int .u64 (b2 : Int))) ∧ (W.cell? ⟨wr.heap.size, 0, none⟩ = some (.int .i64 t0) ∧ W.cell? ⟨wr.heap.size, 1, none⟩ = some (.bool t1) ∧ W.cell? ⟨wr.heap.size, 2, none⟩ = some (.int .i64 t2) ∧ W.cell? ⟨wr.heap.size, 3, none⟩ = some (.int .i64 t3)) ∧ W.cell? ⟨w.heap.size, 0, none⟩ = some (.func (.func 59) #[] #[])) := Lib.hid (fun W h => by
        have h7 := block_later HX2.out h (Array.getElem?_eq_some_iff.1 HX2.out).1
        have h8 := block_later HS2.out h (Array.getElem?_eq_some_iff.1 HS2.out).1
        have h9 := block_later HR2.out h (Array.getElem?_eq_some_iff.1 HR2.out).1
        exact ⟨⟨Joins.cell_of_block h7 0, Joins.cell_of_block h7 1, Joins.cell_of_block h7 2⟩, ⟨Joins.cell_of_block h8 0, Joins.cell_of_block h8 1, Joins.cell_of_block h8 2, Joins.cell_of_block h8 3⟩, Joins.cell_of_block h9 0⟩)
      have hbn : Below W2.heap.size W2 W2 := Below.refl _ _
      rcases hP : decide (3 ≤ t3) with _ | _
      · rw [hP] at HHK
        have HQ := Lib.hid (HYK.out hP)
        clear HYK HAK hP HA HL2
        have F1 := Lib.hid trivial
        go_region_held3 (fun W => (W.cell? ⟨nb, 0, none⟩ = some (.int .i64 b0) ∧ W.cell? ⟨nb, 1, none⟩ = some (.int .i64 b1) ∧ W.cell? ⟨nb, 2, none⟩ = some (.int .u64 (b2 : Int))) ∧ (W.cell? ⟨wr.heap.size, 0, none⟩ = some (.int .i64 t0) ∧ W.cell? ⟨wr.heap.size, 1, none⟩ = some (.bool t1) ∧ W.cell? ⟨wr.heap.size, 2, none⟩ = some (.int .i64 t2) ∧ W.cell? ⟨wr.heap.size, 3, none⟩ = some (.int .i64 t3)) ∧ W.cell? ⟨w.heap.size, 0, none⟩ = some (.func (.func 59) #[] #[])) (first | exact SOT.out _ hbn | exact SOT.out _ hbn.drew) (first | (have FG := F1; go_at_call 38; refine Calls.mono (HUN.out M _ (pm_below HM2.out (by first | exact hbn.drew | exact hbn))) ?_; rintro e w6 ⟨rfl, b6⟩; have hbm : Below W2.heap.size W2 _ := (by first | exact hbn.trans (b6.mono hbn.size) | exact hbn.drew.trans b6); clear hbn; have hbn := hbm; clear hbm b6 F1 FG; have F2 := Lib.hid trivial; have HB7 := Lib.hid (HB2.out.trans (hbn.mono HB2.out.size))) | (have FG := F2; go_at_call 59; refine Calls.mono (HHK.out _) ?_; rintro e w7 ⟨rfl, rfl⟩; clear F2 FG))
        all_goals go_wp2_with fail
        all_goals go_ret
        all_goals exact ⟨by rw [HQ.out]; rfl, HB7.out⟩
      · rw [hP] at HHK
        have HAN := Lib.hid (HAK.out hP)
        clear HYK HAK hP HA
        have F1 := Lib.hid trivial
        go_region_held3 (fun W => (W.cell? ⟨nb, 0, none⟩ = some (.int .i64 b0) ∧ W.cell? ⟨nb, 1, none⟩ = some (.int .i64 b1) ∧ W.cell? ⟨nb, 2, none⟩ = some (.int .u64 (b2 : Int))) ∧ (W.cell? ⟨wr.heap.size, 0, none⟩ = some (.int .i64 t0) ∧ W.cell? ⟨wr.heap.size, 1, none⟩ = some (.bool t1) ∧ W.cell? ⟨wr.heap.size, 2, none⟩ = some (.int .i64 t2) ∧ W.cell? ⟨wr.heap.size, 3, none⟩ = some (.int .i64 t3)) ∧ W.cell? ⟨w.heap.size, 0, none⟩ = some (.func (.func 59) #[] #[])) (first | exact SOT.out _ hbn | exact SOT.out _ hbn.drew) (first | (have FG := F1; go_at_call 38; refine Calls.mono (HUN.out M _ (pm_below HM2.out (by first | exact hbn.drew | exact hbn))) ?_; rintro e w6 ⟨rfl, b6⟩; have hbm : Below W2.heap.size W2 _ := (by first | exact hbn.trans (b6.mono hbn.size) | exact hbn.drew.trans b6); clear hbn; have hbn := hbm; clear hbm b6 F1 FG; have F2 := Lib.hid trivial; have HB7 := Lib.hid (HB2.out.trans (hbn.mono HB2.out.size)); have HM7 := Lib.hid (pm_below HM2.out hbn); have HL7 := Lib.hid (ownV_later HL2.out hbn); have HX7 := Lib.hid (block_later HX2.out hbn (Array.getElem?_eq_some_iff.1 HX2.out).1); have HR7 := Lib.hid (block_later HR2.out hbn (Array.getElem?_eq_some_iff.1 HR2.out).1)) | (have FG := F2; go_at_call 59; refine Calls.mono (HHK.out _) ?_; rintro e w7 ⟨rfl, rfl⟩; clear F2 FG))
        all_goals go_wp2_with fail
        all_goals go_roundw
        all_goals first | exact ⟨k + 1, by omega, by go_num, HAN, HM7, HL7, HX7, HR7, HB7⟩ | (simp [intOf]; omega)
    · have hd : decide ((k : Int) < (l.length : Int)) = false := decide_eq_false (by omega)
      have hd9 : decide (k < l.length) = false := decide_eq_false hlt
      have HQ := Lib.hid (HN.out (fun j hj => HA.out j (by omega)))
      go_wp2
      go_ret
      exact ⟨by rw [HQ.out]; rfl, HB.out⟩
set_option maxRecDepth 100000 in
set_option maxHeartbeats 3200000 in
theorem ikept4 (r c : Int) (s : ByteArray) (hg : isG (r, c, s) = true) (w : World) :
    Calls Tryz.prog 213 #[ruleA4, .agg #[.int .i64 r, .int .i64 c, .string s]] w fun e w' => e = .returned (.bool (!halfG (r, c, s))) ∧ Below w.heap.size w w' := by
  have h36 : s.size ≤ 36 := isG_size hg
  have HBO := Lib.hid (fun w => ibo_any r c s (by omega) w)
  have HSB := Lib.hid (fun w => slots_brd (r, c, s) w)
  have HLEN := Lib.hid (slG_length (r, c, s))
  have HPB := Lib.hid (fun w => pairs_brd r c s w)
  have HIS := Lib.hid (half_is (r, c, s))
  have HUB : Hid (∀ x ∈ slG (r, c, s), ∀ (M : Nat) (w : World), PairMap w M (spotsTo c (slG (r, c, s)) (slG (r, c, s)).length) → Calls Tryz.prog 38 #[brdV (brd (r, c, s)), .agg #[.int .i64 x.1, .bool x.2.1, .int .i64 x.2.2.1, .int .i64 x.2.2.2], .map (some M)] w fun e w' => e = .returned (.int .i64 ((unchN (slG (r, c, s)) c (cellsS c x) : Nat) : Int)) ∧ Below w.heap.size w w') := Lib.hid (fun x hx M w hm => unch_brd (r, c, s) x hx M w hm)
  have HU6 : Hid (∀ k, k < (slG (r, c, s)).length → 0 ≤ ((unchN (slG (r, c, s)) c (cellsS c ((slG (r, c, s)).getD k none_Slot)) : Nat) : Int) ∧ ((unchN (slG (r, c, s)) c (cellsS c ((slG (r, c, s)).getD k none_Slot)) : Nat) : Int) ≤ 1000) := Lib.hid (fun k hk => by
    have h1 := unch_is (g := (r, c, s)) hk
    have h2 := unchS_range (r, c, s) (k : Int)
    rw [h1] at h2
    simp only at h2
    omega)
  try simp only at HIS
  obtain ⟨q, hq⟩ : ∃ q, q = (!halfG (r, c, s)) := ⟨_, rfl⟩
  rw [← hq] at HIS ⊢
  clear hq hg
  obtain ⟨l, hl⟩ : ∃ l, l = slG (r, c, s) := ⟨_, rfl⟩
  rw [← hl] at HSB HLEN HPB HUB HIS HU6
  clear hl
  obtain ⟨uu, huu⟩ : ∃ uu : Nat → Int, uu = fun k => ((unchN l c (cellsS c (l.getD k none_Slot)) : Nat) : Int) := ⟨_, rfl⟩
  have HUK : Hid (∀ k, ((unchN l c (cellsS c (l.getD k none_Slot)) : Nat) : Int) = uu k) := Lib.hid (fun k => by rw [huu])
  have HU6 : Hid (∀ k, k < l.length → 0 ≤ uu k ∧ uu k ≤ 1000) := Lib.hid (fun k hk => by have h9 := HU6.out k hk; rw [HUK.out] at h9; exact h9)
  have HIS : Hid ((∀ k, k < l.length → decide (2 * uu k ≤ (l.getD k none_Slot).2.2.2) = false → q = false) ∧ ((∀ k, k < l.length → decide (2 * uu k ≤ (l.getD k none_Slot).2.2.2) = true) → q = true)) := Lib.hid ⟨fun k hk h => HIS.out.1 k hk (by rw [HUK.out]; exact h), fun h => HIS.out.2 (fun k hk => by rw [HUK.out]; exact h k hk)⟩
  clear huu
  have HY := Lib.hid HIS.out.1
  have HN := Lib.hid HIS.out.2
  clear HIS
  have hl72 := HLEN.out
  obtain ⟨Sp, hSp⟩ : ∃ Sp, Sp = spotsTo c l l.length := ⟨_, rfl⟩
  rw [← hSp] at HPB HUB
  clear hSp
  obtain ⟨⟨b0, b1, b2⟩, hb⟩ : ∃ b, b = brd (r, c, s) := ⟨_, rfl⟩
  rw [← hb] at HBO HSB HPB HUB
  clear hb
  simp only [brdV] at HBO HSB HPB HUB
  have HHO : Hid (∀ k, k < l.length → ∀ w : World, Calls Tryz.prog 60 #[.int .i64 (l.getD k none_Slot).2.2.2, .int .i64 (uu k)] w fun e w' => e = .returned (.bool (decide (2 * uu k ≤ (l.getD k none_Slot).2.2.2))) ∧ w = w') := Lib.hid (fun k hk w => ichk_any (l.getD k none_Slot).2.2.2 (uu k) (HU6.out k hk) w)
  unfold ruleA4
  go_enter Tryz.func213, Tryz.ntmps213
  have HR0 : Hid (((w.alloc (.cells #[.func (.func 60) #[] #[]] 107)).alloc (.cells #[.int .i64 r, .int .i64 c, .string s] 25)).heap[w.heap.size]? = some (.cells #[.func (.func 60) #[] #[]] 107)) := Lib.hid (by rw [Below.heap_alloc _ _ w.heap.size (by simp)]; exact new_block w _)
  go_wp2_with (first | (go_at_call 32; refine (HBO.out _).mono ?_; rintro e w1 ⟨rfl, bb1⟩; have HB1 := Lib.hid (box2_of bb1); have HB2 := Lib.hid (HB1.out.alloc HB1.out.size (.cells #[.int .i64 b0, .int .i64 b1, .int .u64 (b2 : Int)] 63)); have HR1 := Lib.hid (block_later HR0.out bb1 (by simp; omega)); have HR2 := Lib.hid (block_later HR1.out ((Below.refl w1.heap.size w1).alloc (Nat.le_refl _) (.cells #[.int .i64 b0, .int .i64 b1, .int .u64 (b2 : Int)] 63)) (Array.getElem?_eq_some_iff.1 HR1.out).1); have HX2 := Lib.hid (new_block w1 (.cells #[.int .i64 b0, .int .i64 b1, .int .u64 (b2 : Int)] 63)); clear bb1) | (go_at_call 39; refine (HPB.out _).mono ?_; rintro e w3 ⟨M, rfl, hM, m3, b3⟩; have HM3 := Lib.hid m3; have HX3 := Lib.hid (block_later HX2.out b3 (Array.getElem?_eq_some_iff.1 HX2.out).1); have HR3 := Lib.hid (block_later HR2.out b3 (Array.getElem?_eq_some_iff.1 HR2.out).1); have HB3 := Lib.hid (HB2.out.trans (b3.mono HB2.out.size)); obtain ⟨m0, m1, m2⟩ := (⟨Joins.cell_of_block HX3.out 0, Joins.cell_of_block HX3.out 1, Joins.cell_of_block HX3.out 2⟩ : w3.cell? ⟨w1.heap.size, 0, none⟩ = some (.int .i64 b0) ∧ w3.cell? ⟨w1.heap.size, 1, none⟩ = some (.int .i64 b1) ∧ w3.cell? ⟨w1.heap.size, 2, none⟩ = some (.int .u64 (b2 : Int))); clear m3 b3 hM) | (go_at_call 36; refine (HSB.out _).mono ?_; rintro e w4 ⟨v4, rfl, o4, b4⟩; obtain ⟨a0, cap, rfl⟩ := ownV_slice o4; have HM4 := Lib.hid (pm_below HM3.out b4); have HL4 := Lib.hid (own_widen o4 HB3.out.size); have HX4 := Lib.hid (block_later HX3.out b4 (Array.getElem?_eq_some_iff.1 HX3.out).1); have HR4 := Lib.hid (block_later HR3.out b4 (Array.getElem?_eq_some_iff.1 HR3.out).1); have HB4 := Lib.hid (HB3.out.trans (b4.mono HB3.out.size)); clear o4 b4))
  clear m0 m1 m2
  obtain ⟨nb, hnb⟩ : ∃ nb, nb = w1.heap.size := ⟨_, rfl⟩
  rw [← hnb] at HX4 ⊢
  clear hnb HX2 HX3 HR0 HR1 HR2 HR3 HB1 HB2 HB3 HM3 HBO HPB HSB
  go_loopw [20] (fun i wr => ∃ k : Nat, k ≤ l.length ∧ i = .int .i64 (k : Int) ∧ Hid (∀ j, j < k → decide (2 * uu j ≤ (l.getD j none_Slot).2.2.2) = true) ∧ Hid (PairMap wr M Sp) ∧ Hid (wr.ownsRow w.heap.size 34 4 (.slice a0 l.length cap) l.length (row_Slot l)) ∧ Hid (wr.heap[nb]? = some (.cells #[.int .i64 b0, .int .i64 b1, .int .u64 (b2 : Int)] 63)) ∧ Hid (wr.heap[w.heap.size]? = some (.cells #[.func (.func 60) #[] #[]] 107)) ∧ Hid (Below w.heap.size w wr)) (fun i _ => l.length - (intOf i).toNat)
  case atStart => exact ⟨0, Nat.zero_le _, rfl, Lib.hid (fun j hj => by omega), HM4, HL4, HX4, HR4, HB4⟩
  case round =>
    clear HM4 HL4 HX4 HR4 HB4
    obtain ⟨k, hk, rfl, HA, HM, HL, HX, HR, HB⟩ := hrel
    by_cases hlt : k < l.length
    · have hd : decide ((k : Int) < (l.length : Int)) = true := decide_eq_true (by omega)
      have hd9 : decide (k < l.length) = true := decide_eq_true hlt
      obtain ⟨b, rfl, q0, q1, q2, q3⟩ := slot_cells HL.out rfl k hlt
      have HUN := Lib.hid (HUB.out (l.getD k none_Slot) (getD_in hlt))
      rw [HUK.out] at HUN
      have HHK := Lib.hid (HHO.out k hlt)
      have HYK := Lib.hid (HY.out k hlt)
      have HAK : Hid (decide (2 * uu k ≤ (l.getD k none_Slot).2.2.2) = true → ∀ j, j < k + 1 → decide (2 * uu j ≤ (l.getD j none_Slot).2.2.2) = true) := Lib.hid (fun h j hj => by
        by_cases e : j = k
        · subst e; exact h
        · exact HA.out j (by omega))
      obtain ⟨u, hu⟩ : ∃ u, u = uu k := ⟨_, rfl⟩
      rw [← hu] at HUN HHK
      try rw [← hu] at HYK
      try rw [← hu] at HAK
      clear hu
      obtain ⟨y, hy⟩ : ∃ y, y = l.getD k none_Slot := ⟨_, rfl⟩
      rw [← hy] at q0 q1 q2 q3 HUN HHK HYK HAK
      clear hy
      obtain ⟨t0, t1, t2, t3⟩ := y
      simp only at q0 q1 q2 q3 HUN HHK HYK HAK
      go_wp2_with fail
      obtain ⟨W2, hW2⟩ : ∃ W2, W2 = wr.alloc (.cells #[.int .i64 t0, .bool t1, .int .i64 t2, .int .i64 t3] 34) := ⟨_, rfl⟩
      have bo := (Below.refl wr.heap.size wr).alloc (Nat.le_refl _) (.cells #[.int .i64 t0, .bool t1, .int .i64 t2, .int .i64 t3] 34)
      rw [← hW2] at bo
      have HM2 := Lib.hid (pm_below HM.out bo)
      have HL2 := Lib.hid (ownV_later HL.out bo)
      have HX2 := Lib.hid (block_later HX.out bo (Array.getElem?_eq_some_iff.1 HX.out).1)
      have HR2 := Lib.hid (block_later HR.out bo (Array.getElem?_eq_some_iff.1 HR.out).1)
      have HB2 := Lib.hid (HB.out.trans (bo.mono HB.out.size))
      have HS2 : Hid (W2.heap[wr.heap.size]? = some (.cells #[.int .i64 t0, .bool t1, .int .i64 t2, .int .i64 t3] 34)) := Lib.hid (by rw [hW2]; exact new_block wr _)
      rw [← hW2]
      clear hW2 bo HM HL HX HR HB q0 q1 q2 q3
      have SOT : Hid (∀ W : World, Below W2.heap.size W2 W → (W.cell? ⟨nb, 0, none⟩ = some (.int .i64 b0) ∧ W.cell? ⟨nb, 1, none⟩ = some (.int .i64 b1) ∧ W.cell? ⟨nb, 2, none⟩ = some (.int .u64 (b2 : Int))) ∧ (W.cell? ⟨wr.heap.size, 0, none⟩ = some (.int .i64 t0) ∧ W.cell? ⟨wr.heap.size, 1, none⟩ = some (.bool t1) ∧ W.cell? ⟨wr.heap.size, 2, none⟩ = some (.int .i64 t2) ∧ W.cell? ⟨wr.heap.size, 3, none⟩ = some (.int .i64 t3)) ∧ W.cell? ⟨w.heap.size, 0, none⟩ = some (.func (.func 60) #[] #[])) := Lib.hid (fun W h => by
        have h7 := block_later HX2.out h (Array.getElem?_eq_some_iff.1 HX2.out).1
        have h8 := block_later HS2.out h (Array.getElem?_eq_some_iff.1 HS2.out).1
        have h9 := block_later HR2.out h (Array.getElem?_eq_some_iff.1 HR2.out).1
        exact ⟨⟨Joins.cell_of_block h7 0, Joins.cell_of_block h7 1, Joins.cell_of_block h7 2⟩, ⟨Joins.cell_of_block h8 0, Joins.cell_of_block h8 1, Joins.cell_of_block h8 2, Joins.cell_of_block h8 3⟩, Joins.cell_of_block h9 0⟩)
      have hbn : Below W2.heap.size W2 W2 := Below.refl _ _
      rcases hP : decide (2 * u ≤ t3) with _ | _
      · rw [hP] at HHK
        have HQ := Lib.hid (HYK.out hP)
        clear HYK HAK hP HA HL2
        have F1 := Lib.hid trivial
        go_region_held3 (fun W => (W.cell? ⟨nb, 0, none⟩ = some (.int .i64 b0) ∧ W.cell? ⟨nb, 1, none⟩ = some (.int .i64 b1) ∧ W.cell? ⟨nb, 2, none⟩ = some (.int .u64 (b2 : Int))) ∧ (W.cell? ⟨wr.heap.size, 0, none⟩ = some (.int .i64 t0) ∧ W.cell? ⟨wr.heap.size, 1, none⟩ = some (.bool t1) ∧ W.cell? ⟨wr.heap.size, 2, none⟩ = some (.int .i64 t2) ∧ W.cell? ⟨wr.heap.size, 3, none⟩ = some (.int .i64 t3)) ∧ W.cell? ⟨w.heap.size, 0, none⟩ = some (.func (.func 60) #[] #[])) (first | exact SOT.out _ hbn | exact SOT.out _ hbn.drew) (first | (have FG := F1; go_at_call 38; refine Calls.mono (HUN.out M _ (pm_below HM2.out (by first | exact hbn.drew | exact hbn))) ?_; rintro e w6 ⟨rfl, b6⟩; have hbm : Below W2.heap.size W2 _ := (by first | exact hbn.trans (b6.mono hbn.size) | exact hbn.drew.trans b6); clear hbn; have hbn := hbm; clear hbm b6 F1 FG; have F2 := Lib.hid trivial; have HB7 := Lib.hid (HB2.out.trans (hbn.mono HB2.out.size))) | (have FG := F2; go_at_call 60; refine Calls.mono (HHK.out _) ?_; rintro e w7 ⟨rfl, rfl⟩; clear F2 FG))
        all_goals go_wp2_with fail
        all_goals go_ret
        all_goals exact ⟨by rw [HQ.out]; rfl, HB7.out⟩
      · rw [hP] at HHK
        have HAN := Lib.hid (HAK.out hP)
        clear HYK HAK hP HA
        have F1 := Lib.hid trivial
        go_region_held3 (fun W => (W.cell? ⟨nb, 0, none⟩ = some (.int .i64 b0) ∧ W.cell? ⟨nb, 1, none⟩ = some (.int .i64 b1) ∧ W.cell? ⟨nb, 2, none⟩ = some (.int .u64 (b2 : Int))) ∧ (W.cell? ⟨wr.heap.size, 0, none⟩ = some (.int .i64 t0) ∧ W.cell? ⟨wr.heap.size, 1, none⟩ = some (.bool t1) ∧ W.cell? ⟨wr.heap.size, 2, none⟩ = some (.int .i64 t2) ∧ W.cell? ⟨wr.heap.size, 3, none⟩ = some (.int .i64 t3)) ∧ W.cell? ⟨w.heap.size, 0, none⟩ = some (.func (.func 60) #[] #[])) (first | exact SOT.out _ hbn | exact SOT.out _ hbn.drew) (first | (have FG := F1; go_at_call 38; refine Calls.mono (HUN.out M _ (pm_below HM2.out (by first | exact hbn.drew | exact hbn))) ?_; rintro e w6 ⟨rfl, b6⟩; have hbm : Below W2.heap.size W2 _ := (by first | exact hbn.trans (b6.mono hbn.size) | exact hbn.drew.trans b6); clear hbn; have hbn := hbm; clear hbm b6 F1 FG; have F2 := Lib.hid trivial; have HB7 := Lib.hid (HB2.out.trans (hbn.mono HB2.out.size)); have HM7 := Lib.hid (pm_below HM2.out hbn); have HL7 := Lib.hid (ownV_later HL2.out hbn); have HX7 := Lib.hid (block_later HX2.out hbn (Array.getElem?_eq_some_iff.1 HX2.out).1); have HR7 := Lib.hid (block_later HR2.out hbn (Array.getElem?_eq_some_iff.1 HR2.out).1)) | (have FG := F2; go_at_call 60; refine Calls.mono (HHK.out _) ?_; rintro e w7 ⟨rfl, rfl⟩; clear F2 FG))
        all_goals go_wp2_with fail
        all_goals go_roundw
        all_goals first | exact ⟨k + 1, by omega, by go_num, HAN, HM7, HL7, HX7, HR7, HB7⟩ | (simp [intOf]; omega)
    · have hd : decide ((k : Int) < (l.length : Int)) = false := decide_eq_false (by omega)
      have hd9 : decide (k < l.length) = false := decide_eq_false hlt
      have HQ := Lib.hid (HN.out (fun j hj => HA.out j (by omega)))
      go_wp2
      go_ret
      exact ⟨by rw [HQ.out]; rfl, HB.out⟩
end Go.Proofs.YthgnhcjbjdhjfaaGreatDoor
