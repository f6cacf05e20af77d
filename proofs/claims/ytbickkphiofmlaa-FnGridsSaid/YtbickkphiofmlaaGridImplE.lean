/-
  The program's contracts of chapter 7, fifth part: IsGrid, IsWhite, TurnGrid, IsSymmetric.
-/
import Derived.Test.YtbickkphiofmlaaGridImplD
import Derived.Test.YtbickkphiofmlaaGridTwo
namespace Go.Proofs.Ytbickkphiofmlaa
open Go.RowKit

theorem brd_fits (g : Int × Int × ByteArray) : ∃ n : Nat, (brd g).1 * (brd g).2.1 = (n : Int) ∧ n ≤ 36 ∧ (brd g).2.2 < 18446744073709551616 ∧ (isG g = true → n = g.2.2.size ∧ brd g = (g.1, g.2.1, wT g.2.2 n)) ∧ (isG g = false → n = 0 ∧ brd g = (0, 0, 0)) := by
  by_cases h : isG g = true
  · have hs := isG_size h
    obtain ⟨h1, h2, h3, -⟩ := of_decide_eq_true h
    have hb : brd g = (g.1, g.2.1, wT g.2.2 g.2.2.size) := by unfold brd; rw [if_pos h]
    refine ⟨g.2.2.size, ?_, hs, ?_, fun _ => ⟨rfl, hb⟩, fun e => by rw [h] at e; cases e⟩
    · rw [hb]; exact h3.symm
    · rw [hb]; exact Nat.lt_trans (wT_lt g.2.2 _ hs) (by decide)
  · have hb : brd g = (0, 0, 0) := by unfold brd; rw [if_neg h]
    refine ⟨0, by rw [hb]; rfl, by decide, by rw [hb]; decide, fun e => absurd e h, fun _ => ⟨rfl, hb⟩⟩
theorem box1_of {w w' : World} {A : Array Value} {t : TypeId} (h : Below (w.alloc (.cells A t)).heap.size (w.alloc (.cells A t)) w') : Below w.heap.size w w' := (box1 h).2
theorem iisg_any (r c : Int) (s : ByteArray) (hs : s.size ≤ 4194304) (w : World) :
    Calls Try.prog 14 #[.agg #[.int .i64 r, .int .i64 c, .string s]] w fun e w' => e = .returned (.bool (isG (r, c, s))) ∧ Below w.heap.size w w' := by
  have HBO := Lib.hid (fun w => ibo_any r c s hs w)
  go_enter Try.func14, Try.ntmps14
  go_wp2_with (go_at_call 36; refine (HBO.out _).mono ?_; rintro e w1 ⟨rfl, b1⟩; simp only [brdV]; have HB := Lib.hid (box1_of b1); clear b1)
  go_ret
  exact ⟨rfl, HB.out.alloc HB.out.size _⟩
theorem whB_isWh {g : Int × Int × ByteArray} (h : isG g = true) (k : Int) : whB g.2.2.size (wT g.2.2 g.2.2.size) k = isWh g k := by
  unfold whB isWh
  rw [h, Bool.true_and]
  by_cases hk : 0 ≤ k ∧ k ≤ (g.2.2.size : Int) - 1
  · rw [decide_eq_true hk, Bool.true_and, Bool.true_and, wT_bit _ _ _ (by omega)]
  · rw [decide_eq_false hk, Bool.false_and, Bool.false_and]
set_option maxHeartbeats 800000 in
theorem iiswh_any (r c : Int) (s : ByteArray) (k : Int) (hs : s.size ≤ 4194304) (w : World) :
    Calls Try.prog 20 #[.agg #[.int .i64 r, .int .i64 c, .string s], .int .i64 k] w fun e w' => e = .returned (.bool (isWh (r, c, s) k)) ∧ Below w.heap.size w w' := by
  have HBO := Lib.hid (fun w => ibo_any r c s hs w)
  obtain ⟨n, hn, h36, hS, hy, -⟩ := brd_fits (r, c, s)
  have HW := Lib.hid (fun w => ibw_any _ _ n _ hn h36 hS k w)
  obtain ⟨p, hp⟩ : ∃ p, p = isG (r, c, s) := ⟨_, rfl⟩
  have HE : Hid (p = true → whB n (brd (r, c, s)).2.2 k = isWh (r, c, s) k) := Lib.hid (fun h => by obtain ⟨h1, h2⟩ := hy (hp.symm.trans h); rw [h2, h1]; exact whB_isWh (hp.symm.trans h) k)
  have HF : Hid (p = false → isWh (r, c, s) k = false) := Lib.hid (fun h => by unfold isWh; rw [← hp, h]; rfl)
  rw [← hp] at HBO
  clear hp hy hn h36 hS
  obtain ⟨⟨b0, b1, b2⟩, hb⟩ : ∃ b, b = brd (r, c, s) := ⟨_, rfl⟩
  rw [← hb] at HBO HW HE
  clear hb
  cases p with
  | false =>
    have HG := Lib.hid (HF.out rfl)
    go_enter Try.func20, Try.ntmps20
    go_wp2_with (go_at_call 36; refine (HBO.out _).mono ?_; rintro e w1 ⟨rfl, b1⟩; simp only [brdV]; have HB := Lib.hid (box1_of b1); clear b1)
    go_ret
    exact ⟨by rw [HG.out]; rfl, HB.out.alloc HB.out.size _⟩
  | true =>
    have HG := Lib.hid (HE.out rfl)
    go_enter Try.func20, Try.ntmps20
    go_wp2_with (first | (go_at_call 36; refine (HBO.out _).mono ?_; rintro e w1 ⟨rfl, b1⟩; simp only [brdV]; have HB := Lib.hid (box1_of b1); clear b1) | (go_at_call 43; refine (HW.out _).mono ?_; rintro e w2 ⟨rfl, b2⟩; have HB2 := Lib.hid b2; clear b2))
    go_ret
    exact ⟨by rw [← HG.out]; rfl, (HB.out.alloc HB.out.size _).trans (HB2.out.mono (by have := HB.out.size; simp; omega))⟩
theorem sgB_wT (s : ByteArray) (h : ∀ b ∈ s.data.toList, b = 35 ∨ b = 46) : sgB s.size (wT s s.size) = s.data.toList := by
  refine List.ext_getElem? fun i => ?_
  by_cases hi : i < s.size
  · have h2 : i < s.data.toList.length := by rw [size_list]; exact hi
    unfold sgB
    rw [List.getElem?_map, List.getElem?_range hi, Option.map_some, wT_bit s _ i hi, List.getD_eq_getElem?_getD, List.getElem?_eq_getElem h2, Option.getD_some]
    rcases h _ (List.getElem_mem h2) with e | e <;> rw [e] <;> rfl
  · rw [List.getElem?_eq_none (by rw [sgB_length]; omega), List.getElem?_eq_none (by rw [size_list]; omega)]
theorem turn_list {g : Int × Int × ByteArray} (h : isG g = true) : (⟨(sgB g.2.2.size (revN (wT g.2.2 g.2.2.size) / 2 ^ (64 - g.2.2.size))).toArray⟩ : ByteArray) = backL g.2.2 := by
  have hs := isG_size h
  obtain ⟨-, -, -, hb⟩ := of_decide_eq_true h
  have hz : (backL g.2.2).size = g.2.2.size := back_size (by omega)
  have h1 : ∀ b ∈ (backL g.2.2).data.toList, b = 35 ∨ b = 46 := fun b hm => by rw [back_list (by omega)] at hm; exact hb b (List.mem_reverse.1 hm)
  rw [turn_bits g.2.2 _ rfl hs, ← hz, sgB_wT _ h1]
set_option maxHeartbeats 800000 in
theorem iturn_any (r c : Int) (s : ByteArray) (hs : s.size ≤ 4194304) (w : World) :
    Calls Try.prog 16 #[.agg #[.int .i64 r, .int .i64 c, .string s]] w fun e w' => e = .returned (aggG (turnG (r, c, s))) ∧ Below w.heap.size w w' := by
  have HBO := Lib.hid (fun w => ibo_any r c s hs w)
  obtain ⟨n, hn, h36, hS, hy, hno⟩ := brd_fits (r, c, s)
  have HT := Lib.hid (fun w => iturned_any _ _ n _ hn h36 hS w)
  have hT2 : revN (brd (r, c, s)).2.2 / 2 ^ (64 - n) < 18446744073709551616 := Nat.lt_of_le_of_lt (Nat.div_le_self _ _) (revN_lt _)
  have HG := Lib.hid (fun w => igrid_any _ _ n _ hn h36 hT2 w)
  have HE : Hid (turnG (r, c, s) = ((brd (r, c, s)).1, (brd (r, c, s)).2.1, ⟨(sgB n (revN (brd (r, c, s)).2.2 / 2 ^ (64 - n))).toArray⟩)) := Lib.hid (by
    unfold turnG
    by_cases h : isG (r, c, s) = true
    · obtain ⟨h1, h2⟩ := hy h
      rw [if_pos h, h2, h1, turn_list h]
    · obtain ⟨h1, h2⟩ := hno (by simpa using h)
      rw [if_neg h, h2, h1]; rfl)
  clear hy hno hn h36 hS hT2
  rw [HE.out]
  obtain ⟨p, hp⟩ : ∃ p, p = isG (r, c, s) := ⟨_, rfl⟩
  rw [← hp] at HBO
  clear hp HE
  obtain ⟨⟨b0, b1, b2⟩, hb⟩ : ∃ b, b = brd (r, c, s) := ⟨_, rfl⟩
  rw [← hb] at HBO HT HG ⊢
  clear hb
  have HBX := Lib.hid (fun w' => @box33 w w' #[.int .i64 r, .int .i64 c, .string s] #[.int .i64 0, .int .i64 0, .string ⟨#[]⟩] 25 25)
  go_enter Try.func16, Try.ntmps16
  go_wp2_with (first | (go_at_call 36; refine (HBO.out _).mono ?_; rintro e w1 ⟨rfl, b1⟩; simp only [brdV]; have HR := Lib.hid (HBX.out _ b1).2.1; have HB := Lib.hid (HBX.out _ b1).2.2; clear b1) | (go_at_call 38; refine (HT.out _).mono ?_; rintro e w2 ⟨rfl, b2⟩; have HR2 := Lib.hid ((b2.block (w.heap.size + 1) (by have := size_of_heap HR.out; simp; omega)).trans ((Below.heap_alloc _ _ (w.heap.size + 1) (size_of_heap HR.out)).trans HR.out)); have HB2 := Lib.hid ((HB.out.alloc HB.out.size _).trans (b2.mono (by have := HB.out.size; simp; omega))); clear b2) | (go_at_call 39; refine (HG.out _).mono ?_; rintro e w3 ⟨rfl, b3⟩; have HR3 := Lib.hid ((b3.block (w.heap.size + 1) (size_of_heap HR2.out)).trans HR2.out); have HB3 := Lib.hid (HB2.out.trans (b3.mono HB2.out.size)); obtain ⟨z0, z1, z2, y0, y1, y2⟩ := cells3 HR3.out; clear b3))
  exact bodyPost_ret (v := .agg #[.int .i64 b0, .int .i64 b1, .string ⟨(sgB n (revN b2 / 2 ^ (64 - n))).toArray⟩]) (by simp [results, Try.results16, go_sem, z0, z1, z2]) rfl ⟨rfl, (((HB3.out.setCell (p := ⟨w.heap.size + 1, 0, none⟩) (by simp) _).setCell (p := ⟨w.heap.size + 1, 1, none⟩) (by simp) _).setCell (p := ⟨w.heap.size + 1, 2, none⟩) (by simp) _)⟩
set_option maxHeartbeats 1600000 in
theorem isym_any (r c : Int) (s : ByteArray) (hs : s.size ≤ 1048576) (w : World) :
    Calls Try.prog 17 #[.agg #[.int .i64 r, .int .i64 c, .string s]] w fun e w' => e = .returned (.bool (symG (r, c, s))) ∧ Below w.heap.size w w' := by
  obtain ⟨p, hp⟩ : ∃ p, p = isG (r, c, s) := ⟨_, rfl⟩
  have HIG := Lib.hid (fun w => iisg_any r c s (by omega) w)
  have HTG := Lib.hid (fun w => iturn_any r c s (by omega) w)
  rw [show turnG (r, c, s) = if p = true then (r, c, backL s) else (0, 0, ⟨#[]⟩) from by rw [hp]; rfl] at HTG
  rw [← hp] at HIG
  have HE : Hid (symG (r, c, s) = (p && decide (backL s = s))) := Lib.hid (by rw [hp]; rfl)
  clear hp
  go_enter Try.func17, Try.ntmps17
  have HBX : Hid (Below w.heap.size w (w.alloc (.cells #[.int .i64 r, .int .i64 c, .string s] 25))) := Lib.hid ((Below.refl _ _).alloc (Nat.le_refl _) _)
  have HKP : Hid (∀ w', Below (w.alloc (.cells #[.int .i64 r, .int .i64 c, .string s] 25)).heap.size (w.alloc (.cells #[.int .i64 r, .int .i64 c, .string s] 25)) w' → w'.cell? ⟨w.heap.size, 0, none⟩ = some (.int .i64 r) ∧ w'.cell? ⟨w.heap.size, 1, none⟩ = some (.int .i64 c) ∧ w'.cell? ⟨w.heap.size, 2, none⟩ = some (.string s)) := Lib.hid (fun w' h => ⟨(box3_keep h).1, (box3_keep h).2.1, (box3_keep h).2.2.1⟩)
  obtain ⟨e0, e1, e2⟩ := HKP.out _ (Below.refl _ _)
  go_wp2
  obtain ⟨W0, hW0⟩ : ∃ W0, W0 = w.alloc (.cells #[.int .i64 r, .int .i64 c, .string s] 25) := ⟨_, rfl⟩
  rw [← hW0] at HBX HKP e0 e1 e2 ⊢
  clear hW0
  cases p with
  | false =>
    have HF : Hid (symG (r, c, s) = false) := Lib.hid (by rw [HE.out]; rfl)
    clear HE HTG
    go_region_with (first | (go_at_call 14; refine (HIG.out _).mono ?_; rintro e w1 ⟨rfl, b1⟩; have B1 : Hid (Below W0.heap.size W0 w1) := Lib.hid (((Below.refl W0.heap.size W0).drew).trans b1); obtain ⟨e0', e1', e2'⟩ := HKP.out _ B1.out; clear b1))
    all_goals (go_wp2; go_ret; exact ⟨by rw [HF.out]; rfl, HBX.out.trans (B1.out.mono HBX.out.size)⟩)
  | true =>
    rw [if_pos rfl] at HTG
    by_cases hb : backL s = s
    · have HF : Hid (symG (r, c, s) = true) := Lib.hid (by rw [HE.out, decide_eq_true hb]; rfl)
      rw [hb] at HTG
      clear HE hb
      go_region_with (first | (go_at_call 14; refine (HIG.out _).mono ?_; rintro e w1 ⟨rfl, b1⟩; have B1 : Hid (Below W0.heap.size W0 w1) := Lib.hid (((Below.refl W0.heap.size W0).drew).trans b1); obtain ⟨e0', e1', e2'⟩ := HKP.out _ B1.out; clear b1) | (go_at_call 16; refine (HTG.out _).mono ?_; rintro e w2 ⟨rfl, b2⟩; simp only [aggG]; have B2 : Hid (Below W0.heap.size W0 w2) := Lib.hid (B1.out.trans (b2.mono B1.out.size)); obtain ⟨e0'', e1'', e2''⟩ := HKP.out _ B2.out; clear b2))
      all_goals (go_wp2; go_ret; exact ⟨by rw [HF.out]; rfl, HBX.out.trans (B2.out.mono HBX.out.size)⟩)
    · have HF : Hid (symG (r, c, s) = false) := Lib.hid (by rw [HE.out, decide_eq_false hb]; rfl)
      clear HE
      have hb2 := toList_ne (Ne.symm hb)
      clear hb
      go_region_with (first | (go_at_call 14; refine (HIG.out _).mono ?_; rintro e w1 ⟨rfl, b1⟩; have B1 : Hid (Below W0.heap.size W0 w1) := Lib.hid (((Below.refl W0.heap.size W0).drew).trans b1); obtain ⟨e0', e1', e2'⟩ := HKP.out _ B1.out; clear b1) | (go_at_call 16; refine (HTG.out _).mono ?_; rintro e w2 ⟨rfl, b2⟩; simp only [aggG]; have B2 : Hid (Below W0.heap.size W0 w2) := Lib.hid (B1.out.trans (b2.mono B1.out.size)); obtain ⟨e0'', e1'', e2''⟩ := HKP.out _ B2.out; clear b2))
      all_goals (go_wp2; go_ret; exact ⟨by rw [HF.out]; rfl, HBX.out.trans (B2.out.mono HBX.out.size)⟩)
end Go.Proofs.Ytbickkphiofmlaa
