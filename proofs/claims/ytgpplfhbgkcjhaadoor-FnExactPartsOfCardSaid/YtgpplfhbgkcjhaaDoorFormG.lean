/-
  The model's contracts of chapter 10, third part: PartsOf.
-/
import Derived.Test.YtgpplfhbgkcjhaaDoorFormF
import Derived.Test.YtgpplfhbgkcjhaaDoorPatB
namespace Go.Proofs.YtgpplfhbgkcjhaaDoor
open Go.RowKit

theorem infoBoolP : (Tryd.prog.info? 4).map (fun i => (i.zero, i.size, i.bytes)) = some (some (.bool false), 1, 1) := by kernel_rfl
theorem block_app {W W' : World} {b base n : Nat} {o : Obj} {e : TypeId} {v : Value} {xs : List Value} (h : W.heap[b]? = some o) (ho : W.ownsRow base e 1 v n xs) (hg : W.grownBy W' v.ownBlock) (hb : b < base) : W'.heap[b]? = some o :=
  (hg.block b (Array.getElem?_eq_some_iff.1 h).1 (fun e => by have := (ho.lt b e.symm).1; omega)).trans h
theorem rep_snoc (k : Nat) : (List.replicate k false).map Value.bool ++ [.bool false] = (List.replicate (k + 1) false).map Value.bool := by
  rw [List.replicate_succ', List.map_append]; rfl
theorem bool_some {W : World} {base n : Nat} {e : TypeId} {v : Value} {xs : List Value} (h : W.ownsRow base e 1 v n xs) (h0 : 0 < n) : ∃ g cap, v = .slice (some ⟨g, 0, none⟩) n cap ∧ base ≤ g ∧ g < W.heap.size := by
  rcases h.2 with ⟨e9, hl⟩ | ⟨g, cap', cur, e9, h1, h2, -⟩
  · omega
  · exact ⟨g, cap', e9, h1, (Array.getElem?_eq_some_iff.1 h2).1⟩
theorem one_bytes (k : Nat) (hk : k ≤ 4194304) : (k + 1) * 1 ≤ 140737488355328 := by omega
/-- Two rows of marks joined up to a place. -/
def joinB (A O : List Bool) (k : Nat) : List Bool := (List.range A.length).map fun j => if j < k then A.getD j false || O.getD j false else A.getD j false
theorem joinB_len (A O : List Bool) (k : Nat) : (joinB A O k).length = A.length := by simp [joinB]
theorem joinB_get (A O : List Bool) (k j : Nat) : (joinB A O k).getD j false = if j < A.length then (if j < k then A.getD j false || O.getD j false else A.getD j false) else false := by
  unfold joinB
  rw [List.getD_eq_getElem?_getD, List.getElem?_map]
  by_cases h : j < A.length
  · rw [List.getElem?_range h, if_pos h]; rfl
  · rw [if_neg h, List.getElem?_eq_none (by simpa using h)]; rfl
theorem joinB_zero (A O : List Bool) : joinB A O 0 = A := by
  apply List.ext_getElem
  · simp [joinB]
  · intro j h1 h2
    simp [joinB, List.getD, h2]
theorem joinB_next (A O : List Bool) (k : Nat) (_hk : k < A.length) : (joinB A O k).set k (A.getD k false || O.getD k false) = joinB A O (k + 1) := by
  apply List.ext_getElem
  · simp [joinB]
  · intro j h1 h2
    rw [List.getElem_set]
    by_cases e : k = j
    · subst e; simp [joinB]
    · rw [if_neg e]
      simp only [joinB, List.getElem_map, List.getElem_range]
      by_cases h : j < k
      · rw [if_pos h, if_pos (by omega)]
      · rw [if_neg h, if_neg (by omega)]
theorem store_boolV {B : List Bool} {m : Nat} {b : Bool} : (B.map Value.bool).set m (.bool b) = (B.set m b).map Value.bool := by rw [List.map_set]
theorem keep_row {W W' : World} {base n g : Nat} {e : TypeId} {v : Value} {xs : List Value} (h : W.ownsRow base e 1 v n xs) (hg : W.grownBy W' (some g)) (hne : v.ownBlock ≠ some g) : W'.ownsRow base e 1 v n xs := h.kept hg (.inr hne)
/-- The parts have one cell each, apart from one another, that lead to all others. -/
theorem parts_repsG (W : Nat → Bool) (c n : Nat) (L : List Nat) : ∃ D : List Nat, D.length = (partsQ W c n L).2 ∧ (∀ d ∈ D, d ∈ L) ∧ D.Pairwise (fun a b => ¬ Reach W c n a b) ∧ (∀ k, (partsQ W c n L).1 k = true ↔ ∃ d ∈ D, Reach W c n d k) ∧ ∀ i ∈ L, ∃ d ∈ D, Reach W c n d i := by
  suffices h : ∀ M : List Nat, ∃ D : List Nat, D.length = (partsQ W c n M.reverse).2 ∧ (∀ d ∈ D, d ∈ M.reverse) ∧ D.Pairwise (fun a b => ¬ Reach W c n a b) ∧ (∀ k, (partsQ W c n M.reverse).1 k = true ↔ ∃ d ∈ D, Reach W c n d k) ∧ ∀ i ∈ M.reverse, ∃ d ∈ D, Reach W c n d i by
    have := h L.reverse
    rwa [List.reverse_reverse] at this
  intro M
  induction M with
  | nil => exact ⟨[], rfl, by simp, List.Pairwise.nil, by simp [partsQ], by simp⟩
  | cons i M ih =>
    obtain ⟨D, h1, h2, h3, h4, h5⟩ := ih
    rw [List.reverse_cons, partsQ_snoc]
    unfold stepQ
    by_cases hm : (partsQ W c n M.reverse).1 i = true
    · rw [if_pos hm]
      refine ⟨D, h1, fun d hd => List.mem_append_left _ (h2 d hd), h3, h4, fun j hj => ?_⟩
      rcases List.mem_append.1 hj with hj | hj
      · exact h5 j hj
      · rw [List.mem_singleton] at hj; subst hj; exact (h4 _).1 hm
    · rw [if_neg hm]
      refine ⟨D ++ [i], by rw [List.length_append, h1]; rfl, fun d hd => ?_, ?_, fun k => ?_, fun j hj => ?_⟩
      · rcases List.mem_append.1 hd with hd | hd
        · exact List.mem_append_left _ (h2 d hd)
        · exact List.mem_append_right _ hd
      · rw [List.pairwise_append]
        refine ⟨h3, List.pairwise_singleton _ _, fun a ha b hb hr => ?_⟩
        rw [List.mem_singleton] at hb
        subst hb
        exact hm ((h4 _).2 ⟨a, ha, hr⟩)
      · show ((partsQ W c n M.reverse).1 k || reachB W c n i k) = true ↔ _
        rw [Bool.or_eq_true, h4, reachB_iff]
        constructor
        · rintro (⟨d, hd, hr⟩ | hr)
          · exact ⟨d, List.mem_append_left _ hd, hr⟩
          · exact ⟨i, by simp, hr⟩
        · rintro ⟨d, hd, hr⟩
          rcases List.mem_append.1 hd with hd | hd
          · exact .inl ⟨d, hd, hr⟩
          · rw [List.mem_singleton] at hd; subst hd; exact .inr hr
      · rcases List.mem_append.1 hj with hj | hj
        · obtain ⟨d, hd, hr⟩ := h5 j hj
          exact ⟨d, List.mem_append_left _ hd, hr⟩
        · rw [List.mem_singleton] at hj; subst hj; exact ⟨j, by simp, .base⟩
theorem met_lt (g : Int × Int × ByteArray) (k : Nat) (hk : k ≤ g.2.2.size) : ∀ j, (partsTo g k).1 j = true → j < g.2.2.size := by
  intro j hj
  obtain ⟨D, -, d2, -, d4, -⟩ := parts_repsG (whF g.2.2) g.2.1.toNat g.2.2.size ((List.range k).filter (whF g.2.2))
  obtain ⟨d, hd, hr⟩ := (d4 j).1 hj
  have h1 := d2 d hd
  rw [List.mem_filter, List.mem_range] at h1
  exact reach_lt (by omega) hr
set_option maxRecDepth 100000 in
set_option maxHeartbeats 3200000 in
theorem spt_any (r c : Int) (s : ByteArray) (hs : s.size ≤ 4194304) (w : World) :
    Calls Tryd.prog 28 #[.agg #[.int .i64 r, .int .i64 c, .string s]] w fun e w' => e = .returned (.int .i64 (partsG (r, c, s))) ∧ Below w.heap.size w w' := by
  obtain ⟨i0, hi, hz0, hz1, hz2⟩ := info_parts infoBoolP
  have HIG := Lib.hid (fun w => sisg_any r c s hs w)
  have HPG : Hid (partsG (r, c, s) = if isG (r, c, s) = true then (((partsTo (r, c, s) s.size).2 : Nat) : Int) else 0) := Lib.hid rfl
  go_enter Tryd.func28, Tryd.ntmps28
  go_wp2_with fail
  obtain ⟨W1, hW1⟩ : ∃ W1, W1 = w.alloc (.cells #[.int .i64 r, .int .i64 c, .string s] 25) := ⟨_, rfl⟩
  have hs1 : W1.heap.size = w.heap.size + 1 := by rw [hW1]; simp
  have HB1 : Hid (Below w.heap.size w W1) := Lib.hid (by rw [hW1]; exact (Below.refl _ _).alloc (Nat.le_refl _) _)
  have HX1 : Hid (W1.heap[w.heap.size]? = some (.cells #[.int .i64 r, .int .i64 c, .string s] 25)) := Lib.hid (by rw [hW1]; exact new_block w _)
  rw [← hW1]
  clear hW1
  have HR2 : Hid ((W1.alloc (.cells #[] 4)).ownsRow (w.heap.size + 1) 4 1 (.slice (some ⟨w.heap.size + 1, 0, none⟩) 0 0) 0 ((List.replicate 0 false).map Value.bool)) := Lib.hid (by have h9 := own_empty W1 4; rw [hs1] at h9; exact h9)
  have HX2 : Hid ((W1.alloc (.cells #[] 4)).heap[w.heap.size]? = some (.cells #[.int .i64 r, .int .i64 c, .string s] 25)) := Lib.hid (by rw [Below.heap_alloc _ _ w.heap.size (by omega)]; exact HX1.out)
  have HB2 : Hid (Below w.heap.size w (W1.alloc (.cells #[] 4))) := Lib.hid (HB1.out.alloc HB1.out.size _)
  clear HX1 HB1
  go_loopw [4, 5] (fun v i wr => ∃ k : Nat, k ≤ s.size ∧ i = .int .i64 (k : Int) ∧ Hid (wr.ownsRow (w.heap.size + 1) 4 1 v k ((List.replicate k false).map Value.bool)) ∧ Hid (wr.heap[w.heap.size]? = some (.cells #[.int .i64 r, .int .i64 c, .string s] 25)) ∧ Hid (Below w.heap.size w wr)) (fun _ i _ => s.size - (intOf i).toNat)
  case atStart => exact ⟨0, Nat.zero_le _, rfl, HR2, HX2, HB2⟩
  case round =>
    clear HR2 HX2 HB2
    obtain ⟨k, hk, rfl, HR, HX, HB⟩ := hrel
    obtain ⟨gx0, gx1, gx2⟩ := gbox HX.out
    by_cases hlt : k < s.size
    · have hd : decide ((k : Int) < (s.size : Int)) = true := decide_eq_true (by omega)
      have hd9 : decide (k < s.size) = true := decide_eq_true hlt
      obtain ⟨a0, cap, rfl⟩ := ownV_slice HR.out
      have HBA := Lib.hid (HB.out.alloc HB.out.size (.cells #[.bool false] 4))
      have HXA : Hid ((wr.alloc (.cells #[.bool false] 4)).heap[w.heap.size]? = some (.cells #[.int .i64 r, .int .i64 c, .string s] 25)) := Lib.hid (by rw [Below.heap_alloc _ _ w.heap.size (Array.getElem?_eq_some_iff.1 HX.out).1]; exact HX.out)
      have HRA := Lib.hid (HR.out.alloc (.cells #[.bool false] 4))
      have hwb : w.heap.size + 1 ≤ (wr.alloc (.cells #[.bool false] 4)).heap.size := by have := (Array.getElem?_eq_some_iff.1 HX.out).1; simp; omega
      go_wp2_with (at_builtin; refine appendV_reads _ rfl _ _ 68 rfl (w.heap.size + 1) 4 i0 (.bool false) 1 1 Tryd.underlying68 hi hz0 hz1 hz2 rfl (by decide) _ _ _ rfl HRA.out (some ⟨wr.heap.size, 0, none⟩) 1 1 [.bool false] rfl rfl (fun u hu => by rw [List.mem_singleton.1 hu]; rfl) (fun e => by cases e) (one_srcP wr (.bool false) _) (by omega) (one_bytes k (by omega)) hwb ?_; intro v3 w3 hown hgrow)
      have HR3 : Hid (w3.ownsRow (w.heap.size + 1) 4 1 v3 (k + 1) ((List.replicate (k + 1) false).map Value.bool)) := Lib.hid (by rw [← rep_snoc]; exact hown)
      have HX3 := Lib.hid (block_app HXA.out HRA.out hgrow (by omega))
      have HB3 := Lib.hid (below_own HBA.out hgrow HRA.out (by omega) HBA.out.size)
      clear hown hgrow
      go_roundw
      case rel => exact ⟨k + 1, by omega, by go_num, HR3, HX3, HB3⟩
      case measure => simp [intOf]; omega
    · have hd : decide ((k : Int) < (s.size : Int)) = false := decide_eq_false (by omega)
      have hd9 : decide (k < s.size) = false := decide_eq_false hlt
      obtain rfl : k = s.size := by omega
      have HA0 : Hid (w.heap.size < wr.heap.size) := Lib.hid (Array.getElem?_eq_some_iff.1 HX.out).1
      cases hg : isG (r, c, s) with
      | false =>
        have HF : Hid (partsG (r, c, s) = 0) := Lib.hid (by rw [HPG.out, hg]; rfl)
        have HIG2 := Lib.hid (fun w => HIG.out w)
        rw [hg] at HIG2
        clear HPG HIG hg
        go_wp2_with fail
        go_loopw [3, 6] (fun n i wx => n = .int .i64 0 ∧ i = .int .i64 0 ∧ wx = wr) (fun _ _ _ => 0)
        case atStart => exact ⟨rfl, rfl, rfl⟩
        case round =>
          obtain ⟨rfl, rfl, rfl⟩ := hrel
          by_cases h0 : s.size = 0
          · have hd2 : decide ((0 : Int) < (s.size : Int)) = false := decide_eq_false (by omega)
            have hd3 : decide (0 < s.size) = false := decide_eq_false (by omega)
            go_wp2_with fail
            go_ret
            exact ⟨by rw [HF.out]; rfl, HB.out⟩
          · have hd2 : decide ((0 : Int) < (s.size : Int)) = true := decide_eq_true (by omega)
            have hd3 : decide (0 < s.size) = true := decide_eq_true (by omega)
            go_wp2_with (go_at_call 12; refine (HIG2.out _).mono ?_; rintro e w2 ⟨rfl, b2⟩; have HB2 := Lib.hid (HB.out.trans (b2.mono HB.out.size)); clear b2)
            go_ret
            exact ⟨by rw [HF.out]; rfl, HB2.out⟩
      | true =>
        have HF : Hid (partsG (r, c, s) = (((partsTo (r, c, s) s.size).2 : Nat) : Int)) := Lib.hid (by rw [HPG.out, hg]; rfl)
        rw [hg] at HIG
        clear HPG
        obtain ⟨R, C, rfl, rfl, r1, r2, c1, c2, hRC, h36⟩ := isG_nat hg
        have hp0 : 2 * 2 ≤ R * C := Nat.mul_le_mul r1 c1
        have HN := Lib.hid hRC
        have h4n : 4 ≤ s.size := by omega
        clear hRC hp0
        obtain ⟨g, cap, rfl, hg1, hg2⟩ := bool_some HR.out (by omega)
        have HREA := Lib.hid (fun i hi base g cap w h1 h2 => sreach_any R C s c1 c2 HN.out h36 i hi base g cap w h1 h2)
        have HTY : Hid (∀ k, whF s k = true → partsTo ((R : Int), (C : Int), s) (k + 1) = stepQ (whF s) C s.size (partsTo ((R : Int), (C : Int), s) k) k) := Lib.hid (fun k h => partsTo_yes ((R : Int), (C : Int), s) h)
        have HTN : Hid (∀ k, whF s k = false → partsTo ((R : Int), (C : Int), s) (k + 1) = partsTo ((R : Int), (C : Int), s) k) := Lib.hid (fun k h => partsTo_no ((R : Int), (C : Int), s) h)
        have HML : Hid (∀ k, k ≤ s.size → ∀ j, (partsTo ((R : Int), (C : Int), s) k).1 j = true → j < s.size) := Lib.hid (fun k hk => met_lt ((R : Int), (C : Int), s) k hk)
        have HT0 : Hid (partsTo ((R : Int), (C : Int), s) 0 = (fun _ => false, 0)) := Lib.hid rfl
        have HTL : Hid (∀ k, (partsTo ((R : Int), (C : Int), s) k).2 ≤ k) := Lib.hid (fun k => partsTo_le _ k)
        have HRB : Hid (∀ i, i < s.size → ∀ j, reachB (whF s) C s.size i j = true → j < s.size) := Lib.hid (fun i hi j h => reach_lt hi (reachB_iff.1 h))
        unfold stepQ at HTY
        obtain ⟨Q, hQ⟩ : ∃ Q, Q = partsTo ((R : Int), (C : Int), s) := ⟨_, rfl⟩
        rw [← hQ] at HF HTY HTN HML HT0 HTL
        clear hQ hg
        have HR4 : Hid (wr.ownsRow (w.heap.size + 1) 4 1 (.slice (some ⟨g, 0, none⟩) s.size cap) s.size ((List.replicate s.size false).map Value.bool)) := HR
        have HL4 : Hid ((List.replicate s.size false).length = s.size) := Lib.hid (by simp)
        have HM4 : Hid (∀ j, (List.replicate s.size false).getD j false = (Q 0).1 j) := Lib.hid (fun j => by
          rw [HT0.out, List.getD_eq_getElem?_getD, List.getElem?_replicate]
          split <;> rfl)
        obtain ⟨B4, hB4⟩ : ∃ B4, B4 = List.replicate s.size false := ⟨_, rfl⟩
        rw [← hB4] at HR4 HL4 HM4
        have HN0 : Hid ((Q 0).2 = 0) := Lib.hid (by rw [HT0.out])
        clear hB4 HR HT0
        go_wp2_with fail
        obtain ⟨wq, rfl⟩ : ∃ wq, wq = wr := ⟨wr, rfl⟩
        go_loopw [3, 6] (fun n i wr => ∃ (m : Nat) (B : List Bool), m ≤ s.size ∧ i = .int .i64 (m : Int) ∧ n = .int .i64 (((Q m).2 : Nat) : Int) ∧ Hid (B.length = s.size) ∧ Hid (∀ j, B.getD j false = (Q m).1 j) ∧ Hid (g < wr.heap.size) ∧ Hid (wr.ownsRow (w.heap.size + 1) 4 1 (.slice (some ⟨g, 0, none⟩) s.size cap) s.size (B.map Value.bool)) ∧ Hid (wr.heap[w.heap.size]? = some (.cells #[.int .i64 (R : Int), .int .i64 (C : Int), .string s] 25)) ∧ Hid (Below w.heap.size w wr)) (fun _ i _ => s.size - (intOf i).toNat)
        case atStart => exact ⟨0, B4, Nat.zero_le _, rfl, by rw [HN0.out]; rfl, HL4, HM4, Lib.hid hg2, HR4, HX, HB⟩
        case round =>
          clear HL4 HM4 HR4 HX HB HN0 gx0 gx1 gx2 HA0 hg2
          obtain ⟨m, B, hm, rfl, rfl, HL, HM, HGL, HR, HX, HB⟩ := hrel
          obtain ⟨gx0, gx1, gx2⟩ := gbox HX.out
          by_cases hlt2 : m < s.size
          · have hd2 : decide ((m : Int) < (s.size : Int)) = true := decide_eq_true (by omega)
            have hd3 : decide (m < s.size) = true := decide_eq_true hlt2
            have HBY : Hid (s.data.toList.getD m 0 = s[m]) := Lib.hid (by
              have h9 : m < s.data.toList.length := by rw [size_list]; exact hlt2
              rw [List.getD_eq_getElem?_getD, List.getElem?_eq_getElem h9]
              rfl)
            have HQ64 := Lib.hid (HTL.out m)
            by_cases h46 : s[m] = 46
            · have hq2 : ((s[m].toNat : Int) == 46) = true := by simp [h46]
              have HW : Hid (whF s m = true) := Lib.hid (by unfold whF; rw [HBY.out]; exact decide_eq_true h46)
              have HTY1 := Lib.hid (HTY.out m HW.out)
              clear h46 HBY
              rcases hy : (Q m).1 m with _ | _
              · have HY : Hid (B.getD m false = false) := Lib.hid ((HM.out m).trans hy)
                have HQ1 : Hid (Q (m + 1) = (fun j => (Q m).1 j || reachB (whF s) C s.size m j, (Q m).2 + 1)) := Lib.hid (by rw [HTY1.out, hy]; rfl)
                have HRBm := Lib.hid (HRB.out m hlt2)
                have hq64 := HQ64.out
                have hwn : IntKind.i64.wrap ((((Q m).2 : Nat) : Int) + 1) = (((Q m).2 : Nat) : Int) + 1 := by rw [IntKind.wrap_i64]; omega
                obtain ⟨N, hN⟩ : ∃ N, N = (Q m).2 := ⟨_, rfl⟩
                rw [← hN] at HQ1 hwn hq64 ⊢
                clear hy HTY1 hN HQ64
                go_wp2_with (go_at_call 12; refine (HIG.out _).mono ?_; rintro e w2 ⟨rfl, b2⟩; have HB2 := Lib.hid (HB.out.trans (b2.mono HB.out.size)); have HX2 := Lib.hid (block_later HX.out b2 (Array.getElem?_eq_some_iff.1 HX.out).1); have HR2 := Lib.hid (own_later HR.out b2); have HG2 : Hid (g < w2.heap.size) := Lib.hid (Nat.lt_of_lt_of_le HGL.out b2.size); obtain ⟨y0, y1, y2⟩ := gbox HX2.out; have hcm := bool_cell HR2.out HL.out hlt2; rw [HY.out] at hcm; clear b2)
                clear y0 y1 y2 hcm gx0 gx1 gx2 HR HX HB HGL
                obtain ⟨z2, hz2'⟩ : ∃ z2, z2 = w2.heap.size := ⟨_, rfl⟩
                have HZ : Hid (w.heap.size < z2 ∧ g < z2) := Lib.hid (by rw [hz2']; exact ⟨(Array.getElem?_eq_some_iff.1 HX2.out).1, HG2.out⟩)
                have HB3 := Lib.hid (HB2.out.alloc HB2.out.size (.cells #[] 4))
                have HX3 : Hid ((w2.alloc (.cells #[] 4)).heap[w.heap.size]? = some (.cells #[.int .i64 (R : Int), .int .i64 (C : Int), .string s] 25)) := Lib.hid (by rw [Below.heap_alloc _ _ w.heap.size (Array.getElem?_eq_some_iff.1 HX2.out).1]; exact HX2.out)
                have HR3 := Lib.hid (HR2.out.alloc (.cells #[] 4))
                have HO3 : Hid ((w2.alloc (.cells #[] 4)).ownsRow z2 4 1 (.slice (some ⟨z2, 0, none⟩) 0 0) 0 ((List.replicate 0 false).map Value.bool)) := Lib.hid (by rw [hz2']; exact own_empty w2 4)
                have HZ3 : Hid (z2 ≤ (w2.alloc (.cells #[] 4)).heap.size) := Lib.hid (by rw [hz2']; simp)
                rw [← hz2']
                clear hz2' HR2 HX2 HB2 HG2
                obtain ⟨wp, rfl⟩ : ∃ wp, wp = wr := ⟨wr, rfl⟩
                go_loopw [7, 8] (fun v i wr => ∃ k : Nat, k ≤ s.size ∧ i = .int .i64 (k : Int) ∧ Hid (wr.ownsRow z2 4 1 v k ((List.replicate k false).map Value.bool)) ∧ Hid (z2 ≤ wr.heap.size) ∧ Hid (wr.ownsRow (w.heap.size + 1) 4 1 (.slice (some ⟨g, 0, none⟩) s.size cap) s.size (B.map Value.bool)) ∧ Hid (wr.heap[w.heap.size]? = some (.cells #[.int .i64 (R : Int), .int .i64 (C : Int), .string s] 25)) ∧ Hid (Below w.heap.size w wr)) (fun _ i _ => s.size - (intOf i).toNat)
                case atStart => exact ⟨0, Nat.zero_le _, rfl, HO3, HZ3, HR3, HX3, HB3⟩
                case round =>
                  clear HO3 HZ3 HR3 HX3 HB3
                  obtain ⟨k, hk, rfl, HO, HZL, HR, HX, HB⟩ := hrel
                  by_cases hlt3 : k < s.size
                  · have hd4 : decide ((k : Int) < (s.size : Int)) = true := decide_eq_true (by omega)
                    have hd5 : decide (k < s.size) = true := decide_eq_true hlt3
                    obtain ⟨a7, cap7, rfl⟩ := ownV_slice HO.out
                    have HBA := Lib.hid (HB.out.alloc HB.out.size (.cells #[.bool false] 4))
                    have HXA : Hid ((wr.alloc (.cells #[.bool false] 4)).heap[w.heap.size]? = some (.cells #[.int .i64 (R : Int), .int .i64 (C : Int), .string s] 25)) := Lib.hid (by rw [Below.heap_alloc _ _ w.heap.size (Array.getElem?_eq_some_iff.1 HX.out).1]; exact HX.out)
                    have HRA := Lib.hid (HR.out.alloc (.cells #[.bool false] 4))
                    have HOA := Lib.hid (HO.out.alloc (.cells #[.bool false] 4))
                    have hwb : z2 ≤ (wr.alloc (.cells #[.bool false] 4)).heap.size := by have := HZL.out; simp; omega
                    go_wp2_with (at_builtin; refine appendV_reads _ rfl _ _ 68 rfl z2 4 i0 (.bool false) 1 1 Tryd.underlying68 hi hz0 hz1 hz2 rfl (by decide) _ _ _ rfl HOA.out (some ⟨wr.heap.size, 0, none⟩) 1 1 [.bool false] rfl rfl (fun u hu => by rw [List.mem_singleton.1 hu]; rfl) (fun e => by cases e) (one_srcP wr (.bool false) _) (by omega) (one_bytes k (by omega)) hwb ?_; intro v3 w3 hown hgrow)
                    have HO4 : Hid (w3.ownsRow z2 4 1 v3 (k + 1) ((List.replicate (k + 1) false).map Value.bool)) := Lib.hid (by rw [← rep_snoc]; exact hown)
                    have HX4 := Lib.hid (block_app HXA.out HOA.out hgrow HZ.out.1)
                    have HB4 := Lib.hid (below_own HBA.out hgrow HOA.out (Nat.le_of_lt HZ.out.1) HBA.out.size)
                    have HR4 : Hid (w3.ownsRow (w.heap.size + 1) 4 1 (.slice (some ⟨g, 0, none⟩) s.size cap) s.size (B.map Value.bool)) := Lib.hid (HRA.out.kept hgrow (.inr (fun e => by have h1 := (HOA.out.lt g e.symm).1; have := HZ.out.2; omega)))
                    have HZ4 : Hid (z2 ≤ w3.heap.size) := Lib.hid (Nat.le_trans hwb hgrow.size)
                    clear hown hgrow hwb
                    go_roundw
                    case rel => exact ⟨k + 1, by omega, by go_num, HO4, HZ4, HR4, HX4, HB4⟩
                    case measure => simp [intOf]; omega
                  · have hd4 : decide ((k : Int) < (s.size : Int)) = false := decide_eq_false (by omega)
                    have hd5 : decide (k < s.size) = false := decide_eq_false hlt3
                    obtain rfl : k = s.size := by omega
                    obtain ⟨g1, cap1, rfl, hgz, hg1w⟩ := bool_some HO.out (by omega)
                    have hne : ¬ g = g1 := by have := HZ.out.2; omega
                    have HRC := Lib.hid (HREA.out m hlt2 z2 g1 cap1 wr hg1w HO.out)
                    obtain ⟨x0, x1, x2⟩ := gbox HX.out
                    go_wp2_with (go_at_call 47; refine (HRC.out).mono ?_; rintro e w5 ⟨rfl, hrr, hgr⟩; have HRR := Lib.hid hrr; have HGR := Lib.hid hgr; clear hrr hgr)
                    obtain ⟨O, hOl, hOr, hOo⟩ := HRR.out
                    have HOL := Lib.hid hOl
                    have HOR : Hid (∀ j, O.getD j false = reachB (whF s) C s.size m j) := Lib.hid hOr
                    have HO5 := Lib.hid hOo
                    have HR5 : Hid (w5.ownsRow (w.heap.size + 1) 4 1 (.slice (some ⟨g, 0, none⟩) s.size cap) s.size ((joinB B O 0).map Value.bool)) := Lib.hid (by rw [joinB_zero]; exact keep_row HR.out HGR.out (fun e => hne (by simpa [Value.ownBlock] using e)))
                    have HX5 := Lib.hid (block_grown HX.out HGR.out (by have := HZ.out.1; omega))
                    have HB5 := Lib.hid (below_grown HB.out HGR.out HB.out.size (by have := HZ.out.1; omega))
                    have HG5 : Hid (g < w5.heap.size) := Lib.hid (Nat.lt_of_lt_of_le (Nat.lt_of_lt_of_le HZ.out.2 HZL.out) HGR.out.size)
                    clear hOl hOr hOo HRR HGR HO HR HX HB HZL x0 x1 x2 hg1w HRC
                    obtain ⟨wp2, rfl⟩ : ∃ wp2, wp2 = wr := ⟨wr, rfl⟩
                    go_loopw [9] (fun i wr => ∃ k : Nat, k ≤ s.size ∧ i = .int .i64 (k : Int) ∧ Hid (wr.ownsRow z2 4 1 (.slice (some ⟨g1, 0, none⟩) s.size cap1) s.size (O.map Value.bool)) ∧ Hid (g < wr.heap.size) ∧ Hid (wr.ownsRow (w.heap.size + 1) 4 1 (.slice (some ⟨g, 0, none⟩) s.size cap) s.size ((joinB B O k).map Value.bool)) ∧ Hid (wr.heap[w.heap.size]? = some (.cells #[.int .i64 (R : Int), .int .i64 (C : Int), .string s] 25)) ∧ Hid (Below w.heap.size w wr)) (fun i _ => s.size - (intOf i).toNat)
                    case atStart => exact ⟨0, Nat.zero_le _, rfl, HO5, HG5, HR5, HX5, HB5⟩
                    case round =>
                      clear HO5 HG5 HR5 HX5 HB5
                      obtain ⟨k, hk, rfl, HO, HGL, HR, HX, HB⟩ := hrel
                      by_cases hlt4 : k < s.size
                      · have hd6 : decide ((k : Int) < (s.size : Int)) = true := decide_eq_true (by omega)
                        have hd7 : decide (k < s.size) = true := decide_eq_true hlt4
                        have HJL : Hid ((joinB B O k).length = s.size) := Lib.hid (by rw [joinB_len]; exact HL.out)
                        have hc1 := bool_cell HR.out HJL.out hlt4
                        rw [show (joinB B O k).getD k false = B.getD k false by rw [joinB_get, if_pos (by rw [HL.out]; exact hlt4), if_neg (by omega)]] at hc1
                        have hc2 := bool_cell HO.out HOL.out hlt4
                        have hf := HR.out.frozenAt k
                        have hst := HR.out.stored k (.bool (B.getD k false || O.getD k false))
                        rw [store_boolV, joinB_next B O k (by rw [HL.out]; exact hlt4)] at hst
                        have HS := Lib.hid hst
                        clear hst
                        have HX6 := Lib.hid (block_grown HX.out HS.out.2 (by omega))
                        have HO6 := Lib.hid (keep_row HO.out HS.out.2 (fun e => hne (by have := e; simp [Value.ownBlock] at this; exact this.symm)))
                        have HB6 := Lib.hid (below_grown HB.out HS.out.2 HB.out.size (by omega))
                        have HG6 : Hid (g < _) := Lib.hid (Nat.lt_of_lt_of_le HGL.out HS.out.2.size)
                        have HR6 := Lib.hid HS.out.1
                        clear HS
                        obtain ⟨x, hx⟩ : ∃ x, x = B.getD k false := ⟨_, rfl⟩
                        obtain ⟨y, hy⟩ : ∃ y, y = O.getD k false := ⟨_, rfl⟩
                        rw [← hx] at hc1 HR6 HO6 HB6 HG6 HX6
                        rw [← hy] at hc2 HR6 HO6 HB6 HG6 HX6
                        clear hx hy
                        cases x with
                        | true =>
                          simp only [Bool.true_or] at HR6 HO6 HB6 HG6 HX6
                          go_wp2_with fail
                          go_roundw
                          case rel => exact ⟨k + 1, by omega, by go_num, HO6, HG6, HR6, HX6, HB6⟩
                          case measure => simp [intOf]; omega
                        | false =>
                          simp only [Bool.false_or] at HR6 HO6 HB6 HG6 HX6
                          go_wp2_with fail
                          go_roundw
                          case rel => exact ⟨k + 1, by omega, by go_num, HO6, HG6, HR6, HX6, HB6⟩
                          case measure => simp [intOf]; omega
                      · have hd6 : decide ((k : Int) < (s.size : Int)) = false := decide_eq_false (by omega)
                        have hd7 : decide (k < s.size) = false := decide_eq_false hlt4
                        obtain rfl : k = s.size := by omega
                        have HJL : Hid ((joinB B O s.size).length = s.size) := Lib.hid (by rw [joinB_len]; exact HL.out)
                        have HJM : Hid (∀ j, (joinB B O s.size).getD j false = (Q (m + 1)).1 j) := Lib.hid (fun j => by
                          rw [HQ1.out, joinB_get, HL.out]
                          by_cases hj : j < s.size
                          · rw [if_pos hj, if_pos hj, HM.out, HOR.out]
                          · rw [if_neg hj]
                            show false = ((Q m).1 j || reachB (whF s) C s.size m j)
                            have h1 : (Q m).1 j = false := by
                              cases h9 : (Q m).1 j
                              · rfl
                              · exact absurd (HML.out m (by omega) j h9) hj
                            have h2 : reachB (whF s) C s.size m j = false := by
                              cases h9 : reachB (whF s) C s.size m j
                              · rfl
                              · exact absurd (HRBm.out j h9) hj
                            rw [h1, h2]; rfl)
                        go_wp2_with fail
                        go_roundw
                        case rel => exact ⟨m + 1, joinB B O s.size, by omega, by go_num, by rw [HQ1.out]; rfl, HJL, HJM, HGL, HR, HX, HB⟩
                        case measure => simp [intOf]; omega
              · have HY : Hid (B.getD m false = true) := Lib.hid ((HM.out m).trans hy)
                have HQ1 : Hid (Q (m + 1) = Q m) := Lib.hid (by rw [HTY1.out, hy]; rfl)
                clear hy HTY1
                go_wp2_with (go_at_call 12; refine (HIG.out _).mono ?_; rintro e w2 ⟨rfl, b2⟩; have HB2 := Lib.hid (HB.out.trans (b2.mono HB.out.size)); have HX2 := Lib.hid (block_later HX.out b2 (Array.getElem?_eq_some_iff.1 HX.out).1); have HR2 := Lib.hid (own_later HR.out b2); have HG2 : Hid (g < w2.heap.size) := Lib.hid (Nat.lt_of_lt_of_le HGL.out b2.size); obtain ⟨y0, y1, y2⟩ := gbox HX2.out; have hcm := bool_cell HR2.out HL.out hlt2; rw [HY.out] at hcm; clear b2)
                go_roundw
                case rel => exact ⟨m + 1, B, by omega, by go_num, by rw [HQ1.out], HL, Lib.hid (fun j => by rw [HQ1.out]; exact HM.out j), HG2, HR2, HX2, HB2⟩
                case measure => simp [intOf]; omega
            · have hq2 : ((s[m].toNat : Int) == 46) = false := by simp; intro h; exact h46 (UInt8.toNat_inj.1 (by show s[m].toNat = 46; omega))
              have HQ1 := Lib.hid (HTN.out m (by unfold whF; rw [HBY.out]; exact decide_eq_false h46))
              clear h46 HBY
              go_wp2_with (go_at_call 12; refine (HIG.out _).mono ?_; rintro e w2 ⟨rfl, b2⟩; have HB2 := Lib.hid (HB.out.trans (b2.mono HB.out.size)); have HX2 := Lib.hid (block_later HX.out b2 (Array.getElem?_eq_some_iff.1 HX.out).1); have HR2 := Lib.hid (own_later HR.out b2); have HG2 : Hid (g < w2.heap.size) := Lib.hid (Nat.lt_of_lt_of_le HGL.out b2.size); obtain ⟨y0, y1, y2⟩ := gbox HX2.out; clear b2)
              go_roundw
              case rel => exact ⟨m + 1, B, by omega, by go_num, by rw [HQ1.out], HL, Lib.hid (fun j => by rw [HQ1.out]; exact HM.out j), HG2, HR2, HX2, HB2⟩
              case measure => simp [intOf]; omega
          · have hd2 : decide ((m : Int) < (s.size : Int)) = false := decide_eq_false (by omega)
            have hd3 : decide (m < s.size) = false := decide_eq_false hlt2
            have HE : Hid (m = s.size) := Lib.hid (by omega)
            go_wp2_with fail
            go_ret
            exact ⟨by rw [HF.out, HE.out]; rfl, HB.out⟩
end Go.Proofs.YtgpplfhbgkcjhaaDoor
