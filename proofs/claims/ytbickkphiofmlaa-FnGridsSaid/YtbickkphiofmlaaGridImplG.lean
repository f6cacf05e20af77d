/-
  The program's contracts of chapter 7, seventh part: GridText.
-/
import Derived.Test.YtbickkphiofmlaaGridImplE
import Derived.Test.YtbickkphiofmlaaGridImplF
import Derived.Test.YtbickkphiofmlaaShelf
namespace Go.Proofs.Ytbickkphiofmlaa
open Go.RowKit

/-- The rows of a grid's cells. -/
def rowL (C : Nat) (s : ByteArray) (x : Nat) : List UInt8 := (s.data.toList.drop (x * C)).take C
theorem join_lines (C : Nat) (s : ByteArray) (K : Nat) : Lib.join ((List.range (K + 1)).map (rowL C s)) [47] = linesG C s (K + 1) := by
  unfold linesG
  rw [List.range_succ_eq_map, List.map_cons, Lib.join_cons, List.flatMap_cons, if_pos rfl, List.nil_append]
  congr 1
  unfold Lib.joinTail
  rw [List.map_map, List.map_map, List.flatMap_map, List.flatMap_def]
  rfl
theorem lens_le (C : Nat) (ls : List (List UInt8)) (h : ∀ l ∈ ls, l.length ≤ C) : Lib.lens ls ≤ ls.length * C := by
  induction ls with
  | nil => simp [Lib.lens]
  | cons x r ih =>
    rw [Lib.lens_cons, List.length_cons, Nat.succ_mul]
    have h1 := h x (by simp)
    have h2 := ih (fun l hl => h l (by simp [hl]))
    omega
theorem parts_own {W : World} {base g cap b R C : Nat} {e : TypeId} {s : ByteArray} (ho : W.ownsRow base e 1 (.slice (some ⟨g, 0, none⟩) R cap) R ((List.range R).map (chunkV b C))) (hb : ∀ j (hj : j < s.size), W.cell? ⟨b, j, none⟩ = some (.int .u8 s[j].toNat)) (hz : s.size = R * C) :
    Lib.PartsAt W ⟨g, 0, none⟩ ((List.range R).map (chunkV b C)) ((List.range R).map (rowL C s)) := by
  refine ⟨by simp, fun i v hv => ?_, fun i v l hv hl => ?_⟩
  · have hi : i < R := by
      rcases Nat.lt_or_ge i R with h | h
      · exact h
      · rw [List.getElem?_eq_none (by simpa using h)] at hv; cases hv
    rw [Lib.add_plain2, Nat.zero_add, ho.cellAt i (by omega)]
    exact hv
  · have hi : i < R := by
      rcases Nat.lt_or_ge i R with h | h
      · exact h
      · rw [List.getElem?_eq_none (by simpa using h)] at hv; cases hv
    rw [List.getElem?_map, List.getElem?_range hi] at hv hl
    simp only [Option.map_some, Option.some.injEq] at hv hl
    subst hv hl
    have hm : i * C + C ≤ s.size := by rw [hz, ← Nat.succ_mul]; exact Nat.mul_le_mul_right C hi
    have hlen : (rowL C s i).length = C := by unfold rowL; rw [List.length_take, List.length_drop, size_list]; omega
    refine ⟨some ⟨b, i * C, none⟩, C, by unfold chunkV; rw [hlen], (fun h => by cases h), fun a ha j x hx => ?_⟩
    cases ha
    have hj : j < C := by
      rcases Nat.lt_or_ge j C with h | h
      · exact h
      · rw [List.getElem?_eq_none (by omega)] at hx; cases hx
    rw [Lib.add_plain2, hb (i * C + j) (by omega)]
    unfold rowL at hx
    rw [List.getElem?_take_of_lt hj, List.getElem?_drop, List.getElem?_eq_getElem (by rw [size_list]; omega)] at hx
    have hx2 := Option.some.inj hx
    rw [← hx2]
    rfl
theorem fresh_reads {B : Nat} {W : World} {v : Value} {l : List UInt8} (h : Lib.FreshBytes B W v l) : Reads W.heap.size W v .u8 (numsL l) := by
  obtain ⟨g, cap, zs, rfl, _, hlc, hcm, hzl, hzr, hzb, hc, _⟩ := h
  refine ⟨by rw [numsL_length]; unfold maxLen at hcm; omega, some ⟨g, 0, none⟩, cap, by rw [numsL_length], ⟨(fun e => by cases e), by rw [numsL_length]; exact hlc, by unfold maxLen at hcm; omega⟩, fun j hj => ?_⟩
  rw [numsL_length] at hj
  have hcj := hc j (by omega)
  refine ⟨g, 0, rfl, World.block_lt_of_cell? _ _ hcj, ?_⟩
  have hj2 : j < zs.length := by omega
  have hr := hzr zs[j] (List.getElem_mem hj2)
  have e1 : l[j]? = some (UInt8.ofNat (zs[j].toNat)) := by
    have h9 := congrArg (fun t => t[j]?) hzb
    simp only [Lib.bytesOf, List.getElem?_map, List.getElem?_take_of_lt hj, List.getElem?_eq_getElem hj2, Option.map_some] at h9
    exact h9.symm
  have e2 : (numsL l).getD j 0 = zs[j] := by
    unfold numsL
    rw [List.getD_eq_getElem?_getD, List.getElem?_map, e1]
    simp
    omega
  rw [Nat.zero_add, hcj, e2, List.getD_eq_getElem?_getD, List.getElem?_eq_getElem hj2]
  rfl
theorem fresh_conv {B : Nat} {W : World} {v : Value} {l : List UInt8} (h : Lib.FreshBytes B W v l) : (convert 22 9 v).run Try.prog W = .ok (.string ⟨l.toArray⟩) W := by
  rw [← str_nums l]
  exact conv_own (fresh_reads h)
theorem own_shape {W : World} {base n : Nat} {e : TypeId} {v : Value} {xs : List Value} (h : W.ownsRow base e 1 v n xs) (hn : 0 < n) : ∃ g c, n ≤ c ∧ v = .slice (some ⟨g, 0, none⟩) n c := by
  rcases h.2 with ⟨rfl, h0⟩ | ⟨g, cap, cur, rfl, hb, hg, hnc, hcm, _⟩
  · omega
  · exact ⟨g, cap, hnc, rfl⟩
set_option maxHeartbeats 1600000 in
theorem itext_any (r c : Int) (s : ByteArray) (hs : s.size ≤ 4194304) (w : World) :
    Calls Try.prog 13 #[.agg #[.int .i64 r, .int .i64 c, .string s]] w fun e w' => e = .returned (.string (textG (r, c, s))) ∧ Below w.heap.size w w' := by
  have HIG := Lib.hid (fun w => iisg_any r c s hs w)
  have HTX : Hid (textG (r, c, s) = if isG (r, c, s) = true then ⟨(linesG c.toNat s r.toNat).toArray⟩ else ⟨#[]⟩) := Lib.hid rfl
  obtain ⟨p, hp⟩ : ∃ p, p = isG (r, c, s) := ⟨_, rfl⟩
  rw [← hp] at HIG HTX
  cases p with
  | false =>
    have HF : Hid (textG (r, c, s) = ⟨#[]⟩) := Lib.hid (by rw [HTX.out]; rfl)
    clear HTX hp
    go_enter Try.func13, Try.ntmps13
    go_wp2_with (go_at_call 14; refine (HIG.out _).mono ?_; rintro e w1 ⟨rfl, b1⟩; have HB := Lib.hid (box1_of b1); clear b1)
    go_ret
    exact ⟨by rw [HF.out]; rfl, HB.out⟩
  | true =>
    obtain ⟨⟨hr1, hr2⟩, ⟨hc1, hc2⟩, hz, -⟩ := of_decide_eq_true hp.symm
    dsimp only at hr1 hr2 hc1 hc2 hz
    obtain ⟨K, rfl⟩ : ∃ K : Nat, r = ((K + 1 : Nat) : Int) := ⟨r.toNat - 1, by omega⟩
    obtain ⟨C, rfl⟩ : ∃ C : Nat, c = (C : Int) := ⟨c.toNat, by omega⟩
    have hz2 : s.size = (K + 1) * C := by rw [← Int.natCast_mul] at hz; omega
    have hs36 : s.size ≤ 36 := by have := (prod_in hr1 hr2 hc1 hc2).2; omega
    have HF : Hid (textG (((K + 1 : Nat) : Int), (C : Int), s) = ⟨(Lib.join ((List.range (K + 1)).map (rowL C s)) [47]).toArray⟩) := Lib.hid (by rw [HTX.out, if_pos rfl, join_lines]; rfl)
    obtain ⟨R, hR⟩ : ∃ R, R = K + 1 := ⟨_, rfl⟩
    rw [← hR] at HF HIG hz2 hr1 hr2 ⊢
    have HZ := Lib.hid hz2
    have hR2 : 2 ≤ R := by omega
    have hR6 : R ≤ 6 := by omega
    have hC2 : 2 ≤ C := by omega
    have hC6 : C ≤ 6 := by omega
    clear HTX hp hz hz2 hr1 hr2 hc1 hc2 hR
    have HLEN : Hid (Lib.lens ((List.range R).map (rowL C s)) + ([47] : List UInt8).length * (R - 1) ≤ 140737488355328) := Lib.hid (by
      have h1 := lens_le C ((List.range R).map (rowL C s)) (fun l hl => by
        obtain ⟨x, -, rfl⟩ := List.mem_map.1 hl
        unfold rowL
        rw [List.length_take]
        omega)
      rw [List.length_map, List.length_range, ← HZ.out] at h1
      show _ + 1 * (R - 1) ≤ _
      omega)
    go_enter Try.func13, Try.ntmps13
    go_wp2_with (first
      | (go_at_call 14; refine (HIG.out _).mono ?_; rintro e w1 ⟨rfl, b1⟩; have HA := Lib.hid (box1 b1).1; have HB := Lib.hid (box1_of b1); obtain ⟨a0, a1, a2, fa0, fa1, fa2⟩ := cells3 HA.out; obtain ⟨cap, V, hcv, hp1, hp2, hbV, hsV, hcV⟩ := conv_str s w1 (by omega); have HSV := Lib.hid hsV; have HCV := Lib.hid hcV; have HAV := Lib.hid ((hbV.block w.heap.size (size_of_heap HA.out)).trans HA.out); have HBV := Lib.hid (HB.out.trans (hbV.mono HB.out.size)); obtain ⟨v0, v1, v2, fv0, fv1, fv2⟩ := cells3 HAV.out; clear hsV hcV hbV b1)
      | (go_at_call 33; refine (chunk_any _ _ _ C (by omega) _).mono ?_; rintro e w3 ⟨rfl, rfl⟩; have HX := Lib.hid (box33 (Below.refl _ ((V.alloc (.cells #[.slice (some ⟨w1.heap.size, 0, none⟩) s.size cap] 22)).alloc (.cells #[.int .i64 (C : Int)] 3)))))
      | (go_at_call 32; refine (collect_any _ _ w1.heap.size R C cap (by omega) (by omega) (by rw [← HZ.out]; exact hs36) (by omega) (by rw [← HZ.out]; exact hp1) hp2 _ (size_of_heap HX.out.1) (size_of_heap HX.out.2.1) (by rw [← HZ.out]; exact Joins.cell_of_block HX.out.1 0) (Joins.cell_of_block HX.out.2.1 0)).mono ?_; rintro e w4 ⟨v4, rfl, ho, hb⟩; obtain ⟨g, c4, hg4, rfl⟩ := own_shape ho (by omega); have HO := Lib.hid ho; have HC4 := Lib.hid (keep_bytes (keep_bytes HCV.out HX.out.2.2) hb); have HB4 := Lib.hid ((HBV.out.trans (HX.out.2.2.mono HBV.out.size)).trans (hb.mono (HBV.out.trans (HX.out.2.2.mono HBV.out.size)).size)); clear ho hb)
      | (go_at_call 35; refine (signR _).mono ?_; rintro e w5 ⟨rfl, b5⟩; have HO5 := Lib.hid ((own_later HO.out b5).alloc (.cells #[.int .u8 47] 5)); have HC5 := Lib.hid (keep_bytes (keep_bytes HC4.out b5) ((Below.refl _ w5).alloc (Nat.le_refl _) (.cells #[.int .u8 47] 5))); have HB5 := Lib.hid ((HB4.out.trans (b5.mono HB4.out.size)).alloc (HB4.out.trans (b5.mono HB4.out.size)).size (.cells #[.int .u8 47] 5)); have HK5 := Lib.hid (new_block w5 (.cells #[.int .u8 47] 5)); clear b5)
      | (go_at_call 34; refine (Try.bytes_Join_many g 0 R c4 _ ((List.range R).map (rowL C s)) _ [47] _ (by simp) hR2 (parts_own HO5.out HC5.out HZ.out) hg4 ⟨some ⟨w5.heap.size, 0, none⟩, 1, rfl, (fun h => by cases h), fun a ha i x hx => by cases ha; rcases i with _ | i; (simp at hx; subst hx; exact Joins.cell_of_block HK5.out 0); simp at hx⟩ (by omega) HLEN.out).mono ?_; rintro e w6 ⟨v6, rfl, hf, b6⟩; have hcv6 := fresh_conv hf; have HB6 := Lib.hid (HB5.out.trans (b6.mono HB5.out.size)); clear b6 hf))
    go_ret
    exact ⟨by rw [HF.out]; rfl, HB6.out⟩
end Go.Proofs.Ytbickkphiofmlaa
