/-
  The program's contracts of chapter 7, last part: ParseGrid; the six contracts in the form that the exact laws' walks ask.
-/
import Derived.Test.YtbickkphiofmlaaGridImplG
import Derived.Test.YtbickkphiofmlaaGridStd
import Derived.Test.YtbickkphiofmlaaAppB
namespace Go.Proofs.Ytbickkphiofmlaa
open Go.RowKit

def cellsL (l : List UInt8) : List UInt8 := l.filter fun b => decide (b ≠ 47)
/-- The grid that a text's bytes spell, if they spell one. -/
def spellG (s : ByteArray) : Int × Int × ByteArray := (((s.data.toList.count 47 + 1 : Nat) : Int), (((cellsL s.data.toList).length / (s.data.toList.count 47 + 1) : Nat) : Int), ⟨(cellsL s.data.toList).toArray⟩)
theorem lines_cells (C : Nat) (t : ByteArray) (ht : ∀ b ∈ t.data.toList, b ≠ 47) (k : Nat) : cellsL (linesG C t k) = t.data.toList.take (k * C) := by
  induction k with
  | zero => simp [linesG, cellsL]
  | succ k ih =>
    have h1 : cellsL ((t.data.toList.drop (k * C)).take C) = (t.data.toList.drop (k * C)).take C := by
      unfold cellsL
      exact List.filter_eq_self.2 (fun b hb => decide_eq_true (ht b (List.mem_of_mem_drop (List.mem_of_mem_take hb))))
    have h2 : cellsL (if k = 0 then ([] : List UInt8) else [47]) = [] := by split <;> rfl
    rw [linesG_next]
    unfold cellsL at ih h1 h2 ⊢
    rw [List.filter_append, List.filter_append, ih, h1, h2, List.nil_append, Nat.succ_mul, List.take_add]
theorem lines_count (C : Nat) (t : ByteArray) (ht : ∀ b ∈ t.data.toList, b ≠ 47) (k : Nat) : (linesG C t (k + 1)).count 47 = k := by
  have h0 : ∀ j, ((t.data.toList.drop (j * C)).take C).count 47 = 0 := fun j => List.count_eq_zero.2 (fun hb => ht 47 (List.mem_of_mem_drop (List.mem_of_mem_take hb)) rfl)
  induction k with
  | zero =>
    rw [linesG_next, List.count_append, List.count_append, h0]
    rfl
  | succ k ih =>
    rw [linesG_next, List.count_append, List.count_append, ih, h0, if_neg (by omega)]
    rfl
theorem spell_text {g : Int × Int × ByteArray} (h : isG g = true) : spellG (textG g) = g := by
  obtain ⟨r, c, t⟩ := g
  have hT : textG (r, c, t) = ⟨(linesG c.toNat t r.toNat).toArray⟩ := by unfold textG; rw [if_pos h]
  obtain ⟨⟨hr1, hr2⟩, ⟨hc1, hc2⟩, hz, hb⟩ := of_decide_eq_true h
  dsimp only at hr1 hr2 hc1 hc2 hz hb
  obtain ⟨K, rfl⟩ : ∃ K : Nat, r = ((K + 1 : Nat) : Int) := ⟨r.toNat - 1, by omega⟩
  obtain ⟨C, rfl⟩ : ∃ C : Nat, c = (C : Int) := ⟨c.toNat, by omega⟩
  have hz2 : t.size = (K + 1) * C := by rw [← Int.natCast_mul] at hz; omega
  have ht : ∀ b ∈ t.data.toList, b ≠ 47 := fun b hm => by rcases hb b hm with rfl | rfl <;> decide
  have e1 : (textG (((K + 1 : Nat) : Int), (C : Int), t)).data.toList = linesG C t (K + 1) := by rw [hT]; rfl
  have e2 : cellsL (linesG C t (K + 1)) = t.data.toList := by rw [lines_cells C t ht, List.take_of_length_le (by rw [size_list]; omega)]
  unfold spellG
  rw [e1, lines_count C t ht, e2, size_list, hz2, Nat.mul_comm (K + 1) C, Nat.mul_div_cancel _ (by omega)]
theorem text_bytes {g : Int × Int × ByteArray} (h : isG g = true) : ∀ b ∈ (textG g).data.toList, (b = 35 ∨ b = 46) ∨ b = 47 := by
  obtain ⟨r, c, t⟩ := g
  have hT : textG (r, c, t) = ⟨(linesG c.toNat t r.toNat).toArray⟩ := by unfold textG; rw [if_pos h]
  obtain ⟨-, -, -, hb⟩ := of_decide_eq_true h
  rw [hT]
  show ∀ b ∈ linesG c.toNat t r.toNat, _
  intro b hm
  unfold linesG at hm
  obtain ⟨i, -, hi⟩ := List.mem_flatMap.1 hm
  rcases List.mem_append.1 hi with h1 | h1
  · right
    split at h1
    · cases h1
    · simpa using h1
  · left
    exact hb b (List.mem_of_mem_drop (List.mem_of_mem_take h1))
theorem parse_other {s : ByteArray} (h : ¬ (isG (spellG s) = true ∧ textG (spellG s) = s)) : parseG s = ((0, 0, ⟨#[]⟩), false) := by
  obtain ⟨b, hb⟩ : ∃ b, b = (parseG s).2 := ⟨_, rfl⟩
  cases b with
  | true =>
    obtain ⟨h1, h2⟩ := parse_yes hb.symm
    have h3 := spell_text h1
    rw [h2] at h3
    rw [← h3] at h1 h2
    exact absurd ⟨h1, h2⟩ h
  | false =>
    have h1 := (parse_no hb.symm).1
    rw [← h1, hb]
theorem parse_same {s : ByteArray} (h1 : isG (spellG s) = true) (h2 : textG (spellG s) = s) : parseG s = (spellG s, true) := by
  have h3 := parse_text h1
  rw [h2] at h3
  exact h3
theorem parse_byte {s : ByteArray} {k : Nat} (hk : k < s.size) (h : ¬ ((s[k] = 35 ∨ s[k] = 46) ∨ s[k] = 47)) : parseG s = ((0, 0, ⟨#[]⟩), false) := by
  refine parse_other (fun ⟨h1, h2⟩ => h ?_)
  have h3 := text_bytes h1
  rw [h2] at h3
  exact h3 _ (byte_mem s k hk)
theorem own_slc {W : World} {base n : Nat} {e : TypeId} {v : Value} {xs : List Value} (h : W.ownsRow base e 1 v n xs) : ∃ a c, v = .slice a n c := by
  rcases h.2 with ⟨rfl, rfl⟩ | ⟨g, cap, cur, rfl, -⟩
  · exact ⟨_, _, rfl⟩
  · exact ⟨_, _, rfl⟩
theorem nums_one {b : UInt8} {z : Int} (h : ((b.toNat : Nat) : Int) = z) : (numsL [b]).map (Value.int .u8) = [Value.int .u8 z] := by subst h; rfl
theorem markV_row {b : UInt8} (h : b = 47) : markV b = .iface 50 (.agg #[]) := by subst h; rfl
theorem markV_none {b : UInt8} (h : ¬ (b = 35 ∨ b = 46)) (h2 : ¬ b = 47) : markV b = .nilIface := by
  unfold markV
  rw [if_neg (fun e => h (Or.inr e)), if_neg (fun e => h (Or.inl e)), if_neg h2]
theorem cellsL_le (l : List UInt8) : (cellsL l).length ≤ l.length := List.length_filter_le _ _

set_option maxHeartbeats 3200000 in
theorem iparse_any (s : ByteArray) (hs : s.size ≤ 1048576) (w : World) :
    Calls Try.prog 12 #[.string s] w fun e w' => e = .returned (.tuple #[aggG (parseG s).1, .bool (parseG s).2]) ∧ Below w.heap.size w w' := by
  obtain ⟨i0, hi, hz0, hz1, hz2'⟩ := info_parts info25
  have HX := Lib.hid (box33 (Below.refl _ ((w.alloc (.cells #[.int .i64 0, .int .i64 0, .string ⟨#[]⟩] 25)).alloc (.cells #[] 5))))
  obtain ⟨cap, W1, hcv, hp1, hp2, hb1, hs1, hc1⟩ := conv_str s ((w.alloc (.cells #[.int .i64 0, .int .i64 0, .string ⟨#[]⟩] 25)).alloc (.cells #[] 5)) hs
  have hsz : ((w.alloc (.cells #[.int .i64 0, .int .i64 0, .string ⟨#[]⟩] 25)).alloc (.cells #[] 5)).heap.size = w.heap.size + 2 := by simp
  rw [hsz] at hb1 hs1 hc1
  have HR := Lib.hid ((hb1.block w.heap.size (by omega)).trans HX.out.1)
  have HC := Lib.hid hc1
  have HB := Lib.hid (HX.out.2.2.trans (hb1.mono (by omega)))
  have he : ((w.alloc (.cells #[.int .i64 0, .int .i64 0, .string ⟨#[]⟩] 25)).alloc (.cells #[] 5)).ownsRow (w.heap.size + 1) 5 1 (.slice (some ⟨w.heap.size + 1, 0, none⟩) 0 0) 0 [] := by
    have h9 := own_empty (w.alloc (.cells #[.int .i64 0, .int .i64 0, .string ⟨#[]⟩] 25)) 5
    rw [World.size_alloc] at h9
    exact h9
  have HO := Lib.hid (own_later he (by rw [hsz]; exact hb1))
  have hzb : w.heap.size + 3 ≤ W1.heap.size := by omega
  clear hb1 hs1 hc1 hsz HX he
  go_enter Try.func12, Try.ntmps12
  go_wp2
  clear hcv
  go_loopw [4, 5, 16] (fun n v i wr => ∃ (k : Nat) (L : List UInt8), k ≤ s.size ∧ i = .int .i64 k ∧ Hid (cellsL (s.data.toList.take k) = L) ∧ n = .int .i64 (((s.data.toList.take k).count 47 + 1 : Nat) : Int) ∧ Hid (∀ b ∈ s.data.toList.take k, (b = 35 ∨ b = 46) ∨ b = 47) ∧ Hid (wr.ownsRow (w.heap.size + 1) 5 1 v L.length ((numsL L).map (Value.int .u8))) ∧ Hid (wr.heap[w.heap.size]? = some (.cells #[.int .i64 0, .int .i64 0, .string ⟨#[]⟩] 25)) ∧ Hid (∀ j (hj : j < s.size), wr.cell? ⟨w.heap.size + 2, j, none⟩ = some (.int .u8 s[j].toNat)) ∧ some (w.heap.size + 2) ≠ v.ownBlock ∧ Hid (Below w.heap.size w wr) ∧ w.heap.size + 3 ≤ wr.heap.size) (fun _ _ i _ => s.size - (intOf i).toNat)
  case atStart => exact ⟨0, [], Nat.zero_le _, rfl, Lib.hid rfl, rfl, Lib.hid (by simp), HO, HR, HC, by simp [Value.ownBlock], HB, hzb⟩
  case round =>
    obtain ⟨k, L, hk, rfl, HL0, rfl, HL, HO, HR, HC, hvb, HB, hzb⟩ := hrel
    by_cases hlt : k < s.size
    · have hc0 := HC.out k hlt
      have h255 : s[k].toNat ≤ 255 := by have := s[k].toNat_lt; omega
      have HTK := Lib.hid (take_snoc s k hlt)
      have hL := HL0.out.symm
      have hLl : L.length ≤ k := by rw [hL]; exact Nat.le_trans (cellsL_le _) (by rw [List.length_take]; omega)
      have hct : (s.data.toList.take k).count 47 ≤ k := Nat.le_trans List.count_le_length (by rw [List.length_take]; omega)
      by_cases hb : (s[k] = 35 ∨ s[k] = 46) ∨ s[k] = 47
      · have HL2 : Hid (∀ b ∈ s.data.toList.take (k + 1), (b = 35 ∨ b = 46) ∨ b = 47) := Lib.hid (fun b hb2 => by
          rw [HTK.out] at hb2
          rcases List.mem_append.1 hb2 with h | h
          · exact HL.out b h
          · simp only [List.mem_singleton] at h; subst h; exact hb)
        rcases hb with (h35 | h46) | h47
        · skip
          have HMK := Lib.hid (fun w => imko_any s[k] w)
          rw [markV_black h35] at HMK
          have ia := is_RB
          have ib := is_WB
          have ic := is_BB
          have hmB := mth_B
          have HCE : Hid (cellsL (s.data.toList.take (k + 1)) = L ++ [s[k]]) := Lib.hid (by rw [HTK.out, hL]; unfold cellsL; rw [List.filter_append, List.filter_cons_of_pos (by rw [h35]; decide)]; rfl)
          have HRE : Hid ((s.data.toList.take (k + 1)).count 47 = (s.data.toList.take k).count 47) := Lib.hid (by rw [HTK.out, List.count_append, List.count_singleton, h35]; rfl)
          have hv : ((s[k].toNat : Nat) : Int) = 35 := by rw [h35]; rfl
          have HV := Lib.hid hv
          clear h35 hv hL
          go_wp2_with (first | (go_at_call 31; refine (HMK.out _).mono ?_; rintro e w2 ⟨rfl, b2⟩; have HR2 := Lib.hid ((b2.block w.heap.size (size_of_heap HR.out)).trans HR.out); have HO2 := Lib.hid (own_later HO.out b2); have HC2 := Lib.hid (keep_bytes HC.out b2); have HB2 := Lib.hid (HB.out.trans (b2.mono HB.out.size)); have hz2 := Nat.le_trans hzb b2.size; obtain ⟨z0, z1, z2, y0, y1, y2⟩ := cells3 HR2.out; clear b2) | (go_at_call 76; refine (signB _).mono ?_; rintro e w3 ⟨rfl, b3⟩; have HR3 := Lib.hid ((b3.block w.heap.size (size_of_heap HR2.out)).trans HR2.out); have HO3 := Lib.hid (own_later HO2.out b3); have HC3 := Lib.hid (keep_bytes HC2.out b3); have HB3 := Lib.hid (HB2.out.trans (b3.mono HB2.out.size)); have hz3 := Nat.le_trans hz2 b3.size; clear b3) | (at_builtin; go_loud (refine append_one _ rfl _ _ 22 rfl (w.heap.size + 1) 5 i0 (.int .u8 0) 1 Try.underlying22 hi hz0 hz1 hz2' rfl _ L.length ((numsL L).map (Value.int .u8)) rfl (own_later HO3.out (Joins.below_alloc1 _ _)) ⟨_, 0, none⟩ 1 .u8 35 rfl (by simp) (by omega) (by omega) (by simp; omega) ?_; intro v5 w5 hown hgrow hwhere)))
          have HB5 := Lib.hid (below_own (HB3.out.alloc HB3.out.size _) hgrow (own_later HO3.out (Joins.below_alloc1 _ _)) (by omega) (by simp; have := HB3.out.size; omega))
          have HC5 : Hid (∀ j (hj : j < s.size), w5.cell? ⟨w.heap.size + 2, j, none⟩ = some (.int .u8 s[j].toNat)) := Lib.hid (fun j hj => hgrow.cell ((World.grownBy_alloc w3 _ none).cell (HC3.out j hj) (by simp)) hvb)
          have HR5 : Hid (w5.heap[w.heap.size]? = some (.cells #[.int .i64 0, .int .i64 0, .string ⟨#[]⟩] 25)) := Lib.hid ((hgrow.block w.heap.size (by have := size_of_heap HR3.out; simp; omega) (fun e => by have := (HO3.out.lt w.heap.size e.symm).1; omega)).trans ((Below.heap_alloc _ _ w.heap.size (size_of_heap HR3.out)).trans HR3.out))
          have HO5 : Hid (w5.ownsRow (w.heap.size + 1) 5 1 v5 (L ++ [s[k]]).length ((numsL (L ++ [s[k]])).map (Value.int .u8))) := Lib.hid (by rw [List.length_append, numsL_app, List.map_append]; rw [nums_one HV.out]; exact hown)
          have hz5 : w.heap.size + 3 ≤ w5.heap.size := by have := hgrow.size; simp at this; omega
          have hvb5 : some (w.heap.size + 2) ≠ v5.ownBlock := by
            rcases hwhere with h | h
            · rw [h]; exact hvb
            · rw [h]; simp; omega
          clear hown hgrow hwhere
          go_roundw
          case rel => exact ⟨k + 1, L ++ [s[k]], by omega, by go_num, HCE, by rw [HRE.out]; go_num, HL2, HO5, HR5, HC5, hvb5, HB5, hz5⟩
          case measure => simp [intOf]; omega
        · skip
          have HMK := Lib.hid (fun w => imko_any s[k] w)
          rw [markV_white h46] at HMK
          have ia := is_RW
          have ib := is_WW
          have hmW := mth_W
          have ic := is_BW
          have HCE : Hid (cellsL (s.data.toList.take (k + 1)) = L ++ [s[k]]) := Lib.hid (by rw [HTK.out, hL]; unfold cellsL; rw [List.filter_append, List.filter_cons_of_pos (by rw [h46]; decide)]; rfl)
          have HRE : Hid ((s.data.toList.take (k + 1)).count 47 = (s.data.toList.take k).count 47) := Lib.hid (by rw [HTK.out, List.count_append, List.count_singleton, h46]; rfl)
          have hv : ((s[k].toNat : Nat) : Int) = 46 := by rw [h46]; rfl
          have HV := Lib.hid hv
          clear h46 hv hL
          go_wp2_with (first | (go_at_call 31; refine (HMK.out _).mono ?_; rintro e w2 ⟨rfl, b2⟩; have HR2 := Lib.hid ((b2.block w.heap.size (size_of_heap HR.out)).trans HR.out); have HO2 := Lib.hid (own_later HO.out b2); have HC2 := Lib.hid (keep_bytes HC.out b2); have HB2 := Lib.hid (HB.out.trans (b2.mono HB.out.size)); have hz2 := Nat.le_trans hzb b2.size; obtain ⟨z0, z1, z2, y0, y1, y2⟩ := cells3 HR2.out; clear b2) | (go_at_call 75; refine (signW _).mono ?_; rintro e w3 ⟨rfl, b3⟩; have HR3 := Lib.hid ((b3.block w.heap.size (size_of_heap HR2.out)).trans HR2.out); have HO3 := Lib.hid (own_later HO2.out b3); have HC3 := Lib.hid (keep_bytes HC2.out b3); have HB3 := Lib.hid (HB2.out.trans (b3.mono HB2.out.size)); have hz3 := Nat.le_trans hz2 b3.size; clear b3) | (at_builtin; go_loud (refine append_one _ rfl _ _ 22 rfl (w.heap.size + 1) 5 i0 (.int .u8 0) 1 Try.underlying22 hi hz0 hz1 hz2' rfl _ L.length ((numsL L).map (Value.int .u8)) rfl (own_later HO3.out (Joins.below_alloc1 _ _)) ⟨_, 0, none⟩ 1 .u8 46 rfl (by simp) (by omega) (by omega) (by simp; omega) ?_; intro v5 w5 hown hgrow hwhere)))
          have HB5 := Lib.hid (below_own (HB3.out.alloc HB3.out.size _) hgrow (own_later HO3.out (Joins.below_alloc1 _ _)) (by omega) (by simp; have := HB3.out.size; omega))
          have HC5 : Hid (∀ j (hj : j < s.size), w5.cell? ⟨w.heap.size + 2, j, none⟩ = some (.int .u8 s[j].toNat)) := Lib.hid (fun j hj => hgrow.cell ((World.grownBy_alloc w3 _ none).cell (HC3.out j hj) (by simp)) hvb)
          have HR5 : Hid (w5.heap[w.heap.size]? = some (.cells #[.int .i64 0, .int .i64 0, .string ⟨#[]⟩] 25)) := Lib.hid ((hgrow.block w.heap.size (by have := size_of_heap HR3.out; simp; omega) (fun e => by have := (HO3.out.lt w.heap.size e.symm).1; omega)).trans ((Below.heap_alloc _ _ w.heap.size (size_of_heap HR3.out)).trans HR3.out))
          have HO5 : Hid (w5.ownsRow (w.heap.size + 1) 5 1 v5 (L ++ [s[k]]).length ((numsL (L ++ [s[k]])).map (Value.int .u8))) := Lib.hid (by rw [List.length_append, numsL_app, List.map_append]; rw [nums_one HV.out]; exact hown)
          have hz5 : w.heap.size + 3 ≤ w5.heap.size := by have := hgrow.size; simp at this; omega
          have hvb5 : some (w.heap.size + 2) ≠ v5.ownBlock := by
            rcases hwhere with h | h
            · rw [h]; exact hvb
            · rw [h]; simp; omega
          clear hown hgrow hwhere
          go_roundw
          case rel => exact ⟨k + 1, L ++ [s[k]], by omega, by go_num, HCE, by rw [HRE.out]; go_num, HL2, HO5, HR5, HC5, hvb5, HB5, hz5⟩
          case measure => simp [intOf]; omega
        · have HMK := Lib.hid (fun w => imko_any s[k] w)
          rw [markV_row h47] at HMK
          have ia := is_RR
          have HCE : Hid (cellsL (s.data.toList.take (k + 1)) = L) := Lib.hid (by rw [HTK.out, hL]; unfold cellsL; rw [List.filter_append, List.filter_cons_of_neg (by rw [h47]; decide)]; simp)
          have HRE : Hid ((s.data.toList.take (k + 1)).count 47 = (s.data.toList.take k).count 47 + 1) := Lib.hid (by rw [HTK.out, List.count_append, List.count_singleton, h47]; rfl)
          clear h47 hL
          go_wp2_with (go_at_call 31; refine (HMK.out _).mono ?_; rintro e w2 ⟨rfl, b2⟩; have HR2 := Lib.hid ((b2.block w.heap.size (size_of_heap HR.out)).trans HR.out); have HO2 := Lib.hid (own_later HO.out b2); have HC2 := Lib.hid (keep_bytes HC.out b2); have HB2 := Lib.hid (HB.out.trans (b2.mono HB.out.size)); have hz2 := Nat.le_trans hzb b2.size; obtain ⟨z0, z1, z2, y0, y1, y2⟩ := cells3 HR2.out; clear b2)
          go_roundw
          case rel => exact ⟨k + 1, L, by omega, by go_num, HCE, by rw [HRE.out]; go_num, HL2, Lib.hid (own_later HO2.out (Joins.below_alloc1 _ _)), Lib.hid ((Below.heap_alloc _ _ w.heap.size (size_of_heap HR2.out)).trans HR2.out), Lib.hid (keep_bytes HC2.out (Joins.below_alloc1 _ _)), hvb, Lib.hid (HB2.out.alloc HB2.out.size _), by simp; omega⟩
          case measure => simp [intOf]; omega
      · have HF := Lib.hid (parse_byte hlt hb)
        have HMK := Lib.hid (fun w => imko_any s[k] w)
        have hb2 : ¬ (s[k] = 35 ∨ s[k] = 46) := fun h => hb (Or.inl h)
        rw [markV_none hb2 (fun h => hb (Or.inr h))] at HMK
        have ia := is_RN
        have ib := is_WN
        have ic := is_BN
        clear hb hb2 hL
        go_wp2_with (go_at_call 31; refine (HMK.out _).mono ?_; rintro e w2 ⟨rfl, b2⟩; have HR2 := Lib.hid ((b2.block w.heap.size (size_of_heap HR.out)).trans HR.out); have HO2 := Lib.hid (own_later HO.out b2); have HC2 := Lib.hid (keep_bytes HC.out b2); have HB2 := Lib.hid (HB.out.trans (b2.mono HB.out.size)); have hz2 := Nat.le_trans hzb b2.size; obtain ⟨z0, z1, z2, y0, y1, y2⟩ := cells3 HR2.out; clear b2)
        exact bodyPost_ret (v := .tuple #[.agg #[.int .i64 0, .int .i64 0, .string ⟨#[]⟩], .bool false]) (by simp [results, Try.results12, go_sem, z0, z1, z2]) rfl ⟨by rw [HF.out]; rfl, (((HB2.out.setCell (p := ⟨w.heap.size, 0, none⟩) (by simp) _).setCell (p := ⟨w.heap.size, 1, none⟩) (by simp) _).setCell (p := ⟨w.heap.size, 2, none⟩) (by simp) _)⟩
    · have hk' : k = s.size := by omega
      subst hk'
      rw [show s.data.toList.take s.size = s.data.toList by rw [← size_list, List.take_length]] at HL0 ⊢
      have HSP : Hid (spellG s = (((s.data.toList.count 47 + 1 : Nat) : Int), ((L.length / (s.data.toList.count 47 + 1) : Nat) : Int), ⟨L.toArray⟩)) := Lib.hid (by unfold spellG; rw [HL0.out])
      have hLl : L.length ≤ s.size := by rw [← HL0.out, ← size_list]; exact cellsL_le _
      have hct : s.data.toList.count 47 ≤ s.size := by rw [← size_list]; exact List.count_le_length
      obtain ⟨N, hN⟩ : ∃ N, N = s.data.toList.count 47 + 1 := ⟨_, rfl⟩
      rw [← hN] at HSP ⊢
      obtain ⟨Q, hQ⟩ : ∃ Q, Q = L.length / N := ⟨_, rfl⟩
      have hN1 : 1 ≤ N := by omega
      have hQ1 : Q ≤ L.length := by rw [hQ]; exact Nat.div_le_self _ _
      have hquo : (L.length : Int).tdiv (N : Int) = (Q : Int) := by rw [hQ]; exact (Int.ofNat_tdiv _ _).symm
      have hN0 : ((N : Int) == 0) = false := by simp; omega
      have hN2 : ¬ (N : Int) = 0 := by omega
      rw [← hQ] at HSP
      obtain ⟨a5, c5, rfl⟩ := own_slc HO.out
      have HCVA : Hid (∀ W', Below wr.heap.size wr W' → (convert 22 9 (.slice a5 L.length c5)).run Try.prog W' = .ok (.string ⟨L.toArray⟩) W') := Lib.hid (fun W' hb => by rw [← str_nums L]; exact conv_own (reads_own (own_later HO.out hb) (by rw [numsL_length]) (by rw [numsL_length]; omega)))
      have hcv1 := HCVA.out _ (Below.refl _ _).drew
      have hcv0 := HCVA.out _ (Below.refl _ _)
      have hcv3 := fun o => HCVA.out _ ((Below.refl _ wr).alloc (Nat.le_refl _) o).drew
      have hcv4 := fun o => HCVA.out _ ((Below.refl _ wr).alloc (Nat.le_refl _) o)
      have hcv2 := fun o => HCVA.out _ ((Below.refl _ _).drew.alloc (Nat.le_refl _) o)
      clear hQ hN hct HL HL0
      have hls : (⟨L.toArray⟩ : ByteArray).size ≤ 4194304 := by rw [← size_list]; show L.length ≤ _; omega
      have HIG := Lib.hid (fun w => iisg_any (N : Int) (Q : Int) ⟨L.toArray⟩ hls w)
      have HTX := Lib.hid (fun w => itext_any (N : Int) (Q : Int) ⟨L.toArray⟩ hls w)
      have HPA : Hid (isG ((N : Int), (Q : Int), ⟨L.toArray⟩) = true → textG ((N : Int), (Q : Int), ⟨L.toArray⟩) = s → parseG s = (((N : Int), (Q : Int), ⟨L.toArray⟩), true)) := Lib.hid (fun h1 h2 => by rw [← HSP.out] at h1 h2 ⊢; exact parse_same h1 h2)
      have HPB : Hid (¬ (isG ((N : Int), (Q : Int), ⟨L.toArray⟩) = true ∧ textG ((N : Int), (Q : Int), ⟨L.toArray⟩) = s) → parseG s = ((0, 0, ⟨#[]⟩), false)) := Lib.hid (fun h => parse_other (by rw [HSP.out]; exact h))
      obtain ⟨x, hx⟩ : ∃ x, x = textG ((N : Int), (Q : Int), ⟨L.toArray⟩) := ⟨_, rfl⟩
      obtain ⟨p, hp⟩ : ∃ p, p = isG ((N : Int), (Q : Int), ⟨L.toArray⟩) := ⟨_, rfl⟩
      rw [← hx] at HTX HPA HPB
      rw [← hp] at HIG HPA HPB
      clear hx hp HSP hls
      go_wp2
      go_region_with (fail)
      all_goals (
        obtain ⟨V, hV⟩ : ∃ V, V = (wr.alloc (.cells #[.int .i64 (N : Int), .int .i64 (Q : Int), .string ⟨L.toArray⟩] 25)).drew := ⟨_, rfl⟩
        have HGV : Hid (V.heap[wr.heap.size]? = some (.cells #[.int .i64 (N : Int), .int .i64 (Q : Int), .string ⟨L.toArray⟩] 25)) := Lib.hid (by rw [hV]; exact new_block wr _)
        have HRV : Hid (V.heap[w.heap.size]? = some (.cells #[.int .i64 0, .int .i64 0, .string ⟨#[]⟩] 25)) := Lib.hid (by rw [hV]; exact (Below.heap_alloc _ _ _ (size_of_heap HR.out)).trans HR.out)
        have HBV : Hid (Below w.heap.size w V) := Lib.hid (by rw [hV]; exact (HB.out.alloc HB.out.size _).drew)
        rw [← hV]
        clear hV hcv0 hcv1 hcv2 hcv3 hcv4 HR HB
        obtain ⟨x0, x1, x2, fx0, fx1, fx2⟩ := cells3 HGV.out
        cases p with
        | false =>
          have HF := Lib.hid (HPB.out (fun h => by cases h.1))
          clear HPA HPB
          go_wp2_with (go_at_call 14; refine (HIG.out _).mono ?_; rintro e w7 ⟨rfl, b9⟩; have HG7 := Lib.hid ((b9.block wr.heap.size (size_of_heap HGV.out)).trans HGV.out); have HR7 := Lib.hid ((b9.block w.heap.size (size_of_heap HRV.out)).trans HRV.out); have HB7 := Lib.hid (HBV.out.trans (b9.mono HBV.out.size)); obtain ⟨x0, x1, x2, fx0, fx1, fx2⟩ := cells3 HG7.out; obtain ⟨z0, z1, z2, y0, y1, y2⟩ := cells3 HR7.out; clear b9)
          exact bodyPost_ret (v := .tuple #[.agg #[.int .i64 0, .int .i64 0, .string ⟨#[]⟩], .bool false]) (by simp [results, Try.results12, go_sem, z0, z1, z2]) rfl ⟨by rw [HF.out]; rfl, (((HB7.out.setCell (p := ⟨w.heap.size, 0, none⟩) (by simp) _).setCell (p := ⟨w.heap.size, 1, none⟩) (by simp) _).setCell (p := ⟨w.heap.size, 2, none⟩) (by simp) _)⟩
        | true =>
          by_cases he : x = s
          · have HF := Lib.hid (HPA.out rfl he)
            clear HPA HPB
            subst he
            go_wp2_with (first | (go_at_call 14; refine (HIG.out _).mono ?_; rintro e w7 ⟨rfl, b9⟩; have HG7 := Lib.hid ((b9.block wr.heap.size (size_of_heap HGV.out)).trans HGV.out); have HR7 := Lib.hid ((b9.block w.heap.size (size_of_heap HRV.out)).trans HRV.out); have HB7 := Lib.hid (HBV.out.trans (b9.mono HBV.out.size)); obtain ⟨x0, x1, x2, fx0, fx1, fx2⟩ := cells3 HG7.out; obtain ⟨z0, z1, z2, y0, y1, y2⟩ := cells3 HR7.out; clear b9) | (go_at_call 13; refine (HTX.out _).mono ?_; rintro e w8 ⟨rfl, b9⟩; have HG8 := Lib.hid ((b9.block wr.heap.size (size_of_heap HG7.out)).trans HG7.out); have HR8 := Lib.hid ((b9.block w.heap.size (size_of_heap HR7.out)).trans HR7.out); have HB8 := Lib.hid (HB7.out.trans (b9.mono HB7.out.size)); obtain ⟨x0, x1, x2, fx0, fx1, fx2⟩ := cells3 HG8.out; obtain ⟨z0, z1, z2, y0, y1, y2⟩ := cells3 HR8.out; clear b9))
            exact bodyPost_ret (v := .tuple #[.agg #[.int .i64 (N : Int), .int .i64 (Q : Int), .string ⟨L.toArray⟩], .bool true]) (by simp [results, Try.results12, go_sem, z0, z1, z2]) rfl ⟨by rw [HF.out]; rfl, (((HB8.out.setCell (p := ⟨w.heap.size, 0, none⟩) (by simp) _).setCell (p := ⟨w.heap.size, 1, none⟩) (by simp) _).setCell (p := ⟨w.heap.size, 2, none⟩) (by simp) _)⟩
          · have HF := Lib.hid (HPB.out (fun h => he h.2))
            have hne := toList_ne he
            have hne2 : (x.toList == s.toList) = false := beq_eq_false_iff_ne.2 hne
            clear HPA HPB he
            go_wp2_with (first | (go_at_call 14; refine (HIG.out _).mono ?_; rintro e w7 ⟨rfl, b9⟩; have HG7 := Lib.hid ((b9.block wr.heap.size (size_of_heap HGV.out)).trans HGV.out); have HR7 := Lib.hid ((b9.block w.heap.size (size_of_heap HRV.out)).trans HRV.out); have HB7 := Lib.hid (HBV.out.trans (b9.mono HBV.out.size)); obtain ⟨x0, x1, x2, fx0, fx1, fx2⟩ := cells3 HG7.out; obtain ⟨z0, z1, z2, y0, y1, y2⟩ := cells3 HR7.out; clear b9) | (go_at_call 13; refine (HTX.out _).mono ?_; rintro e w8 ⟨rfl, b9⟩; have HG8 := Lib.hid ((b9.block wr.heap.size (size_of_heap HG7.out)).trans HG7.out); have HR8 := Lib.hid ((b9.block w.heap.size (size_of_heap HR7.out)).trans HR7.out); have HB8 := Lib.hid (HB7.out.trans (b9.mono HB7.out.size)); obtain ⟨x0, x1, x2, fx0, fx1, fx2⟩ := cells3 HG8.out; obtain ⟨z0, z1, z2, y0, y1, y2⟩ := cells3 HR8.out; clear b9))
            exact bodyPost_ret (v := .tuple #[.agg #[.int .i64 0, .int .i64 0, .string ⟨#[]⟩], .bool false]) (by simp [results, Try.results12, go_sem, z0, z1, z2]) rfl ⟨by rw [HF.out]; rfl, (((HB8.out.setCell (p := ⟨w.heap.size, 0, none⟩) (by simp) _).setCell (p := ⟨w.heap.size, 1, none⟩) (by simp) _).setCell (p := ⟨w.heap.size, 2, none⟩) (by simp) _)⟩)

theorem i_IsGrid (r c : Int) (s : ByteArray) (w : World) (_hK : ok_Grid (r, c, s)) (hs : s.size ≤ 1048576) :
    Calls Try.prog 14 #[.agg #[.int .i64 r, .int .i64 c, .string s]] w fun e w' => ∃ q, q = isG (r, c, s) ∧ e = .returned (.bool q) ∧ Below w.heap.size w w' :=
  (iisg_any r c s (by omega) w).mono fun _ _ ⟨h1, h2⟩ => ⟨_, rfl, h1, h2⟩
theorem i_IsWhite (r c : Int) (s : ByteArray) (k : Int) (w : World) (_hK : ok_Grid (r, c, s)) (hs : s.size ≤ 1048576) (_lo : -9223372036854775808 ≤ k) (_hi : k ≤ 9223372036854775807) :
    Calls Try.prog 20 #[.agg #[.int .i64 r, .int .i64 c, .string s], .int .i64 k] w fun e w' => ∃ q, q = isWh (r, c, s) k ∧ e = .returned (.bool q) ∧ Below w.heap.size w w' :=
  (iiswh_any r c s k (by omega) w).mono fun _ _ ⟨h1, h2⟩ => ⟨_, rfl, h1, h2⟩
theorem i_TurnGrid (r c : Int) (s : ByteArray) (w : World) (_hK : ok_Grid (r, c, s)) (hs : s.size ≤ 1048576) :
    Calls Try.prog 16 #[.agg #[.int .i64 r, .int .i64 c, .string s]] w fun e w' => ∃ y : Int × Int × ByteArray, y = turnG (r, c, s) ∧ e = .returned (.agg #[.int .i64 y.1, .int .i64 y.2.1, .string y.2.2]) ∧ Below w.heap.size w w' :=
  (iturn_any r c s (by omega) w).mono fun _ _ ⟨h1, h2⟩ => ⟨_, rfl, h1, h2⟩
theorem i_IsSymmetric (r c : Int) (s : ByteArray) (w : World) (_hK : ok_Grid (r, c, s)) (hs : s.size ≤ 1048576) :
    Calls Try.prog 17 #[.agg #[.int .i64 r, .int .i64 c, .string s]] w fun e w' => ∃ q, q = symG (r, c, s) ∧ e = .returned (.bool q) ∧ Below w.heap.size w w' :=
  (isym_any r c s hs w).mono fun _ _ ⟨h1, h2⟩ => ⟨_, rfl, h1, h2⟩
theorem i_GridText (r c : Int) (s : ByteArray) (w : World) (_hK : ok_Grid (r, c, s)) (hs : s.size ≤ 1048576) :
    Calls Try.prog 13 #[.agg #[.int .i64 r, .int .i64 c, .string s]] w fun e w' => ∃ q, q = textG (r, c, s) ∧ e = .returned (.string q) ∧ Below w.heap.size w w' :=
  (itext_any r c s (by omega) w).mono fun _ _ ⟨h1, h2⟩ => ⟨_, rfl, h1, h2⟩
theorem i_ParseGrid (s : ByteArray) (w : World) (hs : s.size ≤ 1048576) :
    Calls Try.prog 12 #[.string s] w fun e w' => ∃ (y : Int × Int × ByteArray) (b : Bool), (y = (parseG s).1 ∧ b = (parseG s).2) ∧ e = .returned (.tuple #[.agg #[.int .i64 y.1, .int .i64 y.2.1, .string y.2.2], .bool b]) ∧ Below w.heap.size w w' :=
  (iparse_any s hs w).mono fun _ _ ⟨h1, h2⟩ => ⟨_, _, ⟨rfl, rfl⟩, h1, h2⟩
end Go.Proofs.Ytbickkphiofmlaa
