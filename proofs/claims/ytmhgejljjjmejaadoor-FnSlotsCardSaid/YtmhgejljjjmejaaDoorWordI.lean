/-
  The model's contracts of chapter 4 in the form that the exact laws' walks ask: s_F, and u_F: the relation fixes the answer.
  The bytes of a string, as numbers, and what '[]byte(s)' makes.
  The program's contracts of chapter 4: isLetter, IsWord, countLetters.
-/
import Derived.Test.YtmhgejljjjmejaaDoorWordP
import Derived.Test.YtmhgejljjjmejaaDoorKit
import Derived.Lib.ConvBytes
import Derived.Deep.RegionWith
import Derived.Laws.BytesArg
import Derived.Laws.BytesString
import Derived.Laws.Rows
import Derived.Laws.CopyOwn
namespace Go.Proofs.YtmhgejljjjmejaaDoor
open Go.RowKit

theorem u_IsWord {a0 : ByteArray} {r r' : Bool} (h : r = isW a0) (h' : r' = isW a0) : r = r' := h.trans h'.symm
theorem u_Backwards {a0 : ByteArray} {r r' : ByteArray} (h : r = backL a0) (h' : r' = backL a0) : r = r' := h.trans h'.symm
theorem u_SortLetters {a0 : ByteArray} {r r' : ByteArray} (h : r = sortL a0) (h' : r' = sortL a0) : r = r' := h.trans h'.symm
theorem u_IsRearranged {a0 a1 : ByteArray} {r r' : Bool} (h : r = rearr a0 a1) (h' : r' = rearr a0 a1) : r = r' := h.trans h'.symm
theorem u_CountLetter {a0 a1 : ByteArray} {r r' : Int} (h : r = cntL a0 a1) (h' : r' = cntL a0 a1) : r = r' := h.trans h'.symm
theorem u_BeforeWord {a0 a1 : ByteArray} {r r' : Bool} (h : r = befW a0 a1) (h' : r' = befW a0 a1) : r = r' := h.trans h'.symm
end Go.Proofs.YtmhgejljjjmejaaDoor
namespace Go.Proofs.YtmhgejljjjmejaaDoor
open Go.RowKit

/-- The bytes of a string, as numbers. -/
def bytesI (s : ByteArray) : List Int := s.data.toList.map fun b => (b.toNat : Int)
theorem bytesI_length (s : ByteArray) : (bytesI s).length = s.size := by unfold bytesI; rw [List.length_map, Array.length_toList]; rfl
theorem bytesI_byte (s : ByteArray) : ∀ z ∈ bytesI s, 0 ≤ z ∧ z ≤ 255 := by
  intro z hz
  obtain ⟨b, -, rfl⟩ := List.mem_map.1 hz
  have := b.toNat_lt
  omega
theorem conv_below (w : World) (e : TypeId) (s : ByteArray) : Below w.heap.size w (Lib.bytesWorld w e s) :=
  ⟨rfl, rfl, rfl, by rw [Lib.bytesWorld_size]; omega, fun k hk => Lib.bytesWorld_at_old w e s k hk⟩
theorem reads_conv (w : World) (e : TypeId) (s : ByteArray) (h : s.size ≤ 140737488355328) : Reads (Lib.bytesWorld w e s).heap.size (Lib.bytesWorld w e s) (.slice (some ⟨w.heap.size, 0, none⟩) s.size (grownCap w s.size 0 e)) .u8 (bytesI s) := by
  have h1 := grownCap_ge w s.size 0 e
  have h2 := grownCap_le_maxLen w s.size 0 e (by unfold maxLen; omega)
  unfold maxLen at h2
  refine ⟨by rw [bytesI_length]; omega, _, _, by rw [bytesI_length], ⟨(fun e => by cases e), by rw [bytesI_length]; omega, by omega⟩, fun j hj => ?_⟩
  rw [bytesI_length] at hj
  refine ⟨w.heap.size, 0, rfl, by rw [Lib.bytesWorld_size]; omega, ?_⟩
  rw [Nat.zero_add, Lib.bytesWorld_cell w e s j hj]
  have hj' : j < s.data.toList.length := by rw [Array.length_toList]; exact hj
  unfold bytesI
  rw [List.getD_eq_getElem?_getD, List.getD_eq_getElem?_getD, List.getElem?_map, List.getElem?_eq_getElem hj']
  rfl
end Go.Proofs.YtmhgejljjjmejaaDoor
namespace Go.Proofs.YtmhgejljjjmejaaDoor
open Go.RowKit

/-- The numbers of bytes, of a list. -/
def numsL (l : List UInt8) : List Int := l.map fun b => (b.toNat : Int)
theorem numsL_length (l : List UInt8) : (numsL l).length = l.length := by simp [numsL]
theorem numsL_app (l m : List UInt8) : numsL (l ++ m) = numsL l ++ numsL m := by simp [numsL]
theorem str_nums (l : List UInt8) : strOfNums (numsL l) = ⟨l.toArray⟩ := by
  simp [strOfNums, numsL, Function.comp_def]
theorem conv_own {W : World} {B : Nat} {v : Value} {l : List Int} (h : Reads B W v .u8 l) : (convert 22 9 v).run Tryd.prog W = .ok (.string (strOfNums l)) W := by
  obtain ⟨-, a0, cap, rfl, hcap, hc⟩ := h
  cases a0 with
  | none =>
    have hl : l = [] := by
      rcases Nat.eq_zero_or_pos l.length with h0 | h0
      · exact List.length_eq_zero_iff.1 h0
      · obtain ⟨b, off, e1, _⟩ := hc 0 h0
        cases e1
    subst hl
    exact run_convert_bytes_nil W 22 5 Tryd.underlying22 Tryd.underlying5 _ _ 9 Tryd.underlying9
  | some ad =>
    obtain ⟨b, off, f⟩ := ad
    by_cases h0 : l.length = 0
    · have hl : l = [] := List.length_eq_zero_iff.1 h0
      subst hl
      rw [run_convert_bytes_string W 22 9 5 _ _ _ Tryd.underlying22 Tryd.underlying5 Tryd.underlying9, run_bytesToString W _ _ _ [] (by simpa using run_loadCells_list (P := Tryd.prog) W ⟨b, off, f⟩ [] (fun j u hu => by simp at hu)), foldl_push_bytes]
      simp [strOfNums, ByteArray.empty, ByteArray.emptyWithCapacity]
      rfl
    · obtain ⟨b', off', e1, -, -⟩ := hc 0 (by omega)
      cases e1
      exact run_convert_bytes_arg W 22 5 Tryd.underlying22 Tryd.underlying5 b off l.length cap l rfl (fun i hi => by
        obtain ⟨b2, off2, e2, _, e3⟩ := hc i hi
        cases e2
        exact e3) 9 Tryd.underlying9

/-- '[]byte(s)' of a string: the new slice, its bytes. -/
theorem conv_str (s : ByteArray) (w : World) (h : s.size ≤ 1048576) : ∃ (c : Nat) (W1 : World), (convert 9 22 (.string s)).run Tryd.prog w = .ok (.slice (some ⟨w.heap.size, 0, none⟩) s.size c) W1 ∧ s.size ≤ c ∧ c ≤ 9223372036854775807 ∧ Below w.heap.size w W1 ∧ w.heap.size + 1 = W1.heap.size ∧ ∀ k (hk : k < s.size), W1.cell? ⟨w.heap.size, k, none⟩ = some (.int .u8 s[k].toNat) := by
  have h1 := grownCap_ge w s.size 0 5
  have h2 := grownCap_le_maxLen w s.size 0 5 (by unfold maxLen; omega)
  unfold maxLen at h2
  refine ⟨_, _, Lib.run_convert_string_bytes w _ _ _ s Tryd.underlying9 Tryd.underlying22 Tryd.underlying5, h1, by omega, conv_below _ _ _, (Lib.bytesWorld_size ..).symm, fun k hk => ?_⟩
  rw [Lib.bytesWorld_cell w _ s k hk, List.getD_eq_getElem?_getD, List.getElem?_eq_getElem (by simpa using hk)]
  rfl

theorem isW_not_all {s : ByteArray} (h1 : 1 ≤ s.size) (h2 : s.size ≤ 8) (h : isW s = false) : ¬ ∀ b ∈ s.data.toList, isL b := fun hw => by
  have := of_decide_eq_false h
  exact this ⟨h1, h2, hw⟩
/-- How often each letter is in l: the cells of an array of 26. -/
def cntA (l : List UInt8) : Array Value := ((List.range 26).map fun j => Value.int .i64 ((nth l j).length : Nat)).toArray
theorem cntA_size (l : List UInt8) : (cntA l).size = 26 := by simp [cntA]
theorem cntA_at (l : List UInt8) (j : Nat) (h : j < 26) : (cntA l)[j]? = some (.int .i64 ((nth l j).length : Nat)) := by simp [cntA, h]
theorem cntA_nil : cntA [] = Array.replicate 26 (.int .i64 0) := by rfl
theorem nth_snoc (l : List UInt8) (b : UInt8) (j : Nat) : (nth (l ++ [b]) j).length = if b.toNat = 97 + j then (nth l j).length + 1 else (nth l j).length := by
  unfold nth
  rw [List.filter_append, List.length_append]
  by_cases h : b.toNat = 97 + j
  · rw [if_pos h]; simp [h]
  · rw [if_neg h]; simp [h]
theorem cntA_snoc (l : List UInt8) (b : UInt8) (hb : isL b) : (cntA l).setIfInBounds (b.toNat - 97) (.int .i64 (((nth l (b.toNat - 97)).length : Nat) + 1 : Int)) = cntA (l ++ [b]) := by
  unfold isL at hb
  refine Array.ext (by simp [cntA]) fun i h1 h2 => ?_
  have hi : i < 26 := by simpa [cntA] using h2
  rw [Array.getElem_setIfInBounds (by simpa [cntA] using hi)]
  simp only [cntA, List.getElem_toArray, List.getElem_map, List.getElem_range, nth_snoc]
  by_cases h : b.toNat - 97 = i
  · subst h
    rw [if_pos rfl, if_pos (by omega)]
    simp
  · rw [if_neg h, if_neg (by omega)]
theorem cntA_one (l : List UInt8) : (cntA l).all (·.oneCell') = true := by simp [cntA, Value.oneCell']
theorem nth_le (l : List UInt8) (j : Nat) : (nth l j).length ≤ l.length := List.length_filter_le _ _
/-- The world behind '[]byte(s)' where two blocks have been laid: both stand, the bytes are there. -/
theorem two_conv (w : World) (cs : Array Value) (t e : TypeId) (s : ByteArray) :
    (Lib.bytesWorld ((w.alloc (.cells cs t)).alloc (.cells cs t)) e s).heap[w.heap.size]? = some (.cells cs t (0, 0)) ∧
    (Lib.bytesWorld ((w.alloc (.cells cs t)).alloc (.cells cs t)) e s).heap[w.heap.size + 1]? = some (.cells cs t (0, 0)) ∧
    (∀ k (hk : k < s.size), (Lib.bytesWorld ((w.alloc (.cells cs t)).alloc (.cells cs t)) e s).cell? ⟨w.heap.size + 1 + 1, k, none⟩ = some (.int .u8 s[k].toNat)) ∧
    Below w.heap.size w (Lib.bytesWorld ((w.alloc (.cells cs t)).alloc (.cells cs t)) e s) := by
  obtain ⟨W1, hW1⟩ : ∃ W1, W1 = w.alloc (.cells cs t) := ⟨_, rfl⟩
  obtain ⟨W2, hW2⟩ : ∃ W2, W2 = W1.alloc (.cells cs t) := ⟨_, rfl⟩
  have z1 : W1.heap.size = w.heap.size + 1 := by rw [hW1]; simp
  have z2 : W2.heap.size = w.heap.size + 1 + 1 := by rw [hW2]; simp [z1]
  have g1 : W1.heap[w.heap.size]? = some (.cells cs t (0, 0)) := by rw [hW1]; exact heap_alloc_new w _
  have g2 : W2.heap[w.heap.size + 1]? = some (.cells cs t (0, 0)) := by rw [hW2, ← z1]; exact heap_alloc_new W1 _
  have g3 : W2.heap[w.heap.size]? = some (.cells cs t (0, 0)) := by rw [hW2, Below.heap_alloc W1 _ _ (by omega)]; exact g1
  have b1 : Below w.heap.size w W1 := by rw [hW1]; exact (Below.refl _ _).alloc (Nat.le_refl _) _
  have b2 : Below w.heap.size w W2 := by rw [hW2]; exact b1.alloc (by omega) _
  rw [← hW1, ← hW2]
  refine ⟨by rw [Lib.bytesWorld_at_old W2 e s _ (by omega)]; exact g3, by rw [Lib.bytesWorld_at_old W2 e s _ (by omega)]; exact g2, fun k hk => ?_, btrans b2 (conv_below _ _ _)⟩
  rw [← z2, Lib.bytesWorld_cell W2 _ s k hk, List.getD_eq_getElem?_getD, List.getElem?_eq_getElem (by simpa using hk)]
  rfl
end Go.Proofs.YtmhgejljjjmejaaDoor
