/-
  The program's contracts of slotOf, fillingOf, IsFill.
-/
import Derived.Test.YthgnhcjbjdhjfaaFillPure
import Derived.Test.YthgnhcjbjdhjfaaMix
import Derived.Test.YthgnhcjbjdhjfaaGridImplE
import Derived.Test.YthgnhcjbjdhjfaaSlotImplG
import Derived.Deep.RegionWith
import Derived.Deep.RegionHeld3
namespace Go.Proofs.Ythgnhcjbjdhjfaa
open Go.RowKit

/-- A grid, or none if the fill is none. -/
def fG (g : Int × Int × ByteArray) (f : ByteArray) : Int × Int × ByteArray := if isF g f = true then g else (0, 0, ⟨#[]⟩)
theorem brd_none : brd (0, 0, ⟨#[]⟩) = (0, 0, 0) := rfl
theorem slG_none : slG (0, 0, ⟨#[]⟩) = [] := rfl
theorem cells5F {w : World} {b : Nat} {x y z u v : Value} {t : TypeId} (h : w.heap[b]? = some (.cells #[x, y, z, u, v] t (0, 0))) :
    w.cell? ⟨b, 0, none⟩ = some x ∧ w.cell? ⟨b, 1, none⟩ = some y ∧ w.cell? ⟨b, 2, none⟩ = some z ∧ w.cell? ⟨b, 3, none⟩ = some u ∧ w.cell? ⟨b, 4, none⟩ = some v ∧ w.frozen? ⟨b, 0, none⟩ = false ∧ w.frozen? ⟨b, 1, none⟩ = false ∧ w.frozen? ⟨b, 2, none⟩ = false ∧ w.frozen? ⟨b, 3, none⟩ = false ∧ w.frozen? ⟨b, 4, none⟩ = false :=
  ⟨Joins.cell_of_block h 0, Joins.cell_of_block h 1, Joins.cell_of_block h 2, Joins.cell_of_block h 3, Joins.cell_of_block h 4, Joins.unfrozen_of_block h 0, Joins.unfrozen_of_block h 1, Joins.unfrozen_of_block h 2, Joins.unfrozen_of_block h 3, Joins.unfrozen_of_block h 4⟩
theorem cells4F {w : World} {b : Nat} {x y z u : Value} {t : TypeId} (h : w.heap[b]? = some (.cells #[x, y, z, u] t (0, 0))) :
    w.cell? ⟨b, 0, none⟩ = some x ∧ w.cell? ⟨b, 1, none⟩ = some y ∧ w.cell? ⟨b, 2, none⟩ = some z ∧ w.cell? ⟨b, 3, none⟩ = some u ∧ w.frozen? ⟨b, 0, none⟩ = false ∧ w.frozen? ⟨b, 1, none⟩ = false ∧ w.frozen? ⟨b, 2, none⟩ = false ∧ w.frozen? ⟨b, 3, none⟩ = false :=
  ⟨Joins.cell_of_block h 0, Joins.cell_of_block h 1, Joins.cell_of_block h 2, Joins.cell_of_block h 3, Joins.unfrozen_of_block h 0, Joins.unfrozen_of_block h 1, Joins.unfrozen_of_block h 2, Joins.unfrozen_of_block h 3⟩
/-- The slot with an index; the zero Slot if there is none. -/
def slotN (g : Int × Int × ByteArray) (k : Int) : SlotV := if 0 ≤ k ∧ k < ((slG g).length : Int) then (slG g).getD k.toNat none_Slot else none_Slot
def slotV (x : SlotV) : Value := .agg #[.int .i64 x.1, .bool x.2.1, .int .i64 x.2.2.1, .int .i64 x.2.2.2]
set_option maxRecDepth 100000 in
set_option maxHeartbeats 1600000 in
theorem isof_any (g : Int × Int × ByteArray) (k : Int) (w : World) :
    Calls Try.prog 43 #[brdV (brd g), .int .i64 k] w fun e w' => e = .returned (.tuple #[slotV (slotN g k), .bool (decide (0 ≤ k ∧ k < ((slG g).length : Int)))]) ∧ Below w.heap.size w w' := by
  have HSB := Lib.hid (fun w => slots_brd g w)
  have HLEN := Lib.hid (slG_length g)
  have HSN : Hid (slotN g k = if 0 ≤ k ∧ k < ((slG g).length : Int) then (slG g).getD k.toNat none_Slot else none_Slot) := Lib.hid rfl
  obtain ⟨SN, hSN⟩ : ∃ SN, SN = slotN g k := ⟨_, rfl⟩
  rw [← hSN] at HSN ⊢
  clear hSN
  obtain ⟨l, hl⟩ : ∃ l, l = slG g := ⟨_, rfl⟩
  rw [← hl] at HSB HLEN HSN ⊢
  clear hl
  obtain ⟨bn, hbn⟩ : ∃ bn, bn = decide (0 ≤ k ∧ k < (l.length : Int)) := ⟨_, rfl⟩
  rw [← hbn]
  have HBN := Lib.hid hbn
  clear hbn
  have hl72 := HLEN.out
  obtain ⟨⟨b0, b1, b2⟩, hb⟩ : ∃ b, b = brd g := ⟨_, rfl⟩
  rw [← hb] at HSB ⊢
  clear hb
  simp only [brdV] at HSB ⊢
  have hw9 : IntKind.i64.wrap ((l.length : Int) - 1) = (l.length : Int) - 1 := by rw [IntKind.wrap_i64]; omega
  have HX := Lib.hid (box33 (Below.refl _ ((w.alloc (.cells #[.int .i64 b0, .int .i64 b1, .int .u64 (b2 : Int)] 59)).alloc (.cells #[.int .i64 0, .bool false, .int .i64 0, .int .i64 0] 34))))
  go_enter Try.func43, Try.ntmps43
  go_wp2_with fail
  obtain ⟨W0, hW0⟩ : ∃ W0, W0 = (w.alloc (.cells #[.int .i64 b0, .int .i64 b1, .int .u64 (b2 : Int)] 59)).alloc (.cells #[.int .i64 0, .bool false, .int .i64 0, .int .i64 0] 34) := ⟨_, rfl⟩
  rw [← hW0] at HX ⊢
  clear hW0
  have HR0 := Lib.hid HX.out.2.1
  have HB0 := Lib.hid HX.out.2.2
  obtain ⟨d0, d1, d2, fd0, fd1, fd2⟩ := cells3 HX.out.1
  clear HX
  by_cases hin : 0 ≤ k ∧ k < (l.length : Int)
  · obtain ⟨j, rfl⟩ : ∃ j : Nat, k = j := ⟨k.toNat, by omega⟩
    have hj : j < l.length := by omega
    have HSE : Hid (SN = l.getD j none_Slot) := Lib.hid (by rw [HSN.out, if_pos hin, Int.toNat_natCast])
    have HBE : Hid (bn = true) := Lib.hid (by rw [HBN.out, decide_eq_true hin])
    have HSC0 : Hid (∀ (W : World) (base : Nat) (a0 : Option Addr) (cap : Nat), W.ownsRow base 34 4 (.slice a0 l.length cap) l.length (row_Slot l) → ∃ b, a0 = some ⟨b, 0, none⟩ ∧ W.cell? ⟨b, j * 4, none⟩ = some (.int .i64 (l.getD j none_Slot).1) ∧ W.cell? ⟨b, j * 4 + 1, none⟩ = some (.bool (l.getD j none_Slot).2.1) ∧ W.cell? ⟨b, j * 4 + 2, none⟩ = some (.int .i64 (l.getD j none_Slot).2.2.1) ∧ W.cell? ⟨b, j * 4 + 3, none⟩ = some (.int .i64 (l.getD j none_Slot).2.2.2)) := Lib.hid (fun W base a0 cap h => slot_cells h rfl j hj)
    clear HSN HBN
    obtain ⟨y, hy⟩ : ∃ y, y = l.getD j none_Slot := ⟨_, rfl⟩
    rw [← hy] at HSE HSC0
    clear hy
    obtain ⟨t0, t1, t2, t3⟩ := y
    simp only at HSC0
    have HIR := Lib.hid (fun w => inr_any (j : Int) 0 ((l.length : Int) - 1) w)
    rw [show decide (0 ≤ (j : Int) ∧ (j : Int) ≤ (l.length : Int) - 1) = true from decide_eq_true (by omega)] at HIR
    clear hin
    have hj0 : (0 : Int) ≤ (j : Int) := by omega
    go_wp2_with (first | (go_at_call 35; refine (HSB.out _).mono ?_; rintro e w4 ⟨v4, rfl, o4, b4⟩; obtain ⟨a0, cap, rfl⟩ := ownV_slice o4; have HL4 := Lib.hid o4; have HB4 := Lib.hid (HB0.out.trans (b4.mono HB0.out.size)); have HR4 := Lib.hid ((b4.block _ (size_of_heap HR0.out)).trans HR0.out); clear o4 b4; obtain ⟨b, rfl, q0, q1, q2, q3⟩ := HSC0.out _ _ _ _ HL4.out; obtain ⟨z0, z1, z2, z3, y0, y1, y2, y3⟩ := cells4F HR4.out) | (go_at_call 53; refine (HIR.out _).mono ?_; rintro e w5 ⟨rfl, rfl⟩))
    exact bodyPost_ret (v := .tuple #[slotV (t0, t1, t2, t3), .bool true]) (by simp [results, Try.results43, go_sem, z0, z1, z2, z3, slotV]) rfl ⟨by rw [HSE.out, HBE.out], ((((HB4.out.setCell (p := ⟨w.heap.size + 1, 0, none⟩) (by simp) _).setCell (p := ⟨w.heap.size + 1, 1, none⟩) (by simp) _).setCell (p := ⟨w.heap.size + 1, 2, none⟩) (by simp) _).setCell (p := ⟨w.heap.size + 1, 3, none⟩) (by simp) _)⟩
  · have HSE : Hid (SN = none_Slot) := Lib.hid (by rw [HSN.out, if_neg hin])
    have HBE : Hid (bn = false) := Lib.hid (by rw [HBN.out, decide_eq_false hin])
    clear HSN HBN
    have HIR := Lib.hid (fun w => inr_any k 0 ((l.length : Int) - 1) w)
    rw [show decide (0 ≤ k ∧ k ≤ (l.length : Int) - 1) = false from decide_eq_false (by omega)] at HIR
    go_wp2_with (first | (go_at_call 35; refine (HSB.out _).mono ?_; rintro e w4 ⟨v4, rfl, o4, b4⟩; obtain ⟨a0, cap, rfl⟩ := ownV_slice o4; have HB4 := Lib.hid (HB0.out.trans (b4.mono HB0.out.size)); have HR4 := Lib.hid ((b4.block _ (size_of_heap HR0.out)).trans HR0.out); clear o4 b4; obtain ⟨z0, z1, z2, z3, y0, y1, y2, y3⟩ := cells4F HR4.out) | (go_at_call 53; refine (HIR.out _).mono ?_; rintro e w5 ⟨rfl, rfl⟩))
    exact bodyPost_ret (v := .tuple #[slotV none_Slot, .bool false]) (by simp [results, Try.results43, go_sem, z0, z1, z2, z3, slotV, none_Slot]) rfl ⟨by rw [HSE.out, HBE.out], ((((HB4.out.setCell (p := ⟨w.heap.size + 1, 0, none⟩) (by simp) _).setCell (p := ⟨w.heap.size + 1, 1, none⟩) (by simp) _).setCell (p := ⟨w.heap.size + 1, 2, none⟩) (by simp) _).setCell (p := ⟨w.heap.size + 1, 3, none⟩) (by simp) _)⟩

/-- The places without a letter among the first k, and the white cells. -/
def opK (f : ByteArray) (k : Nat) : Nat := setTo (fun i => f.data.toList.getD i 0 == 63) k
def whK (f : ByteArray) (k : Nat) : Nat := setTo (fun i => decide (isPL (f.data.toList.getD i 0))) k
theorem opK_lt (f : ByteArray) (k : Nat) (h : k ≤ 36) : opK f k < 18446744073709551616 := Nat.lt_trans (Nat.lt_of_lt_of_le (setTo_lt _ _) (show (2 : Nat) ^ k ≤ 2 ^ 36 from Nat.pow_le_pow_right (by omega) h)) (by decide)
theorem whK_lt (f : ByteArray) (k : Nat) (h : k ≤ 36) : whK f k < 18446744073709551616 := Nat.lt_trans (Nat.lt_of_lt_of_le (setTo_lt _ _) (show (2 : Nat) ^ k ≤ 2 ^ 36 from Nat.pow_le_pow_right (by omega) h)) (by decide)
theorem opK_yes (f : ByteArray) (k : Nat) (h : f.data.toList.getD k 0 = 63) : opK f (k + 1) = opK f k ||| 2 ^ k := by
  unfold opK
  rw [setTo, if_pos (beq_iff_eq.2 h)]
theorem opK_no (f : ByteArray) (k : Nat) (h : f.data.toList.getD k 0 ≠ 63) : opK f (k + 1) = opK f k := by
  unfold opK
  rw [setTo, if_neg (fun e => h (beq_iff_eq.1 e))]
theorem whK_yes (f : ByteArray) (k : Nat) (h : isPL (f.data.toList.getD k 0)) : whK f (k + 1) = whK f k ||| 2 ^ k := by
  unfold whK
  rw [setTo, if_pos (decide_eq_true h)]
theorem whK_no (f : ByteArray) (k : Nat) (h : ¬ isPL (f.data.toList.getD k 0)) : whK f (k + 1) = whK f k := by
  unfold whK
  rw [setTo, if_neg (by rw [decide_eq_false h]; decide)]
/-- The white cells are the grid's just if the bytes are a fill. -/
theorem whK_fill {r c : Int} {s f : ByteArray} (hg : isG (r, c, s) = true) (hz : f.size = s.size) (h : ∀ b ∈ f.data.toList, b = 35 ∨ isPL b) : isF (r, c, s) f = decide (whK f f.size = wT s s.size) := by
  have hsg := (of_decide_eq_true hg).2.2.2
  have hb : ∀ i, i < f.size → f.data.toList.getD i 0 = 35 ∨ isPL (f.data.toList.getD i 0) := fun i hi => by
    rw [getD_byte f i hi]
    exact h _ (byte_mem f i hi)
  have hc : ∀ i, i < s.size → s.data.toList.getD i 0 = 35 ∨ s.data.toList.getD i 0 = 46 := fun i hi => by
    rw [getD_byte s i hi]
    exact hsg _ (byte_mem s i hi)
  by_cases he : whK f f.size = wT s s.size
  · rw [decide_eq_true he]
    refine isF_of hg hz fun i hi => ?_
    have h1 : (whK f f.size).testBit i = decide (isPL (f.data.toList.getD i 0)) := by
      unfold whK
      rw [setTo_bit, decide_eq_true hi, Bool.true_and]
    rw [he, wT_bit s s.size i (by omega)] at h1
    show okF (s.data.toList.getD i 0) (f.data.toList.getD i 0) = true
    unfold okF
    rcases hc i (by omega) with h2 | h2
    · rw [h2] at h1 ⊢
      rw [if_pos rfl]
      rcases hb i hi with h3 | h3
      · exact decide_eq_true h3
      · rw [decide_eq_true h3] at h1; exact absurd h1 (by decide)
    · rw [h2] at h1 ⊢
      rw [if_neg (by decide)]
      exact h1.symm
  · rw [decide_eq_false he]
    cases hf : isF (r, c, s) f with
    | false => rfl
    | true =>
      exfalso
      apply he
      unfold whK wT
      rw [← hz]
      refine setTo_congr fun i hi => ?_
      have h9 : okF (s.data.toList.getD i 0) (f.data.toList.getD i 0) = true := (isF_parts hf).2.2.2 i hi
      unfold okF at h9
      rcases hc i (by omega) with h2 | h2
      · rw [h2, if_pos rfl] at h9
        rw [h2, of_decide_eq_true h9]
        decide
      · rw [h2, if_neg (by decide)] at h9
        rw [h2, h9]
        rfl
theorem isF_wrong {r c : Int} {s f : ByteArray} {k : Nat} (hk : k < f.size) (h : f[k] ≠ 35) (h2 : ¬ isPL f[k]) : isF (r, c, s) f = false := by
  cases hf : isF (r, c, s) f with
  | false => rfl
  | true =>
    have h9 := (isF_parts hf).2.2.2 k hk
    rw [getD_byte f k hk] at h9
    unfold okF at h9
    split at h9
    · exact absurd (of_decide_eq_true h9) h
    · exact absurd (of_decide_eq_true h9) h2
theorem isF_else {g : Int × Int × ByteArray} {f : ByteArray} (h : ¬ (isG g = true ∧ f.size = g.2.2.size)) : isF g f = false := by
  cases hf : isF g f with
  | false => rfl
  | true => exact absurd ⟨(isF_parts hf).1, (isF_parts hf).2.1⟩ h
/-- What fillingOf answers: the filling of a fill, or the zero filling. -/
def FillE (r c : Int) (s f : ByteArray) (w : World) (e : Ending) (w' : World) : Prop :=
  (isF (r, c, s) f = true ∧ ∃ blk cap : Nat, e = .returned (.tuple #[.agg #[.int .i64 r, .int .i64 c, .int .u64 ((wT s s.size : Nat) : Int), .slice (some ⟨blk, 0, none⟩) f.size cap, .int .u64 ((opK f f.size : Nat) : Int)], .bool true]) ∧ f.size ≤ cap ∧ cap ≤ 9223372036854775807 ∧ w.heap.size ≤ blk ∧ MixAt w' blk f.size (fun i => f.data.toList.getD i 0)) ∨
  (isF (r, c, s) f = false ∧ e = .returned (.tuple #[.agg #[.int .i64 0, .int .i64 0, .int .u64 0, .slice none 0 0, .int .u64 0], .bool false]))
theorem FillE.no {r c : Int} {s f : ByteArray} {w w' : World} {e : Ending} (h : isF (r, c, s) f = false) (he : e = .returned (.tuple #[.agg #[.int .i64 0, .int .i64 0, .int .u64 0, .slice none 0 0, .int .u64 0], .bool false])) : FillE r c s f w e w' := .inr ⟨h, he⟩
theorem fill_fun (s : ByteArray) (h : s.size ≤ 1048576) : ∃ F : World → Nat × World, ∀ w, (convert 9 22 (.string s)).run Try.prog w = .ok (.slice (some ⟨w.heap.size, 0, none⟩) s.size (F w).1) (F w).2 ∧ s.size ≤ (F w).1 ∧ (F w).1 ≤ 9223372036854775807 ∧ Below w.heap.size w (F w).2 ∧ w.heap.size + 1 = (F w).2.heap.size ∧ MixAt (F w).2 w.heap.size s.size (fun i => s.data.toList.getD i 0) := by
  refine ⟨fun w => ((conv_mix s w h).choose, (conv_mix s w h).choose_spec.choose), fun w => ?_⟩
  exact (conv_mix s w h).choose_spec.choose_spec
theorem set5_below {w W : World} {b : Nat} (h : Below w.heap.size w W) (hb : w.heap.size ≤ b) (v0 v1 v2 v3 v4 : Value) : Below w.heap.size w (((((W.setCell ⟨b, 0, none⟩ v0).setCell ⟨b, 1, none⟩ v1).setCell ⟨b, 2, none⟩ v2).setCell ⟨b, 3, none⟩ v3).setCell ⟨b, 4, none⟩ v4) :=
  ((((h.setCell (p := ⟨b, 0, none⟩) hb _).setCell (p := ⟨b, 1, none⟩) hb _).setCell (p := ⟨b, 2, none⟩) hb _).setCell (p := ⟨b, 3, none⟩) hb _).setCell (p := ⟨b, 4, none⟩) hb _
end Go.Proofs.Ythgnhcjbjdhjfaa
