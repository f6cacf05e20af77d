/-
  The program's contracts of slotOf, fillingOf, IsFill.
  The program's contracts of pattern, IsFill, SlotPattern.
-/
import Derived.Test.YtgjijmcedonlmaaGreatDoorFillU
import Derived.Test.YtgjijmcedonlmaaGreatDoorMix
import Derived.Test.YtgjijmcedonlmaaGreatDoorGridImplE
import Derived.Test.YtgjijmcedonlmaaGreatDoorSlotImplI
import Derived.Test.YtgjijmcedonlmaaGreatDoorKit
import Derived.Deep.RegionWith
import Derived.Deep.RegionHeld3
namespace Go.Proofs.YtgjijmcedonlmaaGreatDoor
open Go.RowKit

/-- A grid, or none if the fill is none. -/
def fG (g : Int × Int × ByteArray) (f : ByteArray) : Int × Int × ByteArray := if isF g f = true then g else (0, 0, ⟨#[]⟩)
theorem brd_none : brd (0, 0, ⟨#[]⟩) = (0, 0, 0) := rfl
theorem slG_none : slG (0, 0, ⟨#[]⟩) = [] := rfl
theorem cells5F {w : World} {b : Nat} {x y z u v : Value} {t : TypeId} (h : w.heap[b]? = some (.cells #[x, y, z, u, v] t (0, 0))) :
    w.cell? ⟨b, 0, none⟩ = some x ∧ w.cell? ⟨b, 1, none⟩ = some y ∧ w.cell? ⟨b, 2, none⟩ = some z ∧ w.cell? ⟨b, 3, none⟩ = some u ∧ w.cell? ⟨b, 4, none⟩ = some v ∧ w.frozen? ⟨b, 0, none⟩ = false ∧ w.frozen? ⟨b, 1, none⟩ = false ∧ w.frozen? ⟨b, 2, none⟩ = false ∧ w.frozen? ⟨b, 3, none⟩ = false ∧ w.frozen? ⟨b, 4, none⟩ = false :=
  ⟨Joins.cell_of_block h 0, Joins.cell_of_block h 1, Joins.cell_of_block h 2, Joins.cell_of_block h 3, Joins.cell_of_block h 4, Joins.unfrozen_of_block h 0, Joins.unfrozen_of_block h 1, Joins.unfrozen_of_block h 2, Joins.unfrozen_of_block h 3, Joins.unfrozen_of_block h 4⟩
theorem cells4F {w : World} {b : Nat} {x y z u : Value} {t : TypeId} (h : w.heap[b]? = some (.cells #[x, y, z, u] t (0, 0))) :
    w.cell? ⟨b, 0, none⟩ = some x ∧ w.cell? ⟨b, 1, none⟩ = some y ∧ w.cell? ⟨b, 2, none⟩ = some z ∧ w.cell? ⟨b, 3, none⟩ = some u ∧ w.frozen? ⟨b, 0, none⟩ = false ∧ w.frozen? ⟨b, 1, none⟩ = false ∧ w.frozen? ⟨b, 2, none⟩ = false ∧ w.frozen? ⟨b, 3, none⟩ = false :=
  ⟨Joins.cell_of_block h 0, Joins.cell_of_block h 1, Joins.cell_of_block h 2, Joins.cell_of_block h 3, Joins.unfrozen_of_block h 0, Joins.unfrozen_of_block h 1, Joins.unfrozen_of_block h 2, Joins.unfrozen_of_block h 3⟩
/-- The slot with an index; the zero Slot if there is none. -/
def slotN (g : Int × Int × ByteArray) (k : Int) : SlotV := if 0 ≤ k ∧ k < ((slG g).length : Int) then (slG g).getD k.toNat none_Slot else none_Slot
def slotV (x : SlotV) : Value := .agg #[.int .i64 x.1, .bool x.2.1, .int .i64 x.2.2.1, .int .i64 x.2.2.2]
set_option maxRecDepth 100000 in
set_option maxHeartbeats 1600000 in
theorem isof_any (g : Int × Int × ByteArray) (k : Int) (w : World) :
    Calls Tryz.prog 63 #[brdV (brd g), .int .i64 k] w fun e w' => e = .returned (.tuple #[slotV (slotN g k), .bool (decide (0 ≤ k ∧ k < ((slG g).length : Int)))]) ∧ Below w.heap.size w w' := by
  have HSB := Lib.hid (fun w => slots_brd g w)
  have HLEN := Lib.hid (slG_length g)
  have HSN : Hid (slotN g k = if 0 ≤ k ∧ k < ((slG g).length : Int) then (slG g).getD k.toNat none_Slot else none_Slot) := Lib.hid rfl
  obtain ⟨SN, hSN⟩ : ∃ SN, SN = slotN g k := ⟨_, rfl⟩
  rw [← hSN] at HSN ⊢
  clear hSN
  obtain ⟨l, hl⟩ : ∃ l, l = slG g := ⟨_, rfl⟩
  rw [← hl] at HSB HLEN HSN ⊢
  clear hl
  obtain ⟨bn, hbn⟩ : ∃ bn, bn = decide (0 ≤ k ∧ k < (l.length : Int)) := ⟨_, rfl⟩
  rw [← hbn]
  have HBN := Lib.hid hbn
  clear hbn
  have hl72 := HLEN.out
  obtain ⟨⟨b0, b1, b2⟩, hb⟩ : ∃ b, b = brd g := ⟨_, rfl⟩
  rw [← hb] at HSB ⊢
  clear hb
  simp only [brdV] at HSB ⊢
  have hw9 : IntKind.i64.wrap ((l.length : Int) - 1) = (l.length : Int) - 1 := by rw [IntKind.wrap_i64]; omega
  have HX := Lib.hid (box33 (Below.refl _ ((w.alloc (.cells #[.int .i64 b0, .int .i64 b1, .int .u64 (b2 : Int)] 55)).alloc (.cells #[.int .i64 0, .bool false, .int .i64 0, .int .i64 0] 63))))
  go_enter Tryz.func63, Tryz.ntmps63
  go_wp2_with fail
  obtain ⟨W0, hW0⟩ : ∃ W0, W0 = (w.alloc (.cells #[.int .i64 b0, .int .i64 b1, .int .u64 (b2 : Int)] 55)).alloc (.cells #[.int .i64 0, .bool false, .int .i64 0, .int .i64 0] 63) := ⟨_, rfl⟩
  rw [← hW0] at HX ⊢
  clear hW0
  have HR0 := Lib.hid HX.out.2.1
  have HB0 := Lib.hid HX.out.2.2
  obtain ⟨d0, d1, d2, fd0, fd1, fd2⟩ := cells3 HX.out.1
  clear HX
  by_cases hin : 0 ≤ k ∧ k < (l.length : Int)
  · obtain ⟨j, rfl⟩ : ∃ j : Nat, k = j := ⟨k.toNat, by omega⟩
    have hj : j < l.length := by omega
    have HSE : Hid (SN = l.getD j none_Slot) := Lib.hid (by rw [HSN.out, if_pos hin, Int.toNat_natCast])
    have HBE : Hid (bn = true) := Lib.hid (by rw [HBN.out, decide_eq_true hin])
    have HSC0 : Hid (∀ (W : World) (base : Nat) (a0 : Option Addr) (cap : Nat), W.ownsRow base 63 4 (.slice a0 l.length cap) l.length (row_Slot l) → ∃ b, a0 = some ⟨b, 0, none⟩ ∧ W.cell? ⟨b, j * 4, none⟩ = some (.int .i64 (l.getD j none_Slot).1) ∧ W.cell? ⟨b, j * 4 + 1, none⟩ = some (.bool (l.getD j none_Slot).2.1) ∧ W.cell? ⟨b, j * 4 + 2, none⟩ = some (.int .i64 (l.getD j none_Slot).2.2.1) ∧ W.cell? ⟨b, j * 4 + 3, none⟩ = some (.int .i64 (l.getD j none_Slot).2.2.2)) := Lib.hid (fun W base a0 cap h => slot_cells h rfl j hj)
    clear HSN HBN
    obtain ⟨y, hy⟩ : ∃ y, y = l.getD j none_Slot := ⟨_, rfl⟩
    rw [← hy] at HSE HSC0
    clear hy
    obtain ⟨t0, t1, t2, t3⟩ := y
    simp only at HSC0
    have HIR := Lib.hid (fun w => inr_any (j : Int) 0 ((l.length : Int) - 1) w)
    rw [show decide (0 ≤ (j : Int) ∧ (j : Int) ≤ (l.length : Int) - 1) = true from decide_eq_true (by omega)] at HIR
    clear hin
    have hj0 : (0 : Int) ≤ (j : Int) := by omega
    go_wp2_with (first | (go_at_call 24; refine (HSB.out _).mono ?_; rintro e w4 ⟨v4, rfl, o4, b4⟩; obtain ⟨a0, cap, rfl⟩ := ownV_slice o4; have HL4 := Lib.hid o4; have HB4 := Lib.hid (HB0.out.trans (b4.mono HB0.out.size)); have HR4 := Lib.hid ((b4.block _ (size_of_heap HR0.out)).trans HR0.out); clear o4 b4; obtain ⟨b, rfl, q0, q1, q2, q3⟩ := HSC0.out _ _ _ _ HL4.out; obtain ⟨z0, z1, z2, z3, y0, y1, y2, y3⟩ := cells4F HR4.out) | (go_at_call 26; refine (HIR.out _).mono ?_; rintro e w5 ⟨rfl, rfl⟩))
    exact bodyPost_ret (v := .tuple #[slotV (t0, t1, t2, t3), .bool true]) (by simp [results, Tryz.results63, go_sem, z0, z1, z2, z3, slotV]) rfl ⟨by rw [HSE.out, HBE.out], ((((HB4.out.setCell (p := ⟨w.heap.size + 1, 0, none⟩) (by simp) _).setCell (p := ⟨w.heap.size + 1, 1, none⟩) (by simp) _).setCell (p := ⟨w.heap.size + 1, 2, none⟩) (by simp) _).setCell (p := ⟨w.heap.size + 1, 3, none⟩) (by simp) _)⟩
  · have HSE : Hid (SN = none_Slot) := Lib.hid (by rw [HSN.out, if_neg hin])
    have HBE : Hid (bn = false) := Lib.hid (by rw [HBN.out, decide_eq_false hin])
    clear HSN HBN
    have HIR := Lib.hid (fun w => inr_any k 0 ((l.length : Int) - 1) w)
    rw [show decide (0 ≤ k ∧ k ≤ (l.length : Int) - 1) = false from decide_eq_false (by omega)] at HIR
    go_wp2_with (first | (go_at_call 24; refine (HSB.out _).mono ?_; rintro e w4 ⟨v4, rfl, o4, b4⟩; obtain ⟨a0, cap, rfl⟩ := ownV_slice o4; have HB4 := Lib.hid (HB0.out.trans (b4.mono HB0.out.size)); have HR4 := Lib.hid ((b4.block _ (size_of_heap HR0.out)).trans HR0.out); clear o4 b4; obtain ⟨z0, z1, z2, z3, y0, y1, y2, y3⟩ := cells4F HR4.out) | (go_at_call 26; refine (HIR.out _).mono ?_; rintro e w5 ⟨rfl, rfl⟩))
    exact bodyPost_ret (v := .tuple #[slotV none_Slot, .bool false]) (by simp [results, Tryz.results63, go_sem, z0, z1, z2, z3, slotV, none_Slot]) rfl ⟨by rw [HSE.out, HBE.out], ((((HB4.out.setCell (p := ⟨w.heap.size + 1, 0, none⟩) (by simp) _).setCell (p := ⟨w.heap.size + 1, 1, none⟩) (by simp) _).setCell (p := ⟨w.heap.size + 1, 2, none⟩) (by simp) _).setCell (p := ⟨w.heap.size + 1, 3, none⟩) (by simp) _)⟩

/-- The places without a letter among the first k, and the white cells. -/
def opK (f : ByteArray) (k : Nat) : Nat := setTo (fun i => f.data.toList.getD i 0 == 63) k
def whK (f : ByteArray) (k : Nat) : Nat := setTo (fun i => decide (isPL (f.data.toList.getD i 0))) k
theorem opK_lt (f : ByteArray) (k : Nat) (h : k ≤ 36) : opK f k < 18446744073709551616 := Nat.lt_trans (Nat.lt_of_lt_of_le (setTo_lt _ _) (show (2 : Nat) ^ k ≤ 2 ^ 36 from Nat.pow_le_pow_right (by omega) h)) (by decide)
theorem whK_lt (f : ByteArray) (k : Nat) (h : k ≤ 36) : whK f k < 18446744073709551616 := Nat.lt_trans (Nat.lt_of_lt_of_le (setTo_lt _ _) (show (2 : Nat) ^ k ≤ 2 ^ 36 from Nat.pow_le_pow_right (by omega) h)) (by decide)
theorem opK_yes (f : ByteArray) (k : Nat) (h : f.data.toList.getD k 0 = 63) : opK f (k + 1) = opK f k ||| 2 ^ k := by
  unfold opK
  rw [setTo, if_pos (beq_iff_eq.2 h)]
theorem opK_no (f : ByteArray) (k : Nat) (h : f.data.toList.getD k 0 ≠ 63) : opK f (k + 1) = opK f k := by
  unfold opK
  rw [setTo, if_neg (fun e => h (beq_iff_eq.1 e))]
theorem whK_yes (f : ByteArray) (k : Nat) (h : isPL (f.data.toList.getD k 0)) : whK f (k + 1) = whK f k ||| 2 ^ k := by
  unfold whK
  rw [setTo, if_pos (decide_eq_true h)]
theorem whK_no (f : ByteArray) (k : Nat) (h : ¬ isPL (f.data.toList.getD k 0)) : whK f (k + 1) = whK f k := by
  unfold whK
  rw [setTo, if_neg (by rw [decide_eq_false h]; decide)]
/-- The white cells are the grid's just if the bytes are a fill. -/
theorem whK_fill {r c : Int} {s f : ByteArray} (hg : isG (r, c, s) = true) (hz : f.size = s.size) (h : ∀ b ∈ f.data.toList, b = 35 ∨ isPL b) : isF (r, c, s) f = decide (whK f f.size = wT s s.size) := by
  have hsg := (of_decide_eq_true hg).2.2.2
  have hb : ∀ i, i < f.size → f.data.toList.getD i 0 = 35 ∨ isPL (f.data.toList.getD i 0) := fun i hi => by
    rw [getD_byte f i hi]
    exact h _ (byte_mem f i hi)
  have hc : ∀ i, i < s.size → s.data.toList.getD i 0 = 35 ∨ s.data.toList.getD i 0 = 46 := fun i hi => by
    rw [getD_byte s i hi]
    exact hsg _ (byte_mem s i hi)
  by_cases he : whK f f.size = wT s s.size
  · rw [decide_eq_true he]
    refine isF_of hg hz fun i hi => ?_
    have h1 : (whK f f.size).testBit i = decide (isPL (f.data.toList.getD i 0)) := by
      unfold whK
      rw [setTo_bit, decide_eq_true hi, Bool.true_and]
    rw [he, wT_bit s s.size i (by omega)] at h1
    show okF (s.data.toList.getD i 0) (f.data.toList.getD i 0) = true
    unfold okF
    rcases hc i (by omega) with h2 | h2
    · rw [h2] at h1 ⊢
      rw [if_pos rfl]
      rcases hb i hi with h3 | h3
      · exact decide_eq_true h3
      · rw [decide_eq_true h3] at h1; exact absurd h1 (by decide)
    · rw [h2] at h1 ⊢
      rw [if_neg (by decide)]
      exact h1.symm
  · rw [decide_eq_false he]
    cases hf : isF (r, c, s) f with
    | false => rfl
    | true =>
      exfalso
      apply he
      unfold whK wT
      rw [← hz]
      refine setTo_congr fun i hi => ?_
      have h9 : okF (s.data.toList.getD i 0) (f.data.toList.getD i 0) = true := (isF_parts hf).2.2.2 i hi
      unfold okF at h9
      rcases hc i (by omega) with h2 | h2
      · rw [h2, if_pos rfl] at h9
        rw [h2, of_decide_eq_true h9]
        decide
      · rw [h2, if_neg (by decide)] at h9
        rw [h2, h9]
        rfl
theorem isF_wrong {r c : Int} {s f : ByteArray} {k : Nat} (hk : k < f.size) (h : f[k] ≠ 35) (h2 : ¬ isPL f[k]) : isF (r, c, s) f = false := by
  cases hf : isF (r, c, s) f with
  | false => rfl
  | true =>
    have h9 := (isF_parts hf).2.2.2 k hk
    rw [getD_byte f k hk] at h9
    unfold okF at h9
    split at h9
    · exact absurd (of_decide_eq_true h9) h
    · exact absurd (of_decide_eq_true h9) h2
theorem isF_else {g : Int × Int × ByteArray} {f : ByteArray} (h : ¬ (isG g = true ∧ f.size = g.2.2.size)) : isF g f = false := by
  cases hf : isF g f with
  | false => rfl
  | true => exact absurd ⟨(isF_parts hf).1, (isF_parts hf).2.1⟩ h
/-- What fillingOf answers: the filling of a fill, or the zero filling. -/
def FillE (r c : Int) (s f : ByteArray) (w : World) (e : Ending) (w' : World) : Prop :=
  (isF (r, c, s) f = true ∧ ∃ blk cap : Nat, e = .returned (.tuple #[.agg #[.int .i64 r, .int .i64 c, .int .u64 ((wT s s.size : Nat) : Int), .slice (some ⟨blk, 0, none⟩) f.size cap, .int .u64 ((opK f f.size : Nat) : Int)], .bool true]) ∧ f.size ≤ cap ∧ cap ≤ 9223372036854775807 ∧ w.heap.size ≤ blk ∧ MixAt w' blk f.size (fun i => f.data.toList.getD i 0)) ∨
  (isF (r, c, s) f = false ∧ e = .returned (.tuple #[.agg #[.int .i64 0, .int .i64 0, .int .u64 0, .slice none 0 0, .int .u64 0], .bool false]))
theorem FillE.no {r c : Int} {s f : ByteArray} {w w' : World} {e : Ending} (h : isF (r, c, s) f = false) (he : e = .returned (.tuple #[.agg #[.int .i64 0, .int .i64 0, .int .u64 0, .slice none 0 0, .int .u64 0], .bool false])) : FillE r c s f w e w' := .inr ⟨h, he⟩
theorem fill_fun (s : ByteArray) (h : s.size ≤ 1048576) : ∃ F : World → Nat × World, ∀ w, (convert 9 22 (.string s)).run Tryz.prog w = .ok (.slice (some ⟨w.heap.size, 0, none⟩) s.size (F w).1) (F w).2 ∧ s.size ≤ (F w).1 ∧ (F w).1 ≤ 9223372036854775807 ∧ Below w.heap.size w (F w).2 ∧ w.heap.size + 1 = (F w).2.heap.size ∧ MixAt (F w).2 w.heap.size s.size (fun i => s.data.toList.getD i 0) := by
  refine ⟨fun w => ((conv_mix s w h).choose, (conv_mix s w h).choose_spec.choose), fun w => ?_⟩
  exact (conv_mix s w h).choose_spec.choose_spec
theorem set5_below {w W : World} {b : Nat} (h : Below w.heap.size w W) (hb : w.heap.size ≤ b) (v0 v1 v2 v3 v4 : Value) : Below w.heap.size w (((((W.setCell ⟨b, 0, none⟩ v0).setCell ⟨b, 1, none⟩ v1).setCell ⟨b, 2, none⟩ v2).setCell ⟨b, 3, none⟩ v3).setCell ⟨b, 4, none⟩ v4) :=
  ((((h.setCell (p := ⟨b, 0, none⟩) hb _).setCell (p := ⟨b, 1, none⟩) hb _).setCell (p := ⟨b, 2, none⟩) hb _).setCell (p := ⟨b, 3, none⟩) hb _).setCell (p := ⟨b, 4, none⟩) hb _
set_option maxRecDepth 100000 in
set_option maxHeartbeats 3200000 in
theorem ifill_any (r c : Int) (s f : ByteArray) (hs : s.size ≤ 4194304) (hf : f.size ≤ 1048576) (w : World) :
    Calls Tryz.prog 32 #[.agg #[.int .i64 r, .int .i64 c, .string s], .string f] w fun e w' => FillE r c s f w e w' ∧ Below w.heap.size w w' := by
  have HBO := Lib.hid (fun w => ibo_any r c s hs w)
  have HX := Lib.hid (box33 (Below.refl _ ((w.alloc (.cells #[.int .i64 r, .int .i64 c, .string s] 25)).alloc (.cells #[.int .i64 0, .int .i64 0, .int .u64 0, .slice none 0 0, .int .u64 0] 69))))
  have HELSE := Lib.hid (fun h => isF_else (g := (r, c, s)) (f := f) h)
  go_enter Tryz.func32, Tryz.ntmps32
  go_wp2_with fail
  obtain ⟨W0, hW0⟩ : ∃ W0, W0 = (w.alloc (.cells #[.int .i64 r, .int .i64 c, .string s] 25)).alloc (.cells #[.int .i64 0, .int .i64 0, .int .u64 0, .slice none 0 0, .int .u64 0] 69) := ⟨_, rfl⟩
  rw [← hW0] at HX ⊢
  clear hW0
  have HR0 := Lib.hid HX.out.2.1
  have HB0 := Lib.hid HX.out.2.2
  obtain ⟨d0, d1, d2, fd0, fd1, fd2⟩ := cells3 HX.out.1
  clear HX
  cases hg : isG (r, c, s) with
  | false =>
    have HF : Hid (isF (r, c, s) f = false) := Lib.hid (HELSE.out (fun h => by rw [hg] at h; cases h.1))
    have HBE : Hid (brd (r, c, s) = (0, 0, 0)) := Lib.hid (by unfold brd; rw [hg]; rfl)
    rw [hg, HBE.out] at HBO
    unfold brdV at HBO
    clear hg HBE
    go_wp2_with (go_at_call 23; refine (HBO.out _).mono ?_; rintro e w1 ⟨rfl, b1⟩; have HB1 := Lib.hid (HB0.out.trans (b1.mono HB0.out.size)); have HR1 := Lib.hid (((Below.refl w1.heap.size w1).alloc (Nat.le_refl _) (.cells #[.int .i64 0, .int .i64 0, .int .u64 0] 55)).block _ (size_of_heap ((b1.block _ (size_of_heap HR0.out)).trans HR0.out)) |>.trans ((b1.block _ (size_of_heap HR0.out)).trans HR0.out)); clear b1; obtain ⟨z0, z1, z2, z3, z4, y0, y1, y2, y3, y4⟩ := cells5F HR1.out)
    exact bodyPost_ret (v := .tuple #[.agg #[.int .i64 0, .int .i64 0, .int .u64 0, .slice none 0 0, .int .u64 0], .bool false]) (by simp [results, Tryz.results32, go_sem, z0, z1, z2, z3, z4]) rfl ⟨FillE.no HF.out rfl, set5_below (HB1.out.alloc HB1.out.size _) (by simp) _ _ _ _ _⟩
  | true =>
    obtain ⟨n, hn, h36, hS, hy, -⟩ := brd_fits (r, c, s)
    obtain ⟨hns, hbe⟩ := hy hg
    have hns2 : n = s.size := hns
    subst hns2
    have hbe2 : brd (r, c, s) = (r, c, wT s s.size) := hbe
    rw [hbe2] at hn hS
    dsimp only at hn hS
    have HSZ := Lib.hid (fun w => size_n r c s.size hn h36 ((wT s s.size : Nat) : Int) w)
    rw [hg, hbe2] at HBO
    unfold brdV at HBO
    dsimp only at HBO
    have HFL : Hid (f.size = s.size → (∀ b ∈ f.data.toList, b = 35 ∨ isPL b) → isF (r, c, s) f = decide (whK f f.size = wT s s.size)) := Lib.hid (fun h1 h2 => whK_fill hg h1 h2)
    obtain ⟨S, hSe⟩ : ∃ S, S = wT s s.size := ⟨_, rfl⟩
    rw [← hSe] at HBO HSZ HFL hS
    have HSE := Lib.hid hSe
    clear hns hbe hbe2 hn hSe
    by_cases hz : f.size = s.size
    · have hn : ((f.size : Int) != (s.size : Int)) = false := by simp [hz]
      have HZ := Lib.hid hz
      have HFL2 := Lib.hid (HFL.out hz)
      have hf36 : f.size ≤ 36 := by omega
      clear hz hg HELSE HFL
      obtain ⟨F, hF⟩ := fill_fun f hf
      have hconv := fun w => (hF w).1
      have HFH := Lib.hid hF
      clear hF
      go_wp2_with (first | (go_at_call 23; refine (HBO.out _).mono ?_; rintro e w1 ⟨rfl, b1⟩; have HB1 := Lib.hid (HB0.out.trans (b1.mono HB0.out.size)); have HQ1 := Lib.hid (((Below.refl w1.heap.size w1).alloc (Nat.le_refl _) (.cells #[.int .i64 r, .int .i64 c, .int .u64 (S : Int)] 55))); have hPw := size_of_heap ((b1.block _ (size_of_heap HR0.out)).trans HR0.out); have HR1 := Lib.hid ((HQ1.out.block _ (size_of_heap ((b1.block _ (size_of_heap HR0.out)).trans HR0.out))).trans ((b1.block _ (size_of_heap HR0.out)).trans HR0.out)); have HX1 := Lib.hid (new_block w1 (.cells #[.int .i64 r, .int .i64 c, .int .u64 (S : Int)] 55)); have HB2 := Lib.hid (HB1.out.trans (HQ1.out.mono HB1.out.size)); clear b1) | (go_at_call 67; refine (HSZ.out _).mono ?_; rintro e w2 ⟨rfl, b2⟩; have HB3 := Lib.hid (HB2.out.trans (b2.mono HB2.out.size)); have HR3 := Lib.hid ((b2.block _ (size_of_heap HR1.out)).trans HR1.out); have HX3 := Lib.hid ((b2.block _ (size_of_heap HX1.out)).trans HX1.out); clear b2; obtain ⟨e0, e1, e2, fe0, fe1, fe2⟩ := cells3 HX3.out))
      have hq := HFH.out w2
      obtain ⟨W4, hW4⟩ : ∃ W4, W4 = (F w2).2 := ⟨_, rfl⟩
      obtain ⟨cp, hcp⟩ : ∃ cp, cp = (F w2).1 := ⟨_, rfl⟩
      rw [← hW4, ← hcp] at hq ⊢
      clear hW4 hcp hconv HFH
      obtain ⟨-, hq2, hq3, hq4, hq5, hq6⟩ := hq
      have HCP := Lib.hid (And.intro hq2 hq3)
      have hQB := size_of_heap HX3.out
      obtain ⟨Q, hQe⟩ : ∃ Q, Q = w1.heap.size := ⟨_, rfl⟩
      obtain ⟨B, hBe⟩ : ∃ B, B = w2.heap.size := ⟨_, rfl⟩
      have HR4 := Lib.hid ((hq4.block _ (size_of_heap HR3.out)).trans HR3.out)
      have HX4 := Lib.hid ((hq4.block _ (size_of_heap HX3.out)).trans HX3.out)
      have HB4 := Lib.hid (HB3.out.trans (hq4.mono HB3.out.size))
      rw [← hQe] at HX4 hPw hQB ⊢
      rw [← hBe] at hq5 hq6 hQB ⊢
      have HM4 := Lib.hid hq6
      have hE : W4.heap.size = B + 1 := hq5.symm
      have HE4 := Lib.hid (new_block W4 (.cells #[.int .i64 r, .int .i64 c, .int .u64 (S : Int), .slice (some ⟨B, 0, none⟩) f.size cp, .int .u64 0] 69))
      have HA4 := Lib.hid ((Below.refl W4.heap.size W4).alloc (Nat.le_refl _) (.cells #[.int .i64 r, .int .i64 c, .int .u64 (S : Int), .slice (some ⟨B, 0, none⟩) f.size cp, .int .u64 0] 69))
      have HR5 := Lib.hid ((HA4.out.block _ (size_of_heap HR4.out)).trans HR4.out)
      have HX5 := Lib.hid ((HA4.out.block _ (size_of_heap HX4.out)).trans HX4.out)
      have HM5 := Lib.hid (HM4.out.later HA4.out)
      have HB5 := Lib.hid (HB4.out.trans (HA4.out.mono HB4.out.size))
      have hPB : w.heap.size ≤ B := by omega
      rw [hE] at HE4 ⊢
      clear hq2 hq3 hq4 hq5 hq6 hQe hBe e0 e1 e2 fe0 fe1 fe2 d0 d1 d2 fd0 fd1 fd2 HR0 HB0 HB1 HQ1 HR1 HX1 HB2 HB3 HR3 HX3 HR4 HX4 HB4 HM4 HA4 hE HBO HSZ
      go_loopw [9, 34] (fun u i wr => ∃ k : Nat, k ≤ f.size ∧ i = .int .i64 k ∧ u = .int .u64 ((whK f k : Nat) : Int) ∧ Hid (∀ b ∈ f.data.toList.take k, b = 35 ∨ isPL b) ∧ Hid (wr.heap[w.heap.size + 1]? = some (.cells #[.int .i64 0, .int .i64 0, .int .u64 0, .slice none 0 0, .int .u64 0] 69)) ∧ Hid (wr.heap[Q]? = some (.cells #[.int .i64 r, .int .i64 c, .int .u64 (S : Int)] 55)) ∧ Hid (wr.heap[B + 1]? = some (.cells #[.int .i64 r, .int .i64 c, .int .u64 (S : Int), .slice (some ⟨B, 0, none⟩) f.size cp, .int .u64 ((opK f k : Nat) : Int)] 69)) ∧ Hid (MixAt wr B f.size (fun i => f.data.toList.getD i 0)) ∧ Hid (Below w.heap.size w wr)) (fun _ i _ => f.size - (intOf i).toNat)
      case atStart => exact ⟨0, Nat.zero_le _, rfl, rfl, Lib.hid (by simp), HR5, HX5, HE4, HM5, HB5⟩
      case round =>
        clear HR5 HX5 HE4 HM5 HB5
        obtain ⟨k, hk, rfl, rfl, HL, HR, HX, HE, HM, HB⟩ := hrel
        obtain ⟨x0, x1, x2, x3, x4, fx0, fx1, fx2, fx3, fx4⟩ := cells5F HE.out
        obtain ⟨z0, z1, z2, z3, z4, y0, y1, y2, y3, y4⟩ := cells5F HR.out
        obtain ⟨q0, q1, q2, fq0, fq1, fq2⟩ := cells3 HX.out
        by_cases hlt : k < f.size
        · have hd : decide ((k : Int) < (f.size : Int)) = true := decide_eq_true (by omega)
          have hd2 : decide (k < f.size) = true := decide_eq_true hlt
          have hc0 := HM.out.cell k hlt
          rw [getD_byte f k hlt] at hc0
          have h255 : f[k].toNat ≤ 255 := by have := f[k].toNat_lt; omega
          have HTK : Hid ((f[k] = 35 ∨ isPL f[k]) → ∀ b ∈ f.data.toList.take (k + 1), b = 35 ∨ isPL b) := Lib.hid (fun h b hb2 => by
            rw [take_snoc f k hlt] at hb2
            rcases List.mem_append.1 hb2 with h9 | h9
            · exact HL.out b h9
            · simp only [List.mem_singleton] at h9; subst h9; exact h)
          have HGD := Lib.hid (getD_byte f k hlt)
          obtain ⟨TW, hTW⟩ : ∃ T, T = whK f k := ⟨_, rfl⟩
          have hTWl : TW < 18446744073709551616 := by rw [hTW]; exact whK_lt f k (by omega)
          obtain ⟨TO, hTO⟩ : ∃ T, T = opK f k := ⟨_, rfl⟩
          have hTOl : TO < 18446744073709551616 := by rw [hTO]; exact opK_lt f k (by omega)
          have HWY : Hid (isPL f[k] → whK f (k + 1) = TW ||| 2 ^ k) := Lib.hid (fun h => by rw [hTW]; exact whK_yes f k (by rw [HGD.out]; exact h))
          have HWN : Hid (¬ isPL f[k] → whK f (k + 1) = TW) := Lib.hid (fun h => by rw [hTW]; exact whK_no f k (by rw [HGD.out]; exact h))
          have HOY : Hid (f[k] = 63 → opK f (k + 1) = TO ||| 2 ^ k) := Lib.hid (fun h => by rw [hTO]; exact opK_yes f k (by rw [HGD.out]; exact h))
          have HON : Hid (f[k] ≠ 63 → opK f (k + 1) = TO) := Lib.hid (fun h => by rw [hTO]; exact opK_no f k (by rw [HGD.out]; exact h))
          rw [← hTO] at HE x4
          rw [← hTW]
          clear hTW hTO
          have HIL := Lib.hid (fun w => isl_any f[k] w)
          by_cases h63 : f[k] = 63
          · have hpl : isPL f[k] := .inl (by rw [h63]; rfl)
            have HNW := Lib.hid (HWY.out hpl)
            have HNO := Lib.hid (HOY.out h63)
            have HL2 := Lib.hid (HTK.out (.inr hpl))
            have hq : ((f[k].toNat : Int) == 63) = true := by rw [h63]; decide
            have FL := Lib.hid trivial
            clear h63 hpl HWY HWN HOY HON HTK
            go_wp2_with (first | (go_at_call 45; have FG := FL; refine (withJ_any TO k hTOl (by omega) _).mono ?_; rintro e w3 ⟨rfl, rfl⟩; rw [← HNO.out]; clear FG FL) | (go_at_call 45; refine (withJ_any TW k hTWl (by omega) _).mono ?_; rintro e w3 ⟨rfl, rfl⟩; rw [← HNW.out]))
            go_roundw
            case rel => exact ⟨k + 1, by omega, by go_num, rfl, HL2, Lib.hid ((Below.heap_setCell _ _ _ _ (by simp; omega)).trans HR.out), Lib.hid ((Below.heap_setCell _ _ _ _ (by simp; omega)).trans HX.out), Lib.hid (by have h9 := Joins.block_setCell (i := 4) HE.out (.int .u64 ((opK f (k + 1) : Nat) : Int)); exact h9), Lib.hid (HM.out.other (by omega) _ _), Lib.hid (HB.out.setCell (p := ⟨B + 1, 4, none⟩) (by simp; omega) _)⟩
            case measure => simp [intOf]; omega
          · have hne63 : ¬ f[k].toNat = 63 := fun e => h63 (UInt8.toNat_inj.1 (by rw [e]; rfl))
            have HNO := Lib.hid (HON.out h63)
            have hq : ((f[k].toNat : Int) == 63) = false := by simp; omega
            by_cases hle : isL f[k]
            · have HNW := Lib.hid (HWY.out (.inr hle))
              have HL2 := Lib.hid (HTK.out (.inr (.inr hle)))
              rw [decide_eq_true hle] at HIL
              clear h63 hne63 hle HWY HWN HOY HON HTK
              go_wp2_with (first | (go_at_call 68; refine (HIL.out _).mono ?_; rintro e w5 ⟨rfl, rfl⟩) | (go_at_call 45; refine (withJ_any TW k hTWl (by omega) _).mono ?_; rintro e w3 ⟨rfl, rfl⟩; rw [← HNW.out]))
              go_roundw
              case rel => exact ⟨k + 1, by omega, by go_num, rfl, HL2, HR, HX, by rw [HNO.out]; exact HE, HM, HB⟩
              case measure => simp [intOf]; omega
            · rw [decide_eq_false hle] at HIL
              have hnp : ¬ isPL f[k] := fun h => by rcases h with h | h; exact hne63 h; exact hle h
              by_cases h35 : f[k] = 35
              · have HNW := Lib.hid (HWN.out hnp)
                have HL2 := Lib.hid (HTK.out (.inl h35))
                have hq2 : ((f[k].toNat : Int) != 35) = false := by rw [h35]; decide
                clear h63 hne63 hle HWY HWN HOY HON HTK hnp h35
                go_wp2_with (first | (go_at_call 68; refine (HIL.out _).mono ?_; rintro e w5 ⟨rfl, rfl⟩) | (go_at_call 69; refine (signB _).mono ?_; rintro e w6 ⟨rfl, b6⟩; have HR6 := Lib.hid ((b6.block _ (size_of_heap HR.out)).trans HR.out); have HX6 := Lib.hid ((b6.block _ (size_of_heap HX.out)).trans HX.out); have HE6 := Lib.hid ((b6.block _ (size_of_heap HE.out)).trans HE.out); have HM6 := Lib.hid (HM.out.later b6); have HB6 := Lib.hid (HB.out.trans (b6.mono HB.out.size)); clear b6))
                go_roundw
                case rel => exact ⟨k + 1, by omega, by go_num, by rw [HNW.out], HL2, HR6, HX6, by rw [HNO.out]; exact HE6, HM6, HB6⟩
                case measure => simp [intOf]; omega
              · have HF : Hid (isF (r, c, s) f = false) := Lib.hid (isF_wrong hlt h35 hnp)
                have hne35 : ¬ f[k].toNat = 35 := fun e => h35 (UInt8.toNat_inj.1 (by rw [e]; rfl))
                have hq2 : ((f[k].toNat : Int) != 35) = true := by simp; omega
                clear h63 hne63 hle HWY HWN HOY HON HTK hnp h35 hne35
                go_wp2_with (first | (go_at_call 68; refine (HIL.out _).mono ?_; rintro e w5 ⟨rfl, rfl⟩) | (go_at_call 69; refine (signB _).mono ?_; rintro e w6 ⟨rfl, b6⟩; have HR6 := Lib.hid ((b6.block _ (size_of_heap HR.out)).trans HR.out); have HB6 := Lib.hid (HB.out.trans (b6.mono HB.out.size)); clear b6 z0 z1 z2 z3 z4 y0 y1 y2 y3 y4; obtain ⟨z0, z1, z2, z3, z4, y0, y1, y2, y3, y4⟩ := cells5F HR6.out))
                exact bodyPost_ret (v := .tuple #[.agg #[.int .i64 0, .int .i64 0, .int .u64 0, .slice none 0 0, .int .u64 0], .bool false]) (by simp [results, Tryz.results32, go_sem, z0, z1, z2, z3, z4]) rfl ⟨FillE.no HF.out rfl, set5_below HB6.out (by simp) _ _ _ _ _⟩
        · have hd : decide ((k : Int) < (f.size : Int)) = false := decide_eq_false (by omega)
          have hd2 : decide (k < f.size) = false := decide_eq_false hlt
          have hk' : k = f.size := by omega
          have HFF := Lib.hid (HFL2.out (by have h9 := HL.out; rw [hk', List.take_of_length_le (by rw [size_list]; omega)] at h9; exact h9))
          obtain ⟨TW, hTW⟩ : ∃ T, T = whK f f.size := ⟨_, rfl⟩
          rw [← hTW] at HFF
          rw [hk'] at x4 HE ⊢
          rw [← hTW]
          clear hk' hTW HFL2 HL
          by_cases he : TW = S
          · have HT : Hid (isF (r, c, s) f = true) := Lib.hid (by rw [HFF.out, decide_eq_true he])
            have hq : ((TW : Int) != (S : Int)) = false := by simp [he]
            clear he
            go_wp2
            exact bodyPost_ret (v := .tuple #[.agg #[.int .i64 r, .int .i64 c, .int .u64 (S : Int), .slice (some ⟨B, 0, none⟩) f.size cp, .int .u64 ((opK f f.size : Nat) : Int)], .bool true]) (by simp [results, Tryz.results32, go_sem, z0, z1, z2, z3, z4]) rfl ⟨.inl ⟨HT.out, B, cp, by rw [HSE.out], HCP.out.1, HCP.out.2, hPB, ((((HM.out.other (by omega) _ _).other (by omega) _ _).other (by omega) _ _).other (by omega) _ _).other (by omega) _ _⟩, set5_below HB.out (by simp) _ _ _ _ _⟩
          · have HF : Hid (isF (r, c, s) f = false) := Lib.hid (by rw [HFF.out, decide_eq_false he])
            have hq : ((TW : Int) != (S : Int)) = true := by simp; omega
            clear he
            go_wp2
            exact bodyPost_ret (v := .tuple #[.agg #[.int .i64 0, .int .i64 0, .int .u64 0, .slice none 0 0, .int .u64 0], .bool false]) (by simp [results, Tryz.results32, go_sem, z0, z1, z2, z3, z4]) rfl ⟨FillE.no HF.out rfl, set5_below HB.out (by simp) _ _ _ _ _⟩
    · have hn : ((f.size : Int) != (s.size : Int)) = true := by simpa using (by omega : ¬ (f.size : Int) = (s.size : Int))
      have HF : Hid (isF (r, c, s) f = false) := Lib.hid (HELSE.out (fun h => hz h.2))
      clear hz hg HFL HELSE
      go_wp2_with (first | (go_at_call 23; refine (HBO.out _).mono ?_; rintro e w1 ⟨rfl, b1⟩; have HB1 := Lib.hid (HB0.out.trans (b1.mono HB0.out.size)); have HQ1 := Lib.hid (((Below.refl w1.heap.size w1).alloc (Nat.le_refl _) (.cells #[.int .i64 r, .int .i64 c, .int .u64 (S : Int)] 55))); have HR1 := Lib.hid ((HQ1.out.block _ (size_of_heap ((b1.block _ (size_of_heap HR0.out)).trans HR0.out))).trans ((b1.block _ (size_of_heap HR0.out)).trans HR0.out)); have HB2 := Lib.hid (HB1.out.trans (HQ1.out.mono HB1.out.size)); clear b1) | (go_at_call 67; refine (HSZ.out _).mono ?_; rintro e w2 ⟨rfl, b2⟩; have HB3 := Lib.hid (HB2.out.trans (b2.mono HB2.out.size)); have HR3 := Lib.hid ((b2.block _ (size_of_heap HR1.out)).trans HR1.out); clear b2; obtain ⟨z0, z1, z2, z3, z4, y0, y1, y2, y3, y4⟩ := cells5F HR3.out))
      exact bodyPost_ret (v := .tuple #[.agg #[.int .i64 0, .int .i64 0, .int .u64 0, .slice none 0 0, .int .u64 0], .bool false]) (by simp [results, Tryz.results32, go_sem, z0, z1, z2, z3, z4]) rfl ⟨FillE.no HF.out rfl, set5_below HB3.out (by simp) _ _ _ _ _⟩
end Go.Proofs.YtgjijmcedonlmaaGreatDoor
namespace Go.Proofs.YtgjijmcedonlmaaGreatDoor
open Go.RowKit

theorem iisf_any (r c : Int) (s f : ByteArray) (hs : s.size ≤ 4194304) (hf : f.size ≤ 1048576) (w : World) :
    Calls Tryz.prog 14 #[.agg #[.int .i64 r, .int .i64 c, .string s], .string f] w fun e w' => e = .returned (.bool (isF (r, c, s) f)) ∧ Below w.heap.size w w' := by
  have HFI := Lib.hid (fun w => ifill_any r c s f hs hf w)
  obtain ⟨p, hp⟩ : ∃ p, p = isF (r, c, s) f := ⟨_, rfl⟩
  unfold FillE at HFI
  rw [← hp] at HFI ⊢
  clear hp
  go_enter Tryz.func14, Tryz.ntmps14
  cases p with
  | true =>
    go_wp2_with (go_at_call 32; refine (HFI.out _).mono ?_; rintro e w1 ⟨he, b1⟩; have HB1 := Lib.hid (box1_of b1); clear b1; rcases he with ⟨-, blk, cp, rfl, -⟩ | ⟨h, -⟩; rotate_left; cases h)
    go_ret
    exact ⟨rfl, HB1.out.alloc HB1.out.size _⟩
  | false =>
    go_wp2_with (go_at_call 32; refine (HFI.out _).mono ?_; rintro e w1 ⟨he, b1⟩; have HB1 := Lib.hid (box1_of b1); clear b1; rcases he with ⟨h, -⟩ | ⟨-, rfl⟩; cases h)
    go_ret
    exact ⟨rfl, HB1.out.alloc HB1.out.size _⟩
set_option maxRecDepth 100000 in
set_option maxHeartbeats 1600000 in
theorem icells0 (w : World) :
    Calls Tryz.prog 86 #[.agg #[.int .i64 0, .int .i64 1, .int .i64 0]] w fun e w' => ∃ v, e = .returned v ∧ w'.ownsRow w.heap.size 3 1 v 0 [] ∧ Below w.heap.size w w' := by
  obtain ⟨i0, hi, hz0, hz1, hz2⟩ := info_parts info_int
  have HKP := Lib.hid (box1s w 0 1 0 111)
  obtain ⟨d0, d1, d2, hbw⟩ := HKP.out _ (Below.refl _ _)
  clear hbw
  have HMD := Lib.hid (made_ints 0)
  have hws : (w.alloc (.cells #[.int .i64 0, .int .i64 1, .int .i64 0] 111)).heap.size = w.heap.size + 1 := by simp
  go_enter Tryz.func86, Tryz.ntmps86
  go_wp2_with (at_make; refine wpList_make_full _ rfl _ _ 91 rfl w.heap.size 3 i0 (.int .i64 0) 1 Tryz.underlying91 hi hz0 hz1 .i64 .i64 _ _ 0 rfl rfl rfl rfl (by rw [hz2]; omega) (by unfold maxLen; omega) (by simp) ?_; intro w1 hown hgrow; obtain ⟨x0, x1, x2, hbw⟩ := HKP.out _ ((Below.refl _ _).grown hgrow (Nat.le_refl _) (fun k hk => by cases hk)))
  have HO1 : Hid (w1.ownsRow w.heap.size 3 1 (.slice (some ⟨w.heap.size + 1, 0, none⟩) 0 0) 0 []) := Lib.hid (by rw [hws, show (madeCells (Value.int .i64 0).cells (0 * 1)).toList = _ from HMD.out] at hown; exact hown)
  have HB1 := Lib.hid hbw
  clear hown hgrow hbw d0 d1 d2 HKP x0 x1 x2
  go_loopw [10] (fun i wr => i = .int .i64 0 ∧ w1 = wr) (fun _ _ => 0)
  case atStart => exact ⟨rfl, rfl⟩
  case round =>
    obtain ⟨rfl, rfl⟩ := hrel
    go_wp2
    go_ret
    exact ⟨_, rfl, HO1.out, HB1.out⟩
set_option maxRecDepth 100000 in
set_option maxHeartbeats 1600000 in
theorem icellsof0 (r c : Int) (S : Int) (w : World) :
    Calls Tryz.prog 103 #[.agg #[.int .i64 r, .int .i64 c, .int .u64 S], .agg #[.int .i64 0, .bool false, .int .i64 0, .int .i64 0]] w fun e w' => ∃ v, e = .returned v ∧ w'.ownsRow w.heap.size 3 1 v 0 [] ∧ Below w.heap.size w w' := by
  have hmR := mth_RP
  have hmC := mth_CP
  have HX := Lib.hid (box33 (Below.refl _ ((w.alloc (.cells #[.int .i64 r, .int .i64 c, .int .u64 S] 55)).alloc (.cells #[.int .i64 0, .bool false, .int .i64 0, .int .i64 0] 63))))
  obtain ⟨W0, hW0⟩ : ∃ W0, W0 = (w.alloc (.cells #[.int .i64 r, .int .i64 c, .int .u64 S] 55)).alloc (.cells #[.int .i64 0, .bool false, .int .i64 0, .int .i64 0] 63) := ⟨_, rfl⟩
  have HKP : Hid (∀ W : World, Below W0.heap.size W0 W → W.cell? ⟨w.heap.size, 0, none⟩ = some (.int .i64 r) ∧ W.cell? ⟨w.heap.size, 1, none⟩ = some (.int .i64 c) ∧ W.cell? ⟨w.heap.size, 2, none⟩ = some (.int .u64 S) ∧ W.cell? ⟨w.heap.size + 1, 0, none⟩ = some (.int .i64 0) ∧ W.cell? ⟨w.heap.size + 1, 1, none⟩ = some (.bool false) ∧ W.cell? ⟨w.heap.size + 1, 2, none⟩ = some (.int .i64 0) ∧ W.cell? ⟨w.heap.size + 1, 3, none⟩ = some (.int .i64 0)) := Lib.hid (fun W h => by
    rw [hW0] at h
    obtain ⟨h1, h2, -⟩ := box33 h
    exact ⟨Joins.cell_of_block h1 0, Joins.cell_of_block h1 1, Joins.cell_of_block h1 2, Joins.cell_of_block h2 0, Joins.cell_of_block h2 1, Joins.cell_of_block h2 2, Joins.cell_of_block h2 3⟩)
  have HW : Hid (Below w.heap.size w W0) := Lib.hid (by rw [hW0]; exact HX.out.2.2)
  obtain ⟨d0, d1, d2, e0, e1, e2, e3⟩ := HKP.out _ (Below.refl _ _)
  go_enter Tryz.func103, Tryz.ntmps103
  go_wp2_with fail
  rw [← hW0]
  clear hW0 HX
  have HCE := Lib.hid icells0
  go_region_held3 (fun w' => w'.cell? ⟨w.heap.size, 0, none⟩ = some (.int .i64 r) ∧ w'.cell? ⟨w.heap.size, 1, none⟩ = some (.int .i64 c) ∧ w'.cell? ⟨w.heap.size, 2, none⟩ = some (.int .u64 S) ∧ w'.cell? ⟨w.heap.size + 1, 0, none⟩ = some (.int .i64 0) ∧ w'.cell? ⟨w.heap.size + 1, 1, none⟩ = some (.bool false) ∧ w'.cell? ⟨w.heap.size + 1, 2, none⟩ = some (.int .i64 0) ∧ w'.cell? ⟨w.heap.size + 1, 3, none⟩ = some (.int .i64 0)) (first | exact ⟨d0, d1, d2, e0, e1, e2, e3⟩ | exact HKP.out _ B4.out | exact HKP.out _ B3.out | exact HKP.out _ B2.out) (first | (go_at_call 46; refine Calls.mono (lines_any r c S false _) ?_; rintro e w2 ⟨rfl, b2⟩; simp only [setV, Bool.false_eq_true, if_false]; have B2 : Hid (Below W0.heap.size W0 w2) := Lib.hid (by first | exact b2 | exact ((Below.refl _ _).drew).trans b2); clear b2) | (go_at_call 166; refine Calls.mono (rpart_any r c S 0 0 _) ?_; rintro e w3 ⟨rfl, b3⟩; have B3 : Hid (Below W0.heap.size W0 w3) := Lib.hid (by first | exact btrans B2.out b3 | exact btrans B2.out.drew b3); clear b3) | (go_at_call 86; refine Calls.mono (HCE.out _) ?_; rintro e w4 ⟨v4, rfl, o4, b4⟩; have B4 : Hid (Below W0.heap.size W0 w4) := Lib.hid (by first | exact btrans B3.out b4 | exact btrans B3.out.drew b4); have O4 := Lib.hid (own_widen o4 (show w.heap.size ≤ _ from Nat.le_trans HW.out.size (by first | exact B3.out.size | exact B3.out.drew.size))); clear o4 b4))
  all_goals (go_wp2_with fail; go_ret; exact ⟨_, rfl, O4.out, HW.out.trans (B4.out.mono HW.out.size)⟩)
theorem infoU8F : (Tryz.prog.info? 5).map (fun i => (i.zero, i.size, i.bytes)) = some (some (.int .u8 0), 1, 1) := by kernel_rfl
/-- The pattern of no slot. -/
theorem ipat0 (r c S : Int) (u : Value) (op : Int) (w : World) (hu : ∃ a n k, u = .slice a n k) :
    Calls Tryz.prog 65 #[.agg #[.int .i64 r, .int .i64 c, .int .u64 S, u, .int .u64 op], .agg #[.int .i64 0, .bool false, .int .i64 0, .int .i64 0]] w fun e w' => e = .returned (.string ⟨#[]⟩) ∧ Below w.heap.size w w' := by
  obtain ⟨a, n, k, rfl⟩ := hu
  have HCE := Lib.hid (fun w => icellsof0 r c S w)
  have HX := Lib.hid (box33 (Below.refl _ ((w.alloc (.cells #[.int .i64 r, .int .i64 c, .int .u64 S, .slice a n k, .int .u64 op] 69)).alloc (.cells #[.int .i64 0, .bool false, .int .i64 0, .int .i64 0] 63))))
  go_enter Tryz.func65, Tryz.ntmps65
  go_wp2_with fail
  obtain ⟨W0, hW0⟩ : ∃ W0, W0 = (w.alloc (.cells #[.int .i64 r, .int .i64 c, .int .u64 S, .slice a n k, .int .u64 op] 69)).alloc (.cells #[.int .i64 0, .bool false, .int .i64 0, .int .i64 0] 63) := ⟨_, rfl⟩
  have hws : W0.heap.size = w.heap.size + 2 := by rw [hW0]; simp
  rw [← hW0] at HX ⊢
  clear hW0
  have HB0 := Lib.hid HX.out.2.2
  have HA0 := Lib.hid ((Below.refl W0.heap.size W0).alloc (Nat.le_refl _) (.cells #[] 5))
  obtain ⟨x0, x1, x2, x3, x4, fx0, fx1, fx2, fx3, fx4⟩ := cells5F ((HA0.out.block _ (size_of_heap HX.out.1)).trans HX.out.1)
  obtain ⟨z0, z1, z2, z3, y0, y1, y2, y3⟩ := cells4F ((HA0.out.block _ (size_of_heap HX.out.2.1)).trans HX.out.2.1)
  have HB1 := Lib.hid (HB0.out.trans (HA0.out.mono HB0.out.size))
  have HO1 : Hid ((W0.alloc (.cells #[] 5)).ownsRow W0.heap.size 5 1 (.slice (some ⟨w.heap.size + 2, 0, none⟩) 0 0) 0 []) := Lib.hid (by rw [← hws]; exact own_empty W0 5)
  go_wp2_with (go_at_call 103; refine (HCE.out _).mono ?_; rintro e w2 ⟨v2, rfl, o2, b2⟩; obtain ⟨a2, cap2, rfl⟩ := ownV_slice o2; have HB2 := Lib.hid (HB1.out.trans (b2.mono HB1.out.size)); have HO2 := Lib.hid (own_later HO1.out b2); clear o2 b2)
  go_loopw [5, 14] (fun o i wr => i = .int .i64 0 ∧ Hid (wr.ownsRow W0.heap.size 5 1 o 0 []) ∧ Hid (Below w.heap.size w wr)) (fun _ _ _ => 0)
  case atStart => exact ⟨rfl, by simpa using HO2, HB2⟩
  case round =>
    obtain ⟨rfl, HO, HB⟩ := hrel
    have hconv := conv_own (l := []) (reads_own HO.out rfl (by decide))
    go_wp2
    go_ret
    exact ⟨rfl, HB.out⟩
/-- The bytes of a slot's cells. -/
def bytesOf (F : Nat → UInt8) (Z : List Int) : List UInt8 := Z.map fun q => F q.toNat
theorem bytesOf_next (F : Nat → UInt8) (Z : List Int) {j : Nat} (h : j < Z.length) : bytesOf F (Z.take (j + 1)) = bytesOf F (Z.take j) ++ [F (Z.getD j 0).toNat] := by
  unfold bytesOf
  rw [List.take_succ_eq_append_getElem h, List.map_append, List.getD_eq_getElem?_getD, List.getElem?_eq_getElem h]
  rfl
theorem numsL_snoc (l : List UInt8) (b : UInt8) : numsL (l ++ [b]) = numsL l ++ [(b.toNat : Int)] := by unfold numsL; rw [List.map_append]; rfl
theorem col_of {g : Int × Int × ByteArray} {x : SlotV} (h : x ∈ slG g) (w : World) : Calls Tryz.prog 103 #[brdV (brd g), slotV x] w fun e w' => ∃ v, e = .returned v ∧ w'.ownsRow w.heap.size 3 1 v (cellsS g.2.1 x).length ((cellsS g.2.1 x).map (Value.int .i64)) ∧ Below w.heap.size w w' := by
  have hcol := brd_col h
  obtain ⟨-, h1, h2, h3, -⟩ := slG_small h
  have h9 := icellsof_any (brd g).1 (brd g).2.1 ((brd g).2.2 : Int) x.1 x.2.1 x.2.2.1 x.2.2.2 (by rw [hcol]; exact h1) h2 h3 w
  rw [hcol] at h9
  unfold brdV slotV
  rw [hcol]
  exact h9
theorem cellFB {W : World} {base m cap : Nat} {e : TypeId} {a0 : Option Addr} {l : List Int} (h : W.ownsRow base e 1 (.slice a0 m cap) m (l.map (Value.int .i64))) (hn : m = l.length) (j : Nat) (hj : j < l.length) :
    ∃ b, a0 = some ⟨b, 0, none⟩ ∧ W.cell? ⟨b, j, none⟩ = some (.int .i64 (l.getD j 0)) := by
  subst hn
  rcases h.2 with ⟨e9, hl⟩ | ⟨g, cap', cur, e9, -⟩
  · exfalso
    injection e9 with _ e8 _
    omega
  · cases e9
    refine ⟨g, rfl, ?_⟩
    rw [h.cellAt j (by omega)]
    simp [List.getD, hj]
set_option maxRecDepth 100000 in
set_option maxHeartbeats 3200000 in
theorem ipat_in (g : Int × Int × ByteArray) (x : SlotV) (hx : x ∈ slG g) (blk cp : Nat) (F : Nat → UInt8) (op : Int) (w : World) (hM : MixAt w blk g.2.2.size F) :
    Calls Tryz.prog 65 #[.agg #[.int .i64 (brd g).1, .int .i64 (brd g).2.1, .int .u64 ((brd g).2.2 : Int), .slice (some ⟨blk, 0, none⟩) g.2.2.size cp, .int .u64 op], slotV x] w fun e w' => e = .returned (.string ⟨(bytesOf F (cellsS g.2.1 x)).toArray⟩) ∧ Below w.heap.size w w' := by
  obtain ⟨i0, hi, hz0, hz1, hz2⟩ := info_parts infoU8F
  have HCO := Lib.hid (fun w => col_of hx w)
  have HQ : Hid (∀ q ∈ cellsS g.2.1 x, ∃ n : Nat, q = n ∧ n < g.2.2.size) := Lib.hid (fun q hq => by
    obtain ⟨n, h1, h2, -⟩ := cells_whF hx hq
    exact ⟨n, h1, h2⟩)
  have HZ6 : Hid ((cellsS g.2.1 x).length ≤ 6) := Lib.hid (by rw [cellsS_length]; have := (slG_small hx).2.2.2.1; omega)
  have HM := Lib.hid hM
  have hbw := hM.lt
  rw [← str_nums]
  clear hx hM
  obtain ⟨Z, hZ⟩ : ∃ Z, Z = cellsS g.2.1 x := ⟨_, rfl⟩
  rw [← hZ] at HCO HQ HZ6 ⊢
  clear hZ
  obtain ⟨⟨r, c, S⟩, hb⟩ : ∃ b, b = brd g := ⟨_, rfl⟩
  rw [← hb] at HCO ⊢
  clear hb
  obtain ⟨n, hn⟩ : ∃ n, n = g.2.2.size := ⟨_, rfl⟩
  rw [← hn] at HQ HM ⊢
  clear hn g
  obtain ⟨t0, t1, t2, t3⟩ := x
  simp only [brdV, slotV] at HCO ⊢
  have hz6 := HZ6.out
  have HX := Lib.hid (box33 (Below.refl _ ((w.alloc (.cells #[.int .i64 r, .int .i64 c, .int .u64 (S : Int), .slice (some ⟨blk, 0, none⟩) n cp, .int .u64 op] 69)).alloc (.cells #[.int .i64 t0, .bool t1, .int .i64 t2, .int .i64 t3] 63))))
  go_enter Tryz.func65, Tryz.ntmps65
  go_wp2_with fail
  obtain ⟨W0, hW0⟩ : ∃ W0, W0 = (w.alloc (.cells #[.int .i64 r, .int .i64 c, .int .u64 (S : Int), .slice (some ⟨blk, 0, none⟩) n cp, .int .u64 op] 69)).alloc (.cells #[.int .i64 t0, .bool t1, .int .i64 t2, .int .i64 t3] 63) := ⟨_, rfl⟩
  have hws : W0.heap.size = w.heap.size + 2 := by rw [hW0]; simp
  rw [← hW0] at HX ⊢
  clear hW0
  have HB0 := Lib.hid HX.out.2.2
  have HG0 := Lib.hid HX.out.1
  have HA0 := Lib.hid ((Below.refl W0.heap.size W0).alloc (Nat.le_refl _) (.cells #[] 5))
  obtain ⟨x0, x1, x2, x3, x4, fx0, fx1, fx2, fx3, fx4⟩ := cells5F ((HA0.out.block _ (size_of_heap HX.out.1)).trans HX.out.1)
  obtain ⟨z0, z1, z2, z3, y0, y1, y2, y3⟩ := cells4F ((HA0.out.block _ (size_of_heap HX.out.2.1)).trans HX.out.2.1)
  have HO1 : Hid ((W0.alloc (.cells #[] 5)).ownsRow W0.heap.size 5 1 (.slice (some ⟨w.heap.size + 2, 0, none⟩) 0 0) 0 []) := Lib.hid (by rw [← hws]; exact own_empty W0 5)
  go_wp2_with (go_at_call 103; refine (HCO.out _).mono ?_; rintro e w2 ⟨v2, rfl, o2, b2⟩; obtain ⟨a2, cap2, rfl⟩ := ownV_slice o2; have HB2 := Lib.hid (HA0.out.trans (b2.mono HA0.out.size)); have HO2 := Lib.hid (own_later HO1.out b2); have HZ2 := Lib.hid (own_widen o2 HA0.out.size); clear o2 b2)
  clear x0 x1 x2 x3 x4 fx0 fx1 fx2 fx3 fx4 z0 z1 z2 z3 y0 y1 y2 y3 HO1 HA0 HCO
  go_loopw [5, 14] (fun o i wr => ∃ k : Nat, k ≤ Z.length ∧ i = .int .i64 k ∧ Hid (wr.ownsRow W0.heap.size 5 1 o (numsL (bytesOf F (Z.take k))).length ((numsL (bytesOf F (Z.take k))).map (Value.int .u8))) ∧ Hid (wr.ownsRow W0.heap.size 3 1 (.slice a2 Z.length cap2) Z.length (Z.map (Value.int .i64))) ∧ Hid (Below W0.heap.size W0 wr)) (fun _ i _ => Z.length - (intOf i).toNat)
  case atStart => exact ⟨0, Nat.zero_le _, rfl, by simpa [bytesOf, numsL] using HO2, HZ2, HB2⟩
  case round =>
    clear HO2 HZ2 HB2
    obtain ⟨k, hk, rfl, HO, HZ, HB⟩ := hrel
    obtain ⟨x0, x1, x2, x3, x4, fx0, fx1, fx2, fx3, fx4⟩ := cells5F ((HB.out.block _ (size_of_heap HG0.out)).trans HG0.out)
    have hlen : (numsL (bytesOf F (Z.take k))).length ≤ 6 := by rw [numsL_length, bytesOf, List.length_map, List.length_take]; omega
    by_cases hlt : k < Z.length
    · have hd : decide ((k : Int) < (Z.length : Int)) = true := decide_eq_true (by omega)
      have hd9 : decide (k < Z.length) = true := decide_eq_true hlt
      obtain ⟨bz, rfl, q0⟩ := cellFB HZ.out rfl k hlt
      obtain ⟨m, hm, hmn⟩ := HQ.out _ (getD_mem2 hlt)
      have HNX := Lib.hid (bytesOf_next F Z hlt)
      rw [hm] at q0 HNX
      have HMW := Lib.hid (HM.out.later (HB0.out.trans (HB.out.mono HB0.out.size)))
      have hc1 := HMW.out.cell m hmn
      rw [Int.toNat_natCast] at HNX
      obtain ⟨X, hX⟩ : ∃ X, X = numsL (bytesOf F (Z.take k)) := ⟨_, rfl⟩
      have HNE : Hid (numsL (bytesOf F (Z.take (k + 1))) = X ++ [((F m).toNat : Int)]) := Lib.hid (by rw [HNX.out, numsL_snoc, hX])
      rw [← hX] at HO hlen
      have h255 : (F m).toNat ≤ 255 := by have := (F m).toNat_lt; omega
      obtain ⟨fm, hfm⟩ : ∃ fm, fm = (F m).toNat := ⟨_, rfl⟩
      rw [← hfm] at hc1 HNE h255
      clear hm HNX hX hfm HMW
      go_wp2_with (at_builtin; refine append_one _ rfl _ _ 22 rfl W0.heap.size 5 i0 (.int .u8 0) 1 Tryz.underlying22 hi hz0 hz1 hz2 rfl _ X.length (X.map (Value.int .u8)) rfl (own_later HO.out (Joins.below_alloc1 _ _)) ⟨_, 0, none⟩ 1 .u8 (fm : Int) rfl (by simp) (by omega) (by omega) (le_alloc HB.out.size _) ?_; intro v5 w5 hown hgrow hwhere)
      have HB5 := Lib.hid (below_own (HB.out.alloc HB.out.size _) hgrow (own_later HO.out (Joins.below_alloc1 _ _)) (Nat.le_refl _) (le_alloc HB.out.size _))
      have HZ5 := Lib.hid ((HZ.out.alloc _).kept hgrow (own_types HO.out HZ.out (by decide)))
      have HO5 : Hid (w5.ownsRow W0.heap.size 5 1 v5 (numsL (bytesOf F (Z.take (k + 1)))).length ((numsL (bytesOf F (Z.take (k + 1)))).map (Value.int .u8))) := Lib.hid (by rw [HNE.out, List.length_append, List.map_append]; exact hown)
      clear hown hgrow hwhere
      go_roundw
      case rel => exact ⟨k + 1, by omega, by go_num, HO5, HZ5, HB5⟩
      case measure => simp [intOf]; omega
    · have hd : decide ((k : Int) < (Z.length : Int)) = false := decide_eq_false (by omega)
      have hd9 : decide (k < Z.length) = false := decide_eq_false hlt
      have HV : Hid (strOfNums (numsL (bytesOf F (Z.take k))) = strOfNums (numsL (bytesOf F Z))) := Lib.hid (by rw [List.take_of_length_le (by omega)])
      have hconv := conv_own (reads_own HO.out rfl (by omega))
      rw [HV.out] at hconv
      go_wp2
      go_ret
      exact ⟨rfl, HB0.out.trans (HB.out.mono HB0.out.size)⟩
/-- What the filling of a fill answers as the pattern of the slot with an index. -/
theorem patF_bytes {g : Int × Int × ByteArray} {f : ByteArray} {i : Nat} (h : isF g f = true) (hi : i < (slG g).length) : patF g f (i : Int) = ⟨(bytesOf (fun j => f.data.toList.getD j 0) (cellsS g.2.1 ((slG g).getD i none_Slot))).toArray⟩ := patF_at h hi
theorem brd_yes {r c : Int} {s : ByteArray} (h : isG (r, c, s) = true) : brd (r, c, s) = (r, c, wT s s.size) := by
  unfold brd
  rw [if_pos h]
theorem slotN_in {g : Int × Int × ByteArray} {i : Nat} (hi : i < (slG g).length) : slotN g (i : Int) = (slG g).getD i none_Slot := by
  unfold slotN
  rw [if_pos ⟨by omega, by omega⟩, Int.toNat_natCast]
theorem slotN_no {g : Int × Int × ByteArray} {k : Int} (h : ¬ (0 ≤ k ∧ k < ((slG g).length : Int))) : slotN g k = none_Slot := by
  unfold slotN
  rw [if_neg h]
theorem patF_else {g : Int × Int × ByteArray} {f : ByteArray} {k : Int} (h : ¬ (isF g f = true ∧ 0 ≤ k ∧ k < ((slG g).length : Int))) : patF g f k = ⟨#[]⟩ := by
  unfold patF
  rw [if_neg h]
end Go.Proofs.YtgjijmcedonlmaaGreatDoor
