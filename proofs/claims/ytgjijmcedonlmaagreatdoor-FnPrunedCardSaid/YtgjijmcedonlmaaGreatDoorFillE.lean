/-
  The program's contracts of EmptyFill, written, PutWord, WordsIn.   The program's contracts of written and PutWord.
  The program's contracts of PutWord and WordsIn.
-/
import Derived.Test.YtgjijmcedonlmaaGreatDoorFillB
import Derived.Test.YtgjijmcedonlmaaGreatDoorFillU
import Derived.Test.YtgjijmcedonlmaaGreatDoorPatImplB
import Derived.Test.YtgjijmcedonlmaaGreatDoorWordImplC
import Derived.Test.YtgjijmcedonlmaaGreatDoorVals
namespace Go.Proofs.YtgjijmcedonlmaaGreatDoor
open Go.RowKit

theorem fillRow (l : List Nat) (j : Nat) (h : j < l.length) : l.take (j + 1) = l.take j ++ [l.getD j 0] := by
  rw [List.take_succ_eq_append_getElem h, List.getD_eq_getElem?_getD, List.getElem?_eq_getElem h, Option.getD_some]
theorem natI_getD (l : List Nat) (j : Nat) (h : j < l.length) : (natI l).getD j 0 = ((l.getD j 0 : Nat) : Int) := by
  unfold natI
  rw [List.getD_eq_getElem?_getD, List.getD_eq_getElem?_getD, List.getElem?_map, List.getElem?_eq_getElem h]
  rfl
theorem natM (l : List Nat) (j : Nat) (h : j < l.length) : l.getD j 0 ∈ l := by
  rw [List.getD_eq_getElem?_getD, List.getElem?_eq_getElem h]
  exact List.getElem_mem h
theorem natI_len (l : List Nat) : (natI l).length = l.length := List.length_map ..
theorem grownSet (w : World) (a : Addr) (u : Value) : w.grownBy (w.setCell a u) (some a.block) :=
  ⟨rfl, rfl, rfl, by simp [World.setCell], fun k _ hk => Below.heap_setCell w a u k (fun e => hk (by rw [e]))⟩
/-- The signs of a grid after some white cells have been opened. -/
def opnB (G : List UInt8) (L : List Nat) (i : Nat) : UInt8 := if i ∈ L then 63 else G.getD i 0
theorem opnB_next (G : List UInt8) (L : List Nat) (t k : Nat) : opnB G (L ++ [t]) k = if k = t then 63 else opnB G L k := by
  unfold opnB
  by_cases e : k = t
  · subst e
    rw [if_pos (by simp), if_pos rfl]
  · rw [if_neg e]
    by_cases h : k ∈ L
    · rw [if_pos (List.mem_append_left _ h), if_pos h]
    · rw [if_neg (by simp [h, e]), if_neg h]
theorem opn_all {g : Int × Int × ByteArray} {n : Nat} (h1 : isG g = true → n = g.2.2.size ∧ brd g = (g.1, g.2.1, wT g.2.2 n)) (h0 : isG g = false → n = 0 ∧ brd g = (0, 0, 0)) (h36 : n ≤ 36) :
    emF g = ⟨(mixL n (opnB (sgB n (brd g).2.2) (itemsTo (brd g).2.2 64))).toArray⟩ := by
  cases hg : isG g with
  | false =>
    obtain ⟨e1, e2⟩ := h0 hg
    subst e1
    unfold emF
    rw [hg]
    rfl
  | true =>
    obtain ⟨e1, e2⟩ := h1 hg
    rw [e2]
    simp only
    unfold emF
    rw [if_pos hg]
    congr 2
    unfold mixL
    refine List.ext_getElem (by rw [List.length_map, List.length_map, List.length_range, size_list, e1]) fun i h2 h3 => ?_
    rw [List.length_map, size_list] at h2
    rw [List.getElem_map, List.getElem_map, List.getElem_range]
    have hb := wT_bit g.2.2 n i (by omega)
    have hs : g.2.2.data.toList.getD i 0 = g.2.2.data.toList[i]'(by rw [size_list]; exact h2) := by
      rw [List.getD_eq_getElem?_getD, List.getElem?_eq_getElem (by rw [size_list]; exact h2)]
      rfl
    have hc := (of_decide_eq_true hg).2.2.2 _ (List.getElem_mem (show i < g.2.2.data.toList.length by rw [size_list]; exact h2))
    rw [hs] at hb
    obtain ⟨b, hb9⟩ : ∃ b, b = g.2.2.data.toList[i]'(by rw [size_list]; exact h2) := ⟨_, rfl⟩
    rw [← hb9] at hb hc ⊢
    unfold opnB
    rcases hc with rfl | rfl
    · rw [if_neg]
      · unfold sgB
        rw [List.getD_eq_getElem?_getD, List.getElem?_map, List.getElem?_range (by omega)]
        show emB 35 = if (wT g.2.2 n).testBit i = true then 46 else 35
        rw [hb]
        decide
      · intro h9
        have := (itemsTo_lt h9).2
        rw [hb] at this
        exact absurd this (by decide)
    · rw [if_pos]
      · decide
      · unfold itemsTo
        rw [List.mem_filter, List.mem_range]
        exact ⟨by omega, by rw [hb]; decide⟩
theorem fld_cells (a b : Int) (s : ByteArray) (w : World) : (Instr.field 25 (.agg #[.int .i64 a, .int .i64 b, .string s]) 2).run Tryz.prog w = .ok (.string s) w := by kernel_rfl
end Go.Proofs.YtgjijmcedonlmaaGreatDoor
namespace Go.Proofs.YtgjijmcedonlmaaGreatDoor
open Go.RowKit

theorem numsL_set (l : List UInt8) (q : Nat) (b : UInt8) : ((numsL l).map (Value.int .u8)).set q (.int .u8 (b.toNat : Int)) = (numsL (l.set q b)).map (Value.int .u8) := by
  unfold numsL
  rw [List.map_set, List.map_set]
theorem mixL_self (f : ByteArray) : mixL f.size (fun i => f.data.toList.getD i 0) = f.data.toList := by
  unfold mixL
  refine List.ext_getElem (by rw [List.length_map, List.length_range, size_list]) fun i h1 h2 => ?_
  rw [List.getElem_map, List.getElem_range, List.getD_eq_getElem?_getD, List.getElem?_eq_getElem h2]
  rfl
theorem mixL_len (n : Nat) (F : Nat → UInt8) : (mixL n F).length = n := by
  unfold mixL
  rw [List.length_map, List.length_range]
theorem own_some {W : World} {base n s : Nat} {e : TypeId} {v : Value} {xs : List Value} (h : W.ownsRow base e s v n xs) (hn : 0 < n) : ∃ g c, base ≤ g ∧ v = .slice (some ⟨g, 0, none⟩) n c := by
  rcases h.2 with ⟨-, h0⟩ | ⟨g, capm, cur, rfl, hbg, -⟩
  · omega
  · exact ⟨g, capm, hbg, rfl⟩
theorem clone_mix (n blk cp : Nat) (F : Nat → UInt8) (hn : n ≤ 36) (w : World) (h : MixAt w blk n F) :
    Calls Tryz.prog 104 #[.slice (some ⟨blk, 0, none⟩) n cp] w fun e w' => ∃ v', e = .returned v' ∧ w'.ownsRow w.heap.size 5 1 v' n ((numsL (mixL n F)).map (Value.int .u8)) ∧ Below w.heap.size w w' := by
  have hl : (numsL (mixL n F)).length = n := by rw [numsL_length, mixL_len]
  have h9 := clone_w (numsL (mixL n F)) (by omega) ⟨blk, 0, none⟩ cp w (fun j hj => ⟨blk, 0, rfl, h.lt, by
    rw [Nat.zero_add, h.cell j (by omega)]
    unfold numsL mixL
    rw [List.getD_eq_getElem?_getD, List.getElem?_map, List.getElem?_map, List.getElem?_range (by omega)]
    rfl⟩)
  rw [hl] at h9
  exact h9
set_option maxRecDepth 100000 in
set_option maxHeartbeats 3200000 in
theorem iwr_any (g : Int × Int × ByteArray) (x : SlotV) (hx : x ∈ slG g) (blk cp : Nat) (F : Nat → UInt8) (op : Int) (wd : ByteArray) (hwd : (cellsS g.2.1 x).length = wd.size) (w : World) (hM : MixAt w blk g.2.2.size F) :
    Calls Tryz.prog 66 #[.agg #[.int .i64 (brd g).1, .int .i64 (brd g).2.1, .int .u64 ((brd g).2.2 : Int), .slice (some ⟨blk, 0, none⟩) g.2.2.size cp, .int .u64 op], slotV x, .string wd] w fun e w' => ∃ v, e = .returned v ∧ w'.ownsRow w.heap.size 5 1 v g.2.2.size ((numsL (putTo (mixL g.2.2.size F) (cellsS g.2.1 x) wd.data.toList (cellsS g.2.1 x).length)).map (Value.int .u8)) ∧ Below w.heap.size w w' := by
  have HCO := Lib.hid (fun w => col_of hx w)
  have HQ : Hid (∀ q ∈ cellsS g.2.1 x, ∃ n : Nat, q = n ∧ n < g.2.2.size) := Lib.hid (fun q hq => by
    obtain ⟨n, h1, h2, -⟩ := cells_whF hx hq
    exact ⟨n, h1, h2⟩)
  have HZ6 : Hid ((cellsS g.2.1 x).length ≤ 6) := Lib.hid (by rw [cellsS_length]; have := (slG_small hx).2.2.2.1; omega)
  have hg := (slG_small hx).1
  have h36 : g.2.2.size ≤ 36 := isG_size hg
  have h4 : 0 < g.2.2.size := by
    obtain ⟨⟨h1, h2⟩, ⟨h3, h5⟩, h6, -⟩ := of_decide_eq_true hg
    have := (prod_in h1 h2 h3 h5).1
    omega
  have HM := Lib.hid hM
  have HWD := Lib.hid hwd
  have hbw := hM.lt
  clear hx hM hg hwd
  obtain ⟨Z, hZ⟩ : ∃ Z, Z = cellsS g.2.1 x := ⟨_, rfl⟩
  rw [← hZ] at HCO HQ HZ6 HWD ⊢
  clear hZ
  obtain ⟨⟨r, c, S⟩, hb⟩ : ∃ b, b = brd g := ⟨_, rfl⟩
  rw [← hb] at HCO ⊢
  clear hb
  obtain ⟨n, hn⟩ : ∃ n, n = g.2.2.size := ⟨_, rfl⟩
  rw [← hn] at HQ HM h36 h4 ⊢
  clear hn g
  have HCLN := Lib.hid (fun w h => clone_mix n blk cp F h36 w h)
  obtain ⟨B, hB⟩ : ∃ B, B = mixL n F := ⟨_, rfl⟩
  have HBL : Hid (B.length = n) := Lib.hid (by rw [hB, mixL_len])
  rw [← hB] at HCLN ⊢
  clear hB
  obtain ⟨t0, t1, t2, t3⟩ := x
  simp only [brdV, slotV] at HCO ⊢
  have hz6 := HZ6.out
  have HX := Lib.hid (box33 (Below.refl _ ((w.alloc (.cells #[.int .i64 r, .int .i64 c, .int .u64 (S : Int), .slice (some ⟨blk, 0, none⟩) n cp, .int .u64 op] 69)).alloc (.cells #[.int .i64 t0, .bool t1, .int .i64 t2, .int .i64 t3] 63))))
  go_enter Tryz.func66, Tryz.ntmps66
  go_wp2_with fail
  obtain ⟨W0, hW0⟩ : ∃ W0, W0 = (w.alloc (.cells #[.int .i64 r, .int .i64 c, .int .u64 (S : Int), .slice (some ⟨blk, 0, none⟩) n cp, .int .u64 op] 69)).alloc (.cells #[.int .i64 t0, .bool t1, .int .i64 t2, .int .i64 t3] 63) := ⟨_, rfl⟩
  rw [← hW0] at HX ⊢
  clear hW0
  have HB0 := Lib.hid HX.out.2.2
  have HG0 := Lib.hid HX.out.1
  have HS0 := Lib.hid HX.out.2.1
  have HM0 := Lib.hid (HM.out.later HB0.out)
  obtain ⟨x0, x1, x2, x3, x4, fx0, fx1, fx2, fx3, fx4⟩ := cells5F HG0.out
  obtain ⟨z0, z1, z2, z3, y0, y1, y2, y3⟩ := cells4F HS0.out
  clear HX
  go_wp2_with (first | (go_at_call 104; refine (HCLN.out _ HM0.out).mono ?_; rintro e w1 ⟨v1, rfl, o1, b1⟩; obtain ⟨gg, cc, hgg, rfl⟩ := own_some o1 h4; have HO1 := Lib.hid o1; have HB1 := Lib.hid b1; have HG1 := Lib.hid ((b1.block _ (size_of_heap HG0.out)).trans HG0.out); have HS1 := Lib.hid ((b1.block _ (size_of_heap HS0.out)).trans HS0.out); clear b1 o1 x0 x1 x2 x3 x4 fx0 fx1 fx2 fx3 fx4 z0 z1 z2 z3 y0 y1 y2 y3; obtain ⟨x0, x1, x2, x3, x4, fx0, fx1, fx2, fx3, fx4⟩ := cells5F HG1.out; obtain ⟨z0, z1, z2, z3, y0, y1, y2, y3⟩ := cells4F HS1.out) | (go_at_call 103; refine (HCO.out _).mono ?_; rintro e w2 ⟨v2, rfl, o2, b2⟩; obtain ⟨a2, cap2, rfl⟩ := ownV_slice o2; have HB2 := Lib.hid (HB1.out.trans (b2.mono HB1.out.size)); have HO2 := Lib.hid (own_later HO1.out b2); have HZ2 := Lib.hid (own_widen o2 HB1.out.size); clear o2 b2))
  clear x0 x1 x2 x3 x4 fx0 fx1 fx2 fx3 fx4 z0 z1 z2 z3 y0 y1 y2 y3 HO1 HB1 HG1 HS1 HG0 HS0 HCO HCLN HM0
  have hwg : w.heap.size ≤ gg := Nat.le_trans HB0.out.size hgg
  go_loopw [18] (fun i wr => ∃ k : Nat, k ≤ Z.length ∧ i = .int .i64 k ∧ Hid (wr.ownsRow W0.heap.size 5 1 (.slice (some ⟨gg, 0, none⟩) n cc) n ((numsL (putTo B Z wd.data.toList k)).map (Value.int .u8))) ∧ Hid (wr.ownsRow W0.heap.size 3 1 (.slice a2 Z.length cap2) Z.length (Z.map (Value.int .i64))) ∧ Hid (Below W0.heap.size W0 wr)) (fun i _ => Z.length - (intOf i).toNat)
  case atStart => exact ⟨0, Nat.zero_le _, rfl, HO2, HZ2, HB2⟩
  case round =>
    clear HO2 HZ2 HB2
    obtain ⟨k, hk, rfl, HO, HZ, HB⟩ := hrel
    by_cases hlt : k < Z.length
    · have hd : decide ((k : Int) < (Z.length : Int)) = true := decide_eq_true (by omega)
      have hd9 : decide (k < Z.length) = true := decide_eq_true hlt
      obtain ⟨bz, rfl, q0⟩ := cellFB HZ.out rfl k hlt
      obtain ⟨m, hm, hmn⟩ := HQ.out _ (getD_mem2 hlt)
      have hkw : k < wd.size := by have := HWD.out; omega
      have hcm := (HO.out.cellAt m (by omega)).trans (show _ = some (.int .u8 (((putTo B Z wd.data.toList k).getD m 0).toNat : Int)) by
        have hl2 : m < (putTo B Z wd.data.toList k).length := by rw [putTo_length, HBL.out]; exact hmn
        unfold numsL
        rw [List.getElem?_map, List.getElem?_map, List.getD_eq_getElem?_getD, List.getElem?_eq_getElem hl2]
        rfl)
      have hfm := HO.out.frozenAt m
      have HO2 : Hid _ := Lib.hid (HO.out.stored m (.int .u8 (wd[k].toNat : Int))).1
      have HO3 : Hid ((wr.setCell ⟨gg, m, none⟩ (.int .u8 (wd[k].toNat : Int))).ownsRow W0.heap.size 5 1 (.slice (some ⟨gg, 0, none⟩) n cc) n ((numsL (putTo B Z wd.data.toList (k + 1))).map (Value.int .u8))) := Lib.hid (by
        have h9 := HO2.out
        rw [numsL_set] at h9
        show (wr.setCell ⟨gg, m, none⟩ (.int .u8 (wd[k].toNat : Int))).ownsRow _ _ _ _ _ ((numsL ((putTo B Z wd.data.toList k).set (Z.getD k 0).toNat (wd.data.toList.getD k 0))).map (Value.int .u8))
        rw [hm, Int.toNat_natCast, getD_byte wd k hkw]
        exact h9)
      have HZ3 := Lib.hid (HZ.out.kept (grownSet wr ⟨gg, m, none⟩ (.int .u8 (wd[k].toNat : Int))) (own_types HO.out HZ.out (by decide)))
      rw [hm] at q0
      have h255 : wd[k].toNat ≤ 255 := by have := wd[k].toNat_lt; omega
      obtain ⟨old, hold⟩ : ∃ old, old = ((putTo B Z wd.data.toList k).getD m 0).toNat := ⟨_, rfl⟩
      rw [← hold] at hcm
      clear hm HO2 HO HZ hold
      go_wp2
      go_roundw
      case rel => exact ⟨k + 1, by omega, by go_num, HO3, HZ3, Lib.hid (HB.out.setCell (p := ⟨gg, m, none⟩) hgg _)⟩
      case measure => simp [intOf]; omega
    · have hd : decide ((k : Int) < (Z.length : Int)) = false := decide_eq_false (by omega)
      have hd9 : decide (k < Z.length) = false := decide_eq_false hlt
      have HV : Hid (wr.ownsRow w.heap.size 5 1 (.slice (some ⟨gg, 0, none⟩) n cc) n ((numsL (putTo B Z wd.data.toList Z.length)).map (Value.int .u8))) := Lib.hid (by
        have h9 := own_widen HO.out HB0.out.size
        rw [show k = Z.length by omega] at h9
        exact h9)
      go_wp2
      go_ret
      exact ⟨_, rfl, HV.out, HB0.out.trans (HB.out.mono HB0.out.size)⟩
theorem fits_none (x : ByteArray) : fitsP ⟨#[]⟩ x = false := by
  cases h : fitsP ⟨#[]⟩ x with
  | false => rfl
  | true =>
    have h9 := (of_decide_eq_true (fits_parts h).1).1
    exact absurd h9 (by decide)
end Go.Proofs.YtgjijmcedonlmaaGreatDoor
namespace Go.Proofs.YtgjijmcedonlmaaGreatDoor
open Go.RowKit

set_option maxRecDepth 100000 in
set_option maxHeartbeats 3200000 in
theorem ipw_any (r c : Int) (s f : ByteArray) (k : Int) (x : ByteArray) (hs : s.size ≤ 4194304) (hf : f.size ≤ 1048576) (hx : x.size ≤ 1048576) (w : World) (hm : ML w) :
    Calls Tryz.prog 31 #[.agg #[.int .i64 r, .int .i64 c, .string s], .string f, .int .i64 k, .string x] w fun e w' => e = .returned (.tuple #[.string (putF (r, c, s) f k x).1, .bool (putF (r, c, s) f k x).2]) ∧ Below w.heap.size w w' := by
  have HFI := Lib.hid (fun w => ifill_any r c s f hs hf w)
  unfold FillE at HFI
  have HML := Lib.hid hm
  clear hm
  cases hp : isF (r, c, s) f with
  | false =>
    rw [hp] at HFI
    have hpe : patF (r, c, s) f k = ⟨#[]⟩ := patF_else (fun h => by rw [hp] at h; cases h.1)
    have HF := Lib.hid (putF_no (g := (r, c, s)) (f := f) (k := k) (x := x) (by rw [hpe]; exact fits_none x))
    have HFT := Lib.hid (fun w h => by
      have h9 := ifits_any ⟨#[]⟩ x w h (by decide) hx
      rw [fits_none] at h9
      exact h9)
    have HSO := Lib.hid (fun w => isof_any (0, 0, ⟨#[]⟩) k w)
    rw [slotN_no (g := (0, 0, ⟨#[]⟩)) (k := k) (by rw [slG_none]; simp), brd_none] at HSO
    have HP0 := Lib.hid (fun w => ipat0 0 0 0 (.slice none 0 0) 0 w ⟨_, _, _, rfl⟩)
    simp only [brdV, slotV, none_Slot] at HSO
    obtain ⟨bn, hbn⟩ : ∃ bn, bn = decide (0 ≤ k ∧ k < ((slG (0, 0, ⟨#[]⟩)).length : Int)) := ⟨_, rfl⟩
    rw [← hbn] at HSO
    clear hp hbn hpe
    go_enter Tryz.func31, Tryz.ntmps31
    go_wp2_with (first | (go_at_call 32; refine (HFI.out _).mono ?_; rintro e w1 ⟨he, b1⟩; have HB1 := Lib.hid (box1_of b1); clear b1; rcases he with ⟨h, -⟩ | ⟨-, rfl⟩; cases h; have HA1 := Lib.hid ((Below.refl w1.heap.size w1).alloc (Nat.le_refl _) (.cells #[.int .i64 0, .int .i64 0, .int .u64 0, .slice none 0 0, .int .u64 0] 69)); have HX1 := Lib.hid (new_block w1 (.cells #[.int .i64 0, .int .i64 0, .int .u64 0, .slice none 0 0, .int .u64 0] 69)); have HC1 := Lib.hid (HB1.out.trans (HA1.out.mono HB1.out.size))) | (go_at_call 63; refine (HSO.out _).mono ?_; rintro e w2 ⟨rfl, b2⟩; have HB2 := Lib.hid (HC1.out.trans (b2.mono HC1.out.size)); have HX2 := Lib.hid ((b2.block w1.heap.size (size_of_heap HX1.out)).trans HX1.out); have HA2 := Lib.hid ((Below.refl w2.heap.size w2).alloc (Nat.le_refl _) (.cells #[.int .i64 0, .bool false, .int .i64 0, .int .i64 0] 63)); have HX3 := Lib.hid ((HA2.out.block _ (size_of_heap HX2.out)).trans HX2.out); have HY3 := Lib.hid (new_block w2 (.cells #[.int .i64 0, .bool false, .int .i64 0, .int .i64 0] 63)); have HC2 := Lib.hid (HB2.out.trans (HA2.out.mono HB2.out.size)); clear b2; obtain ⟨x0, x1, x2, x3, x4, fx0, fx1, fx2, fx3, fx4⟩ := cells5F HX3.out) | (go_at_call 65; refine (HP0.out _).mono ?_; rintro e w3 ⟨rfl, b3⟩; have HB3 := Lib.hid (HC2.out.trans (b3.mono HC2.out.size)); have HX4 := Lib.hid ((b3.block _ (size_of_heap HX3.out)).trans HX3.out); have HY4 := Lib.hid ((b3.block _ (size_of_heap HY3.out)).trans HY3.out); clear b3) | (go_at_call 64; refine (HFT.out _ (HML.out.later HB3.out)).mono ?_; rintro e w4 ⟨rfl, b4⟩; have HB4 := Lib.hid (HB3.out.trans (b4.mono HB3.out.size)); clear b4))
    go_ret2
    exact ⟨by rw [HF.out]; rfl, HB4.out⟩
  | true =>
    rw [hp] at HFI
    have hg := (isF_parts hp).1
    have hfs : f.size = s.size := (isF_parts hp).2.1
    have hf36 := (isF_parts hp).2.2.1
    have hbe := brd_yes hg
    have HSO := Lib.hid (fun w => isof_any (r, c, s) k w)
    rw [hbe] at HSO
    obtain ⟨OP, hOP⟩ : ∃ OP, OP = opK f f.size := ⟨_, rfl⟩
    rw [← hOP] at HFI
    by_cases hin : 0 ≤ k ∧ k < ((slG (r, c, s)).length : Int)
    · obtain ⟨j, rfl⟩ : ∃ j : Nat, k = j := ⟨k.toNat, by omega⟩
      have hj : j < (slG (r, c, s)).length := by omega
      rw [slotN_in hj] at HSO
      have HF := Lib.hid (patF_bytes hp hj)
      have HPI := Lib.hid (fun blk cp op w hM => ipat_in (r, c, s) _ (getD_in hj) blk cp (fun j => f.data.toList.getD j 0) op w hM)
      rw [hbe] at HPI
      simp only at HPI HF
      rw [← HF.out, ← hfs] at HPI
      have HFT := Lib.hid (fun w h => ifits_any (patF (r, c, s) f (j : Int)) x w h (by
        have h26 := (slG_small (getD_in hj)).2.2.2.1
        rw [HF.out, arr_size, bytesOf, List.length_map, cellsS_length]
        omega) hx)
      obtain ⟨bn, hbn⟩ : ∃ bn, bn = decide (0 ≤ (j : Int) ∧ (j : Int) < ((slG (r, c, s)).length : Int)) := ⟨_, rfl⟩
      rw [← hbn] at HSO
      obtain ⟨q, hq⟩ : ∃ q, q = fitsP (patF (r, c, s) f (j : Int)) x := ⟨_, rfl⟩
      rw [← hq] at HFT
      cases q with
      | false =>
        have HR := Lib.hid (putF_no hq.symm)
        obtain ⟨P, hP⟩ : ∃ P, P = patF (r, c, s) f (j : Int) := ⟨_, rfl⟩
        rw [← hP] at HPI HFT
        obtain ⟨y, hy⟩ : ∃ y, y = (slG (r, c, s)).getD j none_Slot := ⟨_, rfl⟩
        rw [← hy] at HSO HPI
        obtain ⟨S, hS⟩ : ∃ S, S = wT s s.size := ⟨_, rfl⟩
        rw [hfs] at HPI
        rw [← hS] at HFI HSO HPI
        rw [← hfs] at HPI
        clear hp hg hbe hin hj hbn hP hy HF hq hfs hOP hS
        obtain ⟨t0, t1, t2, t3⟩ := y
        simp only [brdV, slotV] at HSO HPI
        go_enter Tryz.func31, Tryz.ntmps31
        go_wp2_with (first | (go_at_call 32; refine (HFI.out _).mono ?_; rintro e w1 ⟨he, b1⟩; have HB1 := Lib.hid (box1_of b1); clear b1; rcases he with ⟨-, blk, cp, rfl, hq1, hq2, hq3, hM⟩ | ⟨h, -⟩; rotate_left; cases h; have HA1 := Lib.hid ((Below.refl w1.heap.size w1).alloc (Nat.le_refl _) (.cells #[.int .i64 r, .int .i64 c, .int .u64 (S : Int), .slice (some ⟨blk, 0, none⟩) f.size cp, .int .u64 (OP : Int)] 69)); have HX1 := Lib.hid (new_block w1 (.cells #[.int .i64 r, .int .i64 c, .int .u64 (S : Int), .slice (some ⟨blk, 0, none⟩) f.size cp, .int .u64 (OP : Int)] 69)); have HM1 := Lib.hid (hM.later HA1.out); have HC1 := Lib.hid (HB1.out.trans (HA1.out.mono HB1.out.size)); clear hM) | (go_at_call 63; refine (HSO.out _).mono ?_; rintro e w2 ⟨rfl, b2⟩; have HB2 := Lib.hid (HC1.out.trans (b2.mono HC1.out.size)); have HX2 := Lib.hid ((b2.block w1.heap.size (size_of_heap HX1.out)).trans HX1.out); have HA2 := Lib.hid ((Below.refl w2.heap.size w2).alloc (Nat.le_refl _) (.cells #[.int .i64 t0, .bool t1, .int .i64 t2, .int .i64 t3] 63)); have HX3 := Lib.hid ((HA2.out.block _ (size_of_heap HX2.out)).trans HX2.out); have HY3 := Lib.hid (new_block w2 (.cells #[.int .i64 t0, .bool t1, .int .i64 t2, .int .i64 t3] 63)); have HM3 := Lib.hid ((HM1.out.later b2).later HA2.out); have HC2 := Lib.hid (HB2.out.trans (HA2.out.mono HB2.out.size)); clear b2; obtain ⟨x0, x1, x2, x3, x4, fx0, fx1, fx2, fx3, fx4⟩ := cells5F HX3.out) | (go_at_call 65; refine (HPI.out _ _ _ _ HM3.out).mono ?_; rintro e w3 ⟨rfl, b3⟩; have HB3 := Lib.hid (HC2.out.trans (b3.mono HC2.out.size)); have HX4 := Lib.hid ((b3.block _ (size_of_heap HX3.out)).trans HX3.out); have HY4 := Lib.hid ((b3.block _ (size_of_heap HY3.out)).trans HY3.out); have HM4 := Lib.hid (HM3.out.later b3); clear b3) | (go_at_call 64; refine (HFT.out _ (HML.out.later HB3.out)).mono ?_; rintro e w4 ⟨rfl, b4⟩; have HB4 := Lib.hid (HB3.out.trans (b4.mono HB3.out.size)); clear b4))
        go_ret2
        exact ⟨by rw [HR.out]; rfl, HB4.out⟩
      | true =>
        have HR := Lib.hid (putF_yes hq.symm)
        obtain ⟨i9, Z, he9, hi9, hZ, -, -, -, -, -, hl9, -, -, -, hxe⟩ := put_rec hq.symm
        obtain rfl : i9 = j := by omega
        have HWR := Lib.hid (fun blk cp op w hM => iwr_any (r, c, s) _ (getD_in hj) blk cp (fun j => f.data.toList.getD j 0) op x (by simp only at hZ ⊢; rw [← hZ]; exact hl9) w hM)
        rw [hbe] at HWR
        simp only at HWR hZ
        rw [← hZ] at HWR
        have HLN : Hid ((numsL (putTo (mixL s.size (fun j => f.data.toList.getD j 0)) Z x.data.toList Z.length)).length = f.size) := Lib.hid (by rw [numsL_length, putTo_length, mixL_len, hfs])
        have HPS : Hid (strOfNums (numsL (putTo (mixL s.size (fun j => f.data.toList.getD j 0)) Z x.data.toList Z.length)) = putS (r, c, s) f (i9 : Int) x) := Lib.hid (by rw [str_nums, hxe, ← hfs, mixL_self])
        obtain ⟨NB, hNB⟩ : ∃ NB, NB = numsL (putTo (mixL s.size (fun j => f.data.toList.getD j 0)) Z x.data.toList Z.length) := ⟨_, rfl⟩
        rw [← hNB] at HLN HPS HWR
        obtain ⟨P, hP⟩ : ∃ P, P = patF (r, c, s) f (i9 : Int) := ⟨_, rfl⟩
        rw [← hP] at HPI HFT
        obtain ⟨y, hy⟩ : ∃ y, y = (slG (r, c, s)).getD i9 none_Slot := ⟨_, rfl⟩
        rw [← hy] at HSO HPI HWR
        obtain ⟨S, hS⟩ : ∃ S, S = wT s s.size := ⟨_, rfl⟩
        rw [hfs] at HPI
        rw [← hS] at HFI HSO HPI HWR
        rw [← hfs] at HPI HWR
        obtain ⟨PS, hPS⟩ : ∃ PS, PS = putS (r, c, s) f (i9 : Int) x := ⟨_, rfl⟩
        rw [← hPS] at HPS HR
        clear hp hg hbe hin hj hbn hP hy HF hq hfs hOP hS hNB hPS he9 hi9 hZ hl9 hxe
        obtain ⟨t0, t1, t2, t3⟩ := y
        simp only [brdV, slotV] at HSO HPI HWR
        go_enter Tryz.func31, Tryz.ntmps31
        go_wp2_with (first | (go_at_call 32; refine (HFI.out _).mono ?_; rintro e w1 ⟨he, b1⟩; have HB1 := Lib.hid (box1_of b1); clear b1; rcases he with ⟨-, blk, cp, rfl, hq1, hq2, hq3, hM⟩ | ⟨h, -⟩; rotate_left; cases h; have HA1 := Lib.hid ((Below.refl w1.heap.size w1).alloc (Nat.le_refl _) (.cells #[.int .i64 r, .int .i64 c, .int .u64 (S : Int), .slice (some ⟨blk, 0, none⟩) f.size cp, .int .u64 (OP : Int)] 69)); have HX1 := Lib.hid (new_block w1 (.cells #[.int .i64 r, .int .i64 c, .int .u64 (S : Int), .slice (some ⟨blk, 0, none⟩) f.size cp, .int .u64 (OP : Int)] 69)); have HM1 := Lib.hid (hM.later HA1.out); have HC1 := Lib.hid (HB1.out.trans (HA1.out.mono HB1.out.size)); clear hM) | (go_at_call 63; refine (HSO.out _).mono ?_; rintro e w2 ⟨rfl, b2⟩; have HB2 := Lib.hid (HC1.out.trans (b2.mono HC1.out.size)); have HX2 := Lib.hid ((b2.block w1.heap.size (size_of_heap HX1.out)).trans HX1.out); have HA2 := Lib.hid ((Below.refl w2.heap.size w2).alloc (Nat.le_refl _) (.cells #[.int .i64 t0, .bool t1, .int .i64 t2, .int .i64 t3] 63)); have HX3 := Lib.hid ((HA2.out.block _ (size_of_heap HX2.out)).trans HX2.out); have HY3 := Lib.hid (new_block w2 (.cells #[.int .i64 t0, .bool t1, .int .i64 t2, .int .i64 t3] 63)); have HM3 := Lib.hid ((HM1.out.later b2).later HA2.out); have HC2 := Lib.hid (HB2.out.trans (HA2.out.mono HB2.out.size)); clear b2; obtain ⟨x0, x1, x2, x3, x4, fx0, fx1, fx2, fx3, fx4⟩ := cells5F HX3.out) | (go_at_call 65; refine (HPI.out _ _ _ _ HM3.out).mono ?_; rintro e w3 ⟨rfl, b3⟩; have HB3 := Lib.hid (HC2.out.trans (b3.mono HC2.out.size)); have HX4 := Lib.hid ((b3.block _ (size_of_heap HX3.out)).trans HX3.out); have HY4 := Lib.hid ((b3.block _ (size_of_heap HY3.out)).trans HY3.out); have HM4 := Lib.hid (HM3.out.later b3); clear b3) | (go_at_call 64; refine (HFT.out _ (HML.out.later HB3.out)).mono ?_; rintro e w4 ⟨rfl, b4⟩; have HB4 := Lib.hid (HB3.out.trans (b4.mono HB3.out.size)); have HX5 := Lib.hid ((b4.block _ (size_of_heap HX4.out)).trans HX4.out); have HY5 := Lib.hid ((b4.block _ (size_of_heap HY4.out)).trans HY4.out); have HM5 := Lib.hid (HM4.out.later b4); clear x0 x1 x2 x3 x4 fx0 fx1 fx2 fx3 fx4 b4; obtain ⟨x0, x1, x2, x3, x4, fx0, fx1, fx2, fx3, fx4⟩ := cells5F HX5.out; obtain ⟨z0, z1, z2, z3, y0, y1, y2, y3⟩ := cells4F HY5.out) | (go_at_call 66; refine (HWR.out _ _ _ _ HM5.out).mono ?_; rintro e w5 ⟨v5, rfl, o5, b5⟩; obtain ⟨a5, cap5, rfl⟩ := ownV_slice o5; have HB5 := Lib.hid (HB4.out.trans (b5.mono HB4.out.size)); have hconv := conv_own (reads_own o5 (HLN.out).symm (by rw [HLN.out]; omega)); rw [HPS.out] at hconv; clear b5 o5))
        go_ret2
        exact ⟨by rw [HR.out]; rfl, HB5.out⟩
    · rw [slotN_no hin] at HSO
      have hpe : patF (r, c, s) f k = ⟨#[]⟩ := patF_else (fun h => hin h.2)
      have HF := Lib.hid (putF_no (g := (r, c, s)) (f := f) (k := k) (x := x) (by rw [hpe]; exact fits_none x))
      have HFT := Lib.hid (fun w h => by
        have h9 := ifits_any ⟨#[]⟩ x w h (by decide) hx
        rw [fits_none] at h9
        exact h9)
      have HP0 := Lib.hid (fun blk cp op w => ipat0 r c ((wT s s.size : Nat) : Int) (.slice (some ⟨blk, 0, none⟩) f.size cp) op w ⟨_, _, _, rfl⟩)
      obtain ⟨bn, hbn⟩ : ∃ bn, bn = decide (0 ≤ k ∧ k < ((slG (r, c, s)).length : Int)) := ⟨_, rfl⟩
      rw [← hbn] at HSO
      obtain ⟨S, hS⟩ : ∃ S, S = wT s s.size := ⟨_, rfl⟩
      rw [← hS] at HFI HSO HP0
      simp only [brdV, slotV, none_Slot] at HSO
      clear hp hg hbe hin hbn hS hOP hfs hpe
      go_enter Tryz.func31, Tryz.ntmps31
      go_wp2_with (first | (go_at_call 32; refine (HFI.out _).mono ?_; rintro e w1 ⟨he, b1⟩; have HB1 := Lib.hid (box1_of b1); clear b1; rcases he with ⟨-, blk, cp, rfl, -⟩ | ⟨h, -⟩; rotate_left; cases h; have HA1 := Lib.hid ((Below.refl w1.heap.size w1).alloc (Nat.le_refl _) (.cells #[.int .i64 r, .int .i64 c, .int .u64 (S : Int), .slice (some ⟨blk, 0, none⟩) f.size cp, .int .u64 (OP : Int)] 69)); have HX1 := Lib.hid (new_block w1 (.cells #[.int .i64 r, .int .i64 c, .int .u64 (S : Int), .slice (some ⟨blk, 0, none⟩) f.size cp, .int .u64 (OP : Int)] 69)); have HC1 := Lib.hid (HB1.out.trans (HA1.out.mono HB1.out.size))) | (go_at_call 63; refine (HSO.out _).mono ?_; rintro e w2 ⟨rfl, b2⟩; have HB2 := Lib.hid (HC1.out.trans (b2.mono HC1.out.size)); have HX2 := Lib.hid ((b2.block w1.heap.size (size_of_heap HX1.out)).trans HX1.out); have HA2 := Lib.hid ((Below.refl w2.heap.size w2).alloc (Nat.le_refl _) (.cells #[.int .i64 0, .bool false, .int .i64 0, .int .i64 0] 63)); have HX3 := Lib.hid ((HA2.out.block _ (size_of_heap HX2.out)).trans HX2.out); have HY3 := Lib.hid (new_block w2 (.cells #[.int .i64 0, .bool false, .int .i64 0, .int .i64 0] 63)); have HC2 := Lib.hid (HB2.out.trans (HA2.out.mono HB2.out.size)); clear b2; obtain ⟨x0, x1, x2, x3, x4, fx0, fx1, fx2, fx3, fx4⟩ := cells5F HX3.out) | (go_at_call 65; refine (HP0.out _ _ _ _).mono ?_; rintro e w3 ⟨rfl, b3⟩; have HB3 := Lib.hid (HC2.out.trans (b3.mono HC2.out.size)); have HX4 := Lib.hid ((b3.block _ (size_of_heap HX3.out)).trans HX3.out); have HY4 := Lib.hid ((b3.block _ (size_of_heap HY3.out)).trans HY3.out); clear b3) | (go_at_call 64; refine (HFT.out _ (HML.out.later HB3.out)).mono ?_; rintro e w4 ⟨rfl, b4⟩; have HB4 := Lib.hid (HB3.out.trans (b4.mono HB3.out.size)); clear b4))
      go_ret2
      exact ⟨by rw [HF.out]; rfl, HB4.out⟩
theorem row_zero : row_Slot [] = [] := rfl
end Go.Proofs.YtgjijmcedonlmaaGreatDoor
