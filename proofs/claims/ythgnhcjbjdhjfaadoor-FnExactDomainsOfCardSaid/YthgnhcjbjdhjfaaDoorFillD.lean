/-
  The program's contracts of EmptyFill, written, PutWord, WordsIn.
  The program's contracts of written and PutWord.
-/
import Derived.Test.YthgnhcjbjdhjfaaDoorFillB
import Derived.Test.YthgnhcjbjdhjfaaDoorFillU
import Derived.Test.YthgnhcjbjdhjfaaDoorPatImplB
import Derived.Test.YthgnhcjbjdhjfaaDoorWordImplC
namespace Go.Proofs.YthgnhcjbjdhjfaaDoor
open Go.RowKit

theorem fillRow (l : List Nat) (j : Nat) (h : j < l.length) : l.take (j + 1) = l.take j ++ [l.getD j 0] := by
  rw [List.take_succ_eq_append_getElem h, List.getD_eq_getElem?_getD, List.getElem?_eq_getElem h, Option.getD_some]
theorem natI_getD (l : List Nat) (j : Nat) (h : j < l.length) : (natI l).getD j 0 = ((l.getD j 0 : Nat) : Int) := by
  unfold natI
  rw [List.getD_eq_getElem?_getD, List.getD_eq_getElem?_getD, List.getElem?_map, List.getElem?_eq_getElem h]
  rfl
theorem natM (l : List Nat) (j : Nat) (h : j < l.length) : l.getD j 0 ∈ l := by
  rw [List.getD_eq_getElem?_getD, List.getElem?_eq_getElem h]
  exact List.getElem_mem h
theorem natI_len (l : List Nat) : (natI l).length = l.length := List.length_map ..
theorem grownSet (w : World) (a : Addr) (u : Value) : w.grownBy (w.setCell a u) (some a.block) :=
  ⟨rfl, rfl, rfl, by simp [World.setCell], fun k _ hk => Below.heap_setCell w a u k (fun e => hk (by rw [e]))⟩
/-- The signs of a grid after some white cells have been opened. -/
def opnB (G : List UInt8) (L : List Nat) (i : Nat) : UInt8 := if i ∈ L then 63 else G.getD i 0
theorem opnB_next (G : List UInt8) (L : List Nat) (t k : Nat) : opnB G (L ++ [t]) k = if k = t then 63 else opnB G L k := by
  unfold opnB
  by_cases e : k = t
  · subst e
    rw [if_pos (by simp), if_pos rfl]
  · rw [if_neg e]
    by_cases h : k ∈ L
    · rw [if_pos (List.mem_append_left _ h), if_pos h]
    · rw [if_neg (by simp [h, e]), if_neg h]
theorem opn_all {g : Int × Int × ByteArray} {n : Nat} (h1 : isG g = true → n = g.2.2.size ∧ brd g = (g.1, g.2.1, wT g.2.2 n)) (h0 : isG g = false → n = 0 ∧ brd g = (0, 0, 0)) (h36 : n ≤ 36) :
    emF g = ⟨(mixL n (opnB (sgB n (brd g).2.2) (itemsTo (brd g).2.2 64))).toArray⟩ := by
  cases hg : isG g with
  | false =>
    obtain ⟨e1, e2⟩ := h0 hg
    subst e1
    unfold emF
    rw [hg]
    rfl
  | true =>
    obtain ⟨e1, e2⟩ := h1 hg
    rw [e2]
    simp only
    unfold emF
    rw [if_pos hg]
    congr 2
    unfold mixL
    refine List.ext_getElem (by rw [List.length_map, List.length_map, List.length_range, size_list, e1]) fun i h2 h3 => ?_
    rw [List.length_map, size_list] at h2
    rw [List.getElem_map, List.getElem_map, List.getElem_range]
    have hb := wT_bit g.2.2 n i (by omega)
    have hs : g.2.2.data.toList.getD i 0 = g.2.2.data.toList[i]'(by rw [size_list]; exact h2) := by
      rw [List.getD_eq_getElem?_getD, List.getElem?_eq_getElem (by rw [size_list]; exact h2)]
      rfl
    have hc := (of_decide_eq_true hg).2.2.2 _ (List.getElem_mem (show i < g.2.2.data.toList.length by rw [size_list]; exact h2))
    rw [hs] at hb
    obtain ⟨b, hb9⟩ : ∃ b, b = g.2.2.data.toList[i]'(by rw [size_list]; exact h2) := ⟨_, rfl⟩
    rw [← hb9] at hb hc ⊢
    unfold opnB
    rcases hc with rfl | rfl
    · rw [if_neg]
      · unfold sgB
        rw [List.getD_eq_getElem?_getD, List.getElem?_map, List.getElem?_range (by omega)]
        show emB 35 = if (wT g.2.2 n).testBit i = true then 46 else 35
        rw [hb]
        decide
      · intro h9
        have := (itemsTo_lt h9).2
        rw [hb] at this
        exact absurd this (by decide)
    · rw [if_pos]
      · decide
      · unfold itemsTo
        rw [List.mem_filter, List.mem_range]
        exact ⟨by omega, by rw [hb]; decide⟩
theorem fld_cells (a b : Int) (s : ByteArray) (w : World) : (Instr.field 48 (.agg #[.int .i64 a, .int .i64 b, .string s]) 2).run Tryd.prog w = .ok (.string s) w := by kernel_rfl
end Go.Proofs.YthgnhcjbjdhjfaaDoor
namespace Go.Proofs.YthgnhcjbjdhjfaaDoor
open Go.RowKit

theorem numsL_set (l : List UInt8) (q : Nat) (b : UInt8) : ((numsL l).map (Value.int .u8)).set q (.int .u8 (b.toNat : Int)) = (numsL (l.set q b)).map (Value.int .u8) := by
  unfold numsL
  rw [List.map_set, List.map_set]
theorem mixL_self (f : ByteArray) : mixL f.size (fun i => f.data.toList.getD i 0) = f.data.toList := by
  unfold mixL
  refine List.ext_getElem (by rw [List.length_map, List.length_range, size_list]) fun i h1 h2 => ?_
  rw [List.getElem_map, List.getElem_range, List.getD_eq_getElem?_getD, List.getElem?_eq_getElem h2]
  rfl
theorem mixL_len (n : Nat) (F : Nat → UInt8) : (mixL n F).length = n := by
  unfold mixL
  rw [List.length_map, List.length_range]
theorem own_some {W : World} {base n s : Nat} {e : TypeId} {v : Value} {xs : List Value} (h : W.ownsRow base e s v n xs) (hn : 0 < n) : ∃ g c, base ≤ g ∧ v = .slice (some ⟨g, 0, none⟩) n c := by
  rcases h.2 with ⟨-, h0⟩ | ⟨g, capm, cur, rfl, hbg, -⟩
  · omega
  · exact ⟨g, capm, hbg, rfl⟩
theorem clone_mix (n blk cp : Nat) (F : Nat → UInt8) (hn : n ≤ 36) (w : World) (h : MixAt w blk n F) :
    Calls Tryd.prog 112 #[.slice (some ⟨blk, 0, none⟩) n cp] w fun e w' => ∃ v', e = .returned v' ∧ w'.ownsRow w.heap.size 5 1 v' n ((numsL (mixL n F)).map (Value.int .u8)) ∧ Below w.heap.size w w' := by
  have hl : (numsL (mixL n F)).length = n := by rw [numsL_length, mixL_len]
  have h9 := clone_w (numsL (mixL n F)) (by omega) ⟨blk, 0, none⟩ cp w (fun j hj => ⟨blk, 0, rfl, h.lt, by
    rw [Nat.zero_add, h.cell j (by omega)]
    unfold numsL mixL
    rw [List.getD_eq_getElem?_getD, List.getElem?_map, List.getElem?_map, List.getElem?_range (by omega)]
    rfl⟩)
  rw [hl] at h9
  exact h9
set_option maxRecDepth 100000 in
set_option maxHeartbeats 3200000 in
theorem iwr_any (g : Int × Int × ByteArray) (x : SlotV) (hx : x ∈ slG g) (blk cp : Nat) (F : Nat → UInt8) (op : Int) (wd : ByteArray) (hwd : (cellsS g.2.1 x).length = wd.size) (w : World) (hM : MixAt w blk g.2.2.size F) :
    Calls Tryd.prog 95 #[.agg #[.int .i64 (brd g).1, .int .i64 (brd g).2.1, .int .u64 ((brd g).2.2 : Int), .slice (some ⟨blk, 0, none⟩) g.2.2.size cp, .int .u64 op], slotV x, .string wd] w fun e w' => ∃ v, e = .returned v ∧ w'.ownsRow w.heap.size 5 1 v g.2.2.size ((numsL (putTo (mixL g.2.2.size F) (cellsS g.2.1 x) wd.data.toList (cellsS g.2.1 x).length)).map (Value.int .u8)) ∧ Below w.heap.size w w' := by
  have HCO := Lib.hid (fun w => col_of hx w)
  have HQ : Hid (∀ q ∈ cellsS g.2.1 x, ∃ n : Nat, q = n ∧ n < g.2.2.size) := Lib.hid (fun q hq => by
    obtain ⟨n, h1, h2, -⟩ := cells_whF hx hq
    exact ⟨n, h1, h2⟩)
  have HZ6 : Hid ((cellsS g.2.1 x).length ≤ 6) := Lib.hid (by rw [cellsS_length]; have := (slG_small hx).2.2.2.1; omega)
  have hg := (slG_small hx).1
  have h36 : g.2.2.size ≤ 36 := isG_size hg
  have h4 : 0 < g.2.2.size := by
    obtain ⟨⟨h1, h2⟩, ⟨h3, h5⟩, h6, -⟩ := of_decide_eq_true hg
    have := (prod_in h1 h2 h3 h5).1
    omega
  have HM := Lib.hid hM
  have HWD := Lib.hid hwd
  have hbw := hM.lt
  clear hx hM hg hwd
  obtain ⟨Z, hZ⟩ : ∃ Z, Z = cellsS g.2.1 x := ⟨_, rfl⟩
  rw [← hZ] at HCO HQ HZ6 HWD ⊢
  clear hZ
  obtain ⟨⟨r, c, S⟩, hb⟩ : ∃ b, b = brd g := ⟨_, rfl⟩
  rw [← hb] at HCO ⊢
  clear hb
  obtain ⟨n, hn⟩ : ∃ n, n = g.2.2.size := ⟨_, rfl⟩
  rw [← hn] at HQ HM h36 h4 ⊢
  clear hn g
  have HCLN := Lib.hid (fun w h => clone_mix n blk cp F h36 w h)
  obtain ⟨B, hB⟩ : ∃ B, B = mixL n F := ⟨_, rfl⟩
  have HBL : Hid (B.length = n) := Lib.hid (by rw [hB, mixL_len])
  rw [← hB] at HCLN ⊢
  clear hB
  obtain ⟨t0, t1, t2, t3⟩ := x
  simp only [brdV, slotV] at HCO ⊢
  have hz6 := HZ6.out
  have HX := Lib.hid (box33 (Below.refl _ ((w.alloc (.cells #[.int .i64 r, .int .i64 c, .int .u64 (S : Int), .slice (some ⟨blk, 0, none⟩) n cp, .int .u64 op] 83)).alloc (.cells #[.int .i64 t0, .bool t1, .int .i64 t2, .int .i64 t3] 88))))
  go_enter Tryd.func95, Tryd.ntmps95
  go_wp2_with fail
  obtain ⟨W0, hW0⟩ : ∃ W0, W0 = (w.alloc (.cells #[.int .i64 r, .int .i64 c, .int .u64 (S : Int), .slice (some ⟨blk, 0, none⟩) n cp, .int .u64 op] 83)).alloc (.cells #[.int .i64 t0, .bool t1, .int .i64 t2, .int .i64 t3] 88) := ⟨_, rfl⟩
  rw [← hW0] at HX ⊢
  clear hW0
  have HB0 := Lib.hid HX.out.2.2
  have HG0 := Lib.hid HX.out.1
  have HS0 := Lib.hid HX.out.2.1
  have HM0 := Lib.hid (HM.out.later HB0.out)
  obtain ⟨x0, x1, x2, x3, x4, fx0, fx1, fx2, fx3, fx4⟩ := cells5F HG0.out
  obtain ⟨z0, z1, z2, z3, y0, y1, y2, y3⟩ := cells4F HS0.out
  clear HX
  go_wp2_with (first | (go_at_call 112; refine (HCLN.out _ HM0.out).mono ?_; rintro e w1 ⟨v1, rfl, o1, b1⟩; obtain ⟨gg, cc, hgg, rfl⟩ := own_some o1 h4; have HO1 := Lib.hid o1; have HB1 := Lib.hid b1; have HG1 := Lib.hid ((b1.block _ (size_of_heap HG0.out)).trans HG0.out); have HS1 := Lib.hid ((b1.block _ (size_of_heap HS0.out)).trans HS0.out); clear b1 o1 x0 x1 x2 x3 x4 fx0 fx1 fx2 fx3 fx4 z0 z1 z2 z3 y0 y1 y2 y3; obtain ⟨x0, x1, x2, x3, x4, fx0, fx1, fx2, fx3, fx4⟩ := cells5F HG1.out; obtain ⟨z0, z1, z2, z3, y0, y1, y2, y3⟩ := cells4F HS1.out) | (go_at_call 93; refine (HCO.out _).mono ?_; rintro e w2 ⟨v2, rfl, o2, b2⟩; obtain ⟨a2, cap2, rfl⟩ := ownV_slice o2; have HB2 := Lib.hid (HB1.out.trans (b2.mono HB1.out.size)); have HO2 := Lib.hid (own_later HO1.out b2); have HZ2 := Lib.hid (own_widen o2 HB1.out.size); clear o2 b2))
  clear x0 x1 x2 x3 x4 fx0 fx1 fx2 fx3 fx4 z0 z1 z2 z3 y0 y1 y2 y3 HO1 HB1 HG1 HS1 HG0 HS0 HCO HCLN HM0
  have hwg : w.heap.size ≤ gg := Nat.le_trans HB0.out.size hgg
  go_loopw [18] (fun i wr => ∃ k : Nat, k ≤ Z.length ∧ i = .int .i64 k ∧ Hid (wr.ownsRow W0.heap.size 5 1 (.slice (some ⟨gg, 0, none⟩) n cc) n ((numsL (putTo B Z wd.data.toList k)).map (Value.int .u8))) ∧ Hid (wr.ownsRow W0.heap.size 3 1 (.slice a2 Z.length cap2) Z.length (Z.map (Value.int .i64))) ∧ Hid (Below W0.heap.size W0 wr)) (fun i _ => Z.length - (intOf i).toNat)
  case atStart => exact ⟨0, Nat.zero_le _, rfl, HO2, HZ2, HB2⟩
  case round =>
    clear HO2 HZ2 HB2
    obtain ⟨k, hk, rfl, HO, HZ, HB⟩ := hrel
    by_cases hlt : k < Z.length
    · have hd : decide ((k : Int) < (Z.length : Int)) = true := decide_eq_true (by omega)
      have hd9 : decide (k < Z.length) = true := decide_eq_true hlt
      obtain ⟨bz, rfl, q0⟩ := cellFB HZ.out rfl k hlt
      obtain ⟨m, hm, hmn⟩ := HQ.out _ (getD_mem2 hlt)
      have hkw : k < wd.size := by have := HWD.out; omega
      have hcm := (HO.out.cellAt m (by omega)).trans (show _ = some (.int .u8 (((putTo B Z wd.data.toList k).getD m 0).toNat : Int)) by
        have hl2 : m < (putTo B Z wd.data.toList k).length := by rw [putTo_length, HBL.out]; exact hmn
        unfold numsL
        rw [List.getElem?_map, List.getElem?_map, List.getD_eq_getElem?_getD, List.getElem?_eq_getElem hl2]
        rfl)
      have hfm := HO.out.frozenAt m
      have HO2 : Hid _ := Lib.hid (HO.out.stored m (.int .u8 (wd[k].toNat : Int))).1
      have HO3 : Hid ((wr.setCell ⟨gg, m, none⟩ (.int .u8 (wd[k].toNat : Int))).ownsRow W0.heap.size 5 1 (.slice (some ⟨gg, 0, none⟩) n cc) n ((numsL (putTo B Z wd.data.toList (k + 1))).map (Value.int .u8))) := Lib.hid (by
        have h9 := HO2.out
        rw [numsL_set] at h9
        show (wr.setCell ⟨gg, m, none⟩ (.int .u8 (wd[k].toNat : Int))).ownsRow _ _ _ _ _ ((numsL ((putTo B Z wd.data.toList k).set (Z.getD k 0).toNat (wd.data.toList.getD k 0))).map (Value.int .u8))
        rw [hm, Int.toNat_natCast, getD_byte wd k hkw]
        exact h9)
      have HZ3 := Lib.hid (HZ.out.kept (grownSet wr ⟨gg, m, none⟩ (.int .u8 (wd[k].toNat : Int))) (own_types HO.out HZ.out (by decide)))
      rw [hm] at q0
      have h255 : wd[k].toNat ≤ 255 := by have := wd[k].toNat_lt; omega
      obtain ⟨old, hold⟩ : ∃ old, old = ((putTo B Z wd.data.toList k).getD m 0).toNat := ⟨_, rfl⟩
      rw [← hold] at hcm
      clear hm HO2 HO HZ hold
      go_wp2
      go_roundw
      case rel => exact ⟨k + 1, by omega, by go_num, HO3, HZ3, Lib.hid (HB.out.setCell (p := ⟨gg, m, none⟩) hgg _)⟩
      case measure => simp [intOf]; omega
    · have hd : decide ((k : Int) < (Z.length : Int)) = false := decide_eq_false (by omega)
      have hd9 : decide (k < Z.length) = false := decide_eq_false hlt
      have HV : Hid (wr.ownsRow w.heap.size 5 1 (.slice (some ⟨gg, 0, none⟩) n cc) n ((numsL (putTo B Z wd.data.toList Z.length)).map (Value.int .u8))) := Lib.hid (by
        have h9 := own_widen HO.out HB0.out.size
        rw [show k = Z.length by omega] at h9
        exact h9)
      go_wp2
      go_ret
      exact ⟨_, rfl, HV.out, HB0.out.trans (HB.out.mono HB0.out.size)⟩
theorem fits_none (x : ByteArray) : fitsP ⟨#[]⟩ x = false := by
  cases h : fitsP ⟨#[]⟩ x with
  | false => rfl
  | true =>
    have h9 := (of_decide_eq_true (fits_parts h).1).1
    exact absurd h9 (by decide)
end Go.Proofs.YthgnhcjbjdhjfaaDoor
