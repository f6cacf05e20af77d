/-
  The program's contracts of EmptyFill, written, PutWord, WordsIn.
-/
import Derived.Test.YtpacopebdoflpaaDoorFillB
import Derived.Test.YtpacopebdoflpaaDoorFillU
import Derived.Test.YtpacopebdoflpaaDoorPatImplB
import Derived.Test.YtpacopebdoflpaaDoorWordImplC
namespace Go.Proofs.YtpacopebdoflpaaDoor
open Go.RowKit

theorem fillRow (l : List Nat) (j : Nat) (h : j < l.length) : l.take (j + 1) = l.take j ++ [l.getD j 0] := by
  rw [List.take_succ_eq_append_getElem h, List.getD_eq_getElem?_getD, List.getElem?_eq_getElem h, Option.getD_some]
theorem natI_getD (l : List Nat) (j : Nat) (h : j < l.length) : (natI l).getD j 0 = ((l.getD j 0 : Nat) : Int) := by
  unfold natI
  rw [List.getD_eq_getElem?_getD, List.getD_eq_getElem?_getD, List.getElem?_map, List.getElem?_eq_getElem h]
  rfl
theorem natM (l : List Nat) (j : Nat) (h : j < l.length) : l.getD j 0 ∈ l := by
  rw [List.getD_eq_getElem?_getD, List.getElem?_eq_getElem h]
  exact List.getElem_mem h
theorem natI_len (l : List Nat) : (natI l).length = l.length := List.length_map ..
theorem grownSet (w : World) (a : Addr) (u : Value) : w.grownBy (w.setCell a u) (some a.block) :=
  ⟨rfl, rfl, rfl, by simp [World.setCell], fun k _ hk => Below.heap_setCell w a u k (fun e => hk (by rw [e]))⟩
/-- The signs of a grid after some white cells have been opened. -/
def opnB (G : List UInt8) (L : List Nat) (i : Nat) : UInt8 := if i ∈ L then 63 else G.getD i 0
theorem opnB_next (G : List UInt8) (L : List Nat) (t k : Nat) : opnB G (L ++ [t]) k = if k = t then 63 else opnB G L k := by
  unfold opnB
  by_cases e : k = t
  · subst e
    rw [if_pos (by simp), if_pos rfl]
  · rw [if_neg e]
    by_cases h : k ∈ L
    · rw [if_pos (List.mem_append_left _ h), if_pos h]
    · rw [if_neg (by simp [h, e]), if_neg h]
theorem opn_all {g : Int × Int × ByteArray} {n : Nat} (h1 : isG g = true → n = g.2.2.size ∧ brd g = (g.1, g.2.1, wT g.2.2 n)) (h0 : isG g = false → n = 0 ∧ brd g = (0, 0, 0)) (h36 : n ≤ 36) :
    emF g = ⟨(mixL n (opnB (sgB n (brd g).2.2) (itemsTo (brd g).2.2 64))).toArray⟩ := by
  cases hg : isG g with
  | false =>
    obtain ⟨e1, e2⟩ := h0 hg
    subst e1
    unfold emF
    rw [hg]
    rfl
  | true =>
    obtain ⟨e1, e2⟩ := h1 hg
    rw [e2]
    simp only
    unfold emF
    rw [if_pos hg]
    congr 2
    unfold mixL
    refine List.ext_getElem (by rw [List.length_map, List.length_map, List.length_range, size_list, e1]) fun i h2 h3 => ?_
    rw [List.length_map, size_list] at h2
    rw [List.getElem_map, List.getElem_map, List.getElem_range]
    have hb := wT_bit g.2.2 n i (by omega)
    have hs : g.2.2.data.toList.getD i 0 = g.2.2.data.toList[i]'(by rw [size_list]; exact h2) := by
      rw [List.getD_eq_getElem?_getD, List.getElem?_eq_getElem (by rw [size_list]; exact h2)]
      rfl
    have hc := (of_decide_eq_true hg).2.2.2 _ (List.getElem_mem (show i < g.2.2.data.toList.length by rw [size_list]; exact h2))
    rw [hs] at hb
    obtain ⟨b, hb9⟩ : ∃ b, b = g.2.2.data.toList[i]'(by rw [size_list]; exact h2) := ⟨_, rfl⟩
    rw [← hb9] at hb hc ⊢
    unfold opnB
    rcases hc with rfl | rfl
    · rw [if_neg]
      · unfold sgB
        rw [List.getD_eq_getElem?_getD, List.getElem?_map, List.getElem?_range (by omega)]
        show emB 35 = if (wT g.2.2 n).testBit i = true then 46 else 35
        rw [hb]
        decide
      · intro h9
        have := (itemsTo_lt h9).2
        rw [hb] at this
        exact absurd this (by decide)
    · rw [if_pos]
      · decide
      · unfold itemsTo
        rw [List.mem_filter, List.mem_range]
        exact ⟨by omega, by rw [hb]; decide⟩
theorem fld_cells (a b : Int) (s : ByteArray) (w : World) : (Instr.field 25 (.agg #[.int .i64 a, .int .i64 b, .string s]) 2).run Tryd.prog w = .ok (.string s) w := by kernel_rfl
set_option maxRecDepth 100000 in
set_option maxHeartbeats 1600000 in
theorem iemf_any (r c : Int) (s : ByteArray) (hs : s.size ≤ 4194304) (w : World) (hd : DB w) :
    Calls Tryd.prog 22 #[.agg #[.int .i64 r, .int .i64 c, .string s]] w fun e w' => e = .returned (.string (emF (r, c, s))) ∧ Below w.heap.size w w' := by
  have HBO := Lib.hid (fun w => ibo_any r c s hs w)
  obtain ⟨n, hn, h36, hS, hy, hno⟩ := brd_fits (r, c, s)
  have HF : Hid (emF (r, c, s) = strOfNums (numsL (mixL n (opnB (sgB n (brd (r, c, s)).2.2) (itemsTo (brd (r, c, s)).2.2 64))))) := Lib.hid (by rw [str_nums]; exact opn_all hy hno h36)
  have HGR := Lib.hid (fun w => igrid_any (brd (r, c, s)).1 (brd (r, c, s)).2.1 n (brd (r, c, s)).2.2 hn h36 hS w)
  have HI := Lib.hid (fun w h => itemsI_any (brd (r, c, s)).2.2 hS w h)
  have HIT : Hid (∀ k ∈ itemsTo (brd (r, c, s)).2.2 64, k < n) := Lib.hid (fun k hk => by
    have h3 := (itemsTo_lt hk).2
    cases hg : isG (r, c, s) with
    | false =>
      rw [(hno hg).2] at h3
      simp at h3
    | true =>
      rw [(hy hg).2] at h3
      unfold wT at h3
      rw [setTo_bit] at h3
      simp only [Bool.and_eq_true, decide_eq_true_eq] at h3
      exact h3.1)
  have hL64 := itemsTo_length (brd (r, c, s)).2.2 64
  have HD := Lib.hid hd
  clear hy hno hn hd hs
  obtain ⟨⟨b0, b1, S⟩, hb⟩ : ∃ b, b = brd (r, c, s) := ⟨_, rfl⟩
  rw [← hb] at HBO HGR HI HIT HF hL64 hS
  simp only [brdV] at HBO HGR HI HIT HF hL64 hS
  clear hb
  rw [HF.out]
  clear HF
  obtain ⟨L, hL⟩ : ∃ L, L = itemsTo S 64 := ⟨_, rfl⟩
  rw [← hL] at HI HIT hL64 ⊢
  obtain ⟨G, hG⟩ : ∃ G, G = sgB n S := ⟨_, rfl⟩
  have HGL : Hid ((⟨G.toArray⟩ : ByteArray).size = n) := Lib.hid (by rw [arr_size, hG, sgB_length])
  rw [← hG] at HGR ⊢
  clear hL hG
  have hfld := fld_cells
  go_enter Tryd.func22, Tryd.ntmps22
  go_wp2_with (first | (go_at_call 31; refine (HBO.out _).mono ?_; rintro e w1 ⟨rfl, bb1⟩; have HB1 := Lib.hid (box1_of bb1); have HA1 := Lib.hid ((Below.refl w1.heap.size w1).alloc (Nat.le_refl _) (.cells #[.int .i64 b0, .int .i64 b1, .int .u64 (S : Int)] 56)); have HX1 := Lib.hid (new_block w1 (.cells #[.int .i64 b0, .int .i64 b1, .int .u64 (S : Int)] 56)); have HB2 := Lib.hid (HB1.out.trans (HA1.out.mono HB1.out.size)); clear bb1) | (go_at_call 42; refine (HGR.out _).mono ?_; rintro e w2 ⟨rfl, b2⟩; obtain ⟨cc, W3, hconv, hc1, hc2, hb3, hsz, hmix⟩ := conv_mix ⟨G.toArray⟩ w2 (by rw [HGL.out]; omega); have HB3 := Lib.hid ((HB2.out.trans (b2.mono HB2.out.size)).trans (hb3.mono (HB2.out.trans (b2.mono HB2.out.size)).size)); have HX3 := Lib.hid ((hb3.block _ (size_of_heap ((b2.block _ (size_of_heap HX1.out)).trans HX1.out))).trans ((b2.block _ (size_of_heap HX1.out)).trans HX1.out)); rw [HGL.out] at hconv hc1 hmix; have HM3 := Lib.hid hmix; have hg1 := (HB2.out.trans (b2.mono HB2.out.size)).size; obtain ⟨x0, x1, x2, fx0, fx1, fx2⟩ := cells3 HX3.out; clear b2 hb3 hmix) | (go_at_call 43; refine (HI.out _ (HD.out.later HB3.out)).mono ?_; rintro e w4 ⟨v4, rfl, o4, b4⟩; obtain ⟨a4, cap4, rfl⟩ := ownV_slice o4; have HB4 := Lib.hid (HB3.out.trans (b4.mono HB3.out.size)); have HM4 := Lib.hid (HM3.out.later b4); have HZ4 := Lib.hid (own_widen o4 (show w2.heap.size + 1 ≤ _ by omega)); clear b4 o4))
  rw [natI_len]
  clear hconv x0 x1 x2 fx0 fx1 fx2 HX1 HX3 HB1 HA1 HB2 HM3 HGR HBO HI
  go_loopw [21] (fun i wr => ∃ j : Nat, j ≤ L.length ∧ i = .int .i64 j ∧ Hid (MixAt wr w2.heap.size n (opnB G (L.take j))) ∧ Hid (wr.ownsRow (w2.heap.size + 1) 3 1 (.slice a4 (natI L).length cap4) (natI L).length ((natI L).map (Value.int .i64))) ∧ Hid (Below w.heap.size w wr)) (fun i _ => L.length - (intOf i).toNat)
  case atStart => exact ⟨0, Nat.zero_le _, rfl, Lib.hid (by have h9 := HM4.out; have e : (fun i => G.getD i 0) = opnB G [] := by funext i; simp [opnB]
                                                            have e2 : (fun i => (⟨G.toArray⟩ : ByteArray).data.toList.getD i 0) = opnB G [] := e
                                                            rw [e2] at h9; exact h9), HZ4, HB4⟩
  case round =>
    clear HM4 HZ4 HB4
    obtain ⟨j, hj, rfl, HM, HZ, HB⟩ := hrel
    by_cases hlt : j < L.length
    · have hd : decide ((j : Int) < (L.length : Int)) = true := decide_eq_true (by omega)
      have hd9 : decide (j < L.length) = true := decide_eq_true hlt
      obtain ⟨bz, rfl, q0⟩ := cellFB HZ.out rfl j (by rw [natI_len]; exact hlt)
      have htn := HIT.out _ (natM L j hlt)
      have HTK := Lib.hid (fillRow L j hlt)
      rw [natI_getD L j hlt] at q0
      obtain ⟨t, ht⟩ : ∃ t, t = L.getD j 0 := ⟨_, rfl⟩
      rw [← ht] at q0 htn HTK
      clear ht
      have hf := HM.out.unfrozen t htn
      have hcc := HM.out.cell t htn
      have HM2 : Hid (MixAt (wr.setCell ⟨w2.heap.size, t, none⟩ (.int .u8 63)) w2.heap.size n (opnB G (L.take (j + 1)))) := Lib.hid (by
        refine HM.out.set t htn 63 fun k hk => ?_
        rw [HTK.out, opnB_next])
      have hne : bz ≠ w2.heap.size := by
        have := (HZ.out.lt bz rfl).1
        omega
      have HZ2 := Lib.hid (HZ.out.kept (grownSet wr ⟨w2.heap.size, t, none⟩ (.int .u8 63)) (.inr (by show some bz ≠ some w2.heap.size; intro e; cases e; exact hne rfl)))
      go_wp2
      go_roundw
      case rel => exact ⟨j + 1, by omega, by go_num, HM2, HZ2, Lib.hid (HB.out.setCell (p := ⟨w2.heap.size, t, none⟩) hg1 _)⟩
      case measure => simp [intOf]; omega
    · have hd : decide ((j : Int) < (L.length : Int)) = false := decide_eq_false (by omega)
      have hd9 : decide (j < L.length) = false := decide_eq_false hlt
      have hconv := conv_own (mix_reads HM.out hc1 hc2)
      have HV : Hid (strOfNums (numsL (mixL n (opnB G (L.take j)))) = strOfNums (numsL (mixL n (opnB G L)))) := Lib.hid (by rw [List.take_of_length_le (by omega)])
      rw [HV.out] at hconv
      go_wp2
      go_ret
      exact ⟨rfl, HB.out⟩
end Go.Proofs.YtpacopebdoflpaaDoor
