/-
  The program's contracts of chapter 10, second part: the parts of a board, PartsOf, IsConnected.
-/
import Derived.Test.YtgpplfhbgkcjhaaDoorFormB
import Derived.Test.YtgpplfhbgkcjhaaDoorItems
import Derived.Test.YtgpplfhbgkcjhaaDoorCrossPure
namespace Go.Proofs.YtgpplfhbgkcjhaaDoor
open Go.RowKit

theorem brd_bitsW {g : Int × Int × ByteArray} (hg : isG g = true) (k : Nat) : (brd g).2.2.testBit k = (decide (k < g.2.2.size) && whF g.2.2 k) := by
  unfold brd
  rw [if_pos hg]
  show (wT g.2.2 g.2.2.size).testBit k = _
  unfold wT
  rw [setTo_bit]
  rfl
theorem brd_W {g : Int × Int × ByteArray} (hg : isG g = true) : BrdW g.1.toNat g.2.1.toNat (whF g.2.2) (brd g).2.2 ∧ (brd g).1 = (g.1.toNat : Int) ∧ (brd g).2.1 = (g.2.1.toNat : Int) ∧ g.1.toNat * g.2.1.toNat = g.2.2.size := by
  have hb := brd_bitsW hg
  have h36 := isG_size hg
  have hlt : (brd g).2.2 < 68719476736 := by
    unfold brd
    rw [if_pos hg]
    exact wT_lt _ _ h36
  obtain ⟨r, c, s⟩ := g
  obtain ⟨R, C, rfl, rfl, h1, h2, h3, h4, h5, h6⟩ := isG_nat hg
  have hbr : brd ((R : Int), (C : Int), s) = ((R : Int), (C : Int), wT s s.size) := by unfold brd; rw [if_pos hg]
  refine ⟨⟨by simpa using h1, by simpa using h2, by simpa using h3, by simpa using h4, hlt, fun k => ?_⟩, by rw [hbr]; simp, by rw [hbr]; simp, by simpa using h5.symm⟩
  rw [hb k]
  simp only [Int.toNat_natCast, h5]
theorem brd_none {g : Int × Int × ByteArray} (hg : isG g = false) : brd g = (0, 0, 0) := by unfold brd; rw [hg]; rfl
theorem items_brd (g : Int × Int × ByteArray) : (partsQ (whF g.2.2) g.2.1.toNat g.2.2.size (itemsTo (brd g).2.2 64)).2 = (partsG g).toNat ∧ 0 ≤ partsG g := by
  unfold partsG
  cases hg : isG g
  · rw [brd_none hg, if_neg (by decide)]
    exact ⟨rfl, by decide⟩
  · rw [if_pos rfl]
    have h36 := isG_size hg
    have h1 : itemsTo (brd g).2.2 64 = (List.range g.2.2.size).filter (whF g.2.2) := by
      unfold brd
      rw [if_pos hg]
      show itemsTo (wT g.2.2 g.2.2.size) 64 = _
      unfold wT
      rw [itemsTo_set _ _ _ (by omega)]
      rfl
    rw [h1]
    exact ⟨by unfold partsTo; simp, by omega⟩
theorem natI_get {l : List Nat} {k : Nat} (h : k < l.length) : (natI l).getD k 0 = ((l.getD k 0 : Nat) : Int) := by
  unfold natI
  simp [List.getD, h]
theorem take_getN {l : List Nat} {k : Nat} (h : k < l.length) : l.take (k + 1) = l.take k ++ [l.getD k 0] := by
  rw [List.take_succ_eq_append_getElem h, List.getD_eq_getElem?_getD, List.getElem?_eq_getElem h]
  rfl
theorem nat_cell {W : World} {base m cap : Nat} {e : TypeId} {a0 : Option Addr} {l : List Nat} (h : W.ownsRow base e 1 (.slice a0 m cap) m ((natI l).map (Value.int .i64))) (hn : m = l.length) (j : Nat) (hj : j < l.length) :
    ∃ b, a0 = some ⟨b, 0, none⟩ ∧ W.cell? ⟨b, j, none⟩ = some (.int .i64 ((l.getD j 0 : Nat) : Int)) := by
  subst hn
  rcases h.2 with ⟨e9, hl⟩ | ⟨g, cap', cur, e9, -⟩
  · exfalso
    injection e9 with _ e8 _
    omega
  · cases e9
    refine ⟨g, rfl, ?_⟩
    rw [h.cellAt j (by omega), ← natI_get hj]
    simp [List.getD, hj, natI]
set_option maxRecDepth 100000 in
set_option maxHeartbeats 1600000 in
theorem cntb_any (g : Int × Int × ByteArray) (w : World) (hD : DB w) :
    Calls Tryd.prog 48 #[brdV (brd g)] w fun e w' => e = .returned (.int .i64 (partsG g)) ∧ Below w.heap.size w w' := by
  have HD := Lib.hid hD
  clear hD
  have HIB := Lib.hid (items_brd g)
  have HS : Hid ((brd g).2.2 < 68719476736) := Lib.hid (by
    cases hg : isG g
    · rw [brd_none hg]; decide
    · exact (brd_W hg).1.2.2.2.2.1)
  have HIT := Lib.hid (fun w hd => itemsI_any (brd g).2.2 (by have := HS.out; omega) w hd)
  have HPT : Hid (∀ i ∈ itemsTo (brd g).2.2 64, ∀ w : World, Calls Tryd.prog 78 #[.agg #[.int .i64 (brd g).1, .int .i64 (brd g).2.1, .int .u64 ((brd g).2.2 : Int)], .int .i64 (i : Int)] w fun e w' => ∃ P : Nat, e = .returned (.int .u64 (P : Int)) ∧ (∀ k, P.testBit k = reachB (whF g.2.2) g.2.1.toNat g.2.2.size i k) ∧ P < 68719476736 ∧ Below w.heap.size w w') := Lib.hid (fun i hi w => by
    cases hg : isG g
    · rw [brd_none hg] at hi
      have : i ∈ ([] : List Nat) := hi
      cases this
    · obtain ⟨h1, h2, h3, h4⟩ := brd_W hg
      have h5 := (itemsTo_lt hi).2
      rw [brd_bitsW hg] at h5
      simp only [Bool.and_eq_true, decide_eq_true_eq] at h5
      rw [h2, h3, ← h4]
      exact partb_any _ _ _ i _ h1 (by rw [h4]; exact h5.1) w)
  have HI64 : Hid (∀ i ∈ itemsTo (brd g).2.2 64, i < 64) := Lib.hid (fun i hi => (itemsTo_lt hi).1)
  have HLEN := Lib.hid (itemsTo_length (brd g).2.2 64)
  have HPE : Hid (((partsQ (whF g.2.2) g.2.1.toNat g.2.2.size (itemsTo (brd g).2.2 64)).2 : Int) = partsG g) := Lib.hid (by have := HIB.out; omega)
  rw [← HPE.out]
  clear HPE HIB
  obtain ⟨Q, hQ⟩ : ∃ Q, Q = partsQ (whF g.2.2) g.2.1.toNat g.2.2.size := ⟨_, rfl⟩
  have HQS := Lib.hid (partsQ_snoc (whF g.2.2) g.2.1.toNat g.2.2.size)
  have HQ0 : Hid (Q [] = (fun _ => false, 0)) := Lib.hid (by rw [hQ]; rfl)
  have HQL : Hid (∀ L, (Q L).2 ≤ L.length) := Lib.hid (fun L => by rw [hQ]; exact partsQ_le _ _ _ L)
  unfold stepQ at HQS
  rw [← hQ] at HQS ⊢
  clear hQ
  obtain ⟨RB, hRB⟩ : ∃ RB, RB = reachB (whF g.2.2) g.2.1.toNat g.2.2.size := ⟨_, rfl⟩
  rw [← hRB] at HPT HQS
  clear hRB
  obtain ⟨L, hL⟩ : ∃ L, L = itemsTo (brd g).2.2 64 := ⟨_, rfl⟩
  rw [← hL] at HIT HPT HI64 HLEN ⊢
  clear hL
  have hl64 := HLEN.out
  have hln := natI_length L
  obtain ⟨⟨b0, b1, b2⟩, hb⟩ : ∃ b, b = brd g := ⟨_, rfl⟩
  rw [← hb] at HIT HPT HS ⊢
  clear hb
  simp only [brdV] at HIT HPT HS ⊢
  go_enter Tryd.func48, Tryd.ntmps48
  have HA0 : Hid (Below w.heap.size w (w.alloc (.cells #[.int .i64 b0, .int .i64 b1, .int .u64 (b2 : Int)] 50))) := Lib.hid ((Below.refl _ _).alloc (Nat.le_refl _) _)
  have HX0 : Hid ((w.alloc (.cells #[.int .i64 b0, .int .i64 b1, .int .u64 (b2 : Int)] 50)).heap[w.heap.size]? = some (.cells #[.int .i64 b0, .int .i64 b1, .int .u64 (b2 : Int)] 50)) := Lib.hid (new_block w _)
  go_wp2_with (go_at_call 77; refine (HIT.out _ (HD.out.later HA0.out)).mono ?_; rintro e w1 ⟨v1, rfl, o1, b1'⟩; rw [hln] at o1; obtain ⟨a0, cap, rfl⟩ := ownV_slice o1; have HX1 := Lib.hid ((b1'.block w.heap.size (Array.getElem?_eq_some_iff.1 HX0.out).1).trans HX0.out); have HB1 := Lib.hid (box1_of b1'); have HL1 := Lib.hid (own_widen o1 (show w.heap.size ≤ _ by simp)); clear o1 b1')
  go_loopw [3, 4, 11] (fun m n i wr => ∃ k M : Nat, k ≤ L.length ∧ i = .int .i64 (k : Int) ∧ m = .int .u64 (M : Int) ∧ n = .int .i64 (((Q (L.take k)).2 : Nat) : Int) ∧ M < 68719476736 ∧ Hid (∀ x, M.testBit x = (Q (L.take k)).1 x) ∧ Hid (wr.ownsRow w.heap.size 3 1 (.slice a0 L.length cap) L.length ((natI L).map (Value.int .i64))) ∧ Hid (wr.heap[w.heap.size]? = some (.cells #[.int .i64 b0, .int .i64 b1, .int .u64 (b2 : Int)] 50)) ∧ Hid (Below w.heap.size w wr)) (fun _ _ i _ => L.length - (intOf i).toNat)
  case atStart => exact ⟨0, 0, Nat.zero_le _, rfl, rfl, by rw [List.take_zero, HQ0.out]; rfl, by omega, Lib.hid (fun x => by rw [List.take_zero, HQ0.out]; simp), HL1, HX1, HB1⟩
  case round =>
    clear HX1 HB1 HL1 HX0 HA0 HIT
    obtain ⟨k, M, hk, rfl, rfl, rfl, hM, HM, HL, HX, HB⟩ := hrel
    by_cases hlt : k < L.length
    · have hd : decide ((k : Int) < (L.length : Int)) = true := decide_eq_true (by omega)
      have hd9 : decide (k < L.length) = true := decide_eq_true hlt
      obtain ⟨b, rfl, q0⟩ := nat_cell HL.out rfl k hlt
      have HTK := Lib.hid (take_getN hlt)
      have HMEM : Hid (L.getD k 0 ∈ L) := Lib.hid (by simp [List.getD, hlt])
      obtain ⟨c, hc⟩ : ∃ c, c = L.getD k 0 := ⟨_, rfl⟩
      rw [← hc] at q0 HTK HMEM
      clear hc
      have HC64 := Lib.hid (HI64.out c HMEM.out)
      have HP1 := Lib.hid (HPT.out c HMEM.out)
      have HQN := Lib.hid (HQS.out (L.take k) c)
      rw [← HTK.out] at HQN
      have HHS := Lib.hid (fun w => has_any M c (by omega) HC64.out w)
      rw [HM.out c] at HHS
      have HQ64 : Hid ((Q (L.take k)).2 ≤ 64) := Lib.hid (Nat.le_trans (HQL.out _) (Nat.le_trans (List.length_take_le _ _) (by omega)))
      obtain ⟨⟨m1, n1⟩, hmn⟩ : ∃ y, y = Q (L.take k) := ⟨_, rfl⟩
      rw [← hmn] at HM HQN HHS HQ64 ⊢
      clear hmn
      simp only at HM HQN HHS HQ64 ⊢
      have hn64 := HQ64.out
      rcases hbb : m1 c with _ | _
      · have HQ1 : Hid (Q (L.take (k + 1)) = (fun j => m1 j || RB c j, n1 + 1)) := Lib.hid (by rw [HQN.out, hbb]; rfl)
        rw [hbb] at HHS
        clear HQN hbb
        go_wp2_with (first | (go_at_call 64; refine (HHS.out _).mono ?_; rintro e w2 ⟨rfl, rfl⟩; obtain ⟨x0, x1, x2⟩ := (⟨Joins.cell_of_block HX.out 0, Joins.cell_of_block HX.out 1, Joins.cell_of_block HX.out 2⟩ : wr.cell? ⟨w.heap.size, 0, none⟩ = some (.int .i64 b0) ∧ wr.cell? ⟨w.heap.size, 1, none⟩ = some (.int .i64 b1) ∧ wr.cell? ⟨w.heap.size, 2, none⟩ = some (.int .u64 (b2 : Int)))) | (go_at_call 78; refine (HP1.out _).mono ?_; rintro e w3 ⟨P, rfl, hPb, hPl, b3⟩; have HPB := Lib.hid hPb; have HOR : Hid (bits .or .u64 (M : Int) (P : Int) = ((M ||| P : Nat) : Int)) := Lib.hid (bits_or_u64_nat _ _ (by omega) (by omega)); have HL3 := Lib.hid (own_later HL.out b3); have HX3 := Lib.hid ((b3.block w.heap.size (Array.getElem?_eq_some_iff.1 HX.out).1).trans HX.out); have HB3 := Lib.hid (HB.out.trans (b3.mono HB.out.size)); clear hPb b3))
        go_roundw
        case rel => exact ⟨k + 1, M ||| P, by omega, by go_num, by rw [HOR.out], by rw [HQ1.out]; rfl, Nat.or_lt_two_pow (n := 36) hM hPl, Lib.hid (fun x => by rw [HQ1.out, Nat.testBit_or, HM.out, HPB.out]), HL3, HX3, HB3⟩
        case measure => simp [intOf]; omega
      · have HQ1 : Hid (Q (L.take (k + 1)) = (m1, n1)) := Lib.hid (by rw [HQN.out, hbb]; rfl)
        rw [hbb] at HHS
        clear HQN hbb
        go_wp2_with (go_at_call 64; refine (HHS.out _).mono ?_; rintro e w2 ⟨rfl, rfl⟩)
        go_roundw
        case rel => exact ⟨k + 1, M, by omega, by go_num, rfl, by rw [HQ1.out], hM, Lib.hid (fun x => by rw [HQ1.out]; exact HM.out x), HL, HX, HB⟩
        case measure => simp [intOf]; omega
    · have hd : decide ((k : Int) < (L.length : Int)) = false := decide_eq_false (by omega)
      have hd9 : decide (k < L.length) = false := decide_eq_false hlt
      have HKE : Hid (L.take k = L) := Lib.hid (by rw [show k = L.length by omega, List.take_length])
      go_wp2
      go_ret
      exact ⟨by rw [HKE.out]; rfl, HB.out⟩
set_option maxHeartbeats 800000 in
theorem ipt_any (r c : Int) (s : ByteArray) (hs : s.size ≤ 4194304) (w : World) (hD : DB w) :
    Calls Tryd.prog 29 #[.agg #[.int .i64 r, .int .i64 c, .string s]] w fun e w' => e = .returned (.int .i64 (partsG (r, c, s))) ∧ Below w.heap.size w w' := by
  have HD := Lib.hid hD
  clear hD
  have HBO := Lib.hid (fun w => ibo_any r c s hs w)
  have HCP := Lib.hid (fun w hd => cntb_any (r, c, s) w hd)
  obtain ⟨P, hP⟩ : ∃ P, P = partsG (r, c, s) := ⟨_, rfl⟩
  rw [← hP] at HCP ⊢
  clear hP
  obtain ⟨⟨b0, b1, b2⟩, hb⟩ : ∃ b, b = brd (r, c, s) := ⟨_, rfl⟩
  rw [← hb] at HBO HCP
  clear hb
  simp only [brdV] at HBO HCP
  go_enter Tryd.func29, Tryd.ntmps29
  go_wp2_with (first | (go_at_call 31; refine (HBO.out _).mono ?_; rintro e w1 ⟨rfl, bb1⟩; have HB1 := Lib.hid (box1_of bb1); have HB2 := Lib.hid (HB1.out.alloc HB1.out.size (.cells #[.int .i64 b0, .int .i64 b1, .int .u64 (b2 : Int)] 50)); clear bb1) | (go_at_call 48; refine (HCP.out _ (HD.out.later HB2.out)).mono ?_; rintro e w4 ⟨rfl, b4⟩; have HB4 := Lib.hid (HB2.out.trans (b4.mono HB2.out.size)); clear b4))
  go_ret
  exact ⟨rfl, HB4.out⟩
set_option maxHeartbeats 800000 in
theorem icn_any (r c : Int) (s : ByteArray) (hs : s.size ≤ 4194304) (w : World) (hD : DB w) :
    Calls Tryd.prog 23 #[.agg #[.int .i64 r, .int .i64 c, .string s]] w fun e w' => e = .returned (.bool (decide (partsG (r, c, s) = 1))) ∧ Below w.heap.size w w' := by
  have HD := Lib.hid hD
  clear hD
  have HA0 : Hid (Below w.heap.size w (w.alloc (.cells #[.int .i64 r, .int .i64 c, .string s] 25))) := Lib.hid ((Below.refl _ _).alloc (Nat.le_refl _) _)
  have HPA := Lib.hid (fun w hd => ipt_any r c s hs w hd)
  have HE : Hid ((partsG (r, c, s) == 1) = decide (partsG (r, c, s) = 1)) := Lib.hid (by rw [Bool.eq_iff_iff]; simp)
  rw [← HE.out]
  clear HE
  obtain ⟨P, hP⟩ : ∃ P, P = partsG (r, c, s) := ⟨_, rfl⟩
  rw [← hP] at HPA ⊢
  clear hP
  go_enter Tryd.func23, Tryd.ntmps23
  go_wp2_with (go_at_call 29; refine (HPA.out _ (HD.out.later HA0.out)).mono ?_; rintro e w4 ⟨rfl, b4⟩; have HB4 := Lib.hid (box1_of b4); clear b4)
  go_ret
  exact ⟨rfl, HB4.out⟩
end Go.Proofs.YtgpplfhbgkcjhaaDoor
