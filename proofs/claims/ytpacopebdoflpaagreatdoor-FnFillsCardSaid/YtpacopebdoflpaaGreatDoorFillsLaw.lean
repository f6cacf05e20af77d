/-
  The program's contract of IsFull, the law's helper agrees, and the walk of the law FnFills.
-/
import Derived.Test.YtpacopebdoflpaaGreatDoorFillE
import Derived.Test.YtpacopebdoflpaaGreatDoorPopN
import Derived.Test.YtpacopebdoflpaaGreatDoorHas
import Derived.Test.YtpacopebdoflpaaGreatDoorDrawFillB
import Derived.Test.YtpacopebdoflpaaGreatDoorSame
import Derived.Test.YtpacopebdoflpaaGreatDoorQuietBelow
import Derived.Deep.RegionWith
import Derived.Deep.RegionHeld3
import Derived.Deep.DeepCutAuto
import Derived.BigQuiet
import Derived.Deep.RegionLaw
namespace Go.Proofs.YtpacopebdoflpaaGreatDoor
open Go.RowKit

theorem pop_opn (f : ByteArray) (h : f.size ≤ 36) : popN (opK f f.size) = 0 ↔ opn f = false := by
  rw [← cntN_pop]
  unfold cntN
  rw [List.length_eq_zero_iff, List.filter_eq_nil_iff]
  constructor
  · intro h2
    refine decide_eq_false fun h3 => ?_
    obtain ⟨i, hi, e⟩ := List.getElem_of_mem h3
    rw [size_list] at hi
    have h4 := h2 i (List.mem_range.2 (by omega))
    apply h4
    unfold opK
    rw [setTo_bit, decide_eq_true hi, Bool.true_and, List.getD_eq_getElem?_getD, List.getElem?_eq_getElem (by rw [size_list]; exact hi), Option.getD_some, e]
    rfl
  · intro h2 i hi h4
    unfold opK at h4
    rw [setTo_bit, Bool.and_eq_true] at h4
    have h5 := of_decide_eq_true h4.1
    have h6 : f.data.toList.getD i 0 = 63 := beq_iff_eq.1 h4.2
    rw [getD_byte f i h5] at h6
    exact absurd (h6 ▸ byte_mem f i h5) (of_decide_eq_false h2)
set_option maxHeartbeats 1600000 in
theorem ifull_any (r c : Int) (s f : ByteArray) (hs : s.size ≤ 4194304) (hf : f.size ≤ 1048576) (w : World) :
    Calls Tryz.prog 16 #[.agg #[.int .i64 r, .int .i64 c, .string s], .string f] w fun e w' => e = .returned (.bool (fullF (r, c, s) f)) ∧ Below w.heap.size w w' := by
  have HFI := Lib.hid (fun w => ifill_any r c s f hs hf w)
  unfold FillE at HFI
  cases hp : isF (r, c, s) f with
  | false =>
    rw [hp] at HFI
    have HF : Hid (fullF (r, c, s) f = false) := Lib.hid (by unfold fullF; rw [hp]; rfl)
    clear hp
    go_enter Tryz.func16, Tryz.ntmps16
    go_wp2_with (go_at_call 26; refine (HFI.out _).mono ?_; rintro e w1 ⟨he, b1⟩; have HB1 := Lib.hid (box1_of b1); clear b1; rcases he with ⟨h, -⟩ | ⟨-, rfl⟩; cases h)
    go_ret
    exact ⟨by rw [HF.out]; rfl, HB1.out.alloc HB1.out.size _⟩
  | true =>
    rw [hp] at HFI
    have h36 := (isF_parts hp).2.2.1
    have hpo := pop_opn f h36
    have hlt := opK_lt f f.size h36
    have HFU : Hid (fullF (r, c, s) f = !opn f) := Lib.hid (by unfold fullF; rw [hp]; rfl)
    obtain ⟨OP, hOP⟩ : ∃ OP, OP = opK f f.size := ⟨_, rfl⟩
    rw [← hOP] at HFI hpo hlt
    have HPC := Lib.hid (fun w => pcount_any OP hlt w)
    obtain ⟨N, hN⟩ : ∃ N, N = popN OP := ⟨_, rfl⟩
    rw [← hN] at HPC hpo
    obtain ⟨S, hS⟩ : ∃ S, S = wT s s.size := ⟨_, rfl⟩
    rw [← hS] at HFI
    clear hp hOP hN hS
    by_cases h0 : N = 0
    · have HF : Hid (fullF (r, c, s) f = true) := Lib.hid (by rw [HFU.out, hpo.1 h0]; rfl)
      have hq : ((N : Int) == 0) = true := by simp [h0]
      clear hpo h0
      go_enter Tryz.func16, Tryz.ntmps16
      go_wp2_with (first | (go_at_call 26; refine (HFI.out _).mono ?_; rintro e w1 ⟨he, b1⟩; have HB1 := Lib.hid (box1_of b1); clear b1; rcases he with ⟨-, blk, cp, rfl, -⟩ | ⟨h, -⟩; rotate_left; cases h) | (go_at_call 39; refine (HPC.out _).mono ?_; rintro e w2 ⟨rfl, rfl⟩))
      go_ret
      exact ⟨by rw [HF.out]; rfl, HB1.out.alloc HB1.out.size _⟩
    · have HF : Hid (fullF (r, c, s) f = false) := Lib.hid (by
        rw [HFU.out]
        cases ho : opn f with
        | true => rfl
        | false => exact absurd (hpo.2 ho) h0)
      have hq : ((N : Int) == 0) = false := by simp; omega
      clear hpo h0
      go_enter Tryz.func16, Tryz.ntmps16
      go_wp2_with (first | (go_at_call 26; refine (HFI.out _).mono ?_; rintro e w1 ⟨he, b1⟩; have HB1 := Lib.hid (box1_of b1); clear b1; rcases he with ⟨-, blk, cp, rfl, -⟩ | ⟨h, -⟩; rotate_left; cases h) | (go_at_call 39; refine (HPC.out _).mono ?_; rintro e w2 ⟨rfl, rfl⟩))
      go_ret
      exact ⟨by rw [HF.out]; rfl, HB1.out.alloc HB1.out.size _⟩
set_option maxHeartbeats 1600000 in
theorem lagr_any (x f : ByteArray) (hs : x.size = f.size) (hf : f.size ≤ 1048576) (h : ∀ j, j < f.size → f.data.toList.getD j 0 ≠ 63 → x.data.toList.getD j 0 = f.data.toList.getD j 0) (w : World) :
    Calls Tryz.prog 9 #[.string x, .string f] w fun e w' => e = .returned (.bool true) ∧ Below w.heap.size w w' := by
  have HS := Lib.hid hs
  have HH := Lib.hid h
  clear hs h
  go_enter Tryz.func9, Tryz.ntmps9
  go_wp2
  go_loopw [5] (fun i wr => ∃ k : Nat, k ≤ f.size ∧ i = .int .i64 k ∧ Below w.heap.size w wr) (fun i _ => f.size - (intOf i).toNat)
  case atStart => exact ⟨0, Nat.zero_le _, rfl, Below.refl _ _⟩
  case round =>
    obtain ⟨k, hk, rfl, hbl⟩ := hrel
    by_cases hlt : k < f.size
    · have hd : decide ((k : Int) < (f.size : Int)) = true := decide_eq_true (by omega)
      have hd9 : decide (k < f.size) = true := decide_eq_true hlt
      have hlt2 : k < x.size := by have := HS.out; omega
      by_cases h63 : f[k] = 63
      · have hq : ((f[k].toNat : Int) != 63) = false := by simp [h63]
        clear h63
        go_wp2
        go_quiet (fail)
        all_goals go_wp2
        go_roundw
        case rel => exact ⟨k + 1, by omega, by go_num, below_drewN hbl _⟩
        case measure => simp [intOf]; omega
      · have hxk : x[k] = f[k] := by
          have h9 := HH.out k hlt (by rw [getD_byte f k hlt]; exact h63)
          rw [getD_byte f k hlt, getD_byte x k hlt2] at h9
          exact h9
        have hq : ((f[k].toNat : Int) != 63) = true := by simp; intro h; exact h63 (UInt8.toNat_inj.1 (by show f[k].toNat = 63; omega))
        have hge : decide ((x.size : Int) ≤ (k : Int)) = false := decide_eq_false (by omega)
        have hge9 : decide (x.size ≤ k) = false := decide_eq_false (by omega)
        have hq2 : ((x[k].toNat : Int) != (f[k].toNat : Int)) = false := by simp [hxk]
        clear h63 hxk
        go_wp2
        go_quiet (fail)
        all_goals go_wp2
        go_roundw
        case rel => exact ⟨k + 1, by omega, by go_num, below_drewN hbl _⟩
        case measure => simp [intOf]; omega
    · have hd : decide ((k : Int) < (f.size : Int)) = false := decide_eq_false (by omega)
      have hd9 : decide (k < f.size) = false := decide_eq_false hlt
      have he : ((x.size : Int) == (f.size : Int)) = true := by simp [HS.out]
      go_wp2
      go_ret
      exact ⟨rfl, hbl⟩

theorem follows_mix11 : Tryz.prog.follows .mixedOrders = true := by kernel_rfl
theorem str_self (x : ByteArray) : (x.toList == x.toList) = true := by simp
theorem str_self_ne (x : ByteArray) : (x.toList != x.toList) = false := by simp
namespace fnFills
set_option maxRecDepth 100000 in
set_option maxHeartbeats 6400000 in
theorem fills_walk (n cap : Nat) (a0 : Option Addr) (w : World) (hc : Code w.heap.size w a0 n) (hn : n ≤ 1048576) (hml : ML w) (hdb : DB w) :
    Calls Tryz.prog 3 #[.slice a0 n cap] w fun e w' => e = .returned (.bool true) ∧ Below w.heap.size w w' := by
  go_enter Tryz.func3, Tryz.ntmps3
  go_wp2_with (first | (go_at_call 4; refine (big_no n cap a0 hn _).mono ?_; rintro e w0 ⟨rfl, rfl⟩) | (go_at_call 5; refine (dpw_any n cap a0 _ hc hn).mono ?_; rintro e w1 ⟨r, c, s, f, k, x, qr, qc, q40, qf, qk, qx, rfl, b1⟩; have HB1 := Lib.hid b1; clear b1))
  have HC := Lib.hid hc
  have HMl := Lib.hid hml
  have HDb := Lib.hid hdb
  obtain ⟨P0, hP0⟩ : ∃ P0, P0 = w1.heap.size := ⟨_, rfl⟩
  have HX2 := Lib.hid (new_block w1 (.cells #[.int .i64 r, .int .i64 c, .string s] 25))
  have HB2 := Lib.hid (HB1.out.alloc HB1.out.size (.cells #[.int .i64 r, .int .i64 c, .string s] 25))
  obtain ⟨W2, hW2⟩ : ∃ W2, W2 = w1.alloc (.cells #[.int .i64 r, .int .i64 c, .string s] 25) := ⟨_, rfl⟩
  rw [← hP0] at HX2 ⊢
  rw [← hW2] at HX2 HB2 ⊢
  clear hP0 hW2 hc hml hdb HB1
  have HGK : Hid (∀ W, Below W2.heap.size W2 W → W.cell? ⟨P0, 0, none⟩ = some (.int .i64 r) ∧ W.cell? ⟨P0, 1, none⟩ = some (.int .i64 c) ∧ W.cell? ⟨P0, 2, none⟩ = some (.string s)) := Lib.hid (fun W h => by
    obtain ⟨x0, x1, x2, -⟩ := cells3 ((h.block _ (size_of_heap HX2.out)).trans HX2.out)
    exact ⟨x0, x1, x2⟩)
  have HDg := Lib.hid (fun W (h : Below W2.heap.size W2 W) => def_any n cap a0 W (code_later HC.out (HB2.out.trans (h.mono HB2.out.size))) hn)
  have HDh := Lib.hid (fun W (h : Below W2.heap.size W2 W) => diff_any n cap a0 W (code_later HC.out (HB2.out.trans (h.mono HB2.out.size))) hn)
  have HDB := Lib.hid (fun W (h : Below W2.heap.size W2 W) => HDb.out.later (HB2.out.trans (h.mono HB2.out.size)))
  have HML := Lib.hid (fun W (h : Below W2.heap.size W2 W) => HMl.out.later (HB2.out.trans (h.mono HB2.out.size)))
  have HEND := Lib.hid (fun W (h : Below W2.heap.size W2 W) => HB2.out.trans (h.mono HB2.out.size))
  have hbn : Below W2.heap.size W2 W2 := Below.refl _ _
  clear HC HMl HDb HX2
  by_cases hq : fitsP (patF (r, c, s) f k) x = true
  · have hk9 := put_keeps hq
    have HPW1 := Lib.hid (fun w h => by
      have h9 := ipw_any r c s f k x (by omega) (by omega) (by omega) w h
      rw [putF_yes hq] at h9
      exact h9)
    obtain ⟨X, hX⟩ : ∃ X, X = putS (r, c, s) f k x := ⟨_, rfl⟩
    have hXs : X.size ≤ 40 := by rw [hX, hk9.1]; omega
    have HPW2 := Lib.hid (fun w h => by
      have h9 := ipw_any r c s X k x (by omega) (by omega) (by omega) w h
      rw [hX, put_again hq, ← hX] at h9
      exact h9)
    have HIF := Lib.hid (fun w => by
      have h9 := iisf_any r c s X (by omega) (by omega) w
      rw [hX, put_fill hq, ← hX] at h9
      exact h9)
    have HSP := Lib.hid (fun w => by
      have h9 := ispat_any r c s X k (by omega) (by omega) w
      rw [hX, put_pat hq, ← hX] at h9
      exact h9)
    have HAG := Lib.hid (fun w => lagr_any X f (by rw [hX]; exact hk9.1) (by omega) (by rw [hX]; exact hk9.2) w)
    have HWI := Lib.hid (fun w h => iwin_any r c s X (by omega) (by omega) w h)
    have HHA : Hid (x ∈ wordsF (r, c, s) X) := Lib.hid (by rw [hX]; exact put_has hq)
    have HWL := Lib.hid (wordsF_length (r, c, s) X)
    obtain ⟨L, hL⟩ : ∃ L, L = wordsF (r, c, s) X := ⟨_, rfl⟩
    rw [← hL] at HWI HHA HWL
    have HHW := Lib.hid (fun v w h => by
      have h9 := ihas_any L x (by have := HWL.out; omega) v w h
      rw [hasW_yes HHA.out] at h9
      exact h9)
    rw [← hX] at HPW1
    clear hX hL hk9 hq
    have hs1 := str_self x
    have hs2 := str_self_ne x
    have hs3 := str_self X
    have hs4 := str_self_ne X
    have F1 := Lib.hid trivial
    obtain ⟨x0, x1, x2⟩ := HGK.out _ hbn
    refine (HPW1.out _ (HML.out _ hbn)).mono ?_
    rintro e w3 ⟨rfl, b3⟩
    have hbm := btrans hbn b3
    clear hbn b3 x0 x1 x2
    have hbn := hbm
    clear hbm
    obtain ⟨x0, x1, x2⟩ := HGK.out _ hbn
    go_wp2_with (first | (go_at_call 7; go_loud (refine (HIF.out _).mono ?_; rintro e w4 ⟨rfl, b4⟩; have hbm := btrans hbn b4; clear hbn b4 x0 x1 x2; have hbn := hbm; clear hbm; obtain ⟨x0, x1, x2⟩ := HGK.out _ hbn)) | (go_at_call 8; go_loud (refine (HSP.out _).mono ?_; rintro e w5 ⟨rfl, b5⟩; have hbm := btrans hbn b5; clear hbn b5 x0 x1 x2; have hbn := hbm; clear hbm; obtain ⟨x0, x1, x2⟩ := HGK.out _ hbn)) | (go_at_call 9; go_loud (refine (HAG.out _).mono ?_; rintro e w6 ⟨rfl, b6⟩; have hbm := btrans hbn b6; clear hbn b6 x0 x1 x2; have hbn := hbm; clear hbm; obtain ⟨x0, x1, x2⟩ := HGK.out _ hbn)) | (go_at_call 11; go_loud (refine (HWI.out _ (HML.out _ hbn)).mono ?_; rintro e w7 ⟨v7, rfl, o7, b7⟩; obtain ⟨a7, cap7, rfl⟩ := ownV_slice o7; have HRD := Lib.hid (readsS_own o7 rfl (by have := HWL.out; omega)); have hbm := btrans hbn b7; clear hbn b7 o7 x0 x1 x2; have hbn := hbm; clear hbm; obtain ⟨x0, x1, x2⟩ := HGK.out _ hbn)) | (go_at_call 10; go_loud (refine (HHW.out _ _ HRD.out).mono ?_; rintro e w8 ⟨rfl, rfl⟩)) | (go_at_call 6; go_loud (refine (HPW2.out _ (HML.out _ hbn)).mono ?_; rintro e w9 ⟨rfl, b9⟩; have hbm := btrans hbn b9; clear hbn b9 x0 x1 x2; have hbn := hbm; clear hbm)))
    refine (HDg.out _ hbn).mono ?_
    rintro e wa ⟨r2, c2, s2, qr2, qc2, q402, rfl, ba⟩
    have hba := btrans hbn ba
    have HAa := Lib.hid ((Below.refl wa.heap.size wa).alloc (Nat.le_refl _) (.cells #[.int .i64 r2, .int .i64 c2, .string s2] 25))
    have HXa := Lib.hid (new_block wa (.cells #[.int .i64 r2, .int .i64 c2, .string s2] 25))
    have HBa := Lib.hid (hba.trans (HAa.out.mono hba.size))
    obtain ⟨P1, hP1⟩ : ∃ P1, P1 = wa.heap.size := ⟨_, rfl⟩
    obtain ⟨W3, hW3⟩ : ∃ W3, W3 = wa.alloc (.cells #[.int .i64 r2, .int .i64 c2, .string s2] 25) := ⟨_, rfl⟩
    rw [← hP1] at HXa
    rw [← hW3] at HXa HBa
    have HEM := Lib.hid (fun w h => iemf_any r2 c2 s2 (by omega) w h)
    have HIE := Lib.hid (fun w => by
      have h9 := iisf_any r2 c2 s2 (emF (r2, c2, s2)) (by omega) (by
        by_cases hg : isG (r2, c2, s2) = true
        · rw [emF_size hg]; show s2.size ≤ _; omega
        · unfold emF; rw [if_neg hg]; decide) w
      rw [emF_fill] at h9
      exact h9)
    have HIG := Lib.hid (fun w => iisg_any r2 c2 s2 (by omega) w)
    obtain ⟨E, hE⟩ : ∃ E, E = emF (r2, c2, s2) := ⟨_, rfl⟩
    obtain ⟨B, hB⟩ : ∃ B, B = isG (r2, c2, s2) := ⟨_, rfl⟩
    rw [← hE] at HEM HIE
    rw [← hB] at HIE HIG
    clear hE hB hbn ba hba HAa
    have hbb : (B != B) = false := by cases B <;> rfl
    have HHK : Hid (∀ W, Below W3.heap.size W3 W → W.cell? ⟨P1, 0, none⟩ = some (.int .i64 r2) ∧ W.cell? ⟨P1, 1, none⟩ = some (.int .i64 c2) ∧ W.cell? ⟨P1, 2, none⟩ = some (.string s2)) := Lib.hid (fun W h => by
      obtain ⟨x0, x1, x2, -⟩ := cells3 ((h.block _ (size_of_heap HXa.out)).trans HXa.out)
      exact ⟨x0, x1, x2⟩)
    go_wp2_with fail
    rw [← hP1, ← hW3]
    clear hP1 hW3
    refine (HEM.out _ (HDB.out _ HBa.out)).mono ?_
    rintro e wb ⟨rfl, bb⟩
    have hbn := bb
    clear bb
    go_wp2_with fail
    have hfm : Tryz.prog.follows .mixedOrders = true := follows_mix11
    have f0 : ∀ q : BelowBy wb, q.W.cell? ⟨P1, 0, none⟩ = some (.int .i64 r2) := fun q => (HHK.out _ (hbn.trans (q.h.mono hbn.size))).1
    have f1 : ∀ q : BelowBy wb, q.W.cell? ⟨P1, 1, none⟩ = some (.int .i64 c2) := fun q => (HHK.out _ (hbn.trans (q.h.mono hbn.size))).2.1
    have f2 : ∀ q : BelowBy wb, q.W.cell? ⟨P1, 2, none⟩ = some (.string s2) := fun q => (HHK.out _ (hbn.trans (q.h.mono hbn.size))).2.2
    refine wp_region_quiet_below (by assumption) (by kernel_rfl) ?_
    repeat (quiet_step (first | (go_at_call 7; refine calls_below (HIE.out _)) | (go_at_call 14; refine calls_below (HIG.out _))))
    refine wpQuiet_nil ?_
    intro _ hw'
    obtain ⟨⟨wq, hwq⟩, hw''⟩ := hw'
    subst hw''
    have hbm := hbn.trans (hwq.mono hbn.size)
    clear hbn hwq f0 f1 f2
    have hbn := hbm
    clear hbm
    all_goals go_wp2_with fail
    all_goals have HBb := Lib.hid (HBa.out.trans (hbn.mono HBa.out.size))
    all_goals refine (HDh.out _ HBb.out).mono ?_
    all_goals rintro e wf ⟨r3, c3, s3, f3, qr3, qc3, q403, qf3, rfl, bf⟩
    all_goals have hbf := btrans HBb.out bf
    all_goals have HAf := Lib.hid ((Below.refl wf.heap.size wf).alloc (Nat.le_refl _) (.cells #[.int .i64 r3, .int .i64 c3, .string s3] 25))
    all_goals have HXf := Lib.hid (new_block wf (.cells #[.int .i64 r3, .int .i64 c3, .string s3] 25))
    all_goals have HBf := Lib.hid (hbf.trans (HAf.out.mono hbf.size))
    all_goals go_wp2_with fail
    all_goals obtain ⟨P2, hP2⟩ : ∃ P2, P2 = wf.heap.size := ⟨_, rfl⟩
    all_goals obtain ⟨W4, hW4⟩ : ∃ W4, W4 = wf.alloc (.cells #[.int .i64 r3, .int .i64 c3, .string s3] 25) := ⟨_, rfl⟩
    all_goals rw [← hP2, ← hW4]
    all_goals rw [← hP2] at HXf
    all_goals rw [← hW4] at HXf HBf
    all_goals clear hP2 hW4 hbf bf HAf
    all_goals have HKK : Hid (∀ W, Below W4.heap.size W4 W → W.cell? ⟨P2, 0, none⟩ = some (.int .i64 r3) ∧ W.cell? ⟨P2, 1, none⟩ = some (.int .i64 c3) ∧ W.cell? ⟨P2, 2, none⟩ = some (.string s3)) := Lib.hid (fun W h => by
        obtain ⟨x0, x1, x2, -⟩ := cells3 ((h.block _ (size_of_heap HXf.out)).trans HXf.out)
        exact ⟨x0, x1, x2⟩)
    all_goals have HFU := Lib.hid (fun w => ifull_any r3 c3 s3 f3 (by omega) (by omega) w)
    all_goals have HWF := Lib.hid (fun w h => iwin_any r3 c3 s3 f3 (by omega) (by omega) w h)
    all_goals have HSF := Lib.hid (fun w => islo_any r3 c3 s3 (by omega) w)
    all_goals have HFW := Lib.hid (fun h => full_words (g := (r3, c3, s3)) (f := f3) h)
    all_goals obtain ⟨q, hq⟩ : ∃ q, q = fullF (r3, c3, s3) f3 := ⟨_, rfl⟩
    all_goals rw [← hq] at HFU HFW
    all_goals obtain ⟨Lw, hLw⟩ : ∃ Lw, Lw = wordsF (r3, c3, s3) f3 := ⟨_, rfl⟩
    all_goals rw [← hLw] at HWF HFW
    all_goals obtain ⟨Ls, hLs⟩ : ∃ Ls, Ls = slG (r3, c3, s3) := ⟨_, rfl⟩
    all_goals rw [← hLs] at HSF HFW
    all_goals clear hq hLw hLs hbn
    all_goals have hbn : Below W4.heap.size W4 W4 := Below.refl _ _
    all_goals obtain ⟨k0, k1, k2⟩ := HKK.out _ hbn
    all_goals (
      cases q with
      | false =>
        obtain ⟨W7, hW7⟩ : ∃ W7, W7 = World.drew W4 := ⟨_, rfl⟩
        refine wp_region_any (by kernel_rfl) ?_
        try (change wpAny _ _ _ _ _ _ _ (World.drew _))
        rw [← hW7]
        have hb7 : Below W4.heap.size W4 W7 := (by rw [hW7]; exact hbn.drew)
        clear hW7 hbn k0 k1 k2
        obtain ⟨k0, k1, k2⟩ := HKK.out _ hb7
        refine wpAny_take (i := 1) (v := Value.string f3) rfl (by kernel_rfl) (by kernel_rfl) (by kernel_rfl) (fun _ _ _ h => h) (Or.inl ⟨by kernel_rfl, by intro w9; go_simp; all_goals rfl⟩) ?_
        refine wpAny_ready (rs := [0]) (by kernel_rfl) (by simp) ?_
        refine AllReady.cons rfl (fun K hK => ?_) AllReady.nil
        go_simp
        refine hK _ _ ?_
        clear hK K
        refine wpAny_ready (rs := [2]) (by kernel_rfl) (by simp) ?_
        refine AllReady.cons rfl (fun K hK => ?_) AllReady.nil
        go_simp
        go_wp2_with (go_at_call 16; refine (HFU.out _).mono ?_; rintro e wg ⟨rfl, bg⟩; have hbg := btrans hb7 bg; clear bg)
        refine wpAny_ready (rs := [3]) (by kernel_rfl) (by simp) ?_
        refine AllReady.cons rfl (fun K hK => ?_) AllReady.nil
        go_simp
        refine hK _ _ ?_
        clear hK K
        refine wpAny_ready (rs := [4]) (by kernel_rfl) (by simp) ?_
        refine AllReady.cons rfl (fun K hK => ?_) AllReady.nil
        go_simp
        refine hK _ _ ?_
        clear hK K
        refine wpAny_take (i := 5) (v := undef) rfl (by kernel_rfl) (by kernel_rfl) (by kernel_rfl) (fun _ _ _ h => h) (Or.inr ⟨by kernel_rfl, rfl⟩) ?_
        refine wpAny_take (i := 6) (v := undef) rfl (by kernel_rfl) (by kernel_rfl) (by kernel_rfl) (fun _ _ _ h => h) (Or.inr ⟨by kernel_rfl, rfl⟩) ?_
        refine wpAny_take (i := 7) (v := undef) rfl (by kernel_rfl) (by kernel_rfl) (by kernel_rfl) (fun _ _ _ h => h) (Or.inr ⟨by kernel_rfl, rfl⟩) ?_
        refine wpAny_take (i := 8) (v := undef) rfl (by kernel_rfl) (by kernel_rfl) (by kernel_rfl) (fun _ _ _ h => h) (Or.inr ⟨by kernel_rfl, rfl⟩) ?_
        refine wpAny_take (i := 9) (v := undef) rfl (by kernel_rfl) (by kernel_rfl) (by kernel_rfl) (fun _ _ _ h => h) (Or.inr ⟨by kernel_rfl, rfl⟩) ?_
        refine wpAny_take (i := 10) (v := undef) rfl (by kernel_rfl) (by kernel_rfl) (by kernel_rfl) (fun _ _ _ h => h) (Or.inr ⟨by kernel_rfl, rfl⟩) ?_
        refine wpAny_take (i := 11) (v := undef) rfl (by kernel_rfl) (by kernel_rfl) (by kernel_rfl) (fun _ _ _ h => h) (Or.inr ⟨by kernel_rfl, rfl⟩) ?_
        refine wpAny_take (i := 12) (v := undef) rfl (by kernel_rfl) (by kernel_rfl) (by kernel_rfl) (fun _ _ _ h => h) (Or.inr ⟨by kernel_rfl, rfl⟩) ?_
        refine wpAny_ready (rs := [13]) (by kernel_rfl) (by simp) ?_
        refine AllReady.cons rfl (fun K hK => ?_) AllReady.nil
        go_simp
        refine hK _ _ ?_
        clear hK K
        refine wpAny_ready (rs := [14]) (by kernel_rfl) (by simp) ?_
        refine AllReady.cons rfl (fun K hK => ?_) AllReady.nil
        go_simp
        refine hK _ _ ?_
        clear hK K
        refine wpAny_done (by kernel_rfl) ?_ _
        go_wp2_with fail
        go_ret
        exact ⟨rfl, HEND.out _ (HBf.out.trans (hbg.mono HBf.out.size))⟩
      | true =>
        have hlw : Lw.length = Ls.length := HFW.out rfl
        have heq : ((Lw.length : Int) == (Ls.length : Int)) = true := by simp [hlw]
        clear hlw k0 k1 k2
        go_region_held3 (fun W => W.cell? ⟨P2, 0, none⟩ = some (.int .i64 r3) ∧ W.cell? ⟨P2, 1, none⟩ = some (.int .i64 c3) ∧ W.cell? ⟨P2, 2, none⟩ = some (.string s3)) (first | exact HKK.out _ hbn | exact HKK.out _ hbn.drew) (first | (go_at_call 16; refine Calls.mono (HFU.out _) ?_; rintro e wg ⟨rfl, bg⟩; have hbm : Below W4.heap.size W4 _ := (by first | exact hbn.trans (bg.mono hbn.size) | exact hbn.drew.trans (bg.mono hbn.drew.size) | exact hbn.drew.trans bg); clear hbn; have hbn := hbm; clear hbm bg) | (go_at_call 11; refine Calls.mono (HWF.out _ (HML.out _ (HBf.out.trans ((by first | exact hbn | exact hbn.drew : Below W4.heap.size W4 _).mono HBf.out.size)))) ?_; rintro e wh ⟨vh, rfl, oh, bh⟩; obtain ⟨ah, caph, rfl⟩ := ownV_slice oh; have hbm : Below W4.heap.size W4 _ := (by first | exact hbn.trans (bh.mono hbn.size) | exact hbn.drew.trans (bh.mono hbn.drew.size) | exact hbn.drew.trans bh); clear hbn; have hbn := hbm; clear hbm bh; clear oh) | (go_at_call 17; refine Calls.mono (HSF.out _) ?_; rintro e wi ⟨vi, rfl, oi, bi⟩; obtain ⟨ai, capi, rfl⟩ := ownV_slice oi; have hbm : Below W4.heap.size W4 _ := (by first | exact hbn.trans (bi.mono hbn.size) | exact hbn.drew.trans (bi.mono hbn.drew.size) | exact hbn.drew.trans bi); clear hbn; have hbn := hbm; clear hbm bi; clear oi))
        all_goals go_wp2_with fail
        all_goals go_ret
        all_goals exact ⟨rfl, HEND.out _ (HBf.out.trans (hbn.mono HBf.out.size))⟩)
  · have hqf : fitsP (patF (r, c, s) f k) x = false := by
      cases h : fitsP (patF (r, c, s) f k) x with
      | false => rfl
      | true => exact absurd h hq
    have HPW1 := Lib.hid (fun w h => by
      have h9 := ipw_any r c s f k x (by omega) (by omega) (by omega) w h
      rw [putF_no hqf] at h9
      exact h9)
    clear hq hqf
    have hs3 := str_self f
    have hs4 := str_self_ne f
    obtain ⟨x0, x1, x2⟩ := HGK.out _ hbn
    refine (HPW1.out _ (HML.out _ hbn)).mono ?_
    rintro e w3 ⟨rfl, b3⟩
    have hbm := btrans hbn b3
    clear hbn b3 x0 x1 x2
    have hbn := hbm
    clear hbm
    go_wp2_with fail
    refine (HDg.out _ hbn).mono ?_
    rintro e wa ⟨r2, c2, s2, qr2, qc2, q402, rfl, ba⟩
    have hba := btrans hbn ba
    have HAa := Lib.hid ((Below.refl wa.heap.size wa).alloc (Nat.le_refl _) (.cells #[.int .i64 r2, .int .i64 c2, .string s2] 25))
    have HXa := Lib.hid (new_block wa (.cells #[.int .i64 r2, .int .i64 c2, .string s2] 25))
    have HBa := Lib.hid (hba.trans (HAa.out.mono hba.size))
    obtain ⟨P1, hP1⟩ : ∃ P1, P1 = wa.heap.size := ⟨_, rfl⟩
    obtain ⟨W3, hW3⟩ : ∃ W3, W3 = wa.alloc (.cells #[.int .i64 r2, .int .i64 c2, .string s2] 25) := ⟨_, rfl⟩
    rw [← hP1] at HXa
    rw [← hW3] at HXa HBa
    have HEM := Lib.hid (fun w h => iemf_any r2 c2 s2 (by omega) w h)
    have HIE := Lib.hid (fun w => by
      have h9 := iisf_any r2 c2 s2 (emF (r2, c2, s2)) (by omega) (by
        by_cases hg : isG (r2, c2, s2) = true
        · rw [emF_size hg]; show s2.size ≤ _; omega
        · unfold emF; rw [if_neg hg]; decide) w
      rw [emF_fill] at h9
      exact h9)
    have HIG := Lib.hid (fun w => iisg_any r2 c2 s2 (by omega) w)
    obtain ⟨E, hE⟩ : ∃ E, E = emF (r2, c2, s2) := ⟨_, rfl⟩
    obtain ⟨B, hB⟩ : ∃ B, B = isG (r2, c2, s2) := ⟨_, rfl⟩
    rw [← hE] at HEM HIE
    rw [← hB] at HIE HIG
    clear hE hB hbn ba hba HAa
    have hbb : (B != B) = false := by cases B <;> rfl
    have HHK : Hid (∀ W, Below W3.heap.size W3 W → W.cell? ⟨P1, 0, none⟩ = some (.int .i64 r2) ∧ W.cell? ⟨P1, 1, none⟩ = some (.int .i64 c2) ∧ W.cell? ⟨P1, 2, none⟩ = some (.string s2)) := Lib.hid (fun W h => by
      obtain ⟨x0, x1, x2, -⟩ := cells3 ((h.block _ (size_of_heap HXa.out)).trans HXa.out)
      exact ⟨x0, x1, x2⟩)
    go_wp2_with fail
    rw [← hP1, ← hW3]
    clear hP1 hW3
    refine (HEM.out _ (HDB.out _ HBa.out)).mono ?_
    rintro e wb ⟨rfl, bb⟩
    have hbn := bb
    clear bb
    go_wp2_with fail
    go_region_held3 (fun W => W.cell? ⟨P1, 0, none⟩ = some (.int .i64 r2) ∧ W.cell? ⟨P1, 1, none⟩ = some (.int .i64 c2) ∧ W.cell? ⟨P1, 2, none⟩ = some (.string s2)) (first | exact HHK.out _ hbn | exact HHK.out _ hbn.drew) (first | (go_at_call 7; refine Calls.mono (HIE.out _) ?_; rintro e wc ⟨rfl, bc⟩; have hbm : Below W3.heap.size W3 _ := (by first | exact hbn.trans (bc.mono hbn.size) | exact hbn.drew.trans (bc.mono hbn.drew.size) | exact hbn.drew.trans bc); clear hbn; have hbn := hbm; clear hbm bc) | (go_at_call 14; refine Calls.mono (HIG.out _) ?_; rintro e wd ⟨rfl, bd⟩; have hbm : Below W3.heap.size W3 _ := (by first | exact hbn.trans (bd.mono hbn.size) | exact hbn.drew.trans (bd.mono hbn.drew.size) | exact hbn.drew.trans bd); clear hbn; have hbn := hbm; clear hbm bd))
    all_goals go_wp2_with fail
    all_goals have HBb := Lib.hid (HBa.out.trans (hbn.mono HBa.out.size))
    all_goals refine (HDh.out _ HBb.out).mono ?_
    all_goals rintro e wf ⟨r3, c3, s3, f3, qr3, qc3, q403, qf3, rfl, bf⟩
    all_goals have hbf := btrans HBb.out bf
    all_goals have HAf := Lib.hid ((Below.refl wf.heap.size wf).alloc (Nat.le_refl _) (.cells #[.int .i64 r3, .int .i64 c3, .string s3] 25))
    all_goals have HXf := Lib.hid (new_block wf (.cells #[.int .i64 r3, .int .i64 c3, .string s3] 25))
    all_goals have HBf := Lib.hid (hbf.trans (HAf.out.mono hbf.size))
    all_goals go_wp2_with fail
    all_goals obtain ⟨P2, hP2⟩ : ∃ P2, P2 = wf.heap.size := ⟨_, rfl⟩
    all_goals obtain ⟨W4, hW4⟩ : ∃ W4, W4 = wf.alloc (.cells #[.int .i64 r3, .int .i64 c3, .string s3] 25) := ⟨_, rfl⟩
    all_goals rw [← hP2, ← hW4]
    all_goals rw [← hP2] at HXf
    all_goals rw [← hW4] at HXf HBf
    all_goals clear hP2 hW4 hbf bf HAf
    all_goals have HKK : Hid (∀ W, Below W4.heap.size W4 W → W.cell? ⟨P2, 0, none⟩ = some (.int .i64 r3) ∧ W.cell? ⟨P2, 1, none⟩ = some (.int .i64 c3) ∧ W.cell? ⟨P2, 2, none⟩ = some (.string s3)) := Lib.hid (fun W h => by
        obtain ⟨x0, x1, x2, -⟩ := cells3 ((h.block _ (size_of_heap HXf.out)).trans HXf.out)
        exact ⟨x0, x1, x2⟩)
    all_goals have HFU := Lib.hid (fun w => ifull_any r3 c3 s3 f3 (by omega) (by omega) w)
    all_goals have HWF := Lib.hid (fun w h => iwin_any r3 c3 s3 f3 (by omega) (by omega) w h)
    all_goals have HSF := Lib.hid (fun w => islo_any r3 c3 s3 (by omega) w)
    all_goals have HFW := Lib.hid (fun h => full_words (g := (r3, c3, s3)) (f := f3) h)
    all_goals obtain ⟨q, hq⟩ : ∃ q, q = fullF (r3, c3, s3) f3 := ⟨_, rfl⟩
    all_goals rw [← hq] at HFU HFW
    all_goals obtain ⟨Lw, hLw⟩ : ∃ Lw, Lw = wordsF (r3, c3, s3) f3 := ⟨_, rfl⟩
    all_goals rw [← hLw] at HWF HFW
    all_goals obtain ⟨Ls, hLs⟩ : ∃ Ls, Ls = slG (r3, c3, s3) := ⟨_, rfl⟩
    all_goals rw [← hLs] at HSF HFW
    all_goals clear hq hLw hLs hbn
    all_goals have hbn : Below W4.heap.size W4 W4 := Below.refl _ _
    all_goals obtain ⟨k0, k1, k2⟩ := HKK.out _ hbn
    all_goals (
      cases q with
      | false =>
        obtain ⟨W7, hW7⟩ : ∃ W7, W7 = World.drew W4 := ⟨_, rfl⟩
        refine wp_region_any (by kernel_rfl) ?_
        try (change wpAny _ _ _ _ _ _ _ (World.drew _))
        rw [← hW7]
        have hb7 : Below W4.heap.size W4 W7 := (by rw [hW7]; exact hbn.drew)
        clear hW7 hbn k0 k1 k2
        obtain ⟨k0, k1, k2⟩ := HKK.out _ hb7
        refine wpAny_take (i := 1) (v := Value.string f3) rfl (by kernel_rfl) (by kernel_rfl) (by kernel_rfl) (fun _ _ _ h => h) (Or.inl ⟨by kernel_rfl, by intro w9; go_simp; all_goals rfl⟩) ?_
        refine wpAny_ready (rs := [0]) (by kernel_rfl) (by simp) ?_
        refine AllReady.cons rfl (fun K hK => ?_) AllReady.nil
        go_simp
        refine hK _ _ ?_
        clear hK K
        refine wpAny_ready (rs := [2]) (by kernel_rfl) (by simp) ?_
        refine AllReady.cons rfl (fun K hK => ?_) AllReady.nil
        go_simp
        go_wp2_with (go_at_call 16; refine (HFU.out _).mono ?_; rintro e wg ⟨rfl, bg⟩; have hbg := btrans hb7 bg; clear bg)
        refine wpAny_ready (rs := [3]) (by kernel_rfl) (by simp) ?_
        refine AllReady.cons rfl (fun K hK => ?_) AllReady.nil
        go_simp
        refine hK _ _ ?_
        clear hK K
        refine wpAny_ready (rs := [4]) (by kernel_rfl) (by simp) ?_
        refine AllReady.cons rfl (fun K hK => ?_) AllReady.nil
        go_simp
        refine hK _ _ ?_
        clear hK K
        refine wpAny_take (i := 5) (v := undef) rfl (by kernel_rfl) (by kernel_rfl) (by kernel_rfl) (fun _ _ _ h => h) (Or.inr ⟨by kernel_rfl, rfl⟩) ?_
        refine wpAny_take (i := 6) (v := undef) rfl (by kernel_rfl) (by kernel_rfl) (by kernel_rfl) (fun _ _ _ h => h) (Or.inr ⟨by kernel_rfl, rfl⟩) ?_
        refine wpAny_take (i := 7) (v := undef) rfl (by kernel_rfl) (by kernel_rfl) (by kernel_rfl) (fun _ _ _ h => h) (Or.inr ⟨by kernel_rfl, rfl⟩) ?_
        refine wpAny_take (i := 8) (v := undef) rfl (by kernel_rfl) (by kernel_rfl) (by kernel_rfl) (fun _ _ _ h => h) (Or.inr ⟨by kernel_rfl, rfl⟩) ?_
        refine wpAny_take (i := 9) (v := undef) rfl (by kernel_rfl) (by kernel_rfl) (by kernel_rfl) (fun _ _ _ h => h) (Or.inr ⟨by kernel_rfl, rfl⟩) ?_
        refine wpAny_take (i := 10) (v := undef) rfl (by kernel_rfl) (by kernel_rfl) (by kernel_rfl) (fun _ _ _ h => h) (Or.inr ⟨by kernel_rfl, rfl⟩) ?_
        refine wpAny_take (i := 11) (v := undef) rfl (by kernel_rfl) (by kernel_rfl) (by kernel_rfl) (fun _ _ _ h => h) (Or.inr ⟨by kernel_rfl, rfl⟩) ?_
        refine wpAny_take (i := 12) (v := undef) rfl (by kernel_rfl) (by kernel_rfl) (by kernel_rfl) (fun _ _ _ h => h) (Or.inr ⟨by kernel_rfl, rfl⟩) ?_
        refine wpAny_ready (rs := [13]) (by kernel_rfl) (by simp) ?_
        refine AllReady.cons rfl (fun K hK => ?_) AllReady.nil
        go_simp
        refine hK _ _ ?_
        clear hK K
        refine wpAny_ready (rs := [14]) (by kernel_rfl) (by simp) ?_
        refine AllReady.cons rfl (fun K hK => ?_) AllReady.nil
        go_simp
        refine hK _ _ ?_
        clear hK K
        refine wpAny_done (by kernel_rfl) ?_ _
        go_wp2_with fail
        go_ret
        exact ⟨rfl, HEND.out _ (HBf.out.trans (hbg.mono HBf.out.size))⟩
      | true =>
        have hlw : Lw.length = Ls.length := HFW.out rfl
        have heq : ((Lw.length : Int) == (Ls.length : Int)) = true := by simp [hlw]
        clear hlw k0 k1 k2
        go_region_held3 (fun W => W.cell? ⟨P2, 0, none⟩ = some (.int .i64 r3) ∧ W.cell? ⟨P2, 1, none⟩ = some (.int .i64 c3) ∧ W.cell? ⟨P2, 2, none⟩ = some (.string s3)) (first | exact HKK.out _ hbn | exact HKK.out _ hbn.drew) (first | (go_at_call 16; refine Calls.mono (HFU.out _) ?_; rintro e wg ⟨rfl, bg⟩; have hbm : Below W4.heap.size W4 _ := (by first | exact hbn.trans (bg.mono hbn.size) | exact hbn.drew.trans (bg.mono hbn.drew.size) | exact hbn.drew.trans bg); clear hbn; have hbn := hbm; clear hbm bg) | (go_at_call 11; refine Calls.mono (HWF.out _ (HML.out _ (HBf.out.trans ((by first | exact hbn | exact hbn.drew : Below W4.heap.size W4 _).mono HBf.out.size)))) ?_; rintro e wh ⟨vh, rfl, oh, bh⟩; obtain ⟨ah, caph, rfl⟩ := ownV_slice oh; have hbm : Below W4.heap.size W4 _ := (by first | exact hbn.trans (bh.mono hbn.size) | exact hbn.drew.trans (bh.mono hbn.drew.size) | exact hbn.drew.trans bh); clear hbn; have hbn := hbm; clear hbm bh; clear oh) | (go_at_call 17; refine Calls.mono (HSF.out _) ?_; rintro e wi ⟨vi, rfl, oi, bi⟩; obtain ⟨ai, capi, rfl⟩ := ownV_slice oi; have hbm : Below W4.heap.size W4 _ := (by first | exact hbn.trans (bi.mono hbn.size) | exact hbn.drew.trans (bi.mono hbn.drew.size) | exact hbn.drew.trans bi); clear hbn; have hbn := hbm; clear hbm bi; clear oi))
        all_goals go_wp2_with fail
        all_goals go_ret
        all_goals exact ⟨rfl, HEND.out _ (HBf.out.trans (hbn.mono HBf.out.size))⟩)
set_option maxRecDepth 100000 in
set_option maxHeartbeats 800000 in
theorem walk (v0 : Value) (l0 : List Int) (w : World) (hR : Reads w.heap.size w v0 .u8 l0) (hB : ∀ z ∈ l0, 0 ≤ z ∧ z ≤ 255) (hV : ML w ∧ DB w) :
    Calls Tryz.prog 3 #[v0] w fun e w' => e = .returned (.bool true) ∧ Below w.heap.size w w' := by
  obtain ⟨a0, cap, rfl⟩ : ∃ a0 cap, v0 = .slice a0 l0.length cap := ⟨hR.2.choose, hR.2.choose_spec.choose, hR.2.choose_spec.choose_spec.1⟩
  have hc := code_of_reads hR rfl hB
  clear hR hB
  by_cases hbig : 1048576 < l0.length
  · go_enter Tryz.func3, Tryz.ntmps3
    go_wp2_with (go_at_call 4; refine (big_yes l0.length cap a0 hbig _).mono ?_; rintro e w1 ⟨rfl, rfl⟩)
    go_ret
    exact ⟨rfl, Below.refl _ _⟩
  · exact fills_walk l0.length cap a0 w hc (by omega) hV.1 hV.2
end fnFills
end Go.Proofs.YtpacopebdoflpaaGreatDoor
