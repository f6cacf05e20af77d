/-
  DomainsOf, of the model and of the program.
-/
import Derived.Test.YthgnhcjbjdhjfaaDoorFillU
import Derived.Test.YthgnhcjbjdhjfaaDoorFillE
import Derived.Test.YthgnhcjbjdhjfaaDoorPatImplD
import Derived.Test.YthgnhcjbjdhjfaaDoorNestW
import Derived.Test.YthgnhcjbjdhjfaaDoorAppW
namespace Go.Proofs.YthgnhcjbjdhjfaaDoor
open Go.RowKit

def domsTo (g : Int × Int × ByteArray) (f : ByteArray) (ws : List ByteArray) (n : Nat) : List (List ByteArray) := (List.range n).map fun (i : Nat) => fitW ws (patF g f (i : Int))
/-- The words that fit each slot. -/
def domsF (g : Int × Int × ByteArray) (f : ByteArray) (ws : List ByteArray) : List (List ByteArray) := if isF g f = true then domsTo g f ws (slG g).length else []
theorem domsTo_next (g : Int × Int × ByteArray) (f : ByteArray) (ws : List ByteArray) (n : Nat) : domsTo g f ws (n + 1) = domsTo g f ws n ++ [fitW ws (patF g f (n : Int))] := by
  unfold domsTo
  rw [List.range_succ, List.map_append]
  rfl
theorem domsTo_length (g : Int × Int × ByteArray) (f : ByteArray) (ws : List ByteArray) (n : Nat) : (domsTo g f ws n).length = n := by simp [domsTo]
theorem domsF_few (g : Int × Int × ByteArray) (f : ByteArray) (ws : List ByteArray) : (domsF g f ws).length ≤ 72 := by
  unfold domsF
  split
  · rw [domsTo_length]; exact slG_length g
  · simp
theorem domsF_short (g : Int × Int × ByteArray) (f : ByteArray) (ws : List ByteArray) : ∀ m ∈ domsF g f ws, m.length ≤ ws.length := by
  intro m hm
  unfold domsF at hm
  split at hm
  · obtain ⟨i, -, rfl⟩ := List.mem_map.1 hm
    exact fitW_length _ _
  · cases hm
theorem one_src1 (W : World) (v : Value) (t : TypeId) : ∀ j, j < 1 * 1 → ∃ b off, (some ⟨W.heap.size, 0, none⟩ : Option Addr) = some ⟨b, off, none⟩ ∧ (W.alloc (.cells #[v] t)).cell? ⟨b, off + j, none⟩ = [v][j]? := fun j hj => by
  obtain rfl : j = 0 := by omega
  exact ⟨W.heap.size, 0, rfl, by simp⟩
set_option maxRecDepth 100000 in
set_option maxHeartbeats 3200000 in
theorem sdom_any (r c : Int) (s f : ByteArray) (ws : List ByteArray) (hs : s.size ≤ 4194304) (hf : f.size ≤ 4194304) (hl : ws.length ≤ 1048576) (v : Value) (w : World) (hv : ReadsS w.heap.size w v ws) :
    Calls Tryd.prog 24 #[.agg #[.int .i64 r, .int .i64 c, .string s], .string f, v] w fun e w' => ∃ v', e = .returned v' ∧ OwnT w' w.heap.size w'.heap.size v' (domsF (r, c, s) f ws) ∧ Below w.heap.size w w' := by
  obtain ⟨i0, hi, hz0, hz1, hz2⟩ := info_parts infoStrS
  have HIF := Lib.hid (fun w => sisf_any r c s f hs hf w)
  have HSL := Lib.hid (fun w => ssl_any r c s hs w)
  have HSP := Lib.hid (fun (k : Nat) w => spat_any r c s f (k : Int) hs hf w)
  have HLEN := Lib.hid (slG_length (r, c, s))
  have HW : Hid (domsF (r, c, s) f ws = if isF (r, c, s) f = true then domsTo (r, c, s) f ws (slG (r, c, s)).length else []) := Lib.hid rfl
  have HWF : Hid (∀ (k : Nat) (W : World), Below w.heap.size w W → Calls Tryd.prog 57 #[v, .string (patF (r, c, s) f (k : Int))] W fun e w' => ∃ v', e = .returned v' ∧ w'.ownsRow W.heap.size 9 1 v' (fitW ws (patF (r, c, s) f (k : Int))).length ((fitW ws (patF (r, c, s) f (k : Int))).map Value.string) ∧ Below W.heap.size W w') := Lib.hid (fun k W hW => swf_any ws (patF (r, c, s) f (k : Int)) (by omega) v W (hv.now hW))
  obtain ⟨aw, nw, cw, rfl⟩ : ∃ a n c, v = .slice a n c := by obtain ⟨-, a0, cap, e, -⟩ := hv.cells; exact ⟨_, _, _, e⟩
  obtain ⟨l, hll⟩ : ∃ l, l = slG (r, c, s) := ⟨_, rfl⟩
  rw [← hll] at HSL HLEN HW
  clear hll hv
  have hl72 := HLEN.out
  have HWN := Lib.hid (fun n => domsTo_next (r, c, s) f ws n)
  have HDL := Lib.hid (fun n => domsTo_length (r, c, s) f ws n)
  have HKP : Hid (∀ w', Below (w.alloc (.cells #[.int .i64 r, .int .i64 c, .string s] 48)).heap.size (w.alloc (.cells #[.int .i64 r, .int .i64 c, .string s] 48)) w' → w'.cell? ⟨w.heap.size, 0, none⟩ = some (.int .i64 r) ∧ w'.cell? ⟨w.heap.size, 1, none⟩ = some (.int .i64 c) ∧ w'.cell? ⟨w.heap.size, 2, none⟩ = some (.string s)) := Lib.hid (fun w' h => ⟨(h.cell (p := ⟨w.heap.size, 0, none⟩) (by simp)).trans (by simp), (h.cell (p := ⟨w.heap.size, 1, none⟩) (by simp)).trans (by simp), (h.cell (p := ⟨w.heap.size, 2, none⟩) (by simp)).trans (by simp)⟩)
  have HBX : Hid (Below w.heap.size w (w.alloc (.cells #[.int .i64 r, .int .i64 c, .string s] 48))) := Lib.hid ((Below.refl _ _).alloc (Nat.le_refl _) _)
  obtain ⟨p, hp⟩ : ∃ p, p = isF (r, c, s) f := ⟨_, rfl⟩
  rw [← hp] at HIF HW
  clear hp
  go_enter Tryd.func24, Tryd.ntmps24
  go_wp2_with fail
  obtain ⟨W0, hW0⟩ : ∃ W0, W0 = w.alloc (.cells #[.int .i64 r, .int .i64 c, .string s] 48) := ⟨_, rfl⟩
  have hws : W0.heap.size = w.heap.size + 1 := by rw [hW0]; simp
  rw [← hW0] at HKP HBX ⊢
  clear hW0
  have HO0 : Hid (OwnN fS 1 28 9 (W0.alloc (.cells #[] 28)) W0.heap.size (W0.alloc (.cells #[] 28)).heap.size (.slice (some ⟨w.heap.size + 1, 0, none⟩) 0 0) [] []) := Lib.hid (OwnN.empty (by rw [← hws]; exact own_empty2 W0 _ 1))
  have HB0 := Lib.hid ((Below.refl W0.heap.size W0).alloc (Nat.le_refl _) (.cells #[] 28))
  obtain ⟨d0, d1, d2⟩ := HKP.out _ HB0.out
  go_wp2_with (go_at_call 55; refine (HSL.out _).mono ?_; rintro e w2 ⟨v2, rfl, o2, b2⟩; obtain ⟨a0, cap, rfl⟩ := ownV_slice o2; have HO2 := Lib.hid (HO0.out.now b2); have HB2 := Lib.hid (HB0.out.trans (b2.mono HB0.out.size)); clear o2 b2)
  clear d0 d1 d2 HO0 HB0 HSL
  cases p with
  | false =>
    have HF : Hid (domsF (r, c, s) f ws = []) := Lib.hid (by rw [HW.out]; rfl)
    go_loopw [7, 9] (fun o i wr => i = .int .i64 0 ∧ Hid (∃ us, OwnN fS 1 28 9 wr W0.heap.size wr.heap.size o us []) ∧ Hid (Below W0.heap.size W0 wr)) (fun _ _ _ => 0)
    case atStart => exact ⟨rfl, Lib.hid ⟨_, HO2.out⟩, HB2⟩
    case round =>
      clear HO2 HB2
      obtain ⟨rfl, ⟨us, hn⟩, HB⟩ := hrel
      have HO := Lib.hid hn
      clear hn
      obtain ⟨d0, d1, d2⟩ := HKP.out _ HB.out
      by_cases h0 : 0 < l.length
      · have hd : decide ((0 : Int) < (l.length : Int)) = true := decide_eq_true (by omega)
        have hd9 : decide (0 < l.length) = true := decide_eq_true h0
        go_wp2_with (go_at_call 56; refine (HIF.out _).mono ?_; rintro e w3 ⟨rfl, b3⟩; have HB3 := Lib.hid (HB.out.trans (b3.mono HB.out.size)); have HO3 := Lib.hid (HO.out.now b3); clear b3)
        go_ret
        exact ⟨_, rfl, by rw [HF.out]; exact ⟨us, HO3.out.under (by omega)⟩, HBX.out.trans (HB3.out.mono HBX.out.size)⟩
      · have hd : decide ((0 : Int) < (l.length : Int)) = false := decide_eq_false (by omega)
        have hd9 : decide (0 < l.length) = false := decide_eq_false h0
        go_wp2
        go_ret
        exact ⟨_, rfl, by rw [HF.out]; exact ⟨us, HO.out.under (by omega)⟩, HBX.out.trans (HB.out.mono HBX.out.size)⟩
  | true =>
    have HF : Hid (domsF (r, c, s) f ws = domsTo (r, c, s) f ws l.length) := Lib.hid (by rw [HW.out]; rfl)
    go_loopw [7, 9] (fun o i wr => ∃ k : Nat, k ≤ l.length ∧ i = .int .i64 (k : Int) ∧ Hid (∃ us, OwnN fS 1 28 9 wr W0.heap.size wr.heap.size o us (domsTo (r, c, s) f ws k)) ∧ Hid (Below W0.heap.size W0 wr)) (fun _ i _ => l.length - (intOf i).toNat)
    case atStart => exact ⟨0, Nat.zero_le _, rfl, Lib.hid ⟨_, HO2.out⟩, HB2⟩
    case round =>
      clear HO2 HB2
      obtain ⟨k, hk, rfl, ⟨us, hn⟩, HB⟩ := hrel
      have HO := Lib.hid hn
      clear hn
      obtain ⟨d0, d1, d2⟩ := HKP.out _ HB.out
      by_cases hlt : k < l.length
      · have hd : decide ((k : Int) < (l.length : Int)) = true := decide_eq_true (by omega)
        have hd9 : decide (k < l.length) = true := decide_eq_true hlt
        have HNX := Lib.hid (HWN.out k)
        have HP1 := Lib.hid (HSP.out k)
        have HW1 := Lib.hid (HWF.out k)
        have hdl := HDL.out k
        obtain ⟨L, hL⟩ : ∃ L, L = domsTo (r, c, s) f ws k := ⟨_, rfl⟩
        rw [← hL] at HO HNX hdl
        obtain ⟨P, hP⟩ : ∃ P, P = patF (r, c, s) f (k : Int) := ⟨_, rfl⟩
        rw [← hP] at HNX HP1 HW1
        obtain ⟨F, hF⟩ : ∃ F, F = fitW ws P := ⟨_, rfl⟩
        rw [← hF] at HNX HW1
        clear hL hP hF
        go_wp2_with (first | (go_at_call 56; refine (HIF.out _).mono ?_; rintro e w3 ⟨rfl, b3⟩; have HB3 := Lib.hid (HB.out.trans (b3.mono HB.out.size)); obtain ⟨g0, g1, g2⟩ := HKP.out _ HB3.out; have HO3 := Lib.hid (HO.out.later (Nat.le_refl _) b3); have HZ3 := Lib.hid b3.size; clear b3) | (go_at_call 58; refine (HP1.out _).mono ?_; rintro e w4 ⟨rfl, b4⟩; have HB4 := Lib.hid (HB3.out.trans (b4.mono HB3.out.size)); have HZ4 := Lib.hid (Nat.le_trans HZ3.out b4.size); have HO4 := Lib.hid (HO3.out.later HZ3.out b4); clear b4) | (go_at_call 57; refine (HW1.out _ (HBX.out.trans (HB4.out.mono HBX.out.size))).mono ?_; rintro e w5 ⟨v5, rfl, o5, b5⟩; obtain ⟨a5, c5, rfl⟩ := ownV_slice o5; have HB5 := Lib.hid (HB4.out.trans (b5.mono HB4.out.size)); have HO5 := Lib.hid (HO4.out.later HZ4.out b5); have HT5 := Lib.hid (fun q h => Nat.le_trans HZ4.out (o5.lt q h).1); have HU5 := Lib.hid (own_base (own_fS o5) HB4.out.size); have HZ5 := Lib.hid (Nat.le_trans HZ4.out b5.size); clear o5 b5) | (at_builtin; refine list_appendW _ rfl _ _ 46 rfl W0.heap.size 28 i0 (.slice none 0 0) 1 24 Tryd.underlying46 hi hz0 hz1 hz2 rfl (by decide) _ _ _ rfl (HO5.out.row.alloc _) ⟨w5.heap.size, 0, none⟩ 1 1 [.slice a5 F.length c5] rfl rfl (by decide) (by simp [Value.oneCell']) (one_src1 w5 _ _) (by omega) (by omega) (le_alloc HB5.out.size _) ?_; intro v6 w6 hown hgrow hwhere))
        have HB6 := Lib.hid ((HB5.out.alloc HB5.out.size (.cells #[.slice a5 F.length c5] 28)).grown hgrow (le_alloc HB5.out.size _) (fun q h => (HO5.out.low q h).1))
        have HN6 := Lib.hid (HO5.out.appended HZ5.out _ HU5.out HT5.out hown hgrow hwhere)
        clear hown hgrow hwhere
        go_roundw
        case rel => exact ⟨k + 1, by omega, by go_num, Lib.hid ⟨_, by rw [HNX.out]; exact HN6.out⟩, HB6⟩
        case measure => simp [intOf]; omega
      · have hd : decide ((k : Int) < (l.length : Int)) = false := decide_eq_false (by omega)
        have hd9 : decide (k < l.length) = false := decide_eq_false hlt
        have HV : Hid (OwnT wr w.heap.size wr.heap.size u7 (domsF (r, c, s) f ws)) := Lib.hid ⟨us, by
          rw [HF.out, ← show k = l.length by omega]
          exact HO.out.under (by omega)⟩
        go_wp2
        go_ret
        exact ⟨_, rfl, HV.out, HBX.out.trans (HB.out.mono HBX.out.size)⟩
set_option maxRecDepth 100000 in
set_option maxHeartbeats 3200000 in
theorem idom_any (r c : Int) (s f : ByteArray) (ws : List ByteArray) (hs : s.size ≤ 4194304) (hf : f.size ≤ 1048576) (hl : ws.length ≤ 1048576) (hz : ∀ z ∈ ws, z.size ≤ 1048576) (v : Value) (w : World) (hm : ML w) (hv : ReadsS w.heap.size w v ws) :
    Calls Tryd.prog 26 #[.agg #[.int .i64 r, .int .i64 c, .string s], .string f, v] w fun e w' => ∃ v', e = .returned v' ∧ OwnT w' w.heap.size w'.heap.size v' (domsF (r, c, s) f ws) ∧ Below w.heap.size w w' := by
  obtain ⟨i0, hi, hz0, hz1, hz2⟩ := info_parts infoStrS
  have HFI := Lib.hid (fun w => ifill_any r c s f hs hf w)
  unfold FillE at HFI
  have HWF : Hid (∀ (P : ByteArray) (W : World), P.size ≤ 1048576 → Below w.heap.size w W → Calls Tryd.prog 13 #[v, .string P] W fun e w' => ∃ v', e = .returned v' ∧ w'.ownsRow W.heap.size 9 1 v' (fitW ws P).length ((fitW ws P).map Value.string) ∧ Below W.heap.size W w') := Lib.hid (fun P W hP hW => iwf_any ws P (by omega) v W (hm.later hW) hP hz (hv.now hW))
  obtain ⟨aw, nw, cw, rfl⟩ : ∃ a n c, v = .slice a n c := by obtain ⟨-, a0, cap, e, -⟩ := hv.cells; exact ⟨_, _, _, e⟩
  clear hm hv hz
  cases hp : isF (r, c, s) f with
  | false =>
    rw [hp] at HFI
    have HF : Hid (domsF (r, c, s) f ws = []) := Lib.hid (by unfold domsF; rw [hp]; rfl)
    have HSB := Lib.hid (fun w => slots_brd (0, 0, ⟨#[]⟩) w)
    rw [slG_none, brd_none, row_zero] at HSB
    simp only [brdV, List.length_nil] at HSB
    clear hp HWF
    go_enter Tryd.func26, Tryd.ntmps26
    go_wp2_with (first | (go_at_call 59; refine (HFI.out _).mono ?_; rintro e w1 ⟨he, b1⟩; have HB1 := Lib.hid (box1_of b1); clear b1; rcases he with ⟨h, -⟩ | ⟨-, rfl⟩; cases h; have HA1 := Lib.hid ((Below.refl w1.heap.size w1).alloc (Nat.le_refl _) (.cells #[.int .i64 0, .int .i64 0, .int .u64 0, .slice none 0 0, .int .u64 0] 83)); have HX1 := Lib.hid (new_block w1 (.cells #[.int .i64 0, .int .i64 0, .int .u64 0, .slice none 0 0, .int .u64 0] 83)); have HC1 := Lib.hid (HB1.out.trans (HA1.out.mono HB1.out.size)); have HA2 := Lib.hid ((Below.refl (w1.alloc (.cells #[.int .i64 0, .int .i64 0, .int .u64 0, .slice none 0 0, .int .u64 0] 83)).heap.size (w1.alloc (.cells #[.int .i64 0, .int .i64 0, .int .u64 0, .slice none 0 0, .int .u64 0] 83))).alloc (Nat.le_refl _) (.cells #[] 28)); have HO1 := Lib.hid (own_empty2 (w1.alloc (.cells #[.int .i64 0, .int .i64 0, .int .u64 0, .slice none 0 0, .int .u64 0] 83)) 28 1); have HC2 := Lib.hid (HC1.out.trans (HA2.out.mono HC1.out.size)); obtain ⟨x0, x1, x2, x3, x4, fx0, fx1, fx2, fx3, fx4⟩ := cells5F ((HA2.out.block _ (size_of_heap HX1.out)).trans HX1.out)) | (go_at_call 60; refine (HSB.out _).mono ?_; rintro e w2 ⟨v2, rfl, o2, b2⟩; obtain ⟨a2, cap2, rfl⟩ := ownV_slice o2; have HO2 := Lib.hid (own_later HO1.out b2); have HB2 := Lib.hid (HC2.out.trans (b2.mono HC2.out.size)); clear o2 b2))
    rw [World.size_alloc] at HO2
    go_loopw [9, 23] (fun o i wr => i = .int .i64 0 ∧ Hid (wr.ownsRow (w1.heap.size + 1) 28 1 o 0 []) ∧ Hid (Below w.heap.size w wr)) (fun _ _ _ => 0)
    case atStart => exact ⟨rfl, HO2, HB2⟩
    case round =>
      clear HO2 HB2
      obtain ⟨rfl, HO, HB⟩ := hrel
      go_wp2
      go_ret
      exact ⟨_, rfl, by rw [HF.out]; exact ⟨_, (OwnN.empty HO.out).under (by have := HB1.out.size; omega)⟩, HB.out⟩
  | true =>
    rw [hp] at HFI
    have hg := (isF_parts hp).1
    have hfs : f.size = s.size := (isF_parts hp).2.1
    have hbe := brd_yes hg
    have HSB := Lib.hid (fun w => slots_brd (r, c, s) w)
    have HLEN := Lib.hid (slG_length (r, c, s))
    have HPI := Lib.hid (fun j hj blk cp op w hM => by
      have h9 := ipat_in (r, c, s) ((slG (r, c, s)).getD j none_Slot) (getD_in hj) blk cp (fun j => f.data.toList.getD j 0) op w hM
      rw [show (⟨(bytesOf (fun j => f.data.toList.getD j 0) (cellsS (r, c, s).2.1 ((slG (r, c, s)).getD j none_Slot))).toArray⟩ : ByteArray) = patF (r, c, s) f (j : Int) from (patF_bytes hp hj).symm] at h9
      exact h9)
    rw [hbe] at HPI HSB
    simp only [brdV, slotV] at HPI HSB
    rw [← hfs] at HPI
    have HIP := Lib.hid (fun j hj => patF_isP (g := (r, c, s)) (f := f) (i := j) hp hj)
    have HF : Hid (domsF (r, c, s) f ws = domsTo (r, c, s) f ws (slG (r, c, s)).length) := Lib.hid (by unfold domsF; rw [if_pos hp])
    obtain ⟨OP, hOP⟩ : ∃ OP, OP = opK f f.size := ⟨_, rfl⟩
    rw [← hOP] at HFI
    obtain ⟨S, hS⟩ : ∃ S, S = wT s s.size := ⟨_, rfl⟩
    rw [hfs] at HPI
    rw [← hS] at HFI HSB HPI
    rw [← hfs] at HPI
    obtain ⟨l, hl⟩ : ∃ l, l = slG (r, c, s) := ⟨_, rfl⟩
    rw [← hl] at HSB HLEN HPI HIP HF
    clear hp hg hbe hOP hS hl hfs
    have hl72 := HLEN.out
    have HWN := Lib.hid (fun n => domsTo_next (r, c, s) f ws n)
    have HDL := Lib.hid (fun n => domsTo_length (r, c, s) f ws n)
    go_enter Tryd.func26, Tryd.ntmps26
    go_wp2_with (first | (go_at_call 59; refine (HFI.out _).mono ?_; rintro e w1 ⟨he, b1⟩; have HB1 := Lib.hid (box1_of b1); clear b1; rcases he with ⟨-, blk, cp, rfl, hq1, hq2, hq3, hM⟩ | ⟨h, -⟩; rotate_left; cases h; have HA1 := Lib.hid ((Below.refl w1.heap.size w1).alloc (Nat.le_refl _) (.cells #[.int .i64 r, .int .i64 c, .int .u64 (S : Int), .slice (some ⟨blk, 0, none⟩) f.size cp, .int .u64 (OP : Int)] 83)); have HX1 := Lib.hid (new_block w1 (.cells #[.int .i64 r, .int .i64 c, .int .u64 (S : Int), .slice (some ⟨blk, 0, none⟩) f.size cp, .int .u64 (OP : Int)] 83)); have HM1 := Lib.hid (hM.later HA1.out); have HC1 := Lib.hid (HB1.out.trans (HA1.out.mono HB1.out.size)); have HA2 := Lib.hid ((Below.refl (w1.alloc (.cells #[.int .i64 r, .int .i64 c, .int .u64 (S : Int), .slice (some ⟨blk, 0, none⟩) f.size cp, .int .u64 (OP : Int)] 83)).heap.size (w1.alloc (.cells #[.int .i64 r, .int .i64 c, .int .u64 (S : Int), .slice (some ⟨blk, 0, none⟩) f.size cp, .int .u64 (OP : Int)] 83))).alloc (Nat.le_refl _) (.cells #[] 28)); have HO1 := Lib.hid (own_empty2 (w1.alloc (.cells #[.int .i64 r, .int .i64 c, .int .u64 (S : Int), .slice (some ⟨blk, 0, none⟩) f.size cp, .int .u64 (OP : Int)] 83)) 28 1); clear hM; obtain ⟨x0, x1, x2, x3, x4, fx0, fx1, fx2, fx3, fx4⟩ := cells5F ((HA2.out.block _ (size_of_heap HX1.out)).trans HX1.out)) | (go_at_call 60; refine (HSB.out _).mono ?_; rintro e w2 ⟨v2, rfl, o2, b2⟩; obtain ⟨a2, cap2, rfl⟩ := ownV_slice o2; have HO2 := Lib.hid (own_later HO1.out b2); have HL2 := Lib.hid (own_widen o2 HA2.out.size); have HB2 := Lib.hid (HA2.out.trans (b2.mono HA2.out.size)); have HZ2 := Lib.hid o2.lt; clear o2 b2))
    obtain ⟨W1, hW1⟩ : ∃ W1, W1 = w1.alloc (.cells #[.int .i64 r, .int .i64 c, .int .u64 (S : Int), .slice (some ⟨blk, 0, none⟩) f.size cp, .int .u64 (OP : Int)] 83) := ⟨_, rfl⟩
    have hws : W1.heap.size = w1.heap.size + 1 := by rw [hW1]; simp
    rw [← hW1] at HX1 HM1 HC1 HO2 HL2 HB2
    clear hW1 x0 x1 x2 x3 x4 fx0 fx1 fx2 fx3 fx4 HA1 HA2 HO1 HB1 HFI HSB
    have HO3 : Hid (OwnN fS 1 28 9 w2 W1.heap.size w2.heap.size (.slice (some ⟨w1.heap.size + 1, 0, none⟩) 0 0) [] []) := Lib.hid (OwnN.empty (by rw [← hws]; exact HO2.out))
    clear HO2
    go_loopw [9, 23] (fun o i wr => ∃ k : Nat, k ≤ l.length ∧ i = .int .i64 (k : Int) ∧ Hid (∃ us, OwnN fS 1 28 9 wr W1.heap.size wr.heap.size o us (domsTo (r, c, s) f ws k)) ∧ Hid (wr.ownsRow W1.heap.size 88 4 (.slice a2 l.length cap2) l.length (row_Slot l)) ∧ Hid (Below W1.heap.size W1 wr)) (fun _ i _ => l.length - (intOf i).toNat)
    case atStart => exact ⟨0, Nat.zero_le _, rfl, Lib.hid ⟨_, HO3.out⟩, HL2, HB2⟩
    case round =>
      clear HO3 HL2 HB2
      obtain ⟨k, hk, rfl, ⟨us, hn⟩, HL, HB⟩ := hrel
      have HO := Lib.hid hn
      clear hn
      by_cases hlt : k < l.length
      · have hd : decide ((k : Int) < (l.length : Int)) = true := decide_eq_true (by omega)
        have hd9 : decide (k < l.length) = true := decide_eq_true hlt
        obtain ⟨b, rfl, q0, q1, q2, q3⟩ := slot_cells HL.out rfl k hlt
        have HNX := Lib.hid (HWN.out k)
        have hdl := HDL.out k
        have HP1 := Lib.hid (HPI.out k hlt)
        have hip := HIP.out k hlt
        have HW1 := Lib.hid (fun W h => HWF.out (patF (r, c, s) f (k : Int)) W (by have := (isP_size hip).2; omega) h)
        obtain ⟨y, hy⟩ : ∃ y, y = l.getD k none_Slot := ⟨_, rfl⟩
        rw [← hy] at q0 q1 q2 q3 HP1
        obtain ⟨L, hL⟩ : ∃ L, L = domsTo (r, c, s) f ws k := ⟨_, rfl⟩
        rw [← hL] at HO HNX hdl
        obtain ⟨P, hP⟩ : ∃ P, P = patF (r, c, s) f (k : Int) := ⟨_, rfl⟩
        rw [← hP] at HNX HP1 HW1
        obtain ⟨F, hF⟩ : ∃ F, F = fitW ws P := ⟨_, rfl⟩
        rw [← hF] at HNX HW1
        clear hy hL hP hF hip
        obtain ⟨t0, t1, t2, t3⟩ := y
        simp only at q0 q1 q2 q3 HP1
        have HA := Lib.hid ((Below.refl wr.heap.size wr).alloc (Nat.le_refl _) (.cells #[.int .i64 t0, .bool t1, .int .i64 t2, .int .i64 t3] 88))
        have HBA := Lib.hid (HB.out.trans (HA.out.mono HB.out.size))
        have HOA := Lib.hid (HO.out.later (Nat.le_refl _) HA.out)
        have HLA := Lib.hid (ownV_later HL.out HA.out)
        have HZA := Lib.hid HA.out.size
        obtain ⟨x0, x1, x2, x3, x4, fx0, fx1, fx2, fx3, fx4⟩ := cells5F ((HBA.out.block _ (size_of_heap HX1.out)).trans HX1.out)
        have HMA := Lib.hid (HM1.out.later HBA.out)
        go_wp2_with (first | (go_at_call 61; refine (HP1.out _ _ _ _ HMA.out).mono ?_; rintro e w4 ⟨rfl, b4⟩; have HB4 := Lib.hid (HBA.out.trans (b4.mono HBA.out.size)); have HO4 := Lib.hid (HOA.out.later HZA.out b4); have HZ4 := Lib.hid (Nat.le_trans HZA.out b4.size); have HL4 := Lib.hid (ownV_later HLA.out b4); clear b4) | (go_at_call 13; refine (HW1.out _ (HC1.out.trans (HB4.out.mono HC1.out.size))).mono ?_; rintro e w5 ⟨v5, rfl, o5, b5⟩; obtain ⟨a5, c5, rfl⟩ := ownV_slice o5; have HB5 := Lib.hid (HB4.out.trans (b5.mono HB4.out.size)); have HO5 := Lib.hid (HO4.out.later HZ4.out b5); have HT5 := Lib.hid (fun q h => Nat.le_trans HZ4.out (o5.lt q h).1); have HU5 := Lib.hid (own_base (own_fS o5) HB4.out.size); have HZ5 := Lib.hid (Nat.le_trans HZ4.out b5.size); have HL5 := Lib.hid (ownV_later HL4.out b5); clear o5 b5) | (at_builtin; refine list_appendW _ rfl _ _ 46 rfl W1.heap.size 28 i0 (.slice none 0 0) 1 24 Tryd.underlying46 hi hz0 hz1 hz2 rfl (by decide) _ _ _ rfl (HO5.out.row.alloc _) ⟨w5.heap.size, 0, none⟩ 1 1 [.slice a5 F.length c5] rfl rfl (by decide) (by simp [Value.oneCell']) (one_src1 w5 _ _) (by omega) (by omega) (le_alloc HB5.out.size _) ?_; intro v6 w6 hown hgrow hwhere))
        have HB6 := Lib.hid ((HB5.out.alloc HB5.out.size (.cells #[.slice a5 F.length c5] 28)).grown hgrow (le_alloc HB5.out.size _) (fun q h => (HO5.out.low q h).1))
        have HN6 := Lib.hid (HO5.out.appended HZ5.out _ HU5.out HT5.out hown hgrow hwhere)
        have HL6 := Lib.hid ((HL5.out.alloc _).kept hgrow (own_types HO5.out.row HL5.out (by decide)))
        clear hown hgrow hwhere
        go_roundw
        case rel => exact ⟨k + 1, by omega, by go_num, Lib.hid ⟨_, by rw [HNX.out]; exact HN6.out⟩, HL6, HB6⟩
        case measure => simp [intOf]; omega
      · have hd : decide ((k : Int) < (l.length : Int)) = false := decide_eq_false (by omega)
        have hd9 : decide (k < l.length) = false := decide_eq_false hlt
        have HV : Hid (OwnT wr w.heap.size wr.heap.size u9 (domsF (r, c, s) f ws)) := Lib.hid ⟨us, by
          rw [HF.out, ← show k = l.length by omega]
          exact HO.out.under HC1.out.size⟩
        go_wp2
        go_ret
        exact ⟨_, rfl, HV.out, HC1.out.trans (HB.out.mono HC1.out.size)⟩
end Go.Proofs.YthgnhcjbjdhjfaaDoor
