/-
  The model's contracts of PutWord and WordsIn.
-/
import Derived.Test.YthgnhcjbjdhjfaaDoorFillT
import Derived.Deep.RegionWith
namespace Go.Proofs.YthgnhcjbjdhjfaaDoor
open Go.RowKit

theorem set_split {l : List UInt8} {n : Nat} (h : n < l.length) (b : UInt8) : l.take n ++ [b] ++ l.drop (n + 1) = l.set n b := by
  rw [List.set_eq_take_append_cons_drop, if_pos h]
  simp
theorem put_step {t x : ByteArray} {F W : List UInt8} {Z : List Int} {m n : Nat} (hT : t.data.toList = putTo F Z W m) (hW : x.data.toList = W) (hn : Z.getD m 0 = (n : Int)) (h1 : n < t.size) (h2 : m < x.size) :
    (t.extract 0 n ++ x.extract m (m + 1) ++ t.extract (n + 1) t.size).data.toList = putTo F Z W (m + 1) := by
  rw [ByteArray.data_append, ByteArray.data_append, Array.toList_append, Array.toList_append, extract_one x m h2, ByteArray.data_extract, ByteArray.data_extract, Array.toList_extract, Array.toList_extract]
  have h3 : t.data.toList.length = t.size := size_list t
  rw [List.extract_eq_take_drop, List.extract_eq_take_drop]
  show _ = (putTo F Z W m).set (Z.getD m 0).toNat (W.getD m 0)
  rw [← hT, hn, Int.toNat_natCast, ← hW, getD_byte x m h2, ← set_split (by omega)]
  simp only [Nat.sub_zero, List.drop_zero]
  rw [List.take_of_length_le (l := t.data.toList.drop (n + 1)) (by rw [List.length_drop]; omega)]
theorem putF_no {g : Int × Int × ByteArray} {f x : ByteArray} {k : Int} (h : fitsP (patF g f k) x = false) : putF g f k x = (f, false) := by
  unfold putF
  rw [h]
  rfl
theorem putF_yes {g : Int × Int × ByteArray} {f x : ByteArray} {k : Int} (h : fitsP (patF g f k) x = true) : putF g f k x = (putS g f k x, true) := if_pos h
set_option maxRecDepth 100000 in
set_option maxHeartbeats 1600000 in
theorem spw_any (r c : Int) (s f : ByteArray) (k : Int) (x : ByteArray) (hs : s.size ≤ 4194304) (hf : f.size ≤ 4194304) (w : World) :
    Calls Tryd.prog 64 #[.agg #[.int .i64 r, .int .i64 c, .string s], .string f, .int .i64 k, .string x] w fun e w' => e = .returned (.tuple #[.string (putF (r, c, s) f k x).1, .bool (putF (r, c, s) f k x).2]) ∧ Below w.heap.size w w' := by
  have HSP := Lib.hid (fun w => spat_any r c s f k hs hf w)
  have HBX : Hid (Below w.heap.size w (w.alloc (.cells #[.int .i64 r, .int .i64 c, .string s] 48))) := Lib.hid ((Below.refl _ _).alloc (Nat.le_refl _) _)
  have HKP : Hid (∀ w', Below (w.alloc (.cells #[.int .i64 r, .int .i64 c, .string s] 48)).heap.size (w.alloc (.cells #[.int .i64 r, .int .i64 c, .string s] 48)) w' → w'.cell? ⟨w.heap.size, 0, none⟩ = some (.int .i64 r) ∧ w'.cell? ⟨w.heap.size, 1, none⟩ = some (.int .i64 c) ∧ w'.cell? ⟨w.heap.size, 2, none⟩ = some (.string s)) := Lib.hid (fun w' h => ⟨(box3_keep h).1, (box3_keep h).2.1, (box3_keep h).2.2.1⟩)
  have HFT := Lib.hid (fun w => sfits_any (patF (r, c, s) f k) x w)
  cases hp : fitsP (patF (r, c, s) f k) x with
  | false =>
    rw [hp] at HFT
    have HF := Lib.hid (putF_no hp)
    obtain ⟨P, hP⟩ : ∃ P, P = patF (r, c, s) f k := ⟨_, rfl⟩
    rw [← hP] at HSP HFT
    clear hp hP
    go_enter Tryd.func64, Tryd.ntmps64
    go_wp2_with (first | (go_at_call 58; refine (HSP.out _).mono ?_; rintro e w2 ⟨rfl, b2⟩; have HB2 := Lib.hid b2; clear b2) | (go_at_call 82; refine (HFT.out _).mono ?_; rintro e w3 ⟨rfl, b3⟩; have HB3 := Lib.hid (HB2.out.trans (b3.mono HB2.out.size)); clear b3))
    go_ret2
    exact ⟨by rw [HF.out]; rfl, HBX.out.trans (HB3.out.mono HBX.out.size)⟩
  | true =>
    rw [hp] at HFT
    have HF := Lib.hid (putF_yes hp)
    obtain ⟨i, Z, rfl, hi, hZ, hif, hw9, hn, hz, -, hl, -, hl6, -, hx⟩ := put_rec hp
    have HXE := Lib.hid hx
    have HZS : Hid (∀ m, m < Z.length → ∃ n : Nat, Z.getD m 0 = (n : Int) ∧ n < f.size) := Lib.hid (fun m hm => by
      obtain ⟨h1, h2⟩ := hz _ (getD_mem2 hm)
      exact ⟨(Z.getD m 0).toNat, by omega, by rw [← size_list]; exact h2⟩)
    have hf36 := (isF_parts hif).2.2.1
    have HSL := Lib.hid (fun w => ssl_any r c s hs w)
    have HC1 := Lib.hid (fun w => by
      have h := scl_any r c s ((slG (r, c, s)).getD i none_Slot).1 ((slG (r, c, s)).getD i none_Slot).2.1 ((slG (r, c, s)).getD i none_Slot).2.2.1 ((slG (r, c, s)).getD i none_Slot).2.2.2 hs w
      rw [show ((((slG (r, c, s)).getD i none_Slot).1, ((slG (r, c, s)).getD i none_Slot).2.1, ((slG (r, c, s)).getD i none_Slot).2.2.1, ((slG (r, c, s)).getD i none_Slot).2.2.2) : SlotV) = (slG (r, c, s)).getD i none_Slot from rfl, clG_in (getD_in hi)] at h
      exact h)
    simp only at hZ HC1
    rw [← hZ] at HC1
    obtain ⟨P, hP⟩ : ∃ P, P = patF (r, c, s) f (i : Int) := ⟨_, rfl⟩
    rw [← hP] at HSP HFT
    obtain ⟨l, hl9⟩ : ∃ l, l = slG (r, c, s) := ⟨_, rfl⟩
    rw [← hl9] at HSL HC1 hi
    have HSC0 : Hid (∀ (W : World) (base : Nat) (a0 : Option Addr) (cap : Nat), W.ownsRow base 88 4 (.slice a0 l.length cap) l.length (row_Slot l) → ∃ b, a0 = some ⟨b, 0, none⟩ ∧ W.cell? ⟨b, i * 4, none⟩ = some (.int .i64 (l.getD i none_Slot).1) ∧ W.cell? ⟨b, i * 4 + 1, none⟩ = some (.bool (l.getD i none_Slot).2.1) ∧ W.cell? ⟨b, i * 4 + 2, none⟩ = some (.int .i64 (l.getD i none_Slot).2.2.1) ∧ W.cell? ⟨b, i * 4 + 3, none⟩ = some (.int .i64 (l.getD i none_Slot).2.2.2)) := Lib.hid (fun W base a0 cap h => slot_cells h rfl i hi)
    have hxs : Z.length ≤ x.size := by omega
    obtain ⟨y, hy⟩ : ∃ y, y = l.getD i none_Slot := ⟨_, rfl⟩
    rw [← hy] at HC1 HSC0
    clear hp hP hl9 hy hZ hif hw9 hn hz hl hx
    obtain ⟨t0, t1, t2, t3⟩ := y
    simp only at HC1 HSC0
    have hi0 : (0 : Int) ≤ (i : Int) := by omega
    have hil : (i : Int) < (l.length : Int) := by omega
    go_enter Tryd.func64, Tryd.ntmps64
    go_wp2_with (first | (go_at_call 58; refine (HSP.out _).mono ?_; rintro e w2 ⟨rfl, b2⟩; have HB2 := Lib.hid b2; clear b2) | (go_at_call 82; refine (HFT.out _).mono ?_; rintro e w3 ⟨rfl, b3⟩; have HB3 := Lib.hid (HB2.out.trans (b3.mono HB2.out.size)); clear b3))
    have HGK : Hid (∀ W, Below w3.heap.size w3 W → W.cell? ⟨w.heap.size, 0, none⟩ = some (.int .i64 r) ∧ W.cell? ⟨w.heap.size, 1, none⟩ = some (.int .i64 c) ∧ W.cell? ⟨w.heap.size, 2, none⟩ = some (.string s)) := Lib.hid (fun W h => HKP.out _ (HB3.out.trans (h.mono HB3.out.size)))
    obtain ⟨g0, g1, g2⟩ := HGK.out _ (Below.refl _ _)
    clear HKP
    go_cut [10] (fun v wx => ∃ a6 cap6, v = .slice a6 Z.length cap6 ∧ Hid (wx.ownsRow w3.heap.size 3 1 (.slice a6 Z.length cap6) Z.length (Z.map (Value.int .i64))) ∧ Hid (Below w3.heap.size w3 wx))
    case first =>
      go_region_with (first | (go_at_call 55; refine Calls.mono (HSL.out _) ?_; rintro e w5 ⟨v5, rfl, o5, b5⟩; obtain ⟨a5, cap5, rfl⟩ := ownV_slice o5; have HB5 : Hid (Below w3.heap.size w3 w5) := Lib.hid (by first | exact b5 | exact ((Below.refl w3.heap.size w3).drew).trans b5); obtain ⟨bb, rfl, q0, q1, q2, q3⟩ := HSC0.out _ _ _ _ o5; obtain ⟨k0, k1, k2⟩ := HGK.out _ HB5.out; clear o5 b5) | (go_at_call 83; refine Calls.mono (HC1.out _) ?_; rintro e w6 ⟨v6, rfl, o6, b6⟩; obtain ⟨a6, cap6, rfl⟩ := ownV_slice o6; have HB6 : Hid (Below w3.heap.size w3 w6) := Lib.hid (by first | exact HB5.out.trans (b6.mono HB5.out.size) | exact (HB5.out.drew).trans (b6.mono HB5.out.size)); have HA6 := Lib.hid (own_widen o6 HB5.out.size); clear o6 b6))
      all_goals (go_wp2_with fail; go_meet; exact ⟨a6, cap6, rfl, HA6, HB6⟩)
    case rest =>
    obtain ⟨a6, cap6, rfl, HA6, HB6⟩ := hcut
    go_wp2_with fail
    have HB7 := Lib.hid (HBX.out.trans ((HB3.out.trans (HB6.out.mono HB3.out.size)).mono HBX.out.size))
    clear g0 g1 g2
    go_loopw [1, 11] (fun o i wr => ∃ (m : Nat) (t : ByteArray), m ≤ Z.length ∧ i = .int .i64 m ∧ o = .string t ∧ Hid (t.data.toList = putTo f.data.toList Z x.data.toList m) ∧ t.size = f.size ∧ Hid (wr.ownsRow w3.heap.size 3 1 (.slice a6 Z.length cap6) Z.length (Z.map (Value.int .i64))) ∧ Hid (Below w.heap.size w wr)) (fun _ i _ => Z.length - (intOf i).toNat)
    case atStart => exact ⟨0, f, Nat.zero_le _, rfl, rfl, Lib.hid rfl, rfl, HA6, HB7⟩
    case round =>
      clear HA6 HB7
      obtain ⟨m, t, hm, rfl, rfl, HT, ht, HA5, HB5⟩ := hrel
      by_cases hlt : m < Z.length
      · have hd : decide ((m : Int) < (Z.length : Int)) = true := decide_eq_true (by omega)
        have hd9 : decide (m < Z.length) = true := decide_eq_true hlt
        obtain ⟨bz, rfl, q0⟩ := cellI HA5.out rfl m hlt
        obtain ⟨n, hn, hns⟩ := HZS.out m hlt
        have hnt : n < t.size := by omega
        have HT2 := Lib.hid (put_step HT.out rfl hn hnt (show m < x.size by omega))
        have hts : (t.extract 0 n ++ x.extract m (m + 1) ++ t.extract (n + 1) t.size).size = f.size := by rw [ByteArray.size_append, ByteArray.size_append, ByteArray.size_extract, ByteArray.size_extract, ByteArray.size_extract]; omega
        rw [hn] at q0
        have hw1 : IntKind.i64.wrap ((n : Int) + 1) = (n : Int) + 1 := IntWalk.i64_in _ (by omega)
        have hw2 : IntKind.i64.wrap ((m : Int) + 1) = (m : Int) + 1 := IntWalk.i64_in _ (by omega)
        have b1 : (n : Int) ≤ (t.size : Int) := by omega
        have b2 : (n : Int) + 1 ≤ (t.size : Int) := by omega
        have b3 : (m : Int) + 1 ≤ (x.size : Int) := by omega
        have ht36 : t.size ≤ 36 := by omega
        have HTS := Lib.hid ht
        clear hn ht
        go_wp2
        go_quiet (fail)
        have HA6 : Hid ((wr.drewN nq).ownsRow w3.heap.size 3 1 (.slice (some ⟨bz, 0, none⟩) Z.length cap6) Z.length (Z.map (Value.int .i64))) := Lib.hid HA5.out
        all_goals go_wp2
        go_roundw
        case rel => exact ⟨m + 1, _, by omega, by go_num, rfl, HT2, hts, HA6, Lib.hid (below_drewN HB5.out _)⟩
        case measure => simp [intOf]; omega
      · have hd : decide ((m : Int) < (Z.length : Int)) = false := decide_eq_false (by omega)
        have hd9 : decide (m < Z.length) = false := decide_eq_false hlt
        have HV : Hid (t = putS (r, c, s) f (i : Int) x) := Lib.hid (by
          rw [HXE.out]
          refine str_ext ?_
          rw [HT.out, show m = Z.length by omega])
        go_wp2
        go_ret2
        exact ⟨by rw [HF.out, ← HV.out]; rfl, HB5.out⟩

theorem infoStF : (Tryd.prog.info? 9).map (fun i => (i.zero, i.size, i.bytes)) = some (some (.string ⟨#[]⟩), 1, 16) := by kernel_rfl
end Go.Proofs.YthgnhcjbjdhjfaaDoor
