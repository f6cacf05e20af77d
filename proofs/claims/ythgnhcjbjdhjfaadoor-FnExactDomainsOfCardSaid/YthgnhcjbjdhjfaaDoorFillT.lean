/-
  The model's contracts of SlotPattern, PutWord, l11Open, IsFull, WordsIn.
-/
import Derived.Test.YthgnhcjbjdhjfaaDoorFillS
import Derived.Test.YthgnhcjbjdhjfaaDoorPatB
import Derived.Test.YthgnhcjbjdhjfaaDoorVals
import Derived.Deep.RegionHeld3
namespace Go.Proofs.YthgnhcjbjdhjfaaDoor
open Go.RowKit

theorem cellI {W : World} {base m cap : Nat} {e : TypeId} {a0 : Option Addr} {l : List Int} (h : W.ownsRow base e 1 (.slice a0 m cap) m (l.map (Value.int .i64))) (hn : m = l.length) (j : Nat) (hj : j < l.length) :
    ∃ b, a0 = some ⟨b, 0, none⟩ ∧ W.cell? ⟨b, j, none⟩ = some (.int .i64 (l.getD j 0)) := by
  subst hn
  rcases h.2 with ⟨e9, hl⟩ | ⟨g, cap', cur, e9, -⟩
  · exfalso
    injection e9 with _ e8 _
    omega
  · cases e9
    refine ⟨g, rfl, ?_⟩
    rw [h.cellAt j (by omega)]
    simp [List.getD, hj]
theorem opn_not {s : ByteArray} (h : ∀ b ∈ s.data.toList, b ≠ 63) : opn s = false := decide_eq_false (fun h2 => h _ h2 rfl)
theorem opn_yes {s : ByteArray} {k : Nat} (h : k < s.size) (h2 : s[k] = 63) : opn s = true := decide_eq_true (h2 ▸ byte_mem s k h)
theorem patF_no {g : Int × Int × ByteArray} {f : ByteArray} {k : Int} (h : ¬ (isF g f = true ∧ 0 ≤ k ∧ k < ((slG g).length : Int))) : patF g f k = ⟨#[]⟩ := by
  unfold patF
  rw [if_neg h]
theorem patL_next (F : List UInt8) (Z : List Int) {j : Nat} (h : j < Z.length) : patL F (Z.take (j + 1)) = patL F (Z.take j) ++ [F.getD (Z.getD j 0).toNat 0] := by
  unfold patL
  rw [List.take_succ_eq_append_getElem h, List.map_append, List.getD_eq_getElem?_getD (l := Z), List.getElem?_eq_getElem h]
  rfl
set_option maxRecDepth 100000 in
set_option maxHeartbeats 1600000 in
theorem spat_any (r c : Int) (s f : ByteArray) (k : Int) (hs : s.size ≤ 4194304) (hf : f.size ≤ 4194304) (w : World) :
    Calls Tryd.prog 58 #[.agg #[.int .i64 r, .int .i64 c, .string s], .string f, .int .i64 k] w fun e w' => e = .returned (.string (patF (r, c, s) f k)) ∧ Below w.heap.size w w' := by
  have HIF := Lib.hid (fun w => sisf_any r c s f hs hf w)
  have HSL := Lib.hid (fun w => ssl_any r c s hs w)
  have HLEN := Lib.hid (slG_length (r, c, s))
  have HBX : Hid (Below w.heap.size w (w.alloc (.cells #[.int .i64 r, .int .i64 c, .string s] 48))) := Lib.hid ((Below.refl _ _).alloc (Nat.le_refl _) _)
  have HKP : Hid (∀ w', Below (w.alloc (.cells #[.int .i64 r, .int .i64 c, .string s] 48)).heap.size (w.alloc (.cells #[.int .i64 r, .int .i64 c, .string s] 48)) w' → w'.cell? ⟨w.heap.size, 0, none⟩ = some (.int .i64 r) ∧ w'.cell? ⟨w.heap.size, 1, none⟩ = some (.int .i64 c) ∧ w'.cell? ⟨w.heap.size, 2, none⟩ = some (.string s)) := Lib.hid (fun w' h => ⟨(box3_keep h).1, (box3_keep h).2.1, (box3_keep h).2.2.1⟩)
  have HNO := Lib.hid (fun h => patF_no (g := (r, c, s)) (f := f) (k := k) h)
  obtain ⟨p, hp⟩ : ∃ p, p = isF (r, c, s) f := ⟨_, rfl⟩
  have HFA : Hid (p = true → f.size = s.size ∧ ∀ x ∈ slG (r, c, s), ∀ q ∈ cellsS c x, ∃ n : Nat, q = n ∧ n < s.size) := Lib.hid (fun h => by
    rw [hp] at h
    exact ⟨(isF_parts h).2.1, fun x hx q hq => by
      obtain ⟨n, h1, h2, -⟩ := cells_whF hx hq
      exact ⟨n, h1, h2⟩⟩)
  have HYES : Hid (∀ i : Nat, p = true → i < (slG (r, c, s)).length → patF (r, c, s) f (i : Int) = ⟨(patL f.data.toList (cellsS c ((slG (r, c, s)).getD i none_Slot))).toArray⟩) := Lib.hid (fun i h hi => patF_at (hp ▸ h) hi)
  have HCL := Lib.hid (fun (x : SlotV) (hx : x ∈ slG (r, c, s)) w => by
    have h := scl_any r c s x.1 x.2.1 x.2.2.1 x.2.2.2 hs w
    rw [show ((x.1, x.2.1, x.2.2.1, x.2.2.2) : SlotV) = x from rfl, clG_in hx] at h
    exact h)
  have HSM := Lib.hid (fun x hx => slG_small (g := (r, c, s)) (x := x) hx)
  rw [← hp] at HIF HNO
  clear hp
  obtain ⟨l, hl⟩ : ∃ l, l = slG (r, c, s) := ⟨_, rfl⟩
  rw [← hl] at HSL HLEN HFA HYES HCL HSM HNO
  clear hl
  have hl72 := HLEN.out
  have hw9 : IntKind.i64.wrap ((l.length : Int) - 1) = (l.length : Int) - 1 := by rw [IntKind.wrap_i64]; omega
  cases p with
  | false =>
    have HF : Hid (patF (r, c, s) f k = ⟨#[]⟩) := Lib.hid (HNO.out (fun h => by cases h.1))
    go_enter Tryd.func58, Tryd.ntmps58
    go_wp2_with (first | (go_at_call 55; refine (HSL.out _).mono ?_; rintro e w2 ⟨v2, rfl, o2, b2⟩; obtain ⟨a0, cap, rfl⟩ := ownV_slice o2; have HB2 := Lib.hid b2; obtain ⟨d0, d1, d2⟩ := HKP.out _ HB2.out; clear o2 b2) | (go_at_call 56; refine (HIF.out _).mono ?_; rintro e w3 ⟨rfl, b3⟩; have HB3 := Lib.hid (HB2.out.trans (b3.mono HB2.out.size)); clear b3))
    go_ret
    exact ⟨by rw [HF.out]; rfl, HBX.out.trans (HB3.out.mono HBX.out.size)⟩
  | true =>
    by_cases hin : 0 ≤ k ∧ k ≤ (l.length : Int) - 1
    · obtain ⟨j, rfl⟩ : ∃ j : Nat, k = j := ⟨k.toNat, by omega⟩
      have hj : j < l.length := by omega
      have HE := Lib.hid (HYES.out j rfl hj)
      obtain ⟨hfs, hq9⟩ := HFA.out rfl
      have HQ := Lib.hid (hq9 _ (getD_in hj))
      have HC1 := Lib.hid (HCL.out _ (getD_in hj))
      have HC6 : Hid ((cellsS c (l.getD j none_Slot)).length ≤ 6) := Lib.hid (by rw [cellsS_length]; have := (HSM.out _ (getD_in hj)).2.2.2.1; omega)
      have HIN := Lib.hid hin
      have HSC0 : Hid (∀ (W : World) (base : Nat) (a0 : Option Addr) (cap : Nat), W.ownsRow base 88 4 (.slice a0 l.length cap) l.length (row_Slot l) → ∃ b, a0 = some ⟨b, 0, none⟩ ∧ W.cell? ⟨b, j * 4, none⟩ = some (.int .i64 (l.getD j none_Slot).1) ∧ W.cell? ⟨b, j * 4 + 1, none⟩ = some (.bool (l.getD j none_Slot).2.1) ∧ W.cell? ⟨b, j * 4 + 2, none⟩ = some (.int .i64 (l.getD j none_Slot).2.2.1) ∧ W.cell? ⟨b, j * 4 + 3, none⟩ = some (.int .i64 (l.getD j none_Slot).2.2.2)) := Lib.hid (fun W base a0 cap h => slot_cells h rfl j hj)
      clear hin hq9 HYES HNO HFA HCL HSM
      obtain ⟨y, hy⟩ : ∃ y, y = l.getD j none_Slot := ⟨_, rfl⟩
      rw [← hy] at HE HQ HC1 HC6 HSC0
      clear hy
      obtain ⟨t0, t1, t2, t3⟩ := y
      obtain ⟨Z, hZ⟩ : ∃ Z, Z = cellsS c (t0, t1, t2, t3) := ⟨_, rfl⟩
      rw [← hZ] at HE HQ HC1 HC6
      clear hZ
      simp only at HC1 HSC0
      rw [HE.out]
      have hj0 : (0 : Int) ≤ (j : Int) := by omega
      have hz6 := HC6.out
      go_enter Tryd.func58, Tryd.ntmps58
      go_wp2_with (first | (go_at_call 55; refine (HSL.out _).mono ?_; rintro e w2 ⟨v2, rfl, o2, b2⟩; obtain ⟨a0, cap, rfl⟩ := ownV_slice o2; have HL2 := Lib.hid o2; have HB2 := Lib.hid b2; obtain ⟨d0, d1, d2⟩ := HKP.out _ HB2.out; clear o2 b2) | (go_at_call 56; refine (HIF.out _).mono ?_; rintro e w3 ⟨rfl, b3⟩; have HL3 := Lib.hid (ownV_later HL2.out b3); have HB3 := Lib.hid (HB2.out.trans (b3.mono HB2.out.size)); clear b3) | (go_at_call 79; refine (lin_yes (j : Int) _ _ HIN.out.1 HIN.out.2 _).mono ?_; rintro e w1 ⟨rfl, rfl⟩))
      obtain ⟨b, rfl, -⟩ := HSC0.out _ _ _ _ HL3.out
      have SOT : Hid (∀ W : World, Below w3.heap.size w3 W → (W.cell? ⟨w.heap.size, 0, none⟩ = some (.int .i64 r) ∧ W.cell? ⟨w.heap.size, 1, none⟩ = some (.int .i64 c) ∧ W.cell? ⟨w.heap.size, 2, none⟩ = some (.string s)) ∧ (W.cell? ⟨b, j * 4, none⟩ = some (.int .i64 t0) ∧ W.cell? ⟨b, j * 4 + 1, none⟩ = some (.bool t1) ∧ W.cell? ⟨b, j * 4 + 2, none⟩ = some (.int .i64 t2) ∧ W.cell? ⟨b, j * 4 + 3, none⟩ = some (.int .i64 t3))) := Lib.hid (fun W h => by
        refine ⟨HKP.out _ (HB3.out.trans (h.mono HB3.out.size)), ?_⟩
        obtain ⟨b9, e9, s0, s1, s2, s3⟩ := HSC0.out _ _ _ _ (ownV_later HL3.out h)
        injection e9 with e9; injection e9 with e9; subst e9
        exact ⟨s0, s1, s2, s3⟩)
      clear HL3 HL2 HSC0 HIF HSL HKP d0 d1 d2
      have hbn : Below w3.heap.size w3 w3 := Below.refl _ _
      go_region_held3 (fun W => (W.cell? ⟨w.heap.size, 0, none⟩ = some (.int .i64 r) ∧ W.cell? ⟨w.heap.size, 1, none⟩ = some (.int .i64 c) ∧ W.cell? ⟨w.heap.size, 2, none⟩ = some (.string s)) ∧ (W.cell? ⟨b, j * 4, none⟩ = some (.int .i64 t0) ∧ W.cell? ⟨b, j * 4 + 1, none⟩ = some (.bool t1) ∧ W.cell? ⟨b, j * 4 + 2, none⟩ = some (.int .i64 t2) ∧ W.cell? ⟨b, j * 4 + 3, none⟩ = some (.int .i64 t3))) (first | exact SOT.out _ hbn | exact SOT.out _ hbn.drew) (first | (go_at_call 83; refine Calls.mono (HC1.out _) ?_; rintro e w5 ⟨v5, rfl, o5, b5⟩; obtain ⟨a5, cap5, rfl⟩ := ownV_slice o5; have HA5 := Lib.hid (own_widen o5 (by first | exact hbn.size | exact hbn.drew.size)); have hbm : Below w3.heap.size w3 _ := (by first | exact hbn.trans (b5.mono hbn.size) | exact hbn.drew.trans (b5.mono hbn.drew.size) | exact hbn.drew.trans b5); clear hbn; have hbn := hbm; clear hbm b5; clear o5))
      all_goals go_wp2_with fail
      all_goals have HB5 := Lib.hid (HBX.out.trans ((HB3.out.trans (hbn.mono HB3.out.size)).mono HBX.out.size))
      all_goals clear hbn
      go_loopw [8, 10] (fun o i wr => ∃ (m : Nat) (t : ByteArray), m ≤ Z.length ∧ i = .int .i64 m ∧ o = .string t ∧ Hid (t.data.toList = patL f.data.toList (Z.take m)) ∧ t.size ≤ m ∧ Hid (wr.ownsRow w3.heap.size 3 1 (.slice a5 Z.length cap5) Z.length (Z.map (Value.int .i64))) ∧ Hid (Below w.heap.size w wr)) (fun _ i _ => Z.length - (intOf i).toNat)
      case atStart => exact ⟨0, ⟨#[]⟩, Nat.zero_le _, rfl, rfl, Lib.hid (by simp [patL]), by decide, HA5, HB5⟩
      case round =>
        clear HA5 HB5
        obtain ⟨m, t, hm, rfl, rfl, HT, ht, HA5, HB5⟩ := hrel
        by_cases hlt : m < Z.length
        · have hd : decide ((m : Int) < (Z.length : Int)) = true := decide_eq_true (by omega)
          have hd9 : decide (m < Z.length) = true := decide_eq_true hlt
          obtain ⟨bz, rfl, q0⟩ := cellI HA5.out rfl m hlt
          obtain ⟨n, hn, hns⟩ := HQ.out _ (getD_mem2 hlt)
          have HNX := Lib.hid (patL_next f.data.toList Z hlt)
          rw [hn] at q0 HNX
          have hnf : n < f.size := by omega
          have HT2 : Hid ((t ++ f.extract n (n + 1)).data.toList = patL f.data.toList (Z.take (m + 1))) := Lib.hid (by
            rw [snoc_list f t n hnf, HT.out, HNX.out, Int.toNat_natCast, getD_byte f n hnf])
          have hts : (t ++ f.extract n (n + 1)).size ≤ m + 1 := by rw [ByteArray.size_append, ByteArray.size_extract]; omega
          have hw1 : IntKind.i64.wrap ((n : Int) + 1) = (n : Int) + 1 := IntWalk.i64_in _ (by omega)
          clear hn HNX
          go_wp2
          go_quiet (fail)
          have HA6 : Hid ((wr.drewN nq).ownsRow w3.heap.size 3 1 (.slice (some ⟨bz, 0, none⟩) Z.length cap5) Z.length (Z.map (Value.int .i64))) := Lib.hid HA5.out
          all_goals go_wp2
          go_roundw
          case rel => exact ⟨m + 1, _, by omega, by go_num, rfl, HT2, hts, HA6, Lib.hid (below_drewN HB5.out _)⟩
          case measure => simp [intOf]; omega
        · have hd : decide ((m : Int) < (Z.length : Int)) = false := decide_eq_false (by omega)
          have hd9 : decide (m < Z.length) = false := decide_eq_false hlt
          have HV : Hid (t = ⟨(patL f.data.toList Z).toArray⟩) := Lib.hid (str_ext (by rw [HT.out, List.take_of_length_le (by omega)]))
          go_wp2
          go_ret
          exact ⟨by rw [← HV.out]; rfl, HB5.out⟩
    · have HF : Hid (patF (r, c, s) f k = ⟨#[]⟩) := Lib.hid (HNO.out (fun h => hin ⟨h.2.1, by have := h.2.2; omega⟩))
      have HN := Lib.hid hin
      clear hin
      go_enter Tryd.func58, Tryd.ntmps58
      go_wp2_with (first | (go_at_call 55; refine (HSL.out _).mono ?_; rintro e w2 ⟨v2, rfl, o2, b2⟩; obtain ⟨a0, cap, rfl⟩ := ownV_slice o2; have HB2 := Lib.hid b2; obtain ⟨d0, d1, d2⟩ := HKP.out _ HB2.out; clear o2 b2) | (go_at_call 56; refine (HIF.out _).mono ?_; rintro e w3 ⟨rfl, b3⟩; have HB3 := Lib.hid (HB2.out.trans (b3.mono HB2.out.size)); clear b3) | (go_at_call 79; refine (lin_no k _ _ HN.out _).mono ?_; rintro e w1 ⟨rfl, rfl⟩))
      go_ret
      exact ⟨by rw [HF.out]; rfl, HBX.out.trans (HB3.out.mono HBX.out.size)⟩
end Go.Proofs.YthgnhcjbjdhjfaaDoor
