/-
  The model's contracts of chapter 12: Support, l12Copy.
-/
import Derived.Test.YthgnhcjbjdhjfaaDomS
import Derived.Test.YthgnhcjbjdhjfaaAppW
import Derived.Test.YthgnhcjbjdhjfaaNestW
namespace Go.Proofs.Ythgnhcjbjdhjfaa
open Go.RowKit

/-- The boxed grid's cells at later worlds. -/
theorem gbox_keep (w : World) (r c : Int) (s : ByteArray) (t : TypeId) : ∀ w', Below (w.alloc (.cells #[.int .i64 r, .int .i64 c, .string s] t)).heap.size (w.alloc (.cells #[.int .i64 r, .int .i64 c, .string s] t)) w' → w'.cell? ⟨w.heap.size, 0, none⟩ = some (.int .i64 r) ∧ w'.cell? ⟨w.heap.size, 1, none⟩ = some (.int .i64 c) ∧ w'.cell? ⟨w.heap.size, 2, none⟩ = some (.string s) :=
  fun w' h => ⟨(h.cell (p := ⟨w.heap.size, 0, none⟩) (by simp)).trans (by simp), (h.cell (p := ⟨w.heap.size, 1, none⟩) (by simp)).trans (by simp), (h.cell (p := ⟨w.heap.size, 2, none⟩) (by simp)).trans (by simp)⟩
theorem xfor_cross (g : Int × Int × ByteArray) {slot : Nat} {x : ByteArray} (hl : (x.size : Int) = ((slG g).getD slot none_Slot).2.2.2) (hs : slot < (slG g).length) : XFor (crossS g) (slG g).length slot x.size := by
  intro y hy
  obtain ⟨i, j, p, r, q, rfl, -, hi, hj, hp, -, hr, -⟩ := cross_facts hy
  have h1 := (len_at hi).2
  have h2 := (len_at hj).2
  have h3 := (len_at hs).1
  exact ⟨i, j, p, r, q, rfl, hi, hj, by omega, by omega, fun e => by subst e; omega, fun e => by subst e; omega⟩
set_option maxRecDepth 100000 in
set_option maxHeartbeats 3200000 in
theorem ssup_any (r c : Int) (s : ByteArray) (D : List (List ByteArray)) (k : Int) (x : ByteArray) (hs : s.size ≤ 4194304) (hm : ∀ m ∈ D, m.length ≤ 1048576 ∧ ∀ z ∈ m, z.size ≤ 1048576) (v : Value) (w : World) (hv : ReadsN w.heap.size w v D) :
    Calls Try.prog 20 #[.agg #[.int .i64 r, .int .i64 c, .string s], v, .int .i64 k, .string x] w fun e w' => e = .returned (.bool (supF (r, c, s) D k x)) ∧ Below w.heap.size w w' := by
  have HSL := Lib.hid (fun w => ssl_any r c s hs w)
  have HCR := Lib.hid (fun w => scr_any r c s hs w)
  have HLEN := Lib.hid (slG_length (r, c, s))
  have HCL : Hid ((crossS (r, c, s)).length ≤ 16777216) := Lib.hid (by have := crossS_no_more (r, c, s); omega)
  have HXF := Lib.hid (fun h1 h2 => xfor_cross (r, c, s) (slot := k.toNat) (x := x) h1 h2)
  have HSU : Hid (supF (r, c, s) D k x = (decide (D.length = (slG (r, c, s)).length ∧ 0 ≤ k ∧ k < ((slG (r, c, s)).length : Int)) && okX (slG (r, c, s)) (crossS (r, c, s)) D k.toNat x)) := Lib.hid rfl
  have HKP := Lib.hid (gbox_keep w r c s 25)
  have HBX : Hid (Below w.heap.size w (w.alloc (.cells #[.int .i64 r, .int .i64 c, .string s] 25))) := Lib.hid ((Below.refl _ _).alloc (Nat.le_refl _) _)
  have HV := Lib.hid hv
  have HM := Lib.hid hm
  obtain ⟨a1, cap1, rfl⟩ : ∃ a0 cap, v = .slice a0 D.length cap := by obtain ⟨-, a0, cap, e, -⟩ := hv.cells; exact ⟨a0, cap, e⟩
  obtain ⟨l, hl⟩ : ∃ l, l = slG (r, c, s) := ⟨_, rfl⟩
  rw [← hl] at HSL HLEN HXF HSU
  obtain ⟨X, hX⟩ : ∃ X, X = crossS (r, c, s) := ⟨_, rfl⟩
  rw [← hX] at HCR HCL HXF HSU
  clear hl hX hv hm
  have hl72 := HLEN.out
  have HIW := Lib.hid (fun w => siw_any x w)
  have HWK : Hid (okX l X D k.toNat x = (isW x && decide ((x.size : Int) = (l.getD k.toNat none_Slot).2.2.2) && supM (meetS X k.toNat) D x)) := Lib.hid rfl
  obtain ⟨b, hb⟩ : ∃ b, b = isW x := ⟨_, rfl⟩
  rw [← hb] at HIW HWK
  clear hb
  go_enter Try.func20, Try.ntmps20
  go_wp2_with fail
  obtain ⟨W0, hW0⟩ : ∃ W0, W0 = w.alloc (.cells #[.int .i64 r, .int .i64 c, .string s] 25) := ⟨_, rfl⟩
  have hws : W0.heap.size = w.heap.size + 1 := by rw [hW0]; simp
  rw [← hW0] at HKP HBX ⊢
  clear hW0
  obtain ⟨d0, d1, d2⟩ := HKP.out _ (Below.refl _ _)
  by_cases h1 : D.length = l.length
  · have hne : ((D.length : Int) == (l.length : Int)) = true := by rw [h1]; exact beq_self_eq_true _
    have hnn : ((D.length : Int) != (l.length : Int)) = false := by rw [h1]; exact bne_self_eq_false _
    have hwl : IntKind.i64.wrap ((l.length : Int) - 1) = (l.length : Int) - 1 := by rw [IntKind.wrap_i64]; omega
    have H1 := Lib.hid h1
    clear h1
    by_cases h2 : 0 ≤ k ∧ k ≤ (l.length : Int) - 1
    · obtain ⟨n, rfl⟩ : ∃ n : Nat, k = (n : Int) := ⟨k.toNat, by omega⟩
      have hn : n < l.length := by omega
      rw [Int.toNat_natCast] at HWK HXF HSU
      rw [decide_eq_true (show D.length = l.length ∧ (0 : Int) ≤ n ∧ (n : Int) < (l.length : Int) from ⟨H1.out, by omega, by omega⟩), Bool.true_and, HWK.out] at HSU
      have H2 := Lib.hid h2
      clear h2
      cases b with
      | false =>
        have HF : Hid (supF (r, c, s) D n x = false) := Lib.hid (by rw [HSU.out]; rfl)
        clear HXF
        go_wp2_with (first | (go_at_call 46; refine (HSL.out _).mono ?_; rintro e w2 ⟨v2, rfl, o2, b2⟩; obtain ⟨a2, cap2, rfl⟩ := ownV_slice o2; have HB2 := Lib.hid (HBX.out.trans (b2.mono HBX.out.size)); clear o2 b2) | (go_at_call 47; refine (lin_yes _ _ _ H2.out.1 (by have := H2.out.2; omega) _).mono ?_; rintro e w3 ⟨rfl, rfl⟩) | (go_at_call 48; refine (HIW.out _).mono ?_; rintro e w4 ⟨rfl, b4⟩; have HB4 := Lib.hid (HB2.out.trans (b4.mono HB2.out.size)); clear b4))
        go_ret
        exact ⟨by rw [HF.out]; rfl, HB4.out⟩
      | true =>
        have HGD := Lib.hid hn
        by_cases h3 : (x.size : Int) = (l.getD n none_Slot).2.2.2
        · have HF : Hid (supF (r, c, s) D n x = supM (meetS X n) D x) := Lib.hid (by rw [HSU.out, decide_eq_true h3]; rfl)
          have HX := Lib.hid (HXF.out h3 hn)
          obtain ⟨y, hy⟩ : ∃ y, y = l.getD n none_Slot := ⟨_, rfl⟩
          have HY := Lib.hid hy
          rw [← hy] at h3
          have h3' : ((x.size : Int) == y.2.2.2) = true := by rw [h3]; exact beq_self_eq_true _
          have HSP : Hid (∀ (u : Value) (w : World), ReadsCrossing w.heap.size w u X → ReadsN w.heap.size w (.slice a1 D.length cap1) D → Calls Try.prog 49 #[u, .slice a1 D.length cap1, .int .i64 n, .string x] w fun e w' => e = .returned (.bool (supM (meetS X n) D x)) ∧ Below w.heap.size w w') := Lib.hid (fun u w h h' => sl12s_any X D n x HCL.out HM.out (by rw [H1.out]; exact HX.out) u _ w h h')
          obtain ⟨sp, hsp⟩ : ∃ sp, sp = supM (meetS X n) D x := ⟨_, rfl⟩
          rw [← hsp] at HSP HF
          clear hy h3 HXF HX hsp
          go_wp2_with (first | (go_at_call 46; refine (HSL.out _).mono ?_; rintro e w2 ⟨v2, rfl, o2, b2⟩; obtain ⟨a2, cap2, rfl⟩ := ownV_slice o2; have HB2 := Lib.hid (HBX.out.trans (b2.mono HBX.out.size)); have HT2 := Lib.hid b2; obtain ⟨bs, rfl, -, -, -, p3⟩ := slot_cells o2 rfl n HGD.out; rw [← HY.out] at p3; have hbs := World.block_lt_of_cell? w2 _ p3; clear o2 b2) | (go_at_call 47; refine (lin_yes _ _ _ H2.out.1 (by have := H2.out.2; omega) _).mono ?_; rintro e w3 ⟨rfl, rfl⟩) | (go_at_call 48; refine (HIW.out _).mono ?_; rintro e w4 ⟨rfl, b4⟩; have HB4 := Lib.hid (HB2.out.trans (b4.mono HB2.out.size)); have HT4 := Lib.hid (HT2.out.trans (b4.mono HT2.out.size)); have p3' := (b4.cell (p := ⟨bs, n * 4 + 3, none⟩) hbs).trans p3; obtain ⟨g0, g1, g2⟩ := HKP.out _ HT4.out; clear b4) | (go_at_call 50; refine (HCR.out _).mono ?_; rintro e w5 ⟨v5, rfl, o5, b5⟩; have HB5 := Lib.hid (HB4.out.trans (b5.mono HB4.out.size)); have HR5 := Lib.hid (reads_Crossing_own o5 rfl (by have := HCL.out; omega)); have HV5 := Lib.hid (HV.out.now HB5.out); clear o5 b5) | (go_at_call 49; refine (HSP.out _ _ HR5.out HV5.out).mono ?_; rintro e w6 ⟨rfl, b6⟩; have HB6 := Lib.hid (HB5.out.trans (b6.mono HB5.out.size)); clear b6))
          go_ret
          exact ⟨by rw [HF.out]; rfl, HB6.out⟩
        · have HF : Hid (supF (r, c, s) D n x = false) := Lib.hid (by rw [HSU.out, decide_eq_false h3]; rfl)
          obtain ⟨y, hy⟩ : ∃ y, y = l.getD n none_Slot := ⟨_, rfl⟩
          have HY := Lib.hid hy
          rw [← hy] at h3
          have h3' : ((x.size : Int) == y.2.2.2) = false := beq_eq_false_iff_ne.2 h3
          clear hy h3 HXF
          go_wp2_with (first | (go_at_call 46; refine (HSL.out _).mono ?_; rintro e w2 ⟨v2, rfl, o2, b2⟩; obtain ⟨a2, cap2, rfl⟩ := ownV_slice o2; have HB2 := Lib.hid (HBX.out.trans (b2.mono HBX.out.size)); obtain ⟨bs, rfl, -, -, -, p3⟩ := slot_cells o2 rfl n HGD.out; rw [← HY.out] at p3; have hbs := World.block_lt_of_cell? w2 _ p3; clear o2 b2) | (go_at_call 47; refine (lin_yes _ _ _ H2.out.1 (by have := H2.out.2; omega) _).mono ?_; rintro e w3 ⟨rfl, rfl⟩) | (go_at_call 48; refine (HIW.out _).mono ?_; rintro e w4 ⟨rfl, b4⟩; have HB4 := Lib.hid (HB2.out.trans (b4.mono HB2.out.size)); have p3' := (b4.cell (p := ⟨bs, n * 4 + 3, none⟩) hbs).trans p3; clear b4))
          go_ret
          exact ⟨by rw [HF.out]; rfl, HB4.out⟩
    · have HF : Hid (supF (r, c, s) D k x = false) := Lib.hid (by rw [HSU.out, decide_eq_false (fun h => h2 ⟨h.2.1, by omega⟩)]; rfl)
      have HNI := Lib.hid (fun w => lin_no k 0 ((l.length : Int) - 1) h2 w)
      clear h2 HXF
      go_wp2_with (first | (go_at_call 46; refine (HSL.out _).mono ?_; rintro e w2 ⟨v2, rfl, o2, b2⟩; obtain ⟨a2, cap2, rfl⟩ := ownV_slice o2; have HB2 := Lib.hid (HBX.out.trans (b2.mono HBX.out.size)); clear o2 b2) | (go_at_call 47; refine (HNI.out _).mono ?_; rintro e w3 ⟨rfl, rfl⟩))
      go_ret
      exact ⟨by rw [HF.out]; rfl, HB2.out⟩
  · have HF : Hid (supF (r, c, s) D k x = false) := Lib.hid (by rw [HSU.out, decide_eq_false (fun h => h1 h.1)]; rfl)
    have hne : ((D.length : Int) == (l.length : Int)) = false := beq_eq_false_iff_ne.2 (by omega)
    have hnn : ((D.length : Int) != (l.length : Int)) = true := by rw [bne, hne]; rfl
    clear h1 HXF
    go_wp2_with (first | (go_at_call 46; refine (HSL.out _).mono ?_; rintro e w2 ⟨v2, rfl, o2, b2⟩; obtain ⟨a2, cap2, rfl⟩ := ownV_slice o2; have HB2 := Lib.hid (HBX.out.trans (b2.mono HBX.out.size)); clear o2 b2))
    go_ret
    exact ⟨by rw [HF.out]; rfl, HB2.out⟩
end Go.Proofs.Ythgnhcjbjdhjfaa
