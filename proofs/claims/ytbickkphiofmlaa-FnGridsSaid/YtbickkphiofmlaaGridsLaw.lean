/-
  The walk of the law FnGrids: true at every byte slice.
-/
import Derived.Test.YtbickkphiofmlaaDrawGrid3
import Derived.Test.YtbickkphiofmlaaGridImpl
import Derived.Test.YtbickkphiofmlaaSame
import Derived.Deep.RegionWith
import Derived.Deep.DeepCutAuto
import Derived.Deep.RegionLaw
import Derived.Deep.CutRange
import Derived.BigQuiet
import Derived.IntWalk
namespace Go.Proofs.Ytbickkphiofmlaa.fnGrids
open Go.RowKit

theorem text_no {g : Int × Int × ByteArray} (h : isG g = false) : parseG (textG g) = ((0, 0, ⟨#[]⟩), false) := by
  have hT : textG g = ⟨#[]⟩ := by unfold textG; rw [h]; rfl
  rw [hT]
  decide +kernel
theorem turn_turn {g : Int × Int × ByteArray} (h : isG g = true) : isG (turnG g) = true ∧ turnG (turnG g) = g ∧ symG (turnG g) = symG g := by
  have hs := isG_size h
  have h1 : turnG g = (g.1, g.2.1, backL g.2.2) := by unfold turnG; rw [if_pos h]
  have h2 : isG (g.1, g.2.1, backL g.2.2) = true := by
    obtain ⟨a, b, c, d⟩ := of_decide_eq_true h
    exact decide_eq_true ⟨a, b, by show ((backL g.2.2).size : Int) = _; rw [back_size (by omega)]; exact c, fun x hx => by
      have hx2 : x ∈ (backL g.2.2).data.toList := hx
      rw [back_list (by omega)] at hx2
      exact d x (List.mem_reverse.1 hx2)⟩
  rw [h1]
  refine ⟨h2, ?_, ?_⟩
  · unfold turnG
    rw [if_pos h2]
    show (g.1, g.2.1, backL (backL g.2.2)) = g
    rw [back_back (by omega)]
  · unfold symG
    rw [h, h2]
    show (true && decide (backL (backL g.2.2) = backL g.2.2)) = _
    rw [back_back (by omega)]
    congr 1
    exact decide_eq_decide.2 ⟨fun e => e.symm, fun e => e.symm⟩
theorem white_turn {g : Int × Int × ByteArray} {k : Int} (h : isWh g k = true) : isG g = true ∧ isWh (turnG g) ((g.2.2.size : Int) - 1 - k) = true := by
  unfold isWh at h
  rw [Bool.and_eq_true, Bool.and_eq_true] at h
  obtain ⟨⟨h1, h2⟩, h3⟩ := h
  obtain ⟨hk0, hk1⟩ := of_decide_eq_true h2
  have h46 := of_decide_eq_true h3
  have hs := isG_size h1
  refine ⟨h1, ?_⟩
  have ht := (turn_turn h1).1
  have e1 : turnG g = (g.1, g.2.1, backL g.2.2) := by unfold turnG; rw [if_pos h1]
  rw [e1] at ht ⊢
  unfold isWh
  rw [ht]
  have hz : (backL g.2.2).size = g.2.2.size := back_size (by omega)
  rw [decide_eq_true (show 0 ≤ (g.2.2.size : Int) - 1 - k ∧ (g.2.2.size : Int) - 1 - k ≤ ((backL g.2.2).size : Int) - 1 by rw [hz]; omega), Bool.true_and, Bool.true_and]
  refine decide_eq_true ?_
  show (backL g.2.2).data.toList.getD ((g.2.2.size : Int) - 1 - k).toNat 0 = 46
  have hl : g.2.2.data.toList.length = g.2.2.size := size_list _
  rw [back_list (by omega), List.getD_eq_getElem?_getD, List.getElem?_reverse (by omega), hl, show g.2.2.size - 1 - ((g.2.2.size : Int) - 1 - k).toNat = k.toNat by omega, ← List.getD_eq_getElem?_getD]
  exact h46

set_option maxRecDepth 100000 in
set_option maxHeartbeats 6400000 in
theorem walk (v0 : Value) (l0 : List Int) (w : World) (hR : Reads w.heap.size w v0 .u8 l0) (hB : ∀ z ∈ l0, 0 ≤ z ∧ z ≤ 255) :
    Calls Try.prog 3 #[v0] w fun e w' => e = .returned (.bool true) ∧ Below w.heap.size w w' := by
  obtain ⟨a0, cap, rfl⟩ : ∃ a0 cap, v0 = .slice a0 l0.length cap := ⟨hR.2.choose, hR.2.choose_spec.choose, hR.2.choose_spec.choose_spec.1⟩
  have hc := code_of_reads hR rfl hB
  clear hR hB
  by_cases hbig : 1048576 < l0.length
  · go_enter Try.func3, Try.ntmps3
    go_wp2_with (go_at_call 10; refine (big_yes l0.length cap a0 hbig _).mono ?_; rintro e w1 ⟨rfl, rfl⟩)
    go_ret
    exact ⟨rfl, Below.refl _ _⟩
  · have hn : l0.length ≤ 1048576 := by omega
    have HCO := Lib.hid hc
    go_enter Try.func3, Try.ntmps3
    go_wp2_with (first | (go_at_call 10; refine (big_no l0.length cap a0 (by omega) _).mono ?_; rintro e w0 ⟨rfl, rfl⟩) | (go_at_call 11; refine (dig_any l0.length cap a0 _ hc (by omega)).mono ?_; rintro e w1 ⟨r, c, s, qr, qc, hs, rfl, b1⟩; have HB1 := Lib.hid b1; clear b1 hc hbig))
    have HIG := Lib.hid (fun w => iisg_any r c s (by omega) w)
    have HSG := Lib.hid (fun w => sisg_any r c s (by omega) w)
    have HTX := Lib.hid (fun w => itext_any r c s (by omega) w)
    have ht42 := textG_size (r, c, s)
    have HPG := Lib.hid (fun w => iparse_any (textG (r, c, s)) (by omega) w)
    have HTT := Lib.hid (fun h => @turn_turn (r, c, s) h)
    have HPY : Hid (isG (r, c, s) = true → parseG (textG (r, c, s)) = ((r, c, s), true)) := Lib.hid (fun h => parse_text h)
    have HPN : Hid (isG (r, c, s) = false → parseG (textG (r, c, s)) = ((0, 0, ⟨#[]⟩), false)) := Lib.hid (fun h => text_no h)
    obtain ⟨T, hT⟩ : ∃ T, T = textG (r, c, s) := ⟨_, rfl⟩
    rw [← hT] at HTX HPG HPY HPN
    clear hT ht42
    obtain ⟨p, hp⟩ : ∃ p, p = isG (r, c, s) := ⟨_, rfl⟩
    rw [← hp] at HIG HSG HTT HPY HPN
    clear hp
    cases p with
    | false =>
      rw [HPN.out rfl] at HPG
      clear HPY HPN
      go_upto_region 5 with (first | (go_at_call 13; refine (HTX.out _).mono ?_; rintro e w2 ⟨rfl, b2⟩; have HB2 := Lib.hid ((HB1.out.alloc HB1.out.size _).trans (b2.mono (HB1.out.alloc HB1.out.size _).size)); have HG2 := Lib.hid ((b2.block w1.heap.size (by simp)).trans (new_block w1 _)); clear b2) | (go_at_call 12; refine (HPG.out _).mono ?_; rintro e w3 ⟨rfl, b3⟩; simp only [aggG]; have HB3 := Lib.hid (HB2.out.trans (b3.mono HB2.out.size)); have HG3 := Lib.hid ((b3.block w1.heap.size (size_of_heap HG2.out)).trans HG2.out); clear b3))
      obtain ⟨W4, hW4⟩ : ∃ W4, W4 = w3.alloc (.cells #[.int .i64 0, .int .i64 0, .string ⟨#[]⟩] 25) := ⟨_, rfl⟩
      have HB4 : Hid (Below w.heap.size w W4) := Lib.hid (by rw [hW4]; exact HB3.out.alloc HB3.out.size _)
      have HG4 : Hid (W4.heap[w1.heap.size]? = some (.cells #[.int .i64 r, .int .i64 c, .string s] 25)) := Lib.hid (by rw [hW4]; exact (Below.heap_alloc _ _ _ (size_of_heap HG3.out)).trans HG3.out)
      have HX4 : Hid (W4.heap[w3.heap.size]? = some (.cells #[.int .i64 0, .int .i64 0, .string ⟨#[]⟩] 25)) := Lib.hid (by rw [hW4]; exact new_block w3 _)
      have HGX : Hid (∀ wx, Below W4.heap.size W4 wx → wx.heap[w1.heap.size]? = some (.cells #[.int .i64 r, .int .i64 c, .string s] 25) ∧ wx.heap[w3.heap.size]? = some (.cells #[.int .i64 0, .int .i64 0, .string ⟨#[]⟩] 25)) := Lib.hid (fun wx h => ⟨(h.block _ (size_of_heap HG4.out)).trans HG4.out, (h.block _ (size_of_heap HX4.out)).trans HX4.out⟩)
      rw [← hW4]
      clear hW4 HB1 HB2 HB3 HG2 HG3 HG4 HX4 HTX HPG
      go_cut [25] (fun v wx => v = .bool false ∧ Hid (Below W4.heap.size W4 wx))
      case first =>
        obtain ⟨x0, x1, x2, fx0, fx1, fx2⟩ := cells3 (HGX.out _ (Below.refl _ _)).1
        have HB0 : Hid (Below W4.heap.size W4 W4.drew) := Lib.hid (Below.refl _ _).drew
        go_region_with (first | (go_at_call 14; refine (HIG.out _).mono ?_; rintro e w5 ⟨rfl, b5⟩; have HB5 := Lib.hid (btrans HB0.out b5); clear b5; obtain ⟨x0, x1, x2, fx0, fx1, fx2⟩ := cells3 (HGX.out _ HB5.out).1; obtain ⟨z0, z1, z2, y0, y1, y2⟩ := cells3 (HGX.out _ HB5.out).2) | (go_at_call 15; refine (HSG.out _).mono ?_; rintro e w6 ⟨rfl, b6⟩; have HB6 := Lib.hid (btrans HB5.out b6); clear b6; obtain ⟨x0, x1, x2, fx0, fx1, fx2⟩ := cells3 (HGX.out _ HB6.out).1; obtain ⟨z0, z1, z2, y0, y1, y2⟩ := cells3 (HGX.out _ HB6.out).2))
        all_goals (go_wp2_with fail; go_meet; exact ⟨rfl, HB6⟩)
      case rest =>
        obtain ⟨rfl, HC1⟩ := hcut
        clear HSG
        obtain ⟨x0, x1, x2, fx0, fx1, fx2⟩ := cells3 (HGX.out _ HC1.out).1
        obtain ⟨z0, z1, z2, y0, y1, y2⟩ := cells3 (HGX.out _ HC1.out).2
        go_upto_region 9 with (go_at_call 14; refine (HIG.out _).mono ?_; rintro e w7 ⟨rfl, b7⟩; have HB7 := Lib.hid (btrans HC1.out b7); clear b7; obtain ⟨x0, x1, x2, fx0, fx1, fx2⟩ := cells3 (HGX.out _ HB7.out).1; obtain ⟨z0, z1, z2, y0, y1, y2⟩ := cells3 (HGX.out _ HB7.out).2)
        go_cut [53] (fun v wx => v = .bool false ∧ Hid (Below W4.heap.size W4 wx))
        case first =>
          obtain ⟨W7, hW7⟩ : ∃ W7, W7 = World.drew w7 := ⟨_, rfl⟩
          refine wp_region_any (by kernel_rfl) ?_
          try (change wpAny _ _ _ _ _ _ _ (World.drew _))
          rw [← hW7]
          have HBW : Hid (Below W4.heap.size W4 W7) := Lib.hid (by rw [hW7]; exact HB7.out.drew)
          clear hW7
          refine wpAny_take (i := 0) (v := Value.bool false) rfl (by kernel_rfl) (by kernel_rfl) (by kernel_rfl) (fun _ _ _ h => h) (Or.inl ⟨by kernel_rfl, by intro w9; go_simp; all_goals rfl⟩) ?_
          refine wpAny_take (i := 1) (v := Value.bool false) rfl (by kernel_rfl) (by kernel_rfl) (by kernel_rfl) (fun _ _ _ h => h) (Or.inl ⟨by kernel_rfl, by intro w9; go_simp; all_goals rfl⟩) ?_
          refine wpAny_take (i := 2) (v := undef) rfl (by kernel_rfl) (by kernel_rfl) (by kernel_rfl) (fun _ _ _ h => h) (Or.inr ⟨by kernel_rfl, rfl⟩) ?_
          refine wpAny_take (i := 3) (v := undef) rfl (by kernel_rfl) (by kernel_rfl) (by kernel_rfl) (fun _ _ _ h => h) (Or.inr ⟨by kernel_rfl, rfl⟩) ?_
          refine wpAny_take (i := 4) (v := undef) rfl (by kernel_rfl) (by kernel_rfl) (by kernel_rfl) (fun _ _ _ h => h) (Or.inr ⟨by kernel_rfl, rfl⟩) ?_
          refine wpAny_take (i := 5) (v := undef) rfl (by kernel_rfl) (by kernel_rfl) (by kernel_rfl) (fun _ _ _ h => h) (Or.inr ⟨by kernel_rfl, rfl⟩) ?_
          refine wpAny_take (i := 6) (v := undef) rfl (by kernel_rfl) (by kernel_rfl) (by kernel_rfl) (fun _ _ _ h => h) (Or.inr ⟨by kernel_rfl, rfl⟩) ?_
          refine wpAny_take (i := 7) (v := undef) rfl (by kernel_rfl) (by kernel_rfl) (by kernel_rfl) (fun _ _ _ h => h) (Or.inr ⟨by kernel_rfl, rfl⟩) ?_
          refine wpAny_take (i := 8) (v := undef) rfl (by kernel_rfl) (by kernel_rfl) (by kernel_rfl) (fun _ _ _ h => h) (Or.inr ⟨by kernel_rfl, rfl⟩) ?_
          refine wpAny_take (i := 9) (v := undef) rfl (by kernel_rfl) (by kernel_rfl) (by kernel_rfl) (fun _ _ _ h => h) (Or.inr ⟨by kernel_rfl, rfl⟩) ?_
          refine wpAny_take (i := 10) (v := undef) rfl (by kernel_rfl) (by kernel_rfl) (by kernel_rfl) (fun _ _ _ h => h) (Or.inr ⟨by kernel_rfl, rfl⟩) ?_
          refine wpAny_take (i := 11) (v := undef) rfl (by kernel_rfl) (by kernel_rfl) (by kernel_rfl) (fun _ _ _ h => h) (Or.inr ⟨by kernel_rfl, rfl⟩) ?_
          refine wpAny_take (i := 12) (v := undef) rfl (by kernel_rfl) (by kernel_rfl) (by kernel_rfl) (fun _ _ _ h => h) (Or.inr ⟨by kernel_rfl, rfl⟩) ?_
          refine wpAny_take (i := 13) (v := undef) rfl (by kernel_rfl) (by kernel_rfl) (by kernel_rfl) (fun _ _ _ h => h) (Or.inr ⟨by kernel_rfl, rfl⟩) ?_
          refine wpAny_take (i := 14) (v := undef) rfl (by kernel_rfl) (by kernel_rfl) (by kernel_rfl) (fun _ _ _ h => h) (Or.inr ⟨by kernel_rfl, rfl⟩) ?_
          refine wpAny_ready (rs := [15]) (by kernel_rfl) (by simp) ?_
          refine AllReady.cons rfl (fun K hK => ?_) AllReady.nil
          go_simp
          refine hK _ _ ?_
          clear hK K
          refine wpAny_done (by kernel_rfl) ?_ _
          go_wp2_with fail
          go_meet
          exact ⟨rfl, HBW⟩
        case rest =>
          obtain ⟨rfl, HC2⟩ := hcut
          have HCD := Lib.hid (code_later HCO.out (HB4.out.trans (HC2.out.mono HB4.out.size)))
          have HBA : Hid (Below w.heap.size w wc) := Lib.hid (HB4.out.trans (HC2.out.mono HB4.out.size))
          clear HTT HIG HC1 HC2 HGX HB4 HB7
          go_upto_region 13 with (first | (go_at_call 18; refine (dpg_any l0.length cap a0 _ HCD.out hn).mono ?_; rintro e w13 ⟨u, hu50, rfl, b13⟩; have HB13 := Lib.hid (HBA.out.trans (b13.mono HBA.out.size)); have HPU := Lib.hid (fun w => iparse_any u (by omega) w); have HUY := Lib.hid (@parse_yes u); obtain ⟨⟨⟨r5, c5, s5⟩, fine⟩, hf⟩ : ∃ y, y = parseG u := ⟨_, rfl⟩; rw [← hf] at HPU HUY; clear hf b13) | (go_at_call 12; refine (HPU.out _).mono ?_; rintro e w14 ⟨rfl, b14⟩; simp only [aggG]; have HB14 := Lib.hid (HB13.out.trans (b14.mono HB13.out.size)); clear b14))
          obtain ⟨W15, hW15⟩ : ∃ W15, W15 = w14.alloc (.cells #[.int .i64 r5, .int .i64 c5, .string s5] 25) := ⟨_, rfl⟩
          have HB15 : Hid (Below w.heap.size w W15) := Lib.hid (by rw [hW15]; exact HB14.out.alloc HB14.out.size _)
          have HY15 : Hid (W15.heap[w14.heap.size]? = some (.cells #[.int .i64 r5, .int .i64 c5, .string s5] 25)) := Lib.hid (by rw [hW15]; exact new_block w14 _)
          rw [← hW15]
          clear hW15 HPU HCD HBA HB13 HB14
          go_cut [67] (fun v wx => v = .bool false ∧ Hid (Below W15.heap.size W15 wx))
          case first =>
            obtain ⟨x0, x1, x2, fx0, fx1, fx2⟩ := cells3 HY15.out
            have HBO : Hid (Below W15.heap.size W15 W15) := Lib.hid (Below.refl _ _)
            cases fine with
            | false =>
              go_wp2_with fail
              go_meet
              exact ⟨rfl, HBO⟩
            | true =>
              have hy := HUY.out rfl
              have hy5 := isG_size hy.1
              dsimp only at hy5
              have HT5 := Lib.hid (fun w => itext_any r5 c5 s5 (by omega) w)
              rw [hy.2] at HT5
              clear hy hy5
              go_wp2_with (go_at_call 13; refine (HT5.out _).mono ?_; rintro e w16 ⟨rfl, b16⟩; have HBP := Lib.hid (btrans HBO.out b16); clear b16)
              go_meet
              exact ⟨by simp, HBP⟩
          case rest =>
            obtain ⟨rfl, HC3⟩ := hcut
            have HBB : Hid (Below w.heap.size w wc) := Lib.hid (HB15.out.trans (HC3.out.mono HB15.out.size))
            have HCE := Lib.hid (code_later HCO.out HBB.out)
            clear HUY HY15 HB15 HC3 HCO
            go_upto_region 16 with (go_at_call 19; refine (diwh_any l0.length cap a0 _ HCE.out hn).mono ?_; rintro e w16 ⟨r3, c3, s3, k, qr3, qc3, hs3, hk3, rfl, b16⟩; have HBC := Lib.hid (HBB.out.trans (b16.mono HBB.out.size)); clear b16)
            obtain ⟨W17, hW17⟩ : ∃ W17, W17 = w16.alloc (.cells #[.int .i64 r3, .int .i64 c3, .string s3] 25) := ⟨_, rfl⟩
            have HB16 : Hid (Below w.heap.size w W17) := Lib.hid (by rw [hW17]; exact HBC.out.alloc HBC.out.size _)
            have HH17 : Hid (W17.heap[w16.heap.size]? = some (.cells #[.int .i64 r3, .int .i64 c3, .string s3] 25)) := Lib.hid (by rw [hW17]; exact new_block w16 _)
            have HHX : Hid (∀ wx, Below W17.heap.size W17 wx → wx.heap[w16.heap.size]? = some (.cells #[.int .i64 r3, .int .i64 c3, .string s3] 25)) := Lib.hid (fun wx h => (h.block _ (size_of_heap HH17.out)).trans HH17.out)
            rw [← hW17]
            clear hW17 HBB HBC HCE HH17
            have HWA := Lib.hid (fun w => iiswh_any r3 c3 s3 k (by omega) w)
            obtain ⟨b, hb⟩ : ∃ b, b = isWh (r3, c3, s3) k := ⟨_, rfl⟩
            rw [← hb] at HWA
            cases b with
            | false =>
              clear hb
              obtain ⟨W7, hW7⟩ : ∃ W7, W7 = World.drew W17 := ⟨_, rfl⟩
              refine wp_region_any (by kernel_rfl) ?_
              try (change wpAny _ _ _ _ _ _ _ (World.drew _))
              rw [← hW7]
              have HB17 : Hid (Below W17.heap.size W17 W7) := Lib.hid (by rw [hW7]; exact (Below.refl _ _).drew)
              clear hW7
              obtain ⟨x0, x1, x2, fx0, fx1, fx2⟩ := cells3 (HHX.out _ HB17.out)
              refine wpAny_take (i := 1) (v := Value.int IntKind.i64 k) rfl (by kernel_rfl) (by kernel_rfl) (by kernel_rfl) (fun _ _ _ h => h) (Or.inl ⟨by kernel_rfl, by intro w9; go_simp; all_goals rfl⟩) ?_
              refine wpAny_ready (rs := [0]) (by kernel_rfl) (by simp) ?_
              refine AllReady.cons rfl (fun K hK => ?_) AllReady.nil
              go_simp
              refine hK _ _ ?_
              clear hK K
              refine wpAny_ready (rs := [2]) (by kernel_rfl) (by simp) ?_
              refine AllReady.cons rfl (fun K hK => ?_) AllReady.nil
              go_simp
              go_wp2_with (go_at_call 20; refine (HWA.out _).mono ?_; rintro e w18 ⟨rfl, b18⟩; have HB18 := Lib.hid (btrans HB17.out b18); clear b18; obtain ⟨x0, x1, x2, fx0, fx1, fx2⟩ := cells3 (HHX.out _ HB18.out))
              refine wpAny_ready (rs := [3]) (by kernel_rfl) (by simp) ?_
              refine AllReady.cons rfl (fun K hK => ?_) AllReady.nil
              go_simp
              refine hK _ _ ?_
              clear hK K
              refine wpAny_ready (rs := [4]) (by kernel_rfl) (by simp) ?_
              refine AllReady.cons rfl (fun K hK => ?_) AllReady.nil
              go_simp
              refine hK _ _ ?_
              clear hK K
              refine wpAny_take (i := 5) (v := undef) rfl (by kernel_rfl) (by kernel_rfl) (by kernel_rfl) (fun _ _ _ h => h) (Or.inr ⟨by kernel_rfl, rfl⟩) ?_
              refine wpAny_take (i := 6) (v := undef) rfl (by kernel_rfl) (by kernel_rfl) (by kernel_rfl) (fun _ _ _ h => h) (Or.inr ⟨by kernel_rfl, rfl⟩) ?_
              refine wpAny_take (i := 7) (v := undef) rfl (by kernel_rfl) (by kernel_rfl) (by kernel_rfl) (fun _ _ _ h => h) (Or.inr ⟨by kernel_rfl, rfl⟩) ?_
              refine wpAny_take (i := 8) (v := undef) rfl (by kernel_rfl) (by kernel_rfl) (by kernel_rfl) (fun _ _ _ h => h) (Or.inr ⟨by kernel_rfl, rfl⟩) ?_
              refine wpAny_take (i := 9) (v := undef) rfl (by kernel_rfl) (by kernel_rfl) (by kernel_rfl) (fun _ _ _ h => h) (Or.inr ⟨by kernel_rfl, rfl⟩) ?_
              refine wpAny_take (i := 10) (v := undef) rfl (by kernel_rfl) (by kernel_rfl) (by kernel_rfl) (fun _ _ _ h => h) (Or.inr ⟨by kernel_rfl, rfl⟩) ?_
              refine wpAny_take (i := 11) (v := undef) rfl (by kernel_rfl) (by kernel_rfl) (by kernel_rfl) (fun _ _ _ h => h) (Or.inr ⟨by kernel_rfl, rfl⟩) ?_
              refine wpAny_take (i := 12) (v := undef) rfl (by kernel_rfl) (by kernel_rfl) (by kernel_rfl) (fun _ _ _ h => h) (Or.inr ⟨by kernel_rfl, rfl⟩) ?_
              refine wpAny_take (i := 13) (v := undef) rfl (by kernel_rfl) (by kernel_rfl) (by kernel_rfl) (fun _ _ _ h => h) (Or.inr ⟨by kernel_rfl, rfl⟩) ?_
              refine wpAny_take (i := 14) (v := undef) rfl (by kernel_rfl) (by kernel_rfl) (by kernel_rfl) (fun _ _ _ h => h) (Or.inr ⟨by kernel_rfl, rfl⟩) ?_
              refine wpAny_take (i := 15) (v := undef) rfl (by kernel_rfl) (by kernel_rfl) (by kernel_rfl) (fun _ _ _ h => h) (Or.inr ⟨by kernel_rfl, rfl⟩) ?_
              refine wpAny_take (i := 16) (v := undef) rfl (by kernel_rfl) (by kernel_rfl) (by kernel_rfl) (fun _ _ _ h => h) (Or.inr ⟨by kernel_rfl, rfl⟩) ?_
              refine wpAny_take (i := 17) (v := undef) rfl (by kernel_rfl) (by kernel_rfl) (by kernel_rfl) (fun _ _ _ h => h) (Or.inr ⟨by kernel_rfl, rfl⟩) ?_
              refine wpAny_ready (rs := [18]) (by kernel_rfl) (by simp) ?_
              refine AllReady.cons rfl (fun K hK => ?_) AllReady.nil
              go_simp
              refine hK _ _ ?_
              clear hK K
              refine wpAny_ready (rs := [19]) (by kernel_rfl) (by simp) ?_
              refine AllReady.cons rfl (fun K hK => ?_) AllReady.nil
              go_simp
              refine hK _ _ ?_
              clear hK K
              refine wpAny_done (by kernel_rfl) ?_ _
              go_wp2_with fail
              go_ret
              exact ⟨rfl, HB16.out.trans (HB18.out.mono HB16.out.size)⟩
            | true =>
              have hwt := white_turn hb.symm
              have hisy := isG_size (turn_turn hwt.1).1
              have HGA := Lib.hid (fun w => iisg_any r3 c3 s3 (by omega) w)
              have HTA := Lib.hid (fun w => iturn_any r3 c3 s3 (by omega) w)
              obtain ⟨⟨r4, c4, s4⟩, hy⟩ : ∃ y, y = turnG (r3, c3, s3) := ⟨_, rfl⟩
              rw [← hy] at HTA hwt hisy
              dsimp only at hisy hwt
              have HWB := Lib.hid (fun w => iiswh_any r4 c4 s4 ((s3.size : Int) - 1 - k) (by omega) w)
              rw [hwt.2] at HWB
              rw [hwt.1] at HGA
              have hv1 : IntKind.i64.wrap ((s3.size : Int) - 1) = (s3.size : Int) - 1 := IntWalk.i64_in _ (by omega)
              have hv2 : IntKind.i64.wrap ((s3.size : Int) - 1 - k) = (s3.size : Int) - 1 - k := IntWalk.i64_in _ (by omega)
              clear hwt hisy hy hb
              obtain ⟨W7, hW7⟩ : ∃ W7, W7 = World.drew W17 := ⟨_, rfl⟩
              refine wp_region_any (by kernel_rfl) ?_
              try (change wpAny _ _ _ _ _ _ _ (World.drew _))
              rw [← hW7]
              have HB17 : Hid (Below W17.heap.size W17 W7) := Lib.hid (by rw [hW7]; exact (Below.refl _ _).drew)
              clear hW7
              obtain ⟨x0, x1, x2, fx0, fx1, fx2⟩ := cells3 (HHX.out _ HB17.out)
              refine wpAny_take (i := 1) (v := Value.int IntKind.i64 k) rfl (by kernel_rfl) (by kernel_rfl) (by kernel_rfl) (fun _ _ _ h => h) (Or.inl ⟨by kernel_rfl, by intro w9; go_simp; all_goals rfl⟩) ?_
              refine wpAny_ready (rs := [0]) (by kernel_rfl) (by simp) ?_
              refine AllReady.cons rfl (fun K hK => ?_) AllReady.nil
              go_simp
              refine hK _ _ ?_
              clear hK K
              refine wpAny_ready (rs := [2]) (by kernel_rfl) (by simp) ?_
              refine AllReady.cons rfl (fun K hK => ?_) AllReady.nil
              go_simp
              go_wp2_with (go_at_call 20; refine (HWA.out _).mono ?_; rintro e w18 ⟨rfl, b18⟩; have HB18 := Lib.hid (btrans HB17.out b18); clear b18; obtain ⟨x0, x1, x2, fx0, fx1, fx2⟩ := cells3 (HHX.out _ HB18.out))
              refine wpAny_ready (rs := [3]) (by kernel_rfl) (by simp) ?_
              refine AllReady.cons rfl (fun K hK => ?_) AllReady.nil
              go_simp
              refine hK _ _ ?_
              clear hK K
              refine wpAny_ready (rs := [4]) (by kernel_rfl) (by simp) ?_
              refine AllReady.cons rfl (fun K hK => ?_) AllReady.nil
              go_simp
              refine hK _ _ ?_
              clear hK K
              refine wpAny_ready (rs := [5]) (by kernel_rfl) (by simp) ?_
              refine AllReady.cons rfl (fun K hK => ?_) AllReady.nil
              go_simp
              refine hK _ _ ?_
              clear hK K
              refine wpAny_ready (rs := [6]) (by kernel_rfl) (by simp) ?_
              refine AllReady.cons rfl (fun K hK => ?_) AllReady.nil
              go_simp
              go_wp2_with (go_at_call 14; refine (HGA.out _).mono ?_; rintro e w19 ⟨rfl, b19⟩; have HB19 := Lib.hid (btrans HB18.out b19); clear b19; obtain ⟨x0, x1, x2, fx0, fx1, fx2⟩ := cells3 (HHX.out _ HB19.out))
              refine wpAny_ready (rs := [7]) (by kernel_rfl) (by simp) ?_
              refine AllReady.cons rfl (fun K hK => ?_) AllReady.nil
              go_simp
              refine hK _ _ ?_
              clear hK K
              refine wpAny_take (i := 10) (v := Value.pointer (some { block := w16.heap.size, off := 2 })) rfl (by kernel_rfl) (by kernel_rfl) (by kernel_rfl) (fun _ _ _ h => h) (Or.inl ⟨by kernel_rfl, by intro w9; go_simp; all_goals rfl⟩) ?_
              refine wpAny_take (i := 14) (v := Value.int IntKind.i64 k) rfl (by kernel_rfl) (by kernel_rfl) (by kernel_rfl) (fun _ _ _ h => h) (Or.inl ⟨by kernel_rfl, by intro w9; go_simp; all_goals rfl⟩) ?_
              refine wpAny_ready (rs := [8, 11]) (by kernel_rfl) (by simp) ?_
              refine AllReady.cons rfl (fun K hK => ?_) (AllReady.cons rfl (fun K hK => ?_) (AllReady.nil))
              · go_simp
                refine hK _ _ ?_
                clear hK K
                refine wpAny_ready (rs := [9, 11]) (by kernel_rfl) (by simp) ?_
                refine AllReady.cons rfl (fun K hK => ?_) (AllReady.cons rfl (fun K hK => ?_) (AllReady.nil))
                · go_simp
                  go_wp2_with (go_at_call 16; refine (HTA.out _).mono ?_; rintro e w20 ⟨rfl, b20⟩; simp only [aggG]; have HB20 := Lib.hid (btrans HB19.out b20); clear b20; obtain ⟨x0, x1, x2, fx0, fx1, fx2⟩ := cells3 (HHX.out _ HB20.out))
                  refine wpAny_ready (rs := [11]) (by kernel_rfl) (by simp) ?_
                  refine AllReady.cons rfl (fun K hK => ?_) AllReady.nil
                  go_simp
                  refine hK _ _ ?_
                  clear hK K
                  refine wpAny_take (i := 12) (v := Value.int IntKind.i64 (s3.size : Int)) rfl (by kernel_rfl) (by kernel_rfl) (by kernel_rfl) (fun _ _ _ h => h) (Or.inl ⟨by kernel_rfl, by intro w9; go_simp; all_goals rfl⟩) ?_
                  refine wpAny_take (i := 13) (v := Value.int IntKind.i64 ((s3.size : Int) - 1)) rfl (by kernel_rfl) (by kernel_rfl) (by kernel_rfl) (fun _ _ _ h => h) (Or.inl ⟨by kernel_rfl, by intro w9; go_simp; all_goals rfl⟩) ?_
                  refine wpAny_take (i := 15) (v := Value.int IntKind.i64 ((s3.size : Int) - 1 - k)) rfl (by kernel_rfl) (by kernel_rfl) (by kernel_rfl) (fun _ _ _ h => h) (Or.inl ⟨by kernel_rfl, by intro w9; go_simp; all_goals rfl⟩) ?_
                  refine wpAny_ready (rs := [16]) (by kernel_rfl) (by simp) ?_
                  refine AllReady.cons rfl (fun K hK => ?_) AllReady.nil
                  go_simp
                  go_wp2_with (go_at_call 20; refine (HWB.out _).mono ?_; rintro e w21 ⟨rfl, b21⟩; have HB21 := Lib.hid (btrans HB20.out b21); clear b21; obtain ⟨x0, x1, x2, fx0, fx1, fx2⟩ := cells3 (HHX.out _ HB21.out))
                  refine wpAny_ready (rs := [17]) (by kernel_rfl) (by simp) ?_
                  refine AllReady.cons rfl (fun K hK => ?_) AllReady.nil
                  go_simp
                  refine hK _ _ ?_
                  clear hK K
                  refine wpAny_ready (rs := [18]) (by kernel_rfl) (by simp) ?_
                  refine AllReady.cons rfl (fun K hK => ?_) AllReady.nil
                  go_simp
                  refine hK _ _ ?_
                  clear hK K
                  refine wpAny_ready (rs := [19]) (by kernel_rfl) (by simp) ?_
                  refine AllReady.cons rfl (fun K hK => ?_) AllReady.nil
                  go_simp
                  refine hK _ _ ?_
                  clear hK K
                  refine wpAny_done (by kernel_rfl) ?_ _
                  go_wp2_with fail
                  go_ret
                  exact ⟨rfl, HB16.out.trans (HB21.out.mono HB16.out.size)⟩
                · go_simp
                  refine hK _ _ ?_
                  clear hK K
                  refine wpAny_take (i := 12) (v := Value.int IntKind.i64 (s3.size : Int)) rfl (by kernel_rfl) (by kernel_rfl) (by kernel_rfl) (fun _ _ _ h => h) (Or.inl ⟨by kernel_rfl, by intro w9; go_simp; all_goals rfl⟩) ?_
                  refine wpAny_take (i := 13) (v := Value.int IntKind.i64 ((s3.size : Int) - 1)) rfl (by kernel_rfl) (by kernel_rfl) (by kernel_rfl) (fun _ _ _ h => h) (Or.inl ⟨by kernel_rfl, by intro w9; go_simp; all_goals rfl⟩) ?_
                  refine wpAny_take (i := 15) (v := Value.int IntKind.i64 ((s3.size : Int) - 1 - k)) rfl (by kernel_rfl) (by kernel_rfl) (by kernel_rfl) (fun _ _ _ h => h) (Or.inl ⟨by kernel_rfl, by intro w9; go_simp; all_goals rfl⟩) ?_
                  refine wpAny_ready (rs := [9]) (by kernel_rfl) (by simp) ?_
                  refine AllReady.cons rfl (fun K hK => ?_) AllReady.nil
                  go_simp
                  go_wp2_with (go_at_call 16; refine (HTA.out _).mono ?_; rintro e w20 ⟨rfl, b20⟩; simp only [aggG]; have HB20 := Lib.hid (btrans HB19.out b20); clear b20; obtain ⟨x0, x1, x2, fx0, fx1, fx2⟩ := cells3 (HHX.out _ HB20.out))
                  refine wpAny_ready (rs := [16]) (by kernel_rfl) (by simp) ?_
                  refine AllReady.cons rfl (fun K hK => ?_) AllReady.nil
                  go_simp
                  go_wp2_with (go_at_call 20; refine (HWB.out _).mono ?_; rintro e w21 ⟨rfl, b21⟩; have HB21 := Lib.hid (btrans HB20.out b21); clear b21; obtain ⟨x0, x1, x2, fx0, fx1, fx2⟩ := cells3 (HHX.out _ HB21.out))
                  refine wpAny_ready (rs := [17]) (by kernel_rfl) (by simp) ?_
                  refine AllReady.cons rfl (fun K hK => ?_) AllReady.nil
                  go_simp
                  refine hK _ _ ?_
                  clear hK K
                  refine wpAny_ready (rs := [18]) (by kernel_rfl) (by simp) ?_
                  refine AllReady.cons rfl (fun K hK => ?_) AllReady.nil
                  go_simp
                  refine hK _ _ ?_
                  clear hK K
                  refine wpAny_ready (rs := [19]) (by kernel_rfl) (by simp) ?_
                  refine AllReady.cons rfl (fun K hK => ?_) AllReady.nil
                  go_simp
                  refine hK _ _ ?_
                  clear hK K
                  refine wpAny_done (by kernel_rfl) ?_ _
                  go_wp2_with fail
                  go_ret
                  exact ⟨rfl, HB16.out.trans (HB21.out.mono HB16.out.size)⟩
              · go_simp
                refine hK _ _ ?_
                clear hK K
                refine wpAny_take (i := 12) (v := Value.int IntKind.i64 (s3.size : Int)) rfl (by kernel_rfl) (by kernel_rfl) (by kernel_rfl) (fun _ _ _ h => h) (Or.inl ⟨by kernel_rfl, by intro w9; go_simp; all_goals rfl⟩) ?_
                refine wpAny_take (i := 13) (v := Value.int IntKind.i64 ((s3.size : Int) - 1)) rfl (by kernel_rfl) (by kernel_rfl) (by kernel_rfl) (fun _ _ _ h => h) (Or.inl ⟨by kernel_rfl, by intro w9; go_simp; all_goals rfl⟩) ?_
                refine wpAny_take (i := 15) (v := Value.int IntKind.i64 ((s3.size : Int) - 1 - k)) rfl (by kernel_rfl) (by kernel_rfl) (by kernel_rfl) (fun _ _ _ h => h) (Or.inl ⟨by kernel_rfl, by intro w9; go_simp; all_goals rfl⟩) ?_
                refine wpAny_ready (rs := [8]) (by kernel_rfl) (by simp) ?_
                refine AllReady.cons rfl (fun K hK => ?_) AllReady.nil
                go_simp
                refine hK _ _ ?_
                clear hK K
                refine wpAny_ready (rs := [9]) (by kernel_rfl) (by simp) ?_
                refine AllReady.cons rfl (fun K hK => ?_) AllReady.nil
                go_simp
                go_wp2_with (go_at_call 16; refine (HTA.out _).mono ?_; rintro e w20 ⟨rfl, b20⟩; simp only [aggG]; have HB20 := Lib.hid (btrans HB19.out b20); clear b20; obtain ⟨x0, x1, x2, fx0, fx1, fx2⟩ := cells3 (HHX.out _ HB20.out))
                refine wpAny_ready (rs := [16]) (by kernel_rfl) (by simp) ?_
                refine AllReady.cons rfl (fun K hK => ?_) AllReady.nil
                go_simp
                go_wp2_with (go_at_call 20; refine (HWB.out _).mono ?_; rintro e w21 ⟨rfl, b21⟩; have HB21 := Lib.hid (btrans HB20.out b21); clear b21; obtain ⟨x0, x1, x2, fx0, fx1, fx2⟩ := cells3 (HHX.out _ HB21.out))
                refine wpAny_ready (rs := [17]) (by kernel_rfl) (by simp) ?_
                refine AllReady.cons rfl (fun K hK => ?_) AllReady.nil
                go_simp
                refine hK _ _ ?_
                clear hK K
                refine wpAny_ready (rs := [18]) (by kernel_rfl) (by simp) ?_
                refine AllReady.cons rfl (fun K hK => ?_) AllReady.nil
                go_simp
                refine hK _ _ ?_
                clear hK K
                refine wpAny_ready (rs := [19]) (by kernel_rfl) (by simp) ?_
                refine AllReady.cons rfl (fun K hK => ?_) AllReady.nil
                go_simp
                refine hK _ _ ?_
                clear hK K
                refine wpAny_done (by kernel_rfl) ?_ _
                go_wp2_with fail
                go_ret
                exact ⟨rfl, HB16.out.trans (HB21.out.mono HB16.out.size)⟩
    | true =>
      rw [HPY.out rfl] at HPG
      clear HPY HPN
      go_upto_region 5 with (first | (go_at_call 13; refine (HTX.out _).mono ?_; rintro e w2 ⟨rfl, b2⟩; have HB2 := Lib.hid ((HB1.out.alloc HB1.out.size _).trans (b2.mono (HB1.out.alloc HB1.out.size _).size)); have HG2 := Lib.hid ((b2.block w1.heap.size (by simp)).trans (new_block w1 _)); clear b2) | (go_at_call 12; refine (HPG.out _).mono ?_; rintro e w3 ⟨rfl, b3⟩; simp only [aggG]; have HB3 := Lib.hid (HB2.out.trans (b3.mono HB2.out.size)); have HG3 := Lib.hid ((b3.block w1.heap.size (size_of_heap HG2.out)).trans HG2.out); clear b3))
      obtain ⟨W4, hW4⟩ : ∃ W4, W4 = w3.alloc (.cells #[.int .i64 r, .int .i64 c, .string s] 25) := ⟨_, rfl⟩
      have HB4 : Hid (Below w.heap.size w W4) := Lib.hid (by rw [hW4]; exact HB3.out.alloc HB3.out.size _)
      have HG4 : Hid (W4.heap[w1.heap.size]? = some (.cells #[.int .i64 r, .int .i64 c, .string s] 25)) := Lib.hid (by rw [hW4]; exact (Below.heap_alloc _ _ _ (size_of_heap HG3.out)).trans HG3.out)
      have HX4 : Hid (W4.heap[w3.heap.size]? = some (.cells #[.int .i64 r, .int .i64 c, .string s] 25)) := Lib.hid (by rw [hW4]; exact new_block w3 _)
      have HGX : Hid (∀ wx, Below W4.heap.size W4 wx → wx.heap[w1.heap.size]? = some (.cells #[.int .i64 r, .int .i64 c, .string s] 25) ∧ wx.heap[w3.heap.size]? = some (.cells #[.int .i64 r, .int .i64 c, .string s] 25)) := Lib.hid (fun wx h => ⟨(h.block _ (size_of_heap HG4.out)).trans HG4.out, (h.block _ (size_of_heap HX4.out)).trans HX4.out⟩)
      rw [← hW4]
      clear hW4 HB1 HB2 HB3 HG2 HG3 HG4 HX4 HTX HPG
      go_cut [25] (fun v wx => v = .bool false ∧ Hid (Below W4.heap.size W4 wx))
      case first =>
        obtain ⟨x0, x1, x2, fx0, fx1, fx2⟩ := cells3 (HGX.out _ (Below.refl _ _)).1
        have HB0 : Hid (Below W4.heap.size W4 W4.drew) := Lib.hid (Below.refl _ _).drew
        go_region_with (first | (go_at_call 14; refine (HIG.out _).mono ?_; rintro e w5 ⟨rfl, b5⟩; have HB5 := Lib.hid (btrans HB0.out b5); clear b5; obtain ⟨x0, x1, x2, fx0, fx1, fx2⟩ := cells3 (HGX.out _ HB5.out).1; obtain ⟨z0, z1, z2, y0, y1, y2⟩ := cells3 (HGX.out _ HB5.out).2) | (go_at_call 15; refine (HSG.out _).mono ?_; rintro e w6 ⟨rfl, b6⟩; have HB6 := Lib.hid (btrans HB5.out b6); clear b6; obtain ⟨x0, x1, x2, fx0, fx1, fx2⟩ := cells3 (HGX.out _ HB6.out).1; obtain ⟨z0, z1, z2, y0, y1, y2⟩ := cells3 (HGX.out _ HB6.out).2))
        all_goals (go_wp2_with fail; go_meet; exact ⟨rfl, HB6⟩)
      case rest =>
        obtain ⟨rfl, HC1⟩ := hcut
        clear HSG
        obtain ⟨x0, x1, x2, fx0, fx1, fx2⟩ := cells3 (HGX.out _ HC1.out).1
        obtain ⟨z0, z1, z2, y0, y1, y2⟩ := cells3 (HGX.out _ HC1.out).2
        go_upto_region 9 with (go_at_call 14; refine (HIG.out _).mono ?_; rintro e w7 ⟨rfl, b7⟩; have HB7 := Lib.hid (btrans HC1.out b7); clear b7; obtain ⟨x0, x1, x2, fx0, fx1, fx2⟩ := cells3 (HGX.out _ HB7.out).1; obtain ⟨z0, z1, z2, y0, y1, y2⟩ := cells3 (HGX.out _ HB7.out).2)
        go_cut [53] (fun v wx => v = .bool false ∧ Hid (Below W4.heap.size W4 wx))
        case first =>
          have ht := HTT.out trivial
          have hisy := isG_size ht.1
          have HT1 := Lib.hid (fun w => iturn_any r c s (by omega) w)
          have HS1 := Lib.hid (fun w => isym_any r c s (by omega) w)
          obtain ⟨⟨r2, c2, s2⟩, hy⟩ : ∃ y, y = turnG (r, c, s) := ⟨_, rfl⟩
          rw [← hy] at HT1 ht hisy
          dsimp only at hisy
          have HT2 := Lib.hid (fun w => iturn_any r2 c2 s2 (by omega) w)
          have HS2 := Lib.hid (fun w => isym_any r2 c2 s2 (by omega) w)
          rw [ht.2.1] at HT2
          rw [ht.2.2] at HS2
          obtain ⟨q, hq⟩ : ∃ q, q = symG (r, c, s) := ⟨_, rfl⟩
          rw [← hq] at HS1 HS2
          have hqq : (q != q) = false := by cases q <;> rfl
          clear ht hy hq hisy
          obtain ⟨W7, hW7⟩ : ∃ W7, W7 = World.drew w7 := ⟨_, rfl⟩
          refine wp_region_any (by kernel_rfl) ?_
          try (change wpAny _ _ _ _ _ _ _ (World.drew _))
          rw [← hW7]
          have HBW : Hid (Below W4.heap.size W4 W7) := Lib.hid (by rw [hW7]; exact HB7.out.drew)
          clear hW7 x0 x1 x2 fx0 fx1 fx2 z0 z1 z2 y0 y1 y2
          obtain ⟨x0, x1, x2, fx0, fx1, fx2⟩ := cells3 (HGX.out _ HBW.out).1
          refine wpAny_take (i := 0) (v := Value.bool true) rfl (by kernel_rfl) (by kernel_rfl) (by kernel_rfl) (fun _ _ _ h => h) (Or.inl ⟨by kernel_rfl, by intro w9; go_simp; all_goals rfl⟩) ?_
          refine wpAny_take (i := 1) (v := Value.bool true) rfl (by kernel_rfl) (by kernel_rfl) (by kernel_rfl) (fun _ _ _ h => h) (Or.inl ⟨by kernel_rfl, by intro w9; go_simp; all_goals rfl⟩) ?_
          refine wpAny_ready (rs := [2, 5]) (by kernel_rfl) (by simp) ?_
          refine AllReady.cons rfl (fun K hK => ?_) (AllReady.cons rfl (fun K hK => ?_) (AllReady.nil))
          · go_simp
            refine hK _ _ ?_
            clear hK K
            refine wpAny_ready (rs := [3, 5]) (by kernel_rfl) (by simp) ?_
            refine AllReady.cons rfl (fun K hK => ?_) (AllReady.cons rfl (fun K hK => ?_) (AllReady.nil))
            · go_simp
              go_wp2_with (go_at_call 16; refine (HT1.out _).mono ?_; rintro e w8 ⟨rfl, b8⟩; simp only [aggG]; have HB8 := Lib.hid (btrans HBW.out b8); clear b8; obtain ⟨x0, x1, x2, fx0, fx1, fx2⟩ := cells3 (HGX.out _ HB8.out).1)
              refine wpAny_ready (rs := [4, 5]) (by kernel_rfl) (by simp) ?_
              refine AllReady.cons rfl (fun K hK => ?_) (AllReady.cons rfl (fun K hK => ?_) (AllReady.nil))
              · go_simp
                go_wp2_with (go_at_call 16; refine (HT2.out _).mono ?_; rintro e w9 ⟨rfl, b9⟩; simp only [aggG]; have HB9 := Lib.hid (btrans HB8.out b9); clear b9; obtain ⟨x0, x1, x2, fx0, fx1, fx2⟩ := cells3 (HGX.out _ HB9.out).1)
                refine wpAny_ready (rs := [5]) (by kernel_rfl) (by simp) ?_
                refine AllReady.cons rfl (fun K hK => ?_) AllReady.nil
                go_simp
                refine hK _ _ ?_
                clear hK K
                refine wpAny_ready (rs := [6]) (by kernel_rfl) (by simp) ?_
                refine AllReady.cons rfl (fun K hK => ?_) AllReady.nil
                go_simp
                refine hK _ _ ?_
                clear hK K
                refine wpAny_ready (rs := [7]) (by kernel_rfl) (by simp) ?_
                refine AllReady.cons rfl (fun K hK => ?_) AllReady.nil
                go_simp
                refine hK _ _ ?_
                clear hK K
                refine wpAny_ready (rs := [8, 10]) (by kernel_rfl) (by simp) ?_
                refine AllReady.cons rfl (fun K hK => ?_) (AllReady.cons rfl (fun K hK => ?_) (AllReady.nil))
                · go_simp
                  refine hK _ _ ?_
                  clear hK K
                  refine wpAny_ready (rs := [9, 10]) (by kernel_rfl) (by simp) ?_
                  refine AllReady.cons rfl (fun K hK => ?_) (AllReady.cons rfl (fun K hK => ?_) (AllReady.nil))
                  · go_simp
                    go_wp2_with (go_at_call 17; refine (HS1.out _).mono ?_; rintro e w10 ⟨rfl, b10⟩; have HB10 := Lib.hid (btrans HB9.out b10); clear b10; obtain ⟨x0, x1, x2, fx0, fx1, fx2⟩ := cells3 (HGX.out _ HB10.out).1)
                    refine wpAny_ready (rs := [10]) (by kernel_rfl) (by simp) ?_
                    refine AllReady.cons rfl (fun K hK => ?_) AllReady.nil
                    go_simp
                    refine hK _ _ ?_
                    clear hK K
                    refine wpAny_ready (rs := [11]) (by kernel_rfl) (by simp) ?_
                    refine AllReady.cons rfl (fun K hK => ?_) AllReady.nil
                    go_simp
                    go_wp2_with (go_at_call 16; refine (HT1.out _).mono ?_; rintro e w11 ⟨rfl, b11⟩; simp only [aggG]; have HB11 := Lib.hid (btrans HB10.out b11); clear b11; obtain ⟨x0, x1, x2, fx0, fx1, fx2⟩ := cells3 (HGX.out _ HB11.out).1)
                    refine wpAny_ready (rs := [12]) (by kernel_rfl) (by simp) ?_
                    refine AllReady.cons rfl (fun K hK => ?_) AllReady.nil
                    go_simp
                    go_wp2_with (go_at_call 17; refine (HS2.out _).mono ?_; rintro e w12 ⟨rfl, b12⟩; have HB12 := Lib.hid (btrans HB11.out b12); clear b12; obtain ⟨x0, x1, x2, fx0, fx1, fx2⟩ := cells3 (HGX.out _ HB12.out).1)
                    refine wpAny_ready (rs := [13]) (by kernel_rfl) (by simp) ?_
                    refine AllReady.cons rfl (fun K hK => ?_) AllReady.nil
                    go_simp
                    refine hK _ _ ?_
                    clear hK K
                    refine wpAny_ready (rs := [14]) (by kernel_rfl) (by simp) ?_
                    refine AllReady.cons rfl (fun K hK => ?_) AllReady.nil
                    go_simp
                    refine hK _ _ ?_
                    clear hK K
                    refine wpAny_ready (rs := [15]) (by kernel_rfl) (by simp) ?_
                    refine AllReady.cons rfl (fun K hK => ?_) AllReady.nil
                    go_simp
                    refine hK _ _ ?_
                    clear hK K
                    refine wpAny_done (by kernel_rfl) ?_ _
                    go_wp2_with fail
                    go_meet
                    exact ⟨rfl, HB12⟩
                  · go_simp
                    refine hK _ _ ?_
                    clear hK K
                    refine wpAny_ready (rs := [9]) (by kernel_rfl) (by simp) ?_
                    refine AllReady.cons rfl (fun K hK => ?_) AllReady.nil
                    go_simp
                    go_wp2_with (go_at_call 17; refine (HS1.out _).mono ?_; rintro e w10 ⟨rfl, b10⟩; have HB10 := Lib.hid (btrans HB9.out b10); clear b10; obtain ⟨x0, x1, x2, fx0, fx1, fx2⟩ := cells3 (HGX.out _ HB10.out).1)
                    refine wpAny_ready (rs := [11]) (by kernel_rfl) (by simp) ?_
                    refine AllReady.cons rfl (fun K hK => ?_) AllReady.nil
                    go_simp
                    go_wp2_with (go_at_call 16; refine (HT1.out _).mono ?_; rintro e w11 ⟨rfl, b11⟩; simp only [aggG]; have HB11 := Lib.hid (btrans HB10.out b11); clear b11; obtain ⟨x0, x1, x2, fx0, fx1, fx2⟩ := cells3 (HGX.out _ HB11.out).1)
                    refine wpAny_ready (rs := [12]) (by kernel_rfl) (by simp) ?_
                    refine AllReady.cons rfl (fun K hK => ?_) AllReady.nil
                    go_simp
                    go_wp2_with (go_at_call 17; refine (HS2.out _).mono ?_; rintro e w12 ⟨rfl, b12⟩; have HB12 := Lib.hid (btrans HB11.out b12); clear b12; obtain ⟨x0, x1, x2, fx0, fx1, fx2⟩ := cells3 (HGX.out _ HB12.out).1)
                    refine wpAny_ready (rs := [13]) (by kernel_rfl) (by simp) ?_
                    refine AllReady.cons rfl (fun K hK => ?_) AllReady.nil
                    go_simp
                    refine hK _ _ ?_
                    clear hK K
                    refine wpAny_ready (rs := [14]) (by kernel_rfl) (by simp) ?_
                    refine AllReady.cons rfl (fun K hK => ?_) AllReady.nil
                    go_simp
                    refine hK _ _ ?_
                    clear hK K
                    refine wpAny_ready (rs := [15]) (by kernel_rfl) (by simp) ?_
                    refine AllReady.cons rfl (fun K hK => ?_) AllReady.nil
                    go_simp
                    refine hK _ _ ?_
                    clear hK K
                    refine wpAny_done (by kernel_rfl) ?_ _
                    go_wp2_with fail
                    go_meet
                    exact ⟨rfl, HB12⟩
                · go_simp
                  refine hK _ _ ?_
                  clear hK K
                  refine wpAny_ready (rs := [8]) (by kernel_rfl) (by simp) ?_
                  refine AllReady.cons rfl (fun K hK => ?_) AllReady.nil
                  go_simp
                  refine hK _ _ ?_
                  clear hK K
                  refine wpAny_ready (rs := [9]) (by kernel_rfl) (by simp) ?_
                  refine AllReady.cons rfl (fun K hK => ?_) AllReady.nil
                  go_simp
                  go_wp2_with (go_at_call 17; refine (HS1.out _).mono ?_; rintro e w10 ⟨rfl, b10⟩; have HB10 := Lib.hid (btrans HB9.out b10); clear b10; obtain ⟨x0, x1, x2, fx0, fx1, fx2⟩ := cells3 (HGX.out _ HB10.out).1)
                  refine wpAny_ready (rs := [11]) (by kernel_rfl) (by simp) ?_
                  refine AllReady.cons rfl (fun K hK => ?_) AllReady.nil
                  go_simp
                  go_wp2_with (go_at_call 16; refine (HT1.out _).mono ?_; rintro e w11 ⟨rfl, b11⟩; simp only [aggG]; have HB11 := Lib.hid (btrans HB10.out b11); clear b11; obtain ⟨x0, x1, x2, fx0, fx1, fx2⟩ := cells3 (HGX.out _ HB11.out).1)
                  refine wpAny_ready (rs := [12]) (by kernel_rfl) (by simp) ?_
                  refine AllReady.cons rfl (fun K hK => ?_) AllReady.nil
                  go_simp
                  go_wp2_with (go_at_call 17; refine (HS2.out _).mono ?_; rintro e w12 ⟨rfl, b12⟩; have HB12 := Lib.hid (btrans HB11.out b12); clear b12; obtain ⟨x0, x1, x2, fx0, fx1, fx2⟩ := cells3 (HGX.out _ HB12.out).1)
                  refine wpAny_ready (rs := [13]) (by kernel_rfl) (by simp) ?_
                  refine AllReady.cons rfl (fun K hK => ?_) AllReady.nil
                  go_simp
                  refine hK _ _ ?_
                  clear hK K
                  refine wpAny_ready (rs := [14]) (by kernel_rfl) (by simp) ?_
                  refine AllReady.cons rfl (fun K hK => ?_) AllReady.nil
                  go_simp
                  refine hK _ _ ?_
                  clear hK K
                  refine wpAny_ready (rs := [15]) (by kernel_rfl) (by simp) ?_
                  refine AllReady.cons rfl (fun K hK => ?_) AllReady.nil
                  go_simp
                  refine hK _ _ ?_
                  clear hK K
                  refine wpAny_done (by kernel_rfl) ?_ _
                  go_wp2_with fail
                  go_meet
                  exact ⟨rfl, HB12⟩
              · go_simp
                refine hK _ _ ?_
                clear hK K
                refine wpAny_ready (rs := [4]) (by kernel_rfl) (by simp) ?_
                refine AllReady.cons rfl (fun K hK => ?_) AllReady.nil
                go_simp
                go_wp2_with (go_at_call 16; refine (HT2.out _).mono ?_; rintro e w9 ⟨rfl, b9⟩; simp only [aggG]; have HB9 := Lib.hid (btrans HB8.out b9); clear b9; obtain ⟨x0, x1, x2, fx0, fx1, fx2⟩ := cells3 (HGX.out _ HB9.out).1)
                refine wpAny_ready (rs := [6]) (by kernel_rfl) (by simp) ?_
                refine AllReady.cons rfl (fun K hK => ?_) AllReady.nil
                go_simp
                refine hK _ _ ?_
                clear hK K
                refine wpAny_ready (rs := [7]) (by kernel_rfl) (by simp) ?_
                refine AllReady.cons rfl (fun K hK => ?_) AllReady.nil
                go_simp
                refine hK _ _ ?_
                clear hK K
                refine wpAny_ready (rs := [8, 10]) (by kernel_rfl) (by simp) ?_
                refine AllReady.cons rfl (fun K hK => ?_) (AllReady.cons rfl (fun K hK => ?_) (AllReady.nil))
                · go_simp
                  refine hK _ _ ?_
                  clear hK K
                  refine wpAny_ready (rs := [9, 10]) (by kernel_rfl) (by simp) ?_
                  refine AllReady.cons rfl (fun K hK => ?_) (AllReady.cons rfl (fun K hK => ?_) (AllReady.nil))
                  · go_simp
                    go_wp2_with (go_at_call 17; refine (HS1.out _).mono ?_; rintro e w10 ⟨rfl, b10⟩; have HB10 := Lib.hid (btrans HB9.out b10); clear b10; obtain ⟨x0, x1, x2, fx0, fx1, fx2⟩ := cells3 (HGX.out _ HB10.out).1)
                    refine wpAny_ready (rs := [10]) (by kernel_rfl) (by simp) ?_
                    refine AllReady.cons rfl (fun K hK => ?_) AllReady.nil
                    go_simp
                    refine hK _ _ ?_
                    clear hK K
                    refine wpAny_ready (rs := [11]) (by kernel_rfl) (by simp) ?_
                    refine AllReady.cons rfl (fun K hK => ?_) AllReady.nil
                    go_simp
                    go_wp2_with (go_at_call 16; refine (HT1.out _).mono ?_; rintro e w11 ⟨rfl, b11⟩; simp only [aggG]; have HB11 := Lib.hid (btrans HB10.out b11); clear b11; obtain ⟨x0, x1, x2, fx0, fx1, fx2⟩ := cells3 (HGX.out _ HB11.out).1)
                    refine wpAny_ready (rs := [12]) (by kernel_rfl) (by simp) ?_
                    refine AllReady.cons rfl (fun K hK => ?_) AllReady.nil
                    go_simp
                    go_wp2_with (go_at_call 17; refine (HS2.out _).mono ?_; rintro e w12 ⟨rfl, b12⟩; have HB12 := Lib.hid (btrans HB11.out b12); clear b12; obtain ⟨x0, x1, x2, fx0, fx1, fx2⟩ := cells3 (HGX.out _ HB12.out).1)
                    refine wpAny_ready (rs := [13]) (by kernel_rfl) (by simp) ?_
                    refine AllReady.cons rfl (fun K hK => ?_) AllReady.nil
                    go_simp
                    refine hK _ _ ?_
                    clear hK K
                    refine wpAny_ready (rs := [14]) (by kernel_rfl) (by simp) ?_
                    refine AllReady.cons rfl (fun K hK => ?_) AllReady.nil
                    go_simp
                    refine hK _ _ ?_
                    clear hK K
                    refine wpAny_ready (rs := [15]) (by kernel_rfl) (by simp) ?_
                    refine AllReady.cons rfl (fun K hK => ?_) AllReady.nil
                    go_simp
                    refine hK _ _ ?_
                    clear hK K
                    refine wpAny_done (by kernel_rfl) ?_ _
                    go_wp2_with fail
                    go_meet
                    exact ⟨rfl, HB12⟩
                  · go_simp
                    refine hK _ _ ?_
                    clear hK K
                    refine wpAny_ready (rs := [9]) (by kernel_rfl) (by simp) ?_
                    refine AllReady.cons rfl (fun K hK => ?_) AllReady.nil
                    go_simp
                    go_wp2_with (go_at_call 17; refine (HS1.out _).mono ?_; rintro e w10 ⟨rfl, b10⟩; have HB10 := Lib.hid (btrans HB9.out b10); clear b10; obtain ⟨x0, x1, x2, fx0, fx1, fx2⟩ := cells3 (HGX.out _ HB10.out).1)
                    refine wpAny_ready (rs := [11]) (by kernel_rfl) (by simp) ?_
                    refine AllReady.cons rfl (fun K hK => ?_) AllReady.nil
                    go_simp
                    go_wp2_with (go_at_call 16; refine (HT1.out _).mono ?_; rintro e w11 ⟨rfl, b11⟩; simp only [aggG]; have HB11 := Lib.hid (btrans HB10.out b11); clear b11; obtain ⟨x0, x1, x2, fx0, fx1, fx2⟩ := cells3 (HGX.out _ HB11.out).1)
                    refine wpAny_ready (rs := [12]) (by kernel_rfl) (by simp) ?_
                    refine AllReady.cons rfl (fun K hK => ?_) AllReady.nil
                    go_simp
                    go_wp2_with (go_at_call 17; refine (HS2.out _).mono ?_; rintro e w12 ⟨rfl, b12⟩; have HB12 := Lib.hid (btrans HB11.out b12); clear b12; obtain ⟨x0, x1, x2, fx0, fx1, fx2⟩ := cells3 (HGX.out _ HB12.out).1)
                    refine wpAny_ready (rs := [13]) (by kernel_rfl) (by simp) ?_
                    refine AllReady.cons rfl (fun K hK => ?_) AllReady.nil
                    go_simp
                    refine hK _ _ ?_
                    clear hK K
                    refine wpAny_ready (rs := [14]) (by kernel_rfl) (by simp) ?_
                    refine AllReady.cons rfl (fun K hK => ?_) AllReady.nil
                    go_simp
                    refine hK _ _ ?_
                    clear hK K
                    refine wpAny_ready (rs := [15]) (by kernel_rfl) (by simp) ?_
                    refine AllReady.cons rfl (fun K hK => ?_) AllReady.nil
                    go_simp
                    refine hK _ _ ?_
                    clear hK K
                    refine wpAny_done (by kernel_rfl) ?_ _
                    go_wp2_with fail
                    go_meet
                    exact ⟨rfl, HB12⟩
                · go_simp
                  refine hK _ _ ?_
                  clear hK K
                  refine wpAny_ready (rs := [8]) (by kernel_rfl) (by simp) ?_
                  refine AllReady.cons rfl (fun K hK => ?_) AllReady.nil
                  go_simp
                  refine hK _ _ ?_
                  clear hK K
                  refine wpAny_ready (rs := [9]) (by kernel_rfl) (by simp) ?_
                  refine AllReady.cons rfl (fun K hK => ?_) AllReady.nil
                  go_simp
                  go_wp2_with (go_at_call 17; refine (HS1.out _).mono ?_; rintro e w10 ⟨rfl, b10⟩; have HB10 := Lib.hid (btrans HB9.out b10); clear b10; obtain ⟨x0, x1, x2, fx0, fx1, fx2⟩ := cells3 (HGX.out _ HB10.out).1)
                  refine wpAny_ready (rs := [11]) (by kernel_rfl) (by simp) ?_
                  refine AllReady.cons rfl (fun K hK => ?_) AllReady.nil
                  go_simp
                  go_wp2_with (go_at_call 16; refine (HT1.out _).mono ?_; rintro e w11 ⟨rfl, b11⟩; simp only [aggG]; have HB11 := Lib.hid (btrans HB10.out b11); clear b11; obtain ⟨x0, x1, x2, fx0, fx1, fx2⟩ := cells3 (HGX.out _ HB11.out).1)
                  refine wpAny_ready (rs := [12]) (by kernel_rfl) (by simp) ?_
                  refine AllReady.cons rfl (fun K hK => ?_) AllReady.nil
                  go_simp
                  go_wp2_with (go_at_call 17; refine (HS2.out _).mono ?_; rintro e w12 ⟨rfl, b12⟩; have HB12 := Lib.hid (btrans HB11.out b12); clear b12; obtain ⟨x0, x1, x2, fx0, fx1, fx2⟩ := cells3 (HGX.out _ HB12.out).1)
                  refine wpAny_ready (rs := [13]) (by kernel_rfl) (by simp) ?_
                  refine AllReady.cons rfl (fun K hK => ?_) AllReady.nil
                  go_simp
                  refine hK _ _ ?_
                  clear hK K
                  refine wpAny_ready (rs := [14]) (by kernel_rfl) (by simp) ?_
                  refine AllReady.cons rfl (fun K hK => ?_) AllReady.nil
                  go_simp
                  refine hK _ _ ?_
                  clear hK K
                  refine wpAny_ready (rs := [15]) (by kernel_rfl) (by simp) ?_
                  refine AllReady.cons rfl (fun K hK => ?_) AllReady.nil
                  go_simp
                  refine hK _ _ ?_
                  clear hK K
                  refine wpAny_done (by kernel_rfl) ?_ _
                  go_wp2_with fail
                  go_meet
                  exact ⟨rfl, HB12⟩
            · go_simp
              refine hK _ _ ?_
              clear hK K
              refine wpAny_ready (rs := [3]) (by kernel_rfl) (by simp) ?_
              refine AllReady.cons rfl (fun K hK => ?_) AllReady.nil
              go_simp
              go_wp2_with (go_at_call 16; refine (HT1.out _).mono ?_; rintro e w8 ⟨rfl, b8⟩; simp only [aggG]; have HB8 := Lib.hid (btrans HBW.out b8); clear b8; obtain ⟨x0, x1, x2, fx0, fx1, fx2⟩ := cells3 (HGX.out _ HB8.out).1)
              refine wpAny_ready (rs := [4]) (by kernel_rfl) (by simp) ?_
              refine AllReady.cons rfl (fun K hK => ?_) AllReady.nil
              go_simp
              go_wp2_with (go_at_call 16; refine (HT2.out _).mono ?_; rintro e w9 ⟨rfl, b9⟩; simp only [aggG]; have HB9 := Lib.hid (btrans HB8.out b9); clear b9; obtain ⟨x0, x1, x2, fx0, fx1, fx2⟩ := cells3 (HGX.out _ HB9.out).1)
              refine wpAny_ready (rs := [6]) (by kernel_rfl) (by simp) ?_
              refine AllReady.cons rfl (fun K hK => ?_) AllReady.nil
              go_simp
              refine hK _ _ ?_
              clear hK K
              refine wpAny_ready (rs := [7]) (by kernel_rfl) (by simp) ?_
              refine AllReady.cons rfl (fun K hK => ?_) AllReady.nil
              go_simp
              refine hK _ _ ?_
              clear hK K
              refine wpAny_ready (rs := [8, 10]) (by kernel_rfl) (by simp) ?_
              refine AllReady.cons rfl (fun K hK => ?_) (AllReady.cons rfl (fun K hK => ?_) (AllReady.nil))
              · go_simp
                refine hK _ _ ?_
                clear hK K
                refine wpAny_ready (rs := [9, 10]) (by kernel_rfl) (by simp) ?_
                refine AllReady.cons rfl (fun K hK => ?_) (AllReady.cons rfl (fun K hK => ?_) (AllReady.nil))
                · go_simp
                  go_wp2_with (go_at_call 17; refine (HS1.out _).mono ?_; rintro e w10 ⟨rfl, b10⟩; have HB10 := Lib.hid (btrans HB9.out b10); clear b10; obtain ⟨x0, x1, x2, fx0, fx1, fx2⟩ := cells3 (HGX.out _ HB10.out).1)
                  refine wpAny_ready (rs := [10]) (by kernel_rfl) (by simp) ?_
                  refine AllReady.cons rfl (fun K hK => ?_) AllReady.nil
                  go_simp
                  refine hK _ _ ?_
                  clear hK K
                  refine wpAny_ready (rs := [11]) (by kernel_rfl) (by simp) ?_
                  refine AllReady.cons rfl (fun K hK => ?_) AllReady.nil
                  go_simp
                  go_wp2_with (go_at_call 16; refine (HT1.out _).mono ?_; rintro e w11 ⟨rfl, b11⟩; simp only [aggG]; have HB11 := Lib.hid (btrans HB10.out b11); clear b11; obtain ⟨x0, x1, x2, fx0, fx1, fx2⟩ := cells3 (HGX.out _ HB11.out).1)
                  refine wpAny_ready (rs := [12]) (by kernel_rfl) (by simp) ?_
                  refine AllReady.cons rfl (fun K hK => ?_) AllReady.nil
                  go_simp
                  go_wp2_with (go_at_call 17; refine (HS2.out _).mono ?_; rintro e w12 ⟨rfl, b12⟩; have HB12 := Lib.hid (btrans HB11.out b12); clear b12; obtain ⟨x0, x1, x2, fx0, fx1, fx2⟩ := cells3 (HGX.out _ HB12.out).1)
                  refine wpAny_ready (rs := [13]) (by kernel_rfl) (by simp) ?_
                  refine AllReady.cons rfl (fun K hK => ?_) AllReady.nil
                  go_simp
                  refine hK _ _ ?_
                  clear hK K
                  refine wpAny_ready (rs := [14]) (by kernel_rfl) (by simp) ?_
                  refine AllReady.cons rfl (fun K hK => ?_) AllReady.nil
                  go_simp
                  refine hK _ _ ?_
                  clear hK K
                  refine wpAny_ready (rs := [15]) (by kernel_rfl) (by simp) ?_
                  refine AllReady.cons rfl (fun K hK => ?_) AllReady.nil
                  go_simp
                  refine hK _ _ ?_
                  clear hK K
                  refine wpAny_done (by kernel_rfl) ?_ _
                  go_wp2_with fail
                  go_meet
                  exact ⟨rfl, HB12⟩
                · go_simp
                  refine hK _ _ ?_
                  clear hK K
                  refine wpAny_ready (rs := [9]) (by kernel_rfl) (by simp) ?_
                  refine AllReady.cons rfl (fun K hK => ?_) AllReady.nil
                  go_simp
                  go_wp2_with (go_at_call 17; refine (HS1.out _).mono ?_; rintro e w10 ⟨rfl, b10⟩; have HB10 := Lib.hid (btrans HB9.out b10); clear b10; obtain ⟨x0, x1, x2, fx0, fx1, fx2⟩ := cells3 (HGX.out _ HB10.out).1)
                  refine wpAny_ready (rs := [11]) (by kernel_rfl) (by simp) ?_
                  refine AllReady.cons rfl (fun K hK => ?_) AllReady.nil
                  go_simp
                  go_wp2_with (go_at_call 16; refine (HT1.out _).mono ?_; rintro e w11 ⟨rfl, b11⟩; simp only [aggG]; have HB11 := Lib.hid (btrans HB10.out b11); clear b11; obtain ⟨x0, x1, x2, fx0, fx1, fx2⟩ := cells3 (HGX.out _ HB11.out).1)
                  refine wpAny_ready (rs := [12]) (by kernel_rfl) (by simp) ?_
                  refine AllReady.cons rfl (fun K hK => ?_) AllReady.nil
                  go_simp
                  go_wp2_with (go_at_call 17; refine (HS2.out _).mono ?_; rintro e w12 ⟨rfl, b12⟩; have HB12 := Lib.hid (btrans HB11.out b12); clear b12; obtain ⟨x0, x1, x2, fx0, fx1, fx2⟩ := cells3 (HGX.out _ HB12.out).1)
                  refine wpAny_ready (rs := [13]) (by kernel_rfl) (by simp) ?_
                  refine AllReady.cons rfl (fun K hK => ?_) AllReady.nil
                  go_simp
                  refine hK _ _ ?_
                  clear hK K
                  refine wpAny_ready (rs := [14]) (by kernel_rfl) (by simp) ?_
                  refine AllReady.cons rfl (fun K hK => ?_) AllReady.nil
                  go_simp
                  refine hK _ _ ?_
                  clear hK K
                  refine wpAny_ready (rs := [15]) (by kernel_rfl) (by simp) ?_
                  refine AllReady.cons rfl (fun K hK => ?_) AllReady.nil
                  go_simp
                  refine hK _ _ ?_
                  clear hK K
                  refine wpAny_done (by kernel_rfl) ?_ _
                  go_wp2_with fail
                  go_meet
                  exact ⟨rfl, HB12⟩
              · go_simp
                refine hK _ _ ?_
                clear hK K
                refine wpAny_ready (rs := [8]) (by kernel_rfl) (by simp) ?_
                refine AllReady.cons rfl (fun K hK => ?_) AllReady.nil
                go_simp
                refine hK _ _ ?_
                clear hK K
                refine wpAny_ready (rs := [9]) (by kernel_rfl) (by simp) ?_
                refine AllReady.cons rfl (fun K hK => ?_) AllReady.nil
                go_simp
                go_wp2_with (go_at_call 17; refine (HS1.out _).mono ?_; rintro e w10 ⟨rfl, b10⟩; have HB10 := Lib.hid (btrans HB9.out b10); clear b10; obtain ⟨x0, x1, x2, fx0, fx1, fx2⟩ := cells3 (HGX.out _ HB10.out).1)
                refine wpAny_ready (rs := [11]) (by kernel_rfl) (by simp) ?_
                refine AllReady.cons rfl (fun K hK => ?_) AllReady.nil
                go_simp
                go_wp2_with (go_at_call 16; refine (HT1.out _).mono ?_; rintro e w11 ⟨rfl, b11⟩; simp only [aggG]; have HB11 := Lib.hid (btrans HB10.out b11); clear b11; obtain ⟨x0, x1, x2, fx0, fx1, fx2⟩ := cells3 (HGX.out _ HB11.out).1)
                refine wpAny_ready (rs := [12]) (by kernel_rfl) (by simp) ?_
                refine AllReady.cons rfl (fun K hK => ?_) AllReady.nil
                go_simp
                go_wp2_with (go_at_call 17; refine (HS2.out _).mono ?_; rintro e w12 ⟨rfl, b12⟩; have HB12 := Lib.hid (btrans HB11.out b12); clear b12; obtain ⟨x0, x1, x2, fx0, fx1, fx2⟩ := cells3 (HGX.out _ HB12.out).1)
                refine wpAny_ready (rs := [13]) (by kernel_rfl) (by simp) ?_
                refine AllReady.cons rfl (fun K hK => ?_) AllReady.nil
                go_simp
                refine hK _ _ ?_
                clear hK K
                refine wpAny_ready (rs := [14]) (by kernel_rfl) (by simp) ?_
                refine AllReady.cons rfl (fun K hK => ?_) AllReady.nil
                go_simp
                refine hK _ _ ?_
                clear hK K
                refine wpAny_ready (rs := [15]) (by kernel_rfl) (by simp) ?_
                refine AllReady.cons rfl (fun K hK => ?_) AllReady.nil
                go_simp
                refine hK _ _ ?_
                clear hK K
                refine wpAny_done (by kernel_rfl) ?_ _
                go_wp2_with fail
                go_meet
                exact ⟨rfl, HB12⟩
          · go_simp
            refine hK _ _ ?_
            clear hK K
            refine wpAny_ready (rs := [2]) (by kernel_rfl) (by simp) ?_
            refine AllReady.cons rfl (fun K hK => ?_) AllReady.nil
            go_simp
            refine hK _ _ ?_
            clear hK K
            refine wpAny_ready (rs := [3]) (by kernel_rfl) (by simp) ?_
            refine AllReady.cons rfl (fun K hK => ?_) AllReady.nil
            go_simp
            go_wp2_with (go_at_call 16; refine (HT1.out _).mono ?_; rintro e w8 ⟨rfl, b8⟩; simp only [aggG]; have HB8 := Lib.hid (btrans HBW.out b8); clear b8; obtain ⟨x0, x1, x2, fx0, fx1, fx2⟩ := cells3 (HGX.out _ HB8.out).1)
            refine wpAny_ready (rs := [4]) (by kernel_rfl) (by simp) ?_
            refine AllReady.cons rfl (fun K hK => ?_) AllReady.nil
            go_simp
            go_wp2_with (go_at_call 16; refine (HT2.out _).mono ?_; rintro e w9 ⟨rfl, b9⟩; simp only [aggG]; have HB9 := Lib.hid (btrans HB8.out b9); clear b9; obtain ⟨x0, x1, x2, fx0, fx1, fx2⟩ := cells3 (HGX.out _ HB9.out).1)
            refine wpAny_ready (rs := [6]) (by kernel_rfl) (by simp) ?_
            refine AllReady.cons rfl (fun K hK => ?_) AllReady.nil
            go_simp
            refine hK _ _ ?_
            clear hK K
            refine wpAny_ready (rs := [7]) (by kernel_rfl) (by simp) ?_
            refine AllReady.cons rfl (fun K hK => ?_) AllReady.nil
            go_simp
            refine hK _ _ ?_
            clear hK K
            refine wpAny_ready (rs := [8, 10]) (by kernel_rfl) (by simp) ?_
            refine AllReady.cons rfl (fun K hK => ?_) (AllReady.cons rfl (fun K hK => ?_) (AllReady.nil))
            · go_simp
              refine hK _ _ ?_
              clear hK K
              refine wpAny_ready (rs := [9, 10]) (by kernel_rfl) (by simp) ?_
              refine AllReady.cons rfl (fun K hK => ?_) (AllReady.cons rfl (fun K hK => ?_) (AllReady.nil))
              · go_simp
                go_wp2_with (go_at_call 17; refine (HS1.out _).mono ?_; rintro e w10 ⟨rfl, b10⟩; have HB10 := Lib.hid (btrans HB9.out b10); clear b10; obtain ⟨x0, x1, x2, fx0, fx1, fx2⟩ := cells3 (HGX.out _ HB10.out).1)
                refine wpAny_ready (rs := [10]) (by kernel_rfl) (by simp) ?_
                refine AllReady.cons rfl (fun K hK => ?_) AllReady.nil
                go_simp
                refine hK _ _ ?_
                clear hK K
                refine wpAny_ready (rs := [11]) (by kernel_rfl) (by simp) ?_
                refine AllReady.cons rfl (fun K hK => ?_) AllReady.nil
                go_simp
                go_wp2_with (go_at_call 16; refine (HT1.out _).mono ?_; rintro e w11 ⟨rfl, b11⟩; simp only [aggG]; have HB11 := Lib.hid (btrans HB10.out b11); clear b11; obtain ⟨x0, x1, x2, fx0, fx1, fx2⟩ := cells3 (HGX.out _ HB11.out).1)
                refine wpAny_ready (rs := [12]) (by kernel_rfl) (by simp) ?_
                refine AllReady.cons rfl (fun K hK => ?_) AllReady.nil
                go_simp
                go_wp2_with (go_at_call 17; refine (HS2.out _).mono ?_; rintro e w12 ⟨rfl, b12⟩; have HB12 := Lib.hid (btrans HB11.out b12); clear b12; obtain ⟨x0, x1, x2, fx0, fx1, fx2⟩ := cells3 (HGX.out _ HB12.out).1)
                refine wpAny_ready (rs := [13]) (by kernel_rfl) (by simp) ?_
                refine AllReady.cons rfl (fun K hK => ?_) AllReady.nil
                go_simp
                refine hK _ _ ?_
                clear hK K
                refine wpAny_ready (rs := [14]) (by kernel_rfl) (by simp) ?_
                refine AllReady.cons rfl (fun K hK => ?_) AllReady.nil
                go_simp
                refine hK _ _ ?_
                clear hK K
                refine wpAny_ready (rs := [15]) (by kernel_rfl) (by simp) ?_
                refine AllReady.cons rfl (fun K hK => ?_) AllReady.nil
                go_simp
                refine hK _ _ ?_
                clear hK K
                refine wpAny_done (by kernel_rfl) ?_ _
                go_wp2_with fail
                go_meet
                exact ⟨rfl, HB12⟩
              · go_simp
                refine hK _ _ ?_
                clear hK K
                refine wpAny_ready (rs := [9]) (by kernel_rfl) (by simp) ?_
                refine AllReady.cons rfl (fun K hK => ?_) AllReady.nil
                go_simp
                go_wp2_with (go_at_call 17; refine (HS1.out _).mono ?_; rintro e w10 ⟨rfl, b10⟩; have HB10 := Lib.hid (btrans HB9.out b10); clear b10; obtain ⟨x0, x1, x2, fx0, fx1, fx2⟩ := cells3 (HGX.out _ HB10.out).1)
                refine wpAny_ready (rs := [11]) (by kernel_rfl) (by simp) ?_
                refine AllReady.cons rfl (fun K hK => ?_) AllReady.nil
                go_simp
                go_wp2_with (go_at_call 16; refine (HT1.out _).mono ?_; rintro e w11 ⟨rfl, b11⟩; simp only [aggG]; have HB11 := Lib.hid (btrans HB10.out b11); clear b11; obtain ⟨x0, x1, x2, fx0, fx1, fx2⟩ := cells3 (HGX.out _ HB11.out).1)
                refine wpAny_ready (rs := [12]) (by kernel_rfl) (by simp) ?_
                refine AllReady.cons rfl (fun K hK => ?_) AllReady.nil
                go_simp
                go_wp2_with (go_at_call 17; refine (HS2.out _).mono ?_; rintro e w12 ⟨rfl, b12⟩; have HB12 := Lib.hid (btrans HB11.out b12); clear b12; obtain ⟨x0, x1, x2, fx0, fx1, fx2⟩ := cells3 (HGX.out _ HB12.out).1)
                refine wpAny_ready (rs := [13]) (by kernel_rfl) (by simp) ?_
                refine AllReady.cons rfl (fun K hK => ?_) AllReady.nil
                go_simp
                refine hK _ _ ?_
                clear hK K
                refine wpAny_ready (rs := [14]) (by kernel_rfl) (by simp) ?_
                refine AllReady.cons rfl (fun K hK => ?_) AllReady.nil
                go_simp
                refine hK _ _ ?_
                clear hK K
                refine wpAny_ready (rs := [15]) (by kernel_rfl) (by simp) ?_
                refine AllReady.cons rfl (fun K hK => ?_) AllReady.nil
                go_simp
                refine hK _ _ ?_
                clear hK K
                refine wpAny_done (by kernel_rfl) ?_ _
                go_wp2_with fail
                go_meet
                exact ⟨rfl, HB12⟩
            · go_simp
              refine hK _ _ ?_
              clear hK K
              refine wpAny_ready (rs := [8]) (by kernel_rfl) (by simp) ?_
              refine AllReady.cons rfl (fun K hK => ?_) AllReady.nil
              go_simp
              refine hK _ _ ?_
              clear hK K
              refine wpAny_ready (rs := [9]) (by kernel_rfl) (by simp) ?_
              refine AllReady.cons rfl (fun K hK => ?_) AllReady.nil
              go_simp
              go_wp2_with (go_at_call 17; refine (HS1.out _).mono ?_; rintro e w10 ⟨rfl, b10⟩; have HB10 := Lib.hid (btrans HB9.out b10); clear b10; obtain ⟨x0, x1, x2, fx0, fx1, fx2⟩ := cells3 (HGX.out _ HB10.out).1)
              refine wpAny_ready (rs := [11]) (by kernel_rfl) (by simp) ?_
              refine AllReady.cons rfl (fun K hK => ?_) AllReady.nil
              go_simp
              go_wp2_with (go_at_call 16; refine (HT1.out _).mono ?_; rintro e w11 ⟨rfl, b11⟩; simp only [aggG]; have HB11 := Lib.hid (btrans HB10.out b11); clear b11; obtain ⟨x0, x1, x2, fx0, fx1, fx2⟩ := cells3 (HGX.out _ HB11.out).1)
              refine wpAny_ready (rs := [12]) (by kernel_rfl) (by simp) ?_
              refine AllReady.cons rfl (fun K hK => ?_) AllReady.nil
              go_simp
              go_wp2_with (go_at_call 17; refine (HS2.out _).mono ?_; rintro e w12 ⟨rfl, b12⟩; have HB12 := Lib.hid (btrans HB11.out b12); clear b12; obtain ⟨x0, x1, x2, fx0, fx1, fx2⟩ := cells3 (HGX.out _ HB12.out).1)
              refine wpAny_ready (rs := [13]) (by kernel_rfl) (by simp) ?_
              refine AllReady.cons rfl (fun K hK => ?_) AllReady.nil
              go_simp
              refine hK _ _ ?_
              clear hK K
              refine wpAny_ready (rs := [14]) (by kernel_rfl) (by simp) ?_
              refine AllReady.cons rfl (fun K hK => ?_) AllReady.nil
              go_simp
              refine hK _ _ ?_
              clear hK K
              refine wpAny_ready (rs := [15]) (by kernel_rfl) (by simp) ?_
              refine AllReady.cons rfl (fun K hK => ?_) AllReady.nil
              go_simp
              refine hK _ _ ?_
              clear hK K
              refine wpAny_done (by kernel_rfl) ?_ _
              go_wp2_with fail
              go_meet
              exact ⟨rfl, HB12⟩
        case rest =>
          obtain ⟨rfl, HC2⟩ := hcut
          have HCD := Lib.hid (code_later HCO.out (HB4.out.trans (HC2.out.mono HB4.out.size)))
          have HBA : Hid (Below w.heap.size w wc) := Lib.hid (HB4.out.trans (HC2.out.mono HB4.out.size))
          clear HTT HIG HC1 HC2 HGX HB4 HB7
          go_upto_region 13 with (first | (go_at_call 18; refine (dpg_any l0.length cap a0 _ HCD.out hn).mono ?_; rintro e w13 ⟨u, hu50, rfl, b13⟩; have HB13 := Lib.hid (HBA.out.trans (b13.mono HBA.out.size)); have HPU := Lib.hid (fun w => iparse_any u (by omega) w); have HUY := Lib.hid (@parse_yes u); obtain ⟨⟨⟨r5, c5, s5⟩, fine⟩, hf⟩ : ∃ y, y = parseG u := ⟨_, rfl⟩; rw [← hf] at HPU HUY; clear hf b13) | (go_at_call 12; refine (HPU.out _).mono ?_; rintro e w14 ⟨rfl, b14⟩; simp only [aggG]; have HB14 := Lib.hid (HB13.out.trans (b14.mono HB13.out.size)); clear b14))
          obtain ⟨W15, hW15⟩ : ∃ W15, W15 = w14.alloc (.cells #[.int .i64 r5, .int .i64 c5, .string s5] 25) := ⟨_, rfl⟩
          have HB15 : Hid (Below w.heap.size w W15) := Lib.hid (by rw [hW15]; exact HB14.out.alloc HB14.out.size _)
          have HY15 : Hid (W15.heap[w14.heap.size]? = some (.cells #[.int .i64 r5, .int .i64 c5, .string s5] 25)) := Lib.hid (by rw [hW15]; exact new_block w14 _)
          rw [← hW15]
          clear hW15 HPU HCD HBA HB13 HB14
          go_cut [67] (fun v wx => v = .bool false ∧ Hid (Below W15.heap.size W15 wx))
          case first =>
            obtain ⟨x0, x1, x2, fx0, fx1, fx2⟩ := cells3 HY15.out
            have HBO : Hid (Below W15.heap.size W15 W15) := Lib.hid (Below.refl _ _)
            cases fine with
            | false =>
              go_wp2_with fail
              go_meet
              exact ⟨rfl, HBO⟩
            | true =>
              have hy := HUY.out rfl
              have hy5 := isG_size hy.1
              dsimp only at hy5
              have HT5 := Lib.hid (fun w => itext_any r5 c5 s5 (by omega) w)
              rw [hy.2] at HT5
              clear hy hy5
              go_wp2_with (go_at_call 13; refine (HT5.out _).mono ?_; rintro e w16 ⟨rfl, b16⟩; have HBP := Lib.hid (btrans HBO.out b16); clear b16)
              go_meet
              exact ⟨by simp, HBP⟩
          case rest =>
            obtain ⟨rfl, HC3⟩ := hcut
            have HBB : Hid (Below w.heap.size w wc) := Lib.hid (HB15.out.trans (HC3.out.mono HB15.out.size))
            have HCE := Lib.hid (code_later HCO.out HBB.out)
            clear HUY HY15 HB15 HC3 HCO
            go_upto_region 16 with (go_at_call 19; refine (diwh_any l0.length cap a0 _ HCE.out hn).mono ?_; rintro e w16 ⟨r3, c3, s3, k, qr3, qc3, hs3, hk3, rfl, b16⟩; have HBC := Lib.hid (HBB.out.trans (b16.mono HBB.out.size)); clear b16)
            obtain ⟨W17, hW17⟩ : ∃ W17, W17 = w16.alloc (.cells #[.int .i64 r3, .int .i64 c3, .string s3] 25) := ⟨_, rfl⟩
            have HB16 : Hid (Below w.heap.size w W17) := Lib.hid (by rw [hW17]; exact HBC.out.alloc HBC.out.size _)
            have HH17 : Hid (W17.heap[w16.heap.size]? = some (.cells #[.int .i64 r3, .int .i64 c3, .string s3] 25)) := Lib.hid (by rw [hW17]; exact new_block w16 _)
            have HHX : Hid (∀ wx, Below W17.heap.size W17 wx → wx.heap[w16.heap.size]? = some (.cells #[.int .i64 r3, .int .i64 c3, .string s3] 25)) := Lib.hid (fun wx h => (h.block _ (size_of_heap HH17.out)).trans HH17.out)
            rw [← hW17]
            clear hW17 HBB HBC HCE HH17
            have HWA := Lib.hid (fun w => iiswh_any r3 c3 s3 k (by omega) w)
            obtain ⟨b, hb⟩ : ∃ b, b = isWh (r3, c3, s3) k := ⟨_, rfl⟩
            rw [← hb] at HWA
            cases b with
            | false =>
              clear hb
              obtain ⟨W7, hW7⟩ : ∃ W7, W7 = World.drew W17 := ⟨_, rfl⟩
              refine wp_region_any (by kernel_rfl) ?_
              try (change wpAny _ _ _ _ _ _ _ (World.drew _))
              rw [← hW7]
              have HB17 : Hid (Below W17.heap.size W17 W7) := Lib.hid (by rw [hW7]; exact (Below.refl _ _).drew)
              clear hW7
              obtain ⟨x0, x1, x2, fx0, fx1, fx2⟩ := cells3 (HHX.out _ HB17.out)
              refine wpAny_take (i := 1) (v := Value.int IntKind.i64 k) rfl (by kernel_rfl) (by kernel_rfl) (by kernel_rfl) (fun _ _ _ h => h) (Or.inl ⟨by kernel_rfl, by intro w9; go_simp; all_goals rfl⟩) ?_
              refine wpAny_ready (rs := [0]) (by kernel_rfl) (by simp) ?_
              refine AllReady.cons rfl (fun K hK => ?_) AllReady.nil
              go_simp
              refine hK _ _ ?_
              clear hK K
              refine wpAny_ready (rs := [2]) (by kernel_rfl) (by simp) ?_
              refine AllReady.cons rfl (fun K hK => ?_) AllReady.nil
              go_simp
              go_wp2_with (go_at_call 20; refine (HWA.out _).mono ?_; rintro e w18 ⟨rfl, b18⟩; have HB18 := Lib.hid (btrans HB17.out b18); clear b18; obtain ⟨x0, x1, x2, fx0, fx1, fx2⟩ := cells3 (HHX.out _ HB18.out))
              refine wpAny_ready (rs := [3]) (by kernel_rfl) (by simp) ?_
              refine AllReady.cons rfl (fun K hK => ?_) AllReady.nil
              go_simp
              refine hK _ _ ?_
              clear hK K
              refine wpAny_ready (rs := [4]) (by kernel_rfl) (by simp) ?_
              refine AllReady.cons rfl (fun K hK => ?_) AllReady.nil
              go_simp
              refine hK _ _ ?_
              clear hK K
              refine wpAny_take (i := 5) (v := undef) rfl (by kernel_rfl) (by kernel_rfl) (by kernel_rfl) (fun _ _ _ h => h) (Or.inr ⟨by kernel_rfl, rfl⟩) ?_
              refine wpAny_take (i := 6) (v := undef) rfl (by kernel_rfl) (by kernel_rfl) (by kernel_rfl) (fun _ _ _ h => h) (Or.inr ⟨by kernel_rfl, rfl⟩) ?_
              refine wpAny_take (i := 7) (v := undef) rfl (by kernel_rfl) (by kernel_rfl) (by kernel_rfl) (fun _ _ _ h => h) (Or.inr ⟨by kernel_rfl, rfl⟩) ?_
              refine wpAny_take (i := 8) (v := undef) rfl (by kernel_rfl) (by kernel_rfl) (by kernel_rfl) (fun _ _ _ h => h) (Or.inr ⟨by kernel_rfl, rfl⟩) ?_
              refine wpAny_take (i := 9) (v := undef) rfl (by kernel_rfl) (by kernel_rfl) (by kernel_rfl) (fun _ _ _ h => h) (Or.inr ⟨by kernel_rfl, rfl⟩) ?_
              refine wpAny_take (i := 10) (v := undef) rfl (by kernel_rfl) (by kernel_rfl) (by kernel_rfl) (fun _ _ _ h => h) (Or.inr ⟨by kernel_rfl, rfl⟩) ?_
              refine wpAny_take (i := 11) (v := undef) rfl (by kernel_rfl) (by kernel_rfl) (by kernel_rfl) (fun _ _ _ h => h) (Or.inr ⟨by kernel_rfl, rfl⟩) ?_
              refine wpAny_take (i := 12) (v := undef) rfl (by kernel_rfl) (by kernel_rfl) (by kernel_rfl) (fun _ _ _ h => h) (Or.inr ⟨by kernel_rfl, rfl⟩) ?_
              refine wpAny_take (i := 13) (v := undef) rfl (by kernel_rfl) (by kernel_rfl) (by kernel_rfl) (fun _ _ _ h => h) (Or.inr ⟨by kernel_rfl, rfl⟩) ?_
              refine wpAny_take (i := 14) (v := undef) rfl (by kernel_rfl) (by kernel_rfl) (by kernel_rfl) (fun _ _ _ h => h) (Or.inr ⟨by kernel_rfl, rfl⟩) ?_
              refine wpAny_take (i := 15) (v := undef) rfl (by kernel_rfl) (by kernel_rfl) (by kernel_rfl) (fun _ _ _ h => h) (Or.inr ⟨by kernel_rfl, rfl⟩) ?_
              refine wpAny_take (i := 16) (v := undef) rfl (by kernel_rfl) (by kernel_rfl) (by kernel_rfl) (fun _ _ _ h => h) (Or.inr ⟨by kernel_rfl, rfl⟩) ?_
              refine wpAny_take (i := 17) (v := undef) rfl (by kernel_rfl) (by kernel_rfl) (by kernel_rfl) (fun _ _ _ h => h) (Or.inr ⟨by kernel_rfl, rfl⟩) ?_
              refine wpAny_ready (rs := [18]) (by kernel_rfl) (by simp) ?_
              refine AllReady.cons rfl (fun K hK => ?_) AllReady.nil
              go_simp
              refine hK _ _ ?_
              clear hK K
              refine wpAny_ready (rs := [19]) (by kernel_rfl) (by simp) ?_
              refine AllReady.cons rfl (fun K hK => ?_) AllReady.nil
              go_simp
              refine hK _ _ ?_
              clear hK K
              refine wpAny_done (by kernel_rfl) ?_ _
              go_wp2_with fail
              go_ret
              exact ⟨rfl, HB16.out.trans (HB18.out.mono HB16.out.size)⟩
            | true =>
              have hwt := white_turn hb.symm
              have hisy := isG_size (turn_turn hwt.1).1
              have HGA := Lib.hid (fun w => iisg_any r3 c3 s3 (by omega) w)
              have HTA := Lib.hid (fun w => iturn_any r3 c3 s3 (by omega) w)
              obtain ⟨⟨r4, c4, s4⟩, hy⟩ : ∃ y, y = turnG (r3, c3, s3) := ⟨_, rfl⟩
              rw [← hy] at HTA hwt hisy
              dsimp only at hisy hwt
              have HWB := Lib.hid (fun w => iiswh_any r4 c4 s4 ((s3.size : Int) - 1 - k) (by omega) w)
              rw [hwt.2] at HWB
              rw [hwt.1] at HGA
              have hv1 : IntKind.i64.wrap ((s3.size : Int) - 1) = (s3.size : Int) - 1 := IntWalk.i64_in _ (by omega)
              have hv2 : IntKind.i64.wrap ((s3.size : Int) - 1 - k) = (s3.size : Int) - 1 - k := IntWalk.i64_in _ (by omega)
              clear hwt hisy hy hb
              obtain ⟨W7, hW7⟩ : ∃ W7, W7 = World.drew W17 := ⟨_, rfl⟩
              refine wp_region_any (by kernel_rfl) ?_
              try (change wpAny _ _ _ _ _ _ _ (World.drew _))
              rw [← hW7]
              have HB17 : Hid (Below W17.heap.size W17 W7) := Lib.hid (by rw [hW7]; exact (Below.refl _ _).drew)
              clear hW7
              obtain ⟨x0, x1, x2, fx0, fx1, fx2⟩ := cells3 (HHX.out _ HB17.out)
              refine wpAny_take (i := 1) (v := Value.int IntKind.i64 k) rfl (by kernel_rfl) (by kernel_rfl) (by kernel_rfl) (fun _ _ _ h => h) (Or.inl ⟨by kernel_rfl, by intro w9; go_simp; all_goals rfl⟩) ?_
              refine wpAny_ready (rs := [0]) (by kernel_rfl) (by simp) ?_
              refine AllReady.cons rfl (fun K hK => ?_) AllReady.nil
              go_simp
              refine hK _ _ ?_
              clear hK K
              refine wpAny_ready (rs := [2]) (by kernel_rfl) (by simp) ?_
              refine AllReady.cons rfl (fun K hK => ?_) AllReady.nil
              go_simp
              go_wp2_with (go_at_call 20; refine (HWA.out _).mono ?_; rintro e w18 ⟨rfl, b18⟩; have HB18 := Lib.hid (btrans HB17.out b18); clear b18; obtain ⟨x0, x1, x2, fx0, fx1, fx2⟩ := cells3 (HHX.out _ HB18.out))
              refine wpAny_ready (rs := [3]) (by kernel_rfl) (by simp) ?_
              refine AllReady.cons rfl (fun K hK => ?_) AllReady.nil
              go_simp
              refine hK _ _ ?_
              clear hK K
              refine wpAny_ready (rs := [4]) (by kernel_rfl) (by simp) ?_
              refine AllReady.cons rfl (fun K hK => ?_) AllReady.nil
              go_simp
              refine hK _ _ ?_
              clear hK K
              refine wpAny_ready (rs := [5]) (by kernel_rfl) (by simp) ?_
              refine AllReady.cons rfl (fun K hK => ?_) AllReady.nil
              go_simp
              refine hK _ _ ?_
              clear hK K
              refine wpAny_ready (rs := [6]) (by kernel_rfl) (by simp) ?_
              refine AllReady.cons rfl (fun K hK => ?_) AllReady.nil
              go_simp
              go_wp2_with (go_at_call 14; refine (HGA.out _).mono ?_; rintro e w19 ⟨rfl, b19⟩; have HB19 := Lib.hid (btrans HB18.out b19); clear b19; obtain ⟨x0, x1, x2, fx0, fx1, fx2⟩ := cells3 (HHX.out _ HB19.out))
              refine wpAny_ready (rs := [7]) (by kernel_rfl) (by simp) ?_
              refine AllReady.cons rfl (fun K hK => ?_) AllReady.nil
              go_simp
              refine hK _ _ ?_
              clear hK K
              refine wpAny_take (i := 10) (v := Value.pointer (some { block := w16.heap.size, off := 2 })) rfl (by kernel_rfl) (by kernel_rfl) (by kernel_rfl) (fun _ _ _ h => h) (Or.inl ⟨by kernel_rfl, by intro w9; go_simp; all_goals rfl⟩) ?_
              refine wpAny_take (i := 14) (v := Value.int IntKind.i64 k) rfl (by kernel_rfl) (by kernel_rfl) (by kernel_rfl) (fun _ _ _ h => h) (Or.inl ⟨by kernel_rfl, by intro w9; go_simp; all_goals rfl⟩) ?_
              refine wpAny_ready (rs := [8, 11]) (by kernel_rfl) (by simp) ?_
              refine AllReady.cons rfl (fun K hK => ?_) (AllReady.cons rfl (fun K hK => ?_) (AllReady.nil))
              · go_simp
                refine hK _ _ ?_
                clear hK K
                refine wpAny_ready (rs := [9, 11]) (by kernel_rfl) (by simp) ?_
                refine AllReady.cons rfl (fun K hK => ?_) (AllReady.cons rfl (fun K hK => ?_) (AllReady.nil))
                · go_simp
                  go_wp2_with (go_at_call 16; refine (HTA.out _).mono ?_; rintro e w20 ⟨rfl, b20⟩; simp only [aggG]; have HB20 := Lib.hid (btrans HB19.out b20); clear b20; obtain ⟨x0, x1, x2, fx0, fx1, fx2⟩ := cells3 (HHX.out _ HB20.out))
                  refine wpAny_ready (rs := [11]) (by kernel_rfl) (by simp) ?_
                  refine AllReady.cons rfl (fun K hK => ?_) AllReady.nil
                  go_simp
                  refine hK _ _ ?_
                  clear hK K
                  refine wpAny_take (i := 12) (v := Value.int IntKind.i64 (s3.size : Int)) rfl (by kernel_rfl) (by kernel_rfl) (by kernel_rfl) (fun _ _ _ h => h) (Or.inl ⟨by kernel_rfl, by intro w9; go_simp; all_goals rfl⟩) ?_
                  refine wpAny_take (i := 13) (v := Value.int IntKind.i64 ((s3.size : Int) - 1)) rfl (by kernel_rfl) (by kernel_rfl) (by kernel_rfl) (fun _ _ _ h => h) (Or.inl ⟨by kernel_rfl, by intro w9; go_simp; all_goals rfl⟩) ?_
                  refine wpAny_take (i := 15) (v := Value.int IntKind.i64 ((s3.size : Int) - 1 - k)) rfl (by kernel_rfl) (by kernel_rfl) (by kernel_rfl) (fun _ _ _ h => h) (Or.inl ⟨by kernel_rfl, by intro w9; go_simp; all_goals rfl⟩) ?_
                  refine wpAny_ready (rs := [16]) (by kernel_rfl) (by simp) ?_
                  refine AllReady.cons rfl (fun K hK => ?_) AllReady.nil
                  go_simp
                  go_wp2_with (go_at_call 20; refine (HWB.out _).mono ?_; rintro e w21 ⟨rfl, b21⟩; have HB21 := Lib.hid (btrans HB20.out b21); clear b21; obtain ⟨x0, x1, x2, fx0, fx1, fx2⟩ := cells3 (HHX.out _ HB21.out))
                  refine wpAny_ready (rs := [17]) (by kernel_rfl) (by simp) ?_
                  refine AllReady.cons rfl (fun K hK => ?_) AllReady.nil
                  go_simp
                  refine hK _ _ ?_
                  clear hK K
                  refine wpAny_ready (rs := [18]) (by kernel_rfl) (by simp) ?_
                  refine AllReady.cons rfl (fun K hK => ?_) AllReady.nil
                  go_simp
                  refine hK _ _ ?_
                  clear hK K
                  refine wpAny_ready (rs := [19]) (by kernel_rfl) (by simp) ?_
                  refine AllReady.cons rfl (fun K hK => ?_) AllReady.nil
                  go_simp
                  refine hK _ _ ?_
                  clear hK K
                  refine wpAny_done (by kernel_rfl) ?_ _
                  go_wp2_with fail
                  go_ret
                  exact ⟨rfl, HB16.out.trans (HB21.out.mono HB16.out.size)⟩
                · go_simp
                  refine hK _ _ ?_
                  clear hK K
                  refine wpAny_take (i := 12) (v := Value.int IntKind.i64 (s3.size : Int)) rfl (by kernel_rfl) (by kernel_rfl) (by kernel_rfl) (fun _ _ _ h => h) (Or.inl ⟨by kernel_rfl, by intro w9; go_simp; all_goals rfl⟩) ?_
                  refine wpAny_take (i := 13) (v := Value.int IntKind.i64 ((s3.size : Int) - 1)) rfl (by kernel_rfl) (by kernel_rfl) (by kernel_rfl) (fun _ _ _ h => h) (Or.inl ⟨by kernel_rfl, by intro w9; go_simp; all_goals rfl⟩) ?_
                  refine wpAny_take (i := 15) (v := Value.int IntKind.i64 ((s3.size : Int) - 1 - k)) rfl (by kernel_rfl) (by kernel_rfl) (by kernel_rfl) (fun _ _ _ h => h) (Or.inl ⟨by kernel_rfl, by intro w9; go_simp; all_goals rfl⟩) ?_
                  refine wpAny_ready (rs := [9]) (by kernel_rfl) (by simp) ?_
                  refine AllReady.cons rfl (fun K hK => ?_) AllReady.nil
                  go_simp
                  go_wp2_with (go_at_call 16; refine (HTA.out _).mono ?_; rintro e w20 ⟨rfl, b20⟩; simp only [aggG]; have HB20 := Lib.hid (btrans HB19.out b20); clear b20; obtain ⟨x0, x1, x2, fx0, fx1, fx2⟩ := cells3 (HHX.out _ HB20.out))
                  refine wpAny_ready (rs := [16]) (by kernel_rfl) (by simp) ?_
                  refine AllReady.cons rfl (fun K hK => ?_) AllReady.nil
                  go_simp
                  go_wp2_with (go_at_call 20; refine (HWB.out _).mono ?_; rintro e w21 ⟨rfl, b21⟩; have HB21 := Lib.hid (btrans HB20.out b21); clear b21; obtain ⟨x0, x1, x2, fx0, fx1, fx2⟩ := cells3 (HHX.out _ HB21.out))
                  refine wpAny_ready (rs := [17]) (by kernel_rfl) (by simp) ?_
                  refine AllReady.cons rfl (fun K hK => ?_) AllReady.nil
                  go_simp
                  refine hK _ _ ?_
                  clear hK K
                  refine wpAny_ready (rs := [18]) (by kernel_rfl) (by simp) ?_
                  refine AllReady.cons rfl (fun K hK => ?_) AllReady.nil
                  go_simp
                  refine hK _ _ ?_
                  clear hK K
                  refine wpAny_ready (rs := [19]) (by kernel_rfl) (by simp) ?_
                  refine AllReady.cons rfl (fun K hK => ?_) AllReady.nil
                  go_simp
                  refine hK _ _ ?_
                  clear hK K
                  refine wpAny_done (by kernel_rfl) ?_ _
                  go_wp2_with fail
                  go_ret
                  exact ⟨rfl, HB16.out.trans (HB21.out.mono HB16.out.size)⟩
              · go_simp
                refine hK _ _ ?_
                clear hK K
                refine wpAny_take (i := 12) (v := Value.int IntKind.i64 (s3.size : Int)) rfl (by kernel_rfl) (by kernel_rfl) (by kernel_rfl) (fun _ _ _ h => h) (Or.inl ⟨by kernel_rfl, by intro w9; go_simp; all_goals rfl⟩) ?_
                refine wpAny_take (i := 13) (v := Value.int IntKind.i64 ((s3.size : Int) - 1)) rfl (by kernel_rfl) (by kernel_rfl) (by kernel_rfl) (fun _ _ _ h => h) (Or.inl ⟨by kernel_rfl, by intro w9; go_simp; all_goals rfl⟩) ?_
                refine wpAny_take (i := 15) (v := Value.int IntKind.i64 ((s3.size : Int) - 1 - k)) rfl (by kernel_rfl) (by kernel_rfl) (by kernel_rfl) (fun _ _ _ h => h) (Or.inl ⟨by kernel_rfl, by intro w9; go_simp; all_goals rfl⟩) ?_
                refine wpAny_ready (rs := [8]) (by kernel_rfl) (by simp) ?_
                refine AllReady.cons rfl (fun K hK => ?_) AllReady.nil
                go_simp
                refine hK _ _ ?_
                clear hK K
                refine wpAny_ready (rs := [9]) (by kernel_rfl) (by simp) ?_
                refine AllReady.cons rfl (fun K hK => ?_) AllReady.nil
                go_simp
                go_wp2_with (go_at_call 16; refine (HTA.out _).mono ?_; rintro e w20 ⟨rfl, b20⟩; simp only [aggG]; have HB20 := Lib.hid (btrans HB19.out b20); clear b20; obtain ⟨x0, x1, x2, fx0, fx1, fx2⟩ := cells3 (HHX.out _ HB20.out))
                refine wpAny_ready (rs := [16]) (by kernel_rfl) (by simp) ?_
                refine AllReady.cons rfl (fun K hK => ?_) AllReady.nil
                go_simp
                go_wp2_with (go_at_call 20; refine (HWB.out _).mono ?_; rintro e w21 ⟨rfl, b21⟩; have HB21 := Lib.hid (btrans HB20.out b21); clear b21; obtain ⟨x0, x1, x2, fx0, fx1, fx2⟩ := cells3 (HHX.out _ HB21.out))
                refine wpAny_ready (rs := [17]) (by kernel_rfl) (by simp) ?_
                refine AllReady.cons rfl (fun K hK => ?_) AllReady.nil
                go_simp
                refine hK _ _ ?_
                clear hK K
                refine wpAny_ready (rs := [18]) (by kernel_rfl) (by simp) ?_
                refine AllReady.cons rfl (fun K hK => ?_) AllReady.nil
                go_simp
                refine hK _ _ ?_
                clear hK K
                refine wpAny_ready (rs := [19]) (by kernel_rfl) (by simp) ?_
                refine AllReady.cons rfl (fun K hK => ?_) AllReady.nil
                go_simp
                refine hK _ _ ?_
                clear hK K
                refine wpAny_done (by kernel_rfl) ?_ _
                go_wp2_with fail
                go_ret
                exact ⟨rfl, HB16.out.trans (HB21.out.mono HB16.out.size)⟩
end Go.Proofs.Ytbickkphiofmlaa.fnGrids
