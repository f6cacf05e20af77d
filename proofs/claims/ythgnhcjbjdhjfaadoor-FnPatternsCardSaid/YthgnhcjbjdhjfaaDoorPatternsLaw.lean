/-
  The walk of the law FnPatterns: true at every byte slice.
-/
import Derived.Test.YthgnhcjbjdhjfaaDoorSame
import Derived.Test.YthgnhcjbjdhjfaaDoorPatImplD
import Derived.Test.YthgnhcjbjdhjfaaDoorLetImpl
import Derived.Test.YthgnhcjbjdhjfaaDoorDrawPat
import Derived.Test.YthgnhcjbjdhjfaaDoorPatFacts
import Derived.Test.YthgnhcjbjdhjfaaDoorHas
import Derived.BigQuiet
import Derived.IntWalk
import Derived.Deep.RegionLaw
import Derived.Deep.DeepCutAuto
import Derived.Deep.CutRange
import Derived.Deep.RegionWith
namespace Go.Proofs.YthgnhcjbjdhjfaaDoor.fnPatterns
open Go.RowKit

set_option maxRecDepth 100000 in
set_option maxHeartbeats 12800000 in
theorem walk (v0 : Value) (l0 : List Int) (w : World) (hR : Reads w.heap.size w v0 .u8 l0) (hB : ∀ z ∈ l0, 0 ≤ z ∧ z ≤ 255) (hV : ML w ∧ DB w) :
    Calls Tryd.prog 3 #[v0] w fun e w' => e = .returned (.bool true) ∧ Below w.heap.size w w' := by
  obtain ⟨a0, cap, rfl⟩ : ∃ a0 cap, v0 = .slice a0 l0.length cap := ⟨hR.2.choose, hR.2.choose_spec.choose, hR.2.choose_spec.choose_spec.1⟩
  have hc := code_of_reads hR rfl hB
  clear hR hB
  have HV := Lib.hid hV
  clear hV
  by_cases hbig : 1048576 < l0.length
  · go_enter Tryd.func3, Tryd.ntmps3
    go_wp2_with (go_at_call 7; refine (big_yes l0.length cap a0 hbig _).mono ?_; rintro e w1 ⟨rfl, rfl⟩)
    go_ret
    exact ⟨rfl, Below.refl _ _⟩
  · have HC := Lib.hid hc
    clear hc
    go_enter Tryd.func3, Tryd.ntmps3
    go_upto_region 5 with (first | (go_at_call 7; refine (big_no l0.length cap a0 (by omega) _).mono ?_; rintro e w0 ⟨rfl, rfl⟩) | (go_at_call 8; refine (dmp_any l0.length cap a0 _ HC.out (by omega)).mono ?_; rintro e w1 ⟨p, q, hp10, hq10, rfl, b1⟩; have HB1 := Lib.hid b1; clear b1) | (go_at_call 9; refine (imeet_any p q _ (HV.out.1.later HB1.out) (HV.out.2.later HB1.out) (by omega) (by omega)).mono ?_; rintro e w2 ⟨rfl, b2⟩; have HB2 := Lib.hid (btrans HB1.out b2); clear b2))
    have HMT := Lib.hid (meet_fits p q)
    have HOP : Hid ((meetP p q).2 = true → isP (meetP p q).1 = true ∧ openN (meetP p q).1 ≤ openN p ∧ openN (meetP p q).1 ≤ openN q) := Lib.hid (fun h => by
      cases hk : meetOk p q with
      | true => rw [meetP_yes hk]; exact ⟨mB_is hk, open_le hk⟩
      | false => rw [meetP_no hk] at h; cases h)
    have hm10 : (meetP p q).1.size ≤ 10 := by
      cases hk : meetOk p q with
      | true => rw [meetP_yes hk, mB_size]; exact hp10
      | false => rw [meetP_no hk]; decide
    obtain ⟨m, hm⟩ : ∃ m, m = (meetP p q).1 := ⟨_, rfl⟩
    obtain ⟨ok, hok⟩ : ∃ ok, ok = (meetP p q).2 := ⟨_, rfl⟩
    rw [← hm, ← hok] at HMT HOP ⊢
    rw [← hm] at hm10
    clear hm hok HB1
    go_upto_region 7 with (go_at_call 10; refine (dwf_any l0.length cap a0 _ (code_later HC.out HB2.out) (by omega)).mono ?_; rintro e w3 ⟨W, vw, r, hW35, hWz, hr10, rfl, hrd, b3⟩; have HB3 := Lib.hid (btrans HB2.out b3); have HRD := Lib.hid hrd; have HWZ := Lib.hid hWz; clear b3 hrd hWz)
    obtain ⟨aw, cw, rfl⟩ : ∃ a c, vw = .slice a W.length c := by obtain ⟨-, a9, c9, e9, -⟩ := HRD.out.cells; exact ⟨_, _, e9⟩
    have HCW : Hid (∀ j, j < W.length → ∃ b off, aw = some ⟨b, off, none⟩ ∧ b < w3.heap.size ∧ w3.cell? ⟨b, off + j, none⟩ = some (.string (W.getD j ⟨#[]⟩))) := Lib.hid (by
      obtain ⟨-, a9, c9, e9, -, h9⟩ := HRD.out.cells
      cases e9
      exact h9)
    have HML : Hid (ML w3) := Lib.hid (HV.out.1.later HB3.out)
    clear HB2
    go_loopw [9] (fun i wr => ∃ k : Nat, k ≤ W.length ∧ i = .int .i64 k ∧ Hid (Below w3.heap.size w3 wr)) (fun i _ => W.length - (intOf i).toNat)
    case atStart => exact ⟨0, Nat.zero_le _, rfl, Lib.hid (Below.refl _ _)⟩
    case round =>
      obtain ⟨k, hk, rfl, HBX⟩ := hrel
      by_cases hlt : k < W.length
      · obtain ⟨b, off, rfl, hb, q0⟩ := HCW.out k hlt
        have hx10 := HWZ.out _ (getD_mem W k ⟨#[]⟩ hlt)
        obtain ⟨x, hx⟩ : ∃ x, x = W.getD k ⟨#[]⟩ := ⟨_, rfl⟩
        rw [← hx] at q0 hx10
        have HQ0 := Lib.hid q0
        have HF1 := Lib.hid (fun w (h : ML w) => ifits_any p x w h (by omega) (by omega))
        have HF2 := Lib.hid (fun w (h : ML w) => ifits_any q x w h (by omega) (by omega))
        have HF3 := Lib.hid (fun w (h : ML w) => ifits_any m x w h (by omega) (by omega))
        have HF4 := Lib.hid (fun w (h : ML w) => ifits_any x x w h (by omega) (by omega))
        have HF5 := Lib.hid (iiw_any x)
        have HEQ := Lib.hid (HMT.out x)
        have HSF := Lib.hid (fits_self x)
        obtain ⟨a1, ha1⟩ : ∃ a, a = fitsP p x := ⟨_, rfl⟩
        obtain ⟨a2, ha2⟩ : ∃ a, a = fitsP q x := ⟨_, rfl⟩
        obtain ⟨a3, ha3⟩ : ∃ a, a = fitsP m x := ⟨_, rfl⟩
        obtain ⟨a4, ha4⟩ : ∃ a, a = fitsP x x := ⟨_, rfl⟩
        obtain ⟨a5, ha5⟩ : ∃ a, a = isW x := ⟨_, rfl⟩
        rw [← ha1, ← ha2, ← ha3] at HEQ
        rw [← ha4, ← ha5] at HSF
        rw [← ha1] at HF1
        rw [← ha2] at HF2
        rw [← ha3] at HF3
        rw [← ha4] at HF4
        rw [← ha5] at HF5
        have d0 := (HBX.out.cell (p := ⟨b, off + k, none⟩) hb).trans q0
        clear ha1 ha2 ha3 ha4 ha5 hx q0
        have hcase : ∀ c1 c2 c3 c4 : Bool, (c1 && c2) = (c3 && c4) → ((c1 && c2) != (c3 && c4)) = false := by decide
        have HNE := Lib.hid (hcase a1 a2 ok a3 HEQ.out)
        clear hcase
        go_upto_region 9 with (fail)
        go_cut [10] (fun s10 wx => s10 = .bool (a1 && a2) ∧ Hid (Below w3.heap.size w3 wx))
        case first =>
          cases a1 with
          | false =>
            go_wp2_with (first | (go_at_call_of 11 (#[Value.string p, Value.string x] : Array Value); refine (HF1.out _ (HML.out.later HBX.out)).mono ?_; rintro e w5 ⟨rfl, b5⟩; have HBY := Lib.hid (btrans HBX.out b5); clear HBX b5 d0; have HBX := HBY; clear HBY; have d0 := (HBX.out.cell (p := ⟨b, off + k, none⟩) hb).trans HQ0.out) | (go_at_call_of 11 (#[Value.string q, Value.string x] : Array Value); refine (HF2.out _ (HML.out.later HBX.out)).mono ?_; rintro e w5 ⟨rfl, b5⟩; have HBY := Lib.hid (btrans HBX.out b5); clear HBX b5 d0; have HBX := HBY; clear HBY; have d0 := (HBX.out.cell (p := ⟨b, off + k, none⟩) hb).trans HQ0.out) | (go_at_call_of 11 (#[Value.string m, Value.string x] : Array Value); refine (HF3.out _ (HML.out.later HBX.out)).mono ?_; rintro e w5 ⟨rfl, b5⟩; have HBY := Lib.hid (btrans HBX.out b5); clear HBX b5 d0; have HBX := HBY; clear HBY; have d0 := (HBX.out.cell (p := ⟨b, off + k, none⟩) hb).trans HQ0.out))
            go_meet
            exact ⟨rfl, HBX⟩
          | true =>
            go_wp2_with (first | (go_at_call_of 11 (#[Value.string p, Value.string x] : Array Value); refine (HF1.out _ (HML.out.later HBX.out)).mono ?_; rintro e w5 ⟨rfl, b5⟩; have HBY := Lib.hid (btrans HBX.out b5); clear HBX b5 d0; have HBX := HBY; clear HBY; have d0 := (HBX.out.cell (p := ⟨b, off + k, none⟩) hb).trans HQ0.out) | (go_at_call_of 11 (#[Value.string q, Value.string x] : Array Value); refine (HF2.out _ (HML.out.later HBX.out)).mono ?_; rintro e w5 ⟨rfl, b5⟩; have HBY := Lib.hid (btrans HBX.out b5); clear HBX b5 d0; have HBX := HBY; clear HBY; have d0 := (HBX.out.cell (p := ⟨b, off + k, none⟩) hb).trans HQ0.out) | (go_at_call_of 11 (#[Value.string m, Value.string x] : Array Value); refine (HF3.out _ (HML.out.later HBX.out)).mono ?_; rintro e w5 ⟨rfl, b5⟩; have HBY := Lib.hid (btrans HBX.out b5); clear HBX b5 d0; have HBX := HBY; clear HBY; have d0 := (HBX.out.cell (p := ⟨b, off + k, none⟩) hb).trans HQ0.out))
            go_meet
            exact ⟨rfl, HBX⟩
        case rest =>
          obtain ⟨rfl, HBX⟩ := hcut
          clear HF1 HF2 d0
          have d0 := (HBX.out.cell (p := ⟨b, off + k, none⟩) hb).trans HQ0.out
          obtain ⟨c, hcc⟩ : ∃ c, c = (a1 && a2) := ⟨_, rfl⟩
          rw [← hcc] at HNE ⊢
          clear hcc HEQ
          rename_i KA hKA
          refine hKA _ _ (wp_seq_k ?_)
          intro KB hKB
          clear hKA
          go_cut [] (fun wx => Hid (Below w3.heap.size w3 wx))
          case first =>
            cases ok with
            | false =>
              obtain rfl : c = false := by cases c; rfl; exact absurd HNE.out (by simp)
              go_wp2_with ((go_at_call_of 11 (#[Value.string m, Value.string x] : Array Value); refine (HF3.out _ (HML.out.later HBX.out)).mono ?_; rintro e w5 ⟨rfl, b5⟩; have HBY := Lib.hid (btrans HBX.out b5); clear HBX b5 d0; have HBX := HBY; clear HBY; have d0 := (HBX.out.cell (p := ⟨b, off + k, none⟩) hb).trans HQ0.out))
              go_meet
              exact HBX
            | true =>
              obtain rfl : c = a3 := by have h9 := HNE.out; rw [Bool.true_and] at h9; simpa using h9
              clear HNE
              cases c
              all_goals go_wp2_with ((go_at_call_of 11 (#[Value.string m, Value.string x] : Array Value); refine (HF3.out _ (HML.out.later HBX.out)).mono ?_; rintro e w5 ⟨rfl, b5⟩; have HBY := Lib.hid (btrans HBX.out b5); clear HBX b5 d0; have HBX := HBY; clear HBY; have d0 := (HBX.out.cell (p := ⟨b, off + k, none⟩) hb).trans HQ0.out))
              all_goals go_meet
              all_goals exact HBX
          case rest =>
            have HBX := hcut
            clear hcut HNE HF3 d0
            have d0 := (HBX.out.cell (p := ⟨b, off + k, none⟩) hb).trans HQ0.out
            refine hKB _ _ ?_
            clear hKB
            cases a5 with
            | false =>
              go_upto_region 12 with (fail)
              obtain ⟨W7, hW7⟩ : ∃ W7, W7 = World.drew wc := ⟨_, rfl⟩
              refine wp_region_any (by kernel_rfl) ?_
              try (change wpAny _ _ _ _ _ _ _ (World.drew _))
              rw [← hW7]
              have HBW : Hid (Below w3.heap.size w3 W7) := Lib.hid (by rw [hW7]; exact HBX.out.drew)
              have d7 := (HBW.out.cell (p := ⟨b, off + k, none⟩) hb).trans HQ0.out
              clear hW7 HBX d0
              refine wpAny_take (i := 0) (v := Value.slice (some { block := b, off := off }) W.length cw) rfl (by kernel_rfl) (by kernel_rfl) (by kernel_rfl) (fun _ _ _ h => h) (Or.inl ⟨by kernel_rfl, by intro w9; go_simp; all_goals rfl⟩) ?_
              refine wpAny_take (i := 1) (v := Value.int .i64 (k : Int)) rfl (by kernel_rfl) (by kernel_rfl) (by kernel_rfl) (fun _ _ _ h => h) (Or.inl ⟨by kernel_rfl, by intro w9; go_simp; all_goals rfl⟩) ?_
              refine wpAny_take (i := 2) (v := Value.pointer (some { block := b, off := off + k })) rfl (by kernel_rfl) (by kernel_rfl) (by kernel_rfl) (fun _ _ _ h => h) (Or.inl ⟨by kernel_rfl, by intro w9; go_simp; all_goals rfl⟩) ?_
              refine wpAny_ready (rs := [3]) (by kernel_rfl) (by simp) ?_
              refine AllReady.cons rfl (fun K hK => ?_) AllReady.nil
              go_simp
              refine hK _ _ ?_
              clear hK K
              refine wpAny_ready (rs := [4]) (by kernel_rfl) (by simp) ?_
              refine AllReady.cons rfl (fun K hK => ?_) AllReady.nil
              go_simp
              go_wp2_with (go_at_call 12; refine (HF5.out _).mono ?_; rintro e w6 ⟨rfl, b6⟩; have HBZ := Lib.hid (btrans HBW.out b6); clear b6; have z0 := (HBZ.out.cell (p := ⟨b, off + k, none⟩) hb).trans HQ0.out)
              refine wpAny_ready (rs := [5]) (by kernel_rfl) (by simp) ?_
              refine AllReady.cons rfl (fun K hK => ?_) AllReady.nil
              go_simp
              refine hK _ _ ?_
              clear hK K
              refine wpAny_take (i := 6) (v := undef) rfl (by kernel_rfl) (by kernel_rfl) (by kernel_rfl) (fun _ _ _ h => h) (Or.inr ⟨by kernel_rfl, rfl⟩) ?_
              refine wpAny_take (i := 7) (v := undef) rfl (by kernel_rfl) (by kernel_rfl) (by kernel_rfl) (fun _ _ _ h => h) (Or.inr ⟨by kernel_rfl, rfl⟩) ?_
              refine wpAny_take (i := 8) (v := undef) rfl (by kernel_rfl) (by kernel_rfl) (by kernel_rfl) (fun _ _ _ h => h) (Or.inr ⟨by kernel_rfl, rfl⟩) ?_
              refine wpAny_take (i := 9) (v := undef) rfl (by kernel_rfl) (by kernel_rfl) (by kernel_rfl) (fun _ _ _ h => h) (Or.inr ⟨by kernel_rfl, rfl⟩) ?_
              refine wpAny_take (i := 10) (v := undef) rfl (by kernel_rfl) (by kernel_rfl) (by kernel_rfl) (fun _ _ _ h => h) (Or.inr ⟨by kernel_rfl, rfl⟩) ?_
              refine wpAny_take (i := 11) (v := undef) rfl (by kernel_rfl) (by kernel_rfl) (by kernel_rfl) (fun _ _ _ h => h) (Or.inr ⟨by kernel_rfl, rfl⟩) ?_
              refine wpAny_take (i := 12) (v := undef) rfl (by kernel_rfl) (by kernel_rfl) (by kernel_rfl) (fun _ _ _ h => h) (Or.inr ⟨by kernel_rfl, rfl⟩) ?_
              refine wpAny_take (i := 13) (v := undef) rfl (by kernel_rfl) (by kernel_rfl) (by kernel_rfl) (fun _ _ _ h => h) (Or.inr ⟨by kernel_rfl, rfl⟩) ?_
              refine wpAny_take (i := 14) (v := undef) rfl (by kernel_rfl) (by kernel_rfl) (by kernel_rfl) (fun _ _ _ h => h) (Or.inr ⟨by kernel_rfl, rfl⟩) ?_
              refine wpAny_take (i := 15) (v := undef) rfl (by kernel_rfl) (by kernel_rfl) (by kernel_rfl) (fun _ _ _ h => h) (Or.inr ⟨by kernel_rfl, rfl⟩) ?_
              refine wpAny_ready (rs := [16]) (by kernel_rfl) (by simp) ?_
              refine AllReady.cons rfl (fun K hK => ?_) AllReady.nil
              go_simp
              refine hK _ _ ?_
              clear hK K
              refine wpAny_done (by kernel_rfl) ?_ _
              go_wp2_with fail
              go_roundw
              case rel => exact ⟨k + 1, by omega, by go_num, HBZ⟩
              case measure => simp [intOf]; omega
            | true =>
              obtain rfl : a4 = true := HSF.out rfl
              go_upto_region 12 with (fail)
              obtain ⟨W7, hW7⟩ : ∃ W7, W7 = World.drew wc := ⟨_, rfl⟩
              refine wp_region_any (by kernel_rfl) ?_
              try (change wpAny _ _ _ _ _ _ _ (World.drew _))
              rw [← hW7]
              have HBW : Hid (Below w3.heap.size w3 W7) := Lib.hid (by rw [hW7]; exact HBX.out.drew)
              have d7 := (HBW.out.cell (p := ⟨b, off + k, none⟩) hb).trans HQ0.out
              clear hW7 HBX d0
              refine wpAny_take (i := 0) (v := Value.slice (some { block := b, off := off }) W.length cw) rfl (by kernel_rfl) (by kernel_rfl) (by kernel_rfl) (fun _ _ _ h => h) (Or.inl ⟨by kernel_rfl, by intro w9; go_simp; all_goals rfl⟩) ?_
              refine wpAny_take (i := 1) (v := Value.int .i64 (k : Int)) rfl (by kernel_rfl) (by kernel_rfl) (by kernel_rfl) (fun _ _ _ h => h) (Or.inl ⟨by kernel_rfl, by intro w9; go_simp; all_goals rfl⟩) ?_
              refine wpAny_take (i := 2) (v := Value.pointer (some { block := b, off := off + k })) rfl (by kernel_rfl) (by kernel_rfl) (by kernel_rfl) (fun _ _ _ h => h) (Or.inl ⟨by kernel_rfl, by intro w9; go_simp; all_goals rfl⟩) ?_
              refine wpAny_ready (rs := [3]) (by kernel_rfl) (by simp) ?_
              refine AllReady.cons rfl (fun K hK => ?_) AllReady.nil
              go_simp
              refine hK _ _ ?_
              clear hK K
              refine wpAny_ready (rs := [4]) (by kernel_rfl) (by simp) ?_
              refine AllReady.cons rfl (fun K hK => ?_) AllReady.nil
              go_simp
              go_wp2_with (go_at_call 12; refine (HF5.out _).mono ?_; rintro e w6 ⟨rfl, b6⟩; have HBZ := Lib.hid (btrans HBW.out b6); clear b6; have z0 := (HBZ.out.cell (p := ⟨b, off + k, none⟩) hb).trans HQ0.out)
              refine wpAny_ready (rs := [5]) (by kernel_rfl) (by simp) ?_
              refine AllReady.cons rfl (fun K hK => ?_) AllReady.nil
              go_simp
              refine hK _ _ ?_
              clear hK K
              refine wpAny_take (i := 6) (v := Value.slice (some { block := b, off := off }) W.length cw) rfl (by kernel_rfl) (by kernel_rfl) (by kernel_rfl) (fun _ _ _ h => h) (Or.inl ⟨by kernel_rfl, by intro w9; go_simp; all_goals rfl⟩) ?_
              refine wpAny_take (i := 7) (v := Value.int .i64 (k : Int)) rfl (by kernel_rfl) (by kernel_rfl) (by kernel_rfl) (fun _ _ _ h => h) (Or.inl ⟨by kernel_rfl, by intro w9; go_simp; all_goals rfl⟩) ?_
              refine wpAny_take (i := 8) (v := Value.pointer (some { block := b, off := off + k })) rfl (by kernel_rfl) (by kernel_rfl) (by kernel_rfl) (fun _ _ _ h => h) (Or.inl ⟨by kernel_rfl, by intro w9; go_simp; all_goals rfl⟩) ?_
              refine wpAny_take (i := 10) (v := Value.slice (some { block := b, off := off }) W.length cw) rfl (by kernel_rfl) (by kernel_rfl) (by kernel_rfl) (fun _ _ _ h => h) (Or.inl ⟨by kernel_rfl, by intro w9; go_simp; all_goals rfl⟩) ?_
              refine wpAny_take (i := 11) (v := Value.int .i64 (k : Int)) rfl (by kernel_rfl) (by kernel_rfl) (by kernel_rfl) (fun _ _ _ h => h) (Or.inl ⟨by kernel_rfl, by intro w9; go_simp; all_goals rfl⟩) ?_
              refine wpAny_take (i := 12) (v := Value.pointer (some { block := b, off := off + k })) rfl (by kernel_rfl) (by kernel_rfl) (by kernel_rfl) (fun _ _ _ h => h) (Or.inl ⟨by kernel_rfl, by intro w9; go_simp; all_goals rfl⟩) ?_
              refine wpAny_ready (rs := [9, 13]) (by kernel_rfl) (by simp) ?_
              refine AllReady.cons rfl (fun K hK => ?_) (AllReady.cons rfl (fun K hK => ?_) (AllReady.nil))
              · go_simp
                refine hK _ _ ?_
                clear hK K
                refine wpAny_ready (rs := [13]) (by kernel_rfl) (by simp) ?_
                refine AllReady.cons rfl (fun K hK => ?_) AllReady.nil
                go_simp
                refine hK _ _ ?_
                clear hK K
                refine wpAny_ready (rs := [14]) (by kernel_rfl) (by simp) ?_
                refine AllReady.cons rfl (fun K hK => ?_) AllReady.nil
                go_simp
                go_wp2_with (go_at_call 11; refine (HF4.out _ (HML.out.later HBZ.out)).mono ?_; rintro e w7 ⟨rfl, b7⟩; have HBV := Lib.hid (btrans HBZ.out b7); clear b7)
                refine wpAny_ready (rs := [15]) (by kernel_rfl) (by simp) ?_
                refine AllReady.cons rfl (fun K hK => ?_) AllReady.nil
                go_simp
                refine hK _ _ ?_
                clear hK K
                refine wpAny_ready (rs := [16]) (by kernel_rfl) (by simp) ?_
                refine AllReady.cons rfl (fun K hK => ?_) AllReady.nil
                go_simp
                refine hK _ _ ?_
                clear hK K
                refine wpAny_done (by kernel_rfl) ?_ _
                go_wp2_with fail
                go_roundw
                case rel => exact ⟨k + 1, by omega, by go_num, HBV⟩
                case measure => simp [intOf]; omega
              · go_simp
                refine hK _ _ ?_
                clear hK K
                refine wpAny_ready (rs := [9]) (by kernel_rfl) (by simp) ?_
                refine AllReady.cons rfl (fun K hK => ?_) AllReady.nil
                go_simp
                refine hK _ _ ?_
                clear hK K
                refine wpAny_ready (rs := [14]) (by kernel_rfl) (by simp) ?_
                refine AllReady.cons rfl (fun K hK => ?_) AllReady.nil
                go_simp
                go_wp2_with (go_at_call 11; refine (HF4.out _ (HML.out.later HBZ.out)).mono ?_; rintro e w7 ⟨rfl, b7⟩; have HBV := Lib.hid (btrans HBZ.out b7); clear b7)
                refine wpAny_ready (rs := [15]) (by kernel_rfl) (by simp) ?_
                refine AllReady.cons rfl (fun K hK => ?_) AllReady.nil
                go_simp
                refine hK _ _ ?_
                clear hK K
                refine wpAny_ready (rs := [16]) (by kernel_rfl) (by simp) ?_
                refine AllReady.cons rfl (fun K hK => ?_) AllReady.nil
                go_simp
                refine hK _ _ ?_
                clear hK K
                refine wpAny_done (by kernel_rfl) ?_ _
                go_wp2_with fail
                go_roundw
                case rel => exact ⟨k + 1, by omega, by go_num, HBV⟩
                case measure => simp [intOf]; omega
      · obtain ⟨wa, rfl⟩ : ∃ wa, wa = wr := ⟨wr, rfl⟩
        clear HMT HCW
        go_upto_region 16 with (go_at_call 13; refine (iwf_any W r (by omega) _ _ (HML.out.later HBX.out) (by omega) (fun z hz => by have := HWZ.out z hz; omega) (HRD.out.now HBX.out)).mono ?_; rintro e w4 ⟨v4, rfl, o4, b4⟩; obtain ⟨af, cf, rfl⟩ := own_form o4; have HO4 := Lib.hid o4; have HB4 := Lib.hid (btrans HBX.out b4); clear b4 o4)
        have HFA := Lib.hid (fitW_at W r)
        have HFZ : Hid (∀ z ∈ fitW W r, z.size ≤ 10) := Lib.hid (fun z hz => HWZ.out z (List.mem_filter.1 hz).1)
        have hF35 := fitW_length W r
        obtain ⟨F, hF⟩ : ∃ F, F = fitW W r := ⟨_, rfl⟩
        rw [← hF] at HFA HFZ HO4 hF35 ⊢
        clear hF
        have HCF : Hid (∀ j, j < F.length → ∃ b off, af = some ⟨b, off, none⟩ ∧ b < w4.heap.size ∧ w4.cell? ⟨b, off + j, none⟩ = some (.string (F.getD j ⟨#[]⟩))) := Lib.hid (by
          obtain ⟨-, a9, c9, e9, -, h9⟩ := (readsS_own HO4.out rfl (by omega)).cells
          cases e9
          exact h9)
        clear HO4 HBX
        go_loopw [12] (fun i wr => ∃ k : Nat, k ≤ F.length ∧ i = .int .i64 k ∧ Hid (Below w4.heap.size w4 wr)) (fun i _ => F.length - (intOf i).toNat)
        case atStart => exact ⟨0, Nat.zero_le _, rfl, Lib.hid (Below.refl _ _)⟩
        case round =>
          obtain ⟨k, hk, rfl, HBX⟩ := hrel
          by_cases hlt : k < F.length
          · obtain ⟨b, off, rfl, hb, q0⟩ := HCF.out k hlt
            have hx10 := HFZ.out _ (getD_mem F k ⟨#[]⟩ hlt)
            have hfa := HFA.out k hlt
            obtain ⟨x, hx⟩ : ∃ x, x = F.getD k ⟨#[]⟩ := ⟨_, rfl⟩
            rw [← hx] at q0 hx10 hfa
            have HQ0 := Lib.hid q0
            have HF1 := Lib.hid (fun w (h : ML w) => ifits_any r x w h (by omega) (by omega))
            have HF2 := Lib.hid (fun v w h => ihas_any W x (by omega) v w h)
            rw [hfa.1] at HF1
            rw [hfa.2] at HF2
            have d0 := (HBX.out.cell (p := ⟨b, off + k, none⟩) hb).trans q0
            clear hx q0 hfa
            go_wp2_with (first | (go_at_call 11; refine (HF1.out _ (HML.out.later (btrans HB4.out HBX.out))).mono ?_; rintro e w5 ⟨rfl, b5⟩; have HB5 := Lib.hid (btrans HBX.out b5); clear b5 d0; have d0 := (HB5.out.cell (p := ⟨b, off + k, none⟩) hb).trans HQ0.out) | (go_at_call 14; refine (HF2.out _ _ (HRD.out.now (btrans HB4.out HB5.out))).mono ?_; rintro e w6 ⟨rfl, rfl⟩))
            go_roundw
            case rel => exact ⟨k + 1, by omega, by go_num, HB5⟩
            case measure => simp [intOf]; omega
          · obtain ⟨wb, rfl⟩ : ∃ wb, wb = wr := ⟨wr, rfl⟩
            have HB5 := Lib.hid (btrans HB4.out HBX.out)
            clear HCF HFA HFZ HBX HB4
            go_upto_region 20 with (fail)
            go_cut [132] (fun s132 wx => s132 = .bool false ∧ Hid (Below w3.heap.size w3 wx))
            case first =>
              have HC1 := Lib.hid (fun w (h : ML w) => ico_any p w h (by omega))
              have HC2 := Lib.hid (fun w (h : ML w) => ico_any m w h (by omega))
              have HC3 := Lib.hid (fun w (h : ML w) => ico_any q w h (by omega))
              have HC4 := Lib.hid (fun w (h : ML w) => iip_any p w h (by omega))
              have hge := open_ge p
              obtain ⟨n1, hn1⟩ : ∃ n, n = openN p := ⟨_, rfl⟩
              obtain ⟨n2, hn2⟩ : ∃ n, n = openN m := ⟨_, rfl⟩
              obtain ⟨n3, hn3⟩ : ∃ n, n = openN q := ⟨_, rfl⟩
              obtain ⟨ip, hip⟩ : ∃ n, n = isP p := ⟨_, rfl⟩
              rw [← hn1, ← hn2, ← hn3] at HOP
              rw [← hn1] at HC1 hge
              rw [← hn2] at HC2
              rw [← hn3] at HC3
              rw [← hip] at HC4 hge
              have HBX := HB5
              clear hn1 hn2 hn3 hip HB5
              cases ok with
              | false =>
                cases ip
                all_goals go_wp2_with (first | (go_at_call_of 15 (#[Value.string p] : Array Value); refine (HC1.out _ (HML.out.later HBX.out)).mono ?_; rintro e w5 ⟨rfl, b5⟩; have HBY := Lib.hid (btrans HBX.out b5); clear HBX b5; have HBX := HBY; clear HBY) | (go_at_call_of 16 (#[Value.string p] : Array Value); refine (HC4.out _ (HML.out.later HBX.out)).mono ?_; rintro e w5 ⟨rfl, b5⟩; have HBY := Lib.hid (btrans HBX.out b5); clear HBX b5; have HBX := HBY; clear HBY))
                all_goals go_meet
                all_goals exact ⟨rfl, HBX⟩
              | true =>
                have hle := HOP.out rfl
                have hd1 : decide (n1 < n2) = false := decide_eq_false (by omega)
                have hd2 : decide (n3 < n2) = false := decide_eq_false (by omega)
                clear hle
                cases ip
                all_goals go_wp2_with (first | (go_at_call_of 15 (#[Value.string p] : Array Value); refine (HC1.out _ (HML.out.later HBX.out)).mono ?_; rintro e w5 ⟨rfl, b5⟩; have HBY := Lib.hid (btrans HBX.out b5); clear HBX b5; have HBX := HBY; clear HBY) | (go_at_call_of 16 (#[Value.string p] : Array Value); refine (HC4.out _ (HML.out.later HBX.out)).mono ?_; rintro e w5 ⟨rfl, b5⟩; have HBY := Lib.hid (btrans HBX.out b5); clear HBX b5; have HBX := HBY; clear HBY) | (go_at_call_of 15 (#[Value.string m] : Array Value); refine (HC2.out _ (HML.out.later HBX.out)).mono ?_; rintro e w5 ⟨rfl, b5⟩; have HBY := Lib.hid (btrans HBX.out b5); clear HBX b5; have HBX := HBY; clear HBY) | (go_at_call_of 15 (#[Value.string q] : Array Value); refine (HC3.out _ (HML.out.later HBX.out)).mono ?_; rintro e w5 ⟨rfl, b5⟩; have HBY := Lib.hid (btrans HBX.out b5); clear HBX b5; have HBX := HBY; clear HBY))
                all_goals go_meet
                all_goals exact ⟨rfl, HBX⟩
            case rest =>
              obtain ⟨rfl, HBX⟩ := hcut
              clear HOP HB5 HWZ HRD
              rename_i KA hKA
              refine hKA _ _ ?_
              clear hKA
              go_upto_region 22 with (fail)
              go_cut [13, 14] (fun s13 s14 wx => ∃ (L : List ByteArray) (t : Int) (al : Option Addr) (cl : Nat), s13 = .slice al L.length cl ∧ s14 = .int .i64 t ∧ L.length ≤ 35 ∧ LO ≤ t ∧ t ≤ HI ∧ Hid (∀ z ∈ L, z.size ≤ 10) ∧ Hid (ReadsS wx.heap.size wx (.slice al L.length cl) L) ∧ Hid (Below w.heap.size w wx))
              case first =>
                go_wp2_with (go_at_call 17; refine (dla_any l0.length cap a0 _ (code_later HC.out (btrans HB3.out HBX.out)) (by omega)).mono ?_; rintro e w5 ⟨L, vl, t, hL, hz, ht0, ht1, rfl, hrd, b5⟩; have HRL := Lib.hid hrd; have HLZ := Lib.hid hz; have HB5 := Lib.hid (btrans (btrans HB3.out HBX.out) b5); clear hrd hz b5)
                obtain ⟨al, cl, rfl⟩ : ∃ a c, vl = .slice a L.length c := by obtain ⟨-, a9, c9, e9, -⟩ := HRL.out.cells; exact ⟨_, _, e9⟩
                go_meet
                exact ⟨L, t, al, cl, rfl, rfl, hL, ht0, ht1, HLZ, HRL, HB5⟩
              case rest =>
                obtain ⟨L, t, al, cl, rfl, rfl, hL35, ht0, ht1, HLZ, HRL, HB5⟩ := hcut
                rename_i KA hKA
                refine hKA _ _ ?_
                clear hKA
                have HD5 : Hid (DB wc) := Lib.hid (HV.out.2.later HB5.out)
                go_upto_region 25 with (go_at_call 18; refine (ilet_any L t (by omega) _ _ HD5.out HRL.out (fun z hz => by have := HLZ.out z hz; omega)).mono ?_; rintro e w6 ⟨rfl, b6⟩; have HB6 := Lib.hid (btrans HB5.out b6); have HR6 := Lib.hid (HRL.out.now b6); clear b6)
                have hs26 := letters_size L t
                have HLT := Lib.hid (letters_at L t)
                obtain ⟨s, hs⟩ : ∃ s, s = lettersA L t := ⟨_, rfl⟩
                rw [← hs] at HLT hs26 ⊢
                clear hs HBX HRL HD5 HB5
                have HCL : Hid (∀ j, j < L.length → ∃ b off, al = some ⟨b, off, none⟩ ∧ b < w6.heap.size ∧ w6.cell? ⟨b, off + j, none⟩ = some (.string (L.getD j ⟨#[]⟩))) := Lib.hid (by
                  obtain ⟨-, a9, c9, e9, -, h9⟩ := HR6.out.cells
                  cases e9
                  exact h9)
                clear HR6
                go_loopw [16] (fun i wr => ∃ k : Nat, k ≤ s.size ∧ i = .int .i64 k ∧ Hid (Below w6.heap.size w6 wr)) (fun i _ => s.size - (intOf i).toNat)
                case atStart => exact ⟨0, Nat.zero_le _, rfl, Lib.hid (Below.refl _ _)⟩
                case round =>
                  obtain ⟨i, hi, rfl, HBX⟩ := hrel
                  by_cases hlt : i < s.size
                  · obtain ⟨wq, rfl⟩ : ∃ wq, wq = wr := ⟨wr, rfl⟩
                    obtain ⟨h0, hsm, hasc⟩ := HLT.out i hlt
                    obtain ⟨n, rfl⟩ : ∃ n : Nat, t = (n : Int) := ⟨t.toNat, by omega⟩
                    rw [Int.toNat_natCast, getD_byte s i hlt] at hsm
                    have HSM := Lib.hid hsm
                    have HAS : Hid (0 < i → ∀ h : i - 1 < s.size, s[i - 1].toNat < s[i].toNat) := Lib.hid (fun hp h => by
                      have h9 := hasc hp
                      rw [getD_byte s i hlt, getD_byte s (i - 1) h] at h9
                      exact h9)
                    have h255 : s[i].toNat ≤ 255 := by have := s[i].toNat_lt; omega
                    clear hsm hasc
                    go_upto_region 29 with (fail)
                    go_loopw [17, 18] (fun sm j wi => ∃ k : Nat, k ≤ L.length ∧ j = .int .i64 k ∧ sm = .bool (smAt (L.take k) n s[i]) ∧ Hid (Below w6.heap.size w6 wi)) (fun _ j _ => L.length - (intOf j).toNat)
                    case atStart => exact ⟨0, Nat.zero_le _, rfl, rfl, HBX⟩
                    case round =>
                      obtain ⟨k, hk, rfl, rfl, HBI⟩ := hrel
                      by_cases hlk : k < L.length
                      · obtain ⟨b, off, rfl, hb, q0⟩ := HCL.out k hlk
                        obtain ⟨x, hx⟩ : ∃ x, x = L.getD k ⟨#[]⟩ := ⟨_, rfl⟩
                        have HNX := Lib.hid (smAt_next L n s[i] k hlk x hx)
                        have hx10 : x.size ≤ 10 := by rw [hx]; exact HLZ.out _ (getD_mem L k ⟨#[]⟩ hlk)
                        rw [← hx] at q0
                        have d0 := (HBI.out.cell (p := ⟨b, off + k, none⟩) hb).trans q0
                        obtain ⟨c, hc⟩ : ∃ c, c = smAt (L.take k) n s[i] := ⟨_, rfl⟩
                        rw [← hc] at HNX ⊢
                        clear hx q0 hc
                        cases c with
                        | true =>
                          have HN : Hid (smAt (L.take (k + 1)) n s[i] = true) := Lib.hid (by rw [HNX.out]; rfl)
                          go_wp2
                          go_quiet (fail)
                          go_wp2
                          go_roundw
                          case rel => exact ⟨k + 1, by omega, by go_num, by rw [HN.out], Lib.hid (below_drewN HBI.out _)⟩
                          case measure => simp [intOf]; omega
                        | false =>
                          by_cases hn : n < x.size
                          · have hd1 : decide ((n : Int) < (x.size : Int)) = true := decide_eq_true (by omega)
                            have hgx := getD_byte x n hn
                            by_cases he : x[n] = s[i]
                            · have HN : Hid (smAt (L.take (k + 1)) n s[i] = true) := Lib.hid (by rw [HNX.out, hgx, he]; simp [hn])
                              have hq : ((x[n].toNat : Int) == (s[i].toNat : Int)) = true := by simp [he]
                              clear he hgx
                              go_wp2
                              go_quiet (fail)
                              go_wp2
                              go_roundw
                              case rel => exact ⟨k + 1, by omega, by go_num, by rw [HN.out], Lib.hid (below_drewN HBI.out _)⟩
                              case measure => simp [intOf]; omega
                            · have HN : Hid (smAt (L.take (k + 1)) n s[i] = false) := Lib.hid (by rw [HNX.out, hgx]; simp [he])
                              have hq : ((x[n].toNat : Int) == (s[i].toNat : Int)) = false := by
                                simp
                                intro h
                                exact he (UInt8.toNat_inj.1 (by omega))
                              clear he hgx
                              go_wp2
                              go_quiet (fail)
                              go_wp2
                              go_roundw
                              case rel => exact ⟨k + 1, by omega, by go_num, by rw [HN.out], Lib.hid (below_drewN HBI.out _)⟩
                              case measure => simp [intOf]; omega
                          · have hd1 : decide ((n : Int) < (x.size : Int)) = false := decide_eq_false (by omega)
                            have HN : Hid (smAt (L.take (k + 1)) n s[i] = false) := Lib.hid (by rw [HNX.out]; simp [hn])
                            go_wp2
                            go_quiet (fail)
                            go_wp2
                            go_roundw
                            case rel => exact ⟨k + 1, by omega, by go_num, by rw [HN.out], Lib.hid (below_drewN HBI.out _)⟩
                            case measure => simp [intOf]; omega
                      · have HT : Hid (smAt (L.take k) n s[i] = true) := Lib.hid (by rw [List.take_of_length_le (by omega)]; exact HSM.out)
                        rw [HT.out]
                        rcases Nat.eq_zero_or_pos i with rfl | hpos
                        · go_wp2
                          go_quiet (fail)
                          go_wp2
                          go_roundw
                          case rel => exact ⟨1, by omega, by go_num, Lib.hid (below_drewN HBI.out _)⟩
                          case measure => simp [intOf]; omega
                        · obtain ⟨j, hj⟩ : ∃ j, j = i - 1 := ⟨_, rfl⟩
                          have hj2 : j < s.size := by omega
                          have hlo := HAS.out hpos (by omega)
                          have hsub : ∀ (a : Nat) (_ : a = j) (h : a < s.size), s[a] = s[j] := by rintro a rfl h; rfl
                          rw [hsub (i - 1) hj.symm (by omega)] at hlo
                          have hge : decide ((s[i].toNat : Int) ≤ (s[j].toNat : Int)) = false := decide_eq_false (by omega)
                          have hge2 : decide (s[i].toNat ≤ s[j].toNat) = false := decide_eq_false (by omega)
                          have hwi : (i : Int) - 1 = (j : Int) := by omega
                          have hd1 : decide ((0 : Int) < (i : Int)) = true := decide_eq_true (by omega)
                          clear hlo hsub hj
                          go_wp2
                          go_quiet (fail)
                          go_wp2
                          go_roundw
                          case rel => exact ⟨i + 1, by omega, by go_num, Lib.hid (below_drewN HBI.out _)⟩
                          case measure => simp [intOf]; omega
                  · go_wp2_with fail
                    go_ret
                    exact ⟨rfl, btrans HB6.out HBX.out⟩
end Go.Proofs.YthgnhcjbjdhjfaaDoor.fnPatterns
