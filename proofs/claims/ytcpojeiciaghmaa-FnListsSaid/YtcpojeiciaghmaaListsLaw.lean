/-
  The walk of the law FnLists: true at every byte slice.
-/
import Derived.Test.YtcpojeiciaghmaaSame
import Derived.Test.YtcpojeiciaghmaaListImplG
import Derived.Test.YtcpojeiciaghmaaListFacts
import Derived.Test.YtcpojeiciaghmaaDrawAdd
import Derived.Test.YtcpojeiciaghmaaListStd
import Derived.BigQuiet
import Derived.IntWalk
import Derived.Deep.RegionLaw
import Derived.Deep.DeepCutAuto
import Derived.Deep.CutRange
namespace Go.Proofs.Ytcpojeiciaghmaa.fnLists
open Go.RowKit

theorem readsS_none (W : World) : ReadsS W.heap.size W (.slice none 0 0) [] := ⟨by simp, rfl, none, 0, rfl, ⟨fun _ => rfl, by simp, by decide⟩, fun j hj => by simp at hj⟩
theorem score_nil (l : LZ) (hl : l.length ≤ 16777216) (v : Value) (w : World) (hv : ReadsListed w.heap.size w v l) :
    Calls Try.prog 20 #[v, .slice none 0 0] w fun e w' => e = .returned (.int .i64 0) ∧ Below w.heap.size w w' := by
  have h := iscore_any l [] hl (by simp) v (.slice none 0 0) w hv (readsS_none w)
  rw [scoreW_nil] at h
  exact h

set_option maxRecDepth 100000 in
set_option maxHeartbeats 12800000 in
theorem walk (v0 : Value) (l0 : List Int) (w : World) (hR : Reads w.heap.size w v0 .u8 l0) (hB : ∀ z ∈ l0, 0 ≤ z ∧ z ≤ 255) :
    Calls Try.prog 3 #[v0] w fun e w' => e = .returned (.bool true) ∧ Below w.heap.size w w' := by
  obtain ⟨a0, cap, rfl⟩ : ∃ a0 cap, v0 = .slice a0 l0.length cap := ⟨hR.2.choose, hR.2.choose_spec.choose, hR.2.choose_spec.choose_spec.1⟩
  have hc := code_of_reads hR rfl hB
  clear hR hB
  by_cases hbig : 1048576 < l0.length
  · go_enter Try.func3, Try.ntmps3
    go_wp2_with (go_at_call 10; refine (big_yes l0.length cap a0 hbig _).mono ?_; rintro e w1 ⟨rfl, rfl⟩)
    go_ret
    exact ⟨rfl, Below.refl _ _⟩
  · have HC := Lib.hid hc
    clear hc
    go_enter Try.func3, Try.ntmps3
    go_upto_region 4 with (first | (go_at_call 10; refine (big_no l0.length cap a0 (by omega) _).mono ?_; rintro e w0 ⟨rfl, rfl⟩) | (go_at_call 11; refine (dwa_any l0.length cap a0 _ HC.out (by omega)).mono ?_; rintro e w1 ⟨l, v, t, hL1, hL2, hQ, ht0, ht1, rfl, ho, hb⟩; have HO := Lib.hid ho; have HB1 := Lib.hid hb; clear hQ ho hb))
    have HR1 : Hid (ReadsListed w1.heap.size w1 v l) := Lib.hid (reads_Listed_own HO.out rfl (by omega))
    obtain ⟨a1, c1, rfl⟩ := ownV_slice HO.out
    clear HO
    go_cut [5] (fun s5 wx => (∃ a c, s5 = .slice a (atW l t).length c) ∧ Hid (ReadsS wx.heap.size wx s5 (atW l t)) ∧ Hid (ReadsListed wx.heap.size wx (.slice a1 l.length c1) l) ∧ Hid (Below w.heap.size w wx))
    case first =>
      go_wp2_with (go_at_call 12; refine (iat_any l t (by omega) _ _ HR1.out).mono ?_; rintro e w2 ⟨v', rfl, ho2, hb2⟩; have HO2 := Lib.hid ho2; have HB2 := Lib.hid hb2; clear ho2 hb2)
      go_meet
      exact ⟨ownV_slice HO2.out, Lib.hid (readsS_own HO2.out rfl (Nat.le_trans (atW_len l t) (by omega))), Lib.hid (HR1.out.now HB2.out), Lib.hid (btrans HB1.out HB2.out)⟩
    case rest =>
      obtain ⟨⟨a5, c5, rfl⟩, HS, HR, HB⟩ := hcut
      clear HR1 HB1
      rename_i KA hKA
      refine hKA _ _ (wp_seq_k ?_)
      intro KB hKB
      clear hKA
      go_cut [6] (fun _ wx => Hid (Below w.heap.size w wx))
      case first =>
        obtain ⟨p, hp⟩ : ∃ p, p = islW l := ⟨_, rfl⟩
        have HIS := Lib.hid (fun v w h => iislist_any l (by omega) v w h)
        rw [← hp] at HIS
        have HP := Lib.hid hp
        clear hp
        go_wp2
        go_loopw [6] (fun i wx => ∃ k : Nat, k ≤ l.length ∧ i = .int .i64 k ∧ Hid (Below wc.heap.size wc wx)) (fun i _ => l.length - (intOf i).toNat)
        case atStart => exact ⟨0, Nat.zero_le _, rfl, Lib.hid (Below.refl _ _)⟩
        case round =>
          obtain ⟨k, hk, rfl, HB0⟩ := hrel
          by_cases hlt : k < l.length
          · cases p with
            | false =>
              go_wp2_with (go_at_call 13; refine (HIS.out _ _ (HR.out.now HB0.out)).mono ?_; rintro e w3 ⟨rfl, hb3⟩; have HB3 := Lib.hid (btrans HB0.out hb3); clear hb3)
              go_meet
              exact Lib.hid (btrans HB.out HB3.out)
            | true =>
              obtain ⟨-, a9, c9, e9, -, hcl⟩ := HR.out.cells
              cases e9
              obtain ⟨b, off, rfl, hb, q0, q1, q2, -⟩ := hcl k hlt
              have HHX := Lib.hid (fun v w h => ihas_any (atW l t) (wd l k) (Nat.le_trans (atW_len l t) (by omega)) v w h)
              rw [atW_has HP.out.symm hlt] at HHX
              change _ = some (Value.string (wd l k)) at q0
              obtain ⟨x, hx⟩ : ∃ x, x = wd l k := ⟨_, rfl⟩
              obtain ⟨z, hz⟩ : ∃ z, z = l.getD k none_Listed := ⟨_, rfl⟩
              rw [← hx] at q0 HHX
              rw [← hz] at q1 q2 HHX
              unfold onL at HHX
              obtain ⟨y, f, u, s⟩ := z
              change _ = some (Value.int .i64 f) at q1
              change _ = some (Value.int .i64 u) at q2
              change Hid (∀ v w, _ → Calls _ _ _ _ fun e w' => e = .returned (.bool (decide (f ≤ t ∧ t ≤ u))) ∧ _) at HHX
              clear hx hz hcl
              have hcase : t < f ∨ (f ≤ t ∧ u < t) ∨ (f ≤ t ∧ t ≤ u) := by omega
              rcases hcase with h1 | ⟨h1, h2⟩ | ⟨h1, h2⟩
              · rw [show decide (f ≤ t ∧ t ≤ u) = false from decide_eq_false (by omega)] at HHX
                have d1 : decide (f ≤ t) = false := decide_eq_false (by omega)
                go_wp2_with (go_at_call 13; refine (HIS.out _ _ (HR.out.now HB0.out)).mono ?_; rintro e w3 ⟨rfl, hb3⟩; have HB3 := Lib.hid (btrans HB0.out hb3); clear hb3; have g0 := (HB3.out.cell (p := ⟨b, off + k * 4, none⟩) hb).trans q0; have g1 := (HB3.out.cell (p := ⟨b, off + k * 4 + 1, none⟩) hb).trans q1; have g2 := (HB3.out.cell (p := ⟨b, off + k * 4 + 2, none⟩) hb).trans q2; have HRS := Lib.hid (HS.out.now HB3.out))
                go_quiet (first | (go_at_call 14; exact (HHX.out _ _ (HRS.out.now (below_drewN (Below.refl _ _) _))).mono fun _ _ h => ⟨h.1, _, h.2.symm⟩))
                all_goals go_wp2_with fail
                go_roundw
                case rel => exact ⟨k + 1, by omega, by go_num, Lib.hid (below_drewN HB3.out _)⟩
                case measure => simp [intOf]; omega
              · rw [show decide (f ≤ t ∧ t ≤ u) = false from decide_eq_false (by omega)] at HHX
                have d1 : decide (f ≤ t) = true := decide_eq_true (by omega)
                have d2 : decide (t ≤ u) = false := decide_eq_false (by omega)
                go_wp2_with (go_at_call 13; refine (HIS.out _ _ (HR.out.now HB0.out)).mono ?_; rintro e w3 ⟨rfl, hb3⟩; have HB3 := Lib.hid (btrans HB0.out hb3); clear hb3; have g0 := (HB3.out.cell (p := ⟨b, off + k * 4, none⟩) hb).trans q0; have g1 := (HB3.out.cell (p := ⟨b, off + k * 4 + 1, none⟩) hb).trans q1; have g2 := (HB3.out.cell (p := ⟨b, off + k * 4 + 2, none⟩) hb).trans q2; have HRS := Lib.hid (HS.out.now HB3.out))
                go_quiet (first | (go_at_call 14; exact (HHX.out _ _ (HRS.out.now (below_drewN (Below.refl _ _) _))).mono fun _ _ h => ⟨h.1, _, h.2.symm⟩))
                all_goals go_wp2_with fail
                go_roundw
                case rel => exact ⟨k + 1, by omega, by go_num, Lib.hid (below_drewN HB3.out _)⟩
                case measure => simp [intOf]; omega
              · rw [show decide (f ≤ t ∧ t ≤ u) = true from decide_eq_true (by omega)] at HHX
                have d1 : decide (f ≤ t) = true := decide_eq_true (by omega)
                have d2 : decide (t ≤ u) = true := decide_eq_true (by omega)
                go_wp2_with (go_at_call 13; refine (HIS.out _ _ (HR.out.now HB0.out)).mono ?_; rintro e w3 ⟨rfl, hb3⟩; have HB3 := Lib.hid (btrans HB0.out hb3); clear hb3; have g0 := (HB3.out.cell (p := ⟨b, off + k * 4, none⟩) hb).trans q0; have g1 := (HB3.out.cell (p := ⟨b, off + k * 4 + 1, none⟩) hb).trans q1; have g2 := (HB3.out.cell (p := ⟨b, off + k * 4 + 2, none⟩) hb).trans q2; have HRS := Lib.hid (HS.out.now HB3.out))
                go_quiet (first | (go_at_call 14; exact (HHX.out _ _ (HRS.out.now (below_drewN (Below.refl _ _) _))).mono fun _ _ h => ⟨h.1, _, h.2.symm⟩))
                all_goals go_wp2_with fail
                go_roundw
                case rel => exact ⟨k + 1, by omega, by go_num, Lib.hid (below_drewN HB3.out _)⟩
                case measure => simp [intOf]; omega
          · go_wp2_with fail
            go_meet
            exact Lib.hid (btrans HB.out HB0.out)
      case rest =>
        clear HS HR HB
        have HB := hcut
        clear hcut
        go_upto_region 11 with (go_at_call 15; refine (dad_any l0.length cap a0 _ (Code.later5 HC.out HB.out) (by omega)).mono ?_; rintro e w4 ⟨A, va, x, f, u, s, hA1, hA2, hQ, hx, hf, hu, hs, rfl, hoa, hb4⟩; have HOA := Lib.hid hoa; have HB4 := Lib.hid (btrans HB.out hb4); clear hQ hoa hb4)
        obtain ⟨a7, c7, rfl⟩ := ownV_slice HOA.out
        have HRA : Hid (ReadsListed w4.heap.size w4 (.slice a7 A.length c7) A) := Lib.hid (reads_Listed_own HOA.out rfl (by omega))
        clear HOA
        obtain ⟨W5, hW5⟩ : ∃ W5, W5 = w4.alloc (.cells #[.string x, .int .i64 f, .int .i64 u, .int .i64 s] 32) := ⟨_, rfl⟩
        have hX5 : W5.heap[w4.heap.size]? = some (.cells #[.string x, .int .i64 f, .int .i64 u, .int .i64 s] 32) := by rw [hW5]; exact new_block5 w4 _
        have hs5 : w4.heap.size < W5.heap.size := by rw [hW5]; simp
        have HRA5 : Hid (ReadsListed W5.heap.size W5 (.slice a7 A.length c7) A) := Lib.hid (HRA.out.now (by rw [hW5]; exact (Below.refl _ _).alloc (Nat.le_refl _) _))
        have HB5 : Hid (Below w.heap.size w W5) := Lib.hid (by rw [hW5]; exact HB4.out.alloc HB4.out.size _)
        rw [← hW5]
        clear hW5 HRA HB4 HB
        obtain ⟨g, hg⟩ : ∃ g, g = w4.heap.size := ⟨_, rfl⟩
        rw [← hg] at hX5 hs5
        rw [← hg]
        clear hg
        obtain ⟨d0, d1, d2, d3, -, -, -, -⟩ := cells4 hX5
        have HX5 : Hid (∀ W', Below W5.heap.size W5 W' → W'.cell? ⟨g, 0, none⟩ = some (.string x) ∧ W'.cell? ⟨g, 1, none⟩ = some (.int .i64 f)) := Lib.hid (fun W' h => ⟨(h.cell (p := ⟨g, 0, none⟩) hs5).trans d0, (h.cell (p := ⟨g, 1, none⟩) hs5).trans d1⟩)
        clear hX5
        go_upto_region 12 with (go_at_call 16; refine (iadd_any A x f u s (by omega) _ _ HRA5.out).mono ?_; rintro e w6 ⟨v6, rfl, ho6, hb6⟩; have HO6 := Lib.hid ho6; have HB6 := Lib.hid hb6; clear ho6 hb6)
        clear d0 d1 d2 d3
        have HY := Lib.hid (@addW_yes A x f u s)
        have HNO := Lib.hid (@addW_no A (x, f, u, s))
        obtain ⟨m, hm⟩ : ∃ m, m = (addW A (x, f, u, s)).1 := ⟨_, rfl⟩
        obtain ⟨q, hq⟩ : ∃ q, q = (addW A (x, f, u, s)).2 := ⟨_, rfl⟩
        rw [← hm] at HO6 HY HNO
        rw [← hq] at HY HNO
        rw [← hq]
        clear hm hq
        obtain ⟨a9, c9, rfl⟩ := ownV_slice HO6.out
        go_cut [107] (fun s107 wx => s107 = .bool false ∧ Hid (Below w.heap.size w wx))
        case first =>
          cases q with
          | false =>
            have hmA : ((m.length : Int) != (A.length : Int)) = false := by have := HNO.out rfl; simp; omega
            go_quiet (fail)
            go_wp2_with fail
            go_meet
            exact ⟨rfl, Lib.hid (below_drewN (btrans HB5.out HB6.out) _)⟩
          | true =>
            obtain ⟨y1, y2, y3⟩ := HY.out rfl
            have hml : ((m.length : Int) != (A.length : Int) + 1) = false := by simp; omega
            have hwr : IntKind.i64.wrap ((A.length : Int) + 1) = (A.length : Int) + 1 := IntWalk.i64_in _ (by omega)
            have hNL : (atW m f).length ≤ 140737488355328 := Nat.le_trans (atW_len m f) (by omega)
            have hNL2 : (atW m f).length ≤ 16777216 := Nat.le_trans (atW_len m f) (by omega)
            have HIM := Lib.hid (fun v w h => iislist_any m (by omega) v w h)
            have HAT := Lib.hid (fun v w h => iat_any m f (by omega) v w h)
            have HHW := Lib.hid (fun v w h => ihas_any (atW m f) x hNL2 v w h)
            rw [y1] at HIM
            rw [y3] at HHW
            obtain ⟨N, hN⟩ : ∃ N, N = atW m f := ⟨_, rfl⟩
            rw [← hN] at HAT HHW hNL hNL2
            obtain ⟨W7, hW7⟩ : ∃ W7, W7 = w6.drew := ⟨_, rfl⟩
            have hb67 : Below w6.heap.size w6 W7 := by rw [hW7]; exact (Below.refl _ _).drew
            have HRM7 : Hid (ReadsListed W7.heap.size W7 (.slice a9 m.length c9) m) := Lib.hid ((reads_Listed_own HO6.out rfl (by omega)).now hb67)
            have HX7 : Hid (∀ W', Below W7.heap.size W7 W' → W'.cell? ⟨g, 0, none⟩ = some (.string x) ∧ W'.cell? ⟨g, 1, none⟩ = some (.int .i64 f)) := Lib.hid (fun W' h => HX5.out W' (btrans HB6.out (btrans hb67 h)))
            have HB7 : Hid (Below w.heap.size w W7) := Lib.hid (btrans HB5.out (btrans HB6.out hb67))
            clear y1 y2 y3 hN HY HNO hb67 HX5 HB6 HB5 HO6 HRA5
            refine wp_region_any (by kernel_rfl) ?_
            try (change wpAny _ _ _ _ _ _ _ (World.drew _))
            rw [← hW7]
            clear hW7
            refine wpAny_ready (rs := [0]) (by kernel_rfl) (by simp) ?_
            refine AllReady.cons rfl (fun K hK => ?_) AllReady.nil
            go_simp
            refine hK _ _ ?_
            clear hK K
            refine wpAny_ready (rs := [1]) (by kernel_rfl) (by simp) ?_
            refine AllReady.cons rfl (fun K hK => ?_) AllReady.nil
            go_simp
            refine hK _ _ ?_
            clear hK K
            refine wpAny_ready (rs := [2]) (by kernel_rfl) (by simp) ?_
            refine AllReady.cons rfl (fun K hK => ?_) AllReady.nil
            go_simp
            refine hK _ _ ?_
            clear hK K
            refine wpAny_ready (rs := [3]) (by kernel_rfl) (by simp) ?_
            refine AllReady.cons rfl (fun K hK => ?_) AllReady.nil
            go_simp
            go_wp2_with (go_at_call 13; refine (HIM.out _ _ HRM7.out).mono ?_; rintro e w8 ⟨rfl, hb8⟩; have HB8 := Lib.hid hb8; clear hb8; have e0 := (HX7.out _ HB8.out).1; have e1 := (HX7.out _ HB8.out).2)
            refine wpAny_ready (rs := [4]) (by kernel_rfl) (by simp) ?_
            refine AllReady.cons rfl (fun K hK => ?_) AllReady.nil
            go_simp
            refine hK _ _ ?_
            clear hK K
            refine wpAny_ready (rs := [5]) (by kernel_rfl) (by simp) ?_
            refine AllReady.cons rfl (fun K hK => ?_) AllReady.nil
            go_simp
            refine hK _ _ ?_
            clear hK K
            refine wpAny_take (i := 6) (v := Value.slice a9 m.length c9) rfl (by kernel_rfl) (by kernel_rfl) (by kernel_rfl) (fun _ _ _ h => h) (Or.inl ⟨by kernel_rfl, by intro w9; go_simp; all_goals rfl⟩) ?_
            refine wpAny_take (i := 7) (v := Value.int .i64 (m.length : Int)) rfl (by kernel_rfl) (by kernel_rfl) (by kernel_rfl) (fun _ _ _ h => h) (Or.inl ⟨by kernel_rfl, by intro w9; go_simp; all_goals rfl⟩) ?_
            refine wpAny_take (i := 8) (v := Value.slice a7 A.length c7) rfl (by kernel_rfl) (by kernel_rfl) (by kernel_rfl) (fun _ _ _ h => h) (Or.inl ⟨by kernel_rfl, by intro w9; go_simp; all_goals rfl⟩) ?_
            refine wpAny_take (i := 9) (v := Value.int .i64 (A.length : Int)) rfl (by kernel_rfl) (by kernel_rfl) (by kernel_rfl) (fun _ _ _ h => h) (Or.inl ⟨by kernel_rfl, by intro w9; go_simp; all_goals rfl⟩) ?_
            refine wpAny_take (i := 10) (v := Value.int .i64 ((A.length : Int) + 1)) rfl (by kernel_rfl) (by kernel_rfl) (by kernel_rfl) (fun _ _ _ h => h) (Or.inl ⟨by kernel_rfl, by intro w9; go_simp; all_goals (first | rfl | rw [hwr] | (simp only [hwr]))⟩) ?_
            refine wpAny_take (i := 11) (v := Value.bool false) rfl (by kernel_rfl) (by kernel_rfl) (by kernel_rfl) (fun _ _ _ h => h) (Or.inl ⟨by kernel_rfl, by intro w9; go_simp; all_goals rfl⟩) ?_
            refine wpAny_take (i := 12) (v := Value.bool false) rfl (by kernel_rfl) (by kernel_rfl) (by kernel_rfl) (fun _ _ _ h => h) (Or.inl ⟨by kernel_rfl, by intro w9; go_simp; all_goals rfl⟩) ?_
            refine wpAny_take (i := 13) (v := Value.bool false) rfl (by kernel_rfl) (by kernel_rfl) (by kernel_rfl) (fun _ _ _ h => h) (Or.inl ⟨by kernel_rfl, by intro w9; go_simp; all_goals rfl⟩) ?_
            refine wpAny_take (i := 14) (v := Value.slice a9 m.length c9) rfl (by kernel_rfl) (by kernel_rfl) (by kernel_rfl) (fun _ _ _ h => h) (Or.inl ⟨by kernel_rfl, by intro w9; go_simp; all_goals rfl⟩) ?_
            refine wpAny_take (i := 15) (v := Value.pointer (some { block := g, off := 1 })) rfl (by kernel_rfl) (by kernel_rfl) (by kernel_rfl) (fun _ _ _ h => h) (Or.inl ⟨by kernel_rfl, by intro w9; go_simp; all_goals rfl⟩) ?_
            refine wpAny_take (i := 18) (v := Value.pointer (some { block := g, off := 0 })) rfl (by kernel_rfl) (by kernel_rfl) (by kernel_rfl) (fun _ _ _ h => h) (Or.inl ⟨by kernel_rfl, by intro w9; go_simp; all_goals rfl⟩) ?_
            refine wpAny_ready (rs := [16, 19]) (by kernel_rfl) (by simp) ?_
            refine AllReady.cons rfl (fun K hK => ?_) (AllReady.cons rfl (fun K hK => ?_) AllReady.nil)
            · go_simp
              refine hK _ _ ?_
              clear hK K
              refine wpAny_ready (rs := [17, 19]) (by kernel_rfl) (by simp) ?_
              refine AllReady.cons rfl (fun K hK => ?_) (AllReady.cons rfl (fun K hK => ?_) AllReady.nil)
              · go_simp
                go_wp2_with (go_at_call 12; refine (HAT.out _ _ (HRM7.out.now HB8.out)).mono ?_; rintro e w9 ⟨v9, rfl, ho9, hb9⟩; have HR9 := Lib.hid (readsS_own ho9 rfl hNL); have HB9 := Lib.hid (btrans HB8.out hb9); clear ho9 hb9; have k0 := (HX7.out _ HB9.out).1)
                refine wpAny_ready (rs := [19]) (by kernel_rfl) (by simp) ?_
                refine AllReady.cons rfl (fun K hK => ?_) AllReady.nil
                go_simp
                refine hK _ _ ?_
                clear hK K
                refine wpAny_ready (rs := [20]) (by kernel_rfl) (by simp) ?_
                refine AllReady.cons rfl (fun K hK => ?_) AllReady.nil
                go_simp
                go_wp2_with (go_at_call 14; refine (HHW.out _ _ HR9.out).mono ?_; rintro e w10 ⟨rfl, rfl⟩)
                refine wpAny_ready (rs := [21]) (by kernel_rfl) (by simp) ?_
                refine AllReady.cons rfl (fun K hK => ?_) AllReady.nil
                go_simp
                refine hK _ _ ?_
                clear hK K
                refine wpAny_ready (rs := [22]) (by kernel_rfl) (by simp) ?_
                refine AllReady.cons rfl (fun K hK => ?_) AllReady.nil
                go_simp
                refine hK _ _ ?_
                clear hK K
                refine wpAny_ready (rs := [23]) (by kernel_rfl) (by simp) ?_
                refine AllReady.cons rfl (fun K hK => ?_) AllReady.nil
                go_simp
                refine hK _ _ ?_
                clear hK K
                refine wpAny_ready (rs := [24]) (by kernel_rfl) (by simp) ?_
                refine AllReady.cons rfl (fun K hK => ?_) AllReady.nil
                go_simp
                refine hK _ _ ?_
                clear hK K
                refine wpAny_ready (rs := [25]) (by kernel_rfl) (by simp) ?_
                refine AllReady.cons rfl (fun K hK => ?_) AllReady.nil
                go_simp
                refine hK _ _ ?_
                clear hK K
                refine wpAny_ready (rs := [26]) (by kernel_rfl) (by simp) ?_
                refine AllReady.cons rfl (fun K hK => ?_) AllReady.nil
                go_simp
                refine hK _ _ ?_
                clear hK K
                refine wpAny_ready (rs := [27]) (by kernel_rfl) (by simp) ?_
                refine AllReady.cons rfl (fun K hK => ?_) AllReady.nil
                go_simp
                refine hK _ _ ?_
                clear hK K
                refine wpAny_take (i := 28) (v := undef) rfl (by kernel_rfl) (by kernel_rfl) (by kernel_rfl) (fun _ _ _ h => h) (Or.inr ⟨by kernel_rfl, rfl⟩) ?_
                refine wpAny_take (i := 29) (v := undef) rfl (by kernel_rfl) (by kernel_rfl) (by kernel_rfl) (fun _ _ _ h => h) (Or.inr ⟨by kernel_rfl, rfl⟩) ?_
                refine wpAny_take (i := 30) (v := undef) rfl (by kernel_rfl) (by kernel_rfl) (by kernel_rfl) (fun _ _ _ h => h) (Or.inr ⟨by kernel_rfl, rfl⟩) ?_
                refine wpAny_take (i := 31) (v := undef) rfl (by kernel_rfl) (by kernel_rfl) (by kernel_rfl) (fun _ _ _ h => h) (Or.inr ⟨by kernel_rfl, rfl⟩) ?_
                refine wpAny_take (i := 32) (v := undef) rfl (by kernel_rfl) (by kernel_rfl) (by kernel_rfl) (fun _ _ _ h => h) (Or.inr ⟨by kernel_rfl, rfl⟩) ?_
                refine wpAny_ready (rs := [33]) (by kernel_rfl) (by simp) ?_
                refine AllReady.cons rfl (fun K hK => ?_) AllReady.nil
                go_simp
                refine hK _ _ ?_
                clear hK K
                refine wpAny_ready (rs := [34]) (by kernel_rfl) (by simp) ?_
                refine AllReady.cons rfl (fun K hK => ?_) AllReady.nil
                go_simp
                refine hK _ _ ?_
                clear hK K
                refine wpAny_done (by kernel_rfl) ?_ _
                go_wp2_with fail
                go_meet
                exact ⟨rfl, Lib.hid (btrans HB7.out HB9.out)⟩
              · go_simp
                refine hK _ _ ?_
                clear hK K
                refine wpAny_ready (rs := [17]) (by kernel_rfl) (by simp) ?_
                refine AllReady.cons rfl (fun K hK => ?_) AllReady.nil
                go_simp
                go_wp2_with (go_at_call 12; refine (HAT.out _ _ (HRM7.out.now HB8.out)).mono ?_; rintro e w9 ⟨v9, rfl, ho9, hb9⟩; have HR9 := Lib.hid (readsS_own ho9 rfl hNL); have HB9 := Lib.hid (btrans HB8.out hb9); clear ho9 hb9; have k0 := (HX7.out _ HB9.out).1)
                refine wpAny_ready (rs := [20]) (by kernel_rfl) (by simp) ?_
                refine AllReady.cons rfl (fun K hK => ?_) AllReady.nil
                go_simp
                go_wp2_with (go_at_call 14; refine (HHW.out _ _ HR9.out).mono ?_; rintro e w10 ⟨rfl, rfl⟩)
                refine wpAny_ready (rs := [21]) (by kernel_rfl) (by simp) ?_
                refine AllReady.cons rfl (fun K hK => ?_) AllReady.nil
                go_simp
                refine hK _ _ ?_
                clear hK K
                refine wpAny_ready (rs := [22]) (by kernel_rfl) (by simp) ?_
                refine AllReady.cons rfl (fun K hK => ?_) AllReady.nil
                go_simp
                refine hK _ _ ?_
                clear hK K
                refine wpAny_ready (rs := [23]) (by kernel_rfl) (by simp) ?_
                refine AllReady.cons rfl (fun K hK => ?_) AllReady.nil
                go_simp
                refine hK _ _ ?_
                clear hK K
                refine wpAny_ready (rs := [24]) (by kernel_rfl) (by simp) ?_
                refine AllReady.cons rfl (fun K hK => ?_) AllReady.nil
                go_simp
                refine hK _ _ ?_
                clear hK K
                refine wpAny_ready (rs := [25]) (by kernel_rfl) (by simp) ?_
                refine AllReady.cons rfl (fun K hK => ?_) AllReady.nil
                go_simp
                refine hK _ _ ?_
                clear hK K
                refine wpAny_ready (rs := [26]) (by kernel_rfl) (by simp) ?_
                refine AllReady.cons rfl (fun K hK => ?_) AllReady.nil
                go_simp
                refine hK _ _ ?_
                clear hK K
                refine wpAny_ready (rs := [27]) (by kernel_rfl) (by simp) ?_
                refine AllReady.cons rfl (fun K hK => ?_) AllReady.nil
                go_simp
                refine hK _ _ ?_
                clear hK K
                refine wpAny_take (i := 28) (v := undef) rfl (by kernel_rfl) (by kernel_rfl) (by kernel_rfl) (fun _ _ _ h => h) (Or.inr ⟨by kernel_rfl, rfl⟩) ?_
                refine wpAny_take (i := 29) (v := undef) rfl (by kernel_rfl) (by kernel_rfl) (by kernel_rfl) (fun _ _ _ h => h) (Or.inr ⟨by kernel_rfl, rfl⟩) ?_
                refine wpAny_take (i := 30) (v := undef) rfl (by kernel_rfl) (by kernel_rfl) (by kernel_rfl) (fun _ _ _ h => h) (Or.inr ⟨by kernel_rfl, rfl⟩) ?_
                refine wpAny_take (i := 31) (v := undef) rfl (by kernel_rfl) (by kernel_rfl) (by kernel_rfl) (fun _ _ _ h => h) (Or.inr ⟨by kernel_rfl, rfl⟩) ?_
                refine wpAny_take (i := 32) (v := undef) rfl (by kernel_rfl) (by kernel_rfl) (by kernel_rfl) (fun _ _ _ h => h) (Or.inr ⟨by kernel_rfl, rfl⟩) ?_
                refine wpAny_ready (rs := [33]) (by kernel_rfl) (by simp) ?_
                refine AllReady.cons rfl (fun K hK => ?_) AllReady.nil
                go_simp
                refine hK _ _ ?_
                clear hK K
                refine wpAny_ready (rs := [34]) (by kernel_rfl) (by simp) ?_
                refine AllReady.cons rfl (fun K hK => ?_) AllReady.nil
                go_simp
                refine hK _ _ ?_
                clear hK K
                refine wpAny_done (by kernel_rfl) ?_ _
                go_wp2_with fail
                go_meet
                exact ⟨rfl, Lib.hid (btrans HB7.out HB9.out)⟩
            · go_simp
              refine hK _ _ ?_
              clear hK K
              refine wpAny_ready (rs := [16]) (by kernel_rfl) (by simp) ?_
              refine AllReady.cons rfl (fun K hK => ?_) AllReady.nil
              go_simp
              refine hK _ _ ?_
              clear hK K
              refine wpAny_ready (rs := [17]) (by kernel_rfl) (by simp) ?_
              refine AllReady.cons rfl (fun K hK => ?_) AllReady.nil
              go_simp
              go_wp2_with (go_at_call 12; refine (HAT.out _ _ (HRM7.out.now HB8.out)).mono ?_; rintro e w9 ⟨v9, rfl, ho9, hb9⟩; have HR9 := Lib.hid (readsS_own ho9 rfl hNL); have HB9 := Lib.hid (btrans HB8.out hb9); clear ho9 hb9; have k0 := (HX7.out _ HB9.out).1)
              refine wpAny_ready (rs := [20]) (by kernel_rfl) (by simp) ?_
              refine AllReady.cons rfl (fun K hK => ?_) AllReady.nil
              go_simp
              go_wp2_with (go_at_call 14; refine (HHW.out _ _ HR9.out).mono ?_; rintro e w10 ⟨rfl, rfl⟩)
              refine wpAny_ready (rs := [21]) (by kernel_rfl) (by simp) ?_
              refine AllReady.cons rfl (fun K hK => ?_) AllReady.nil
              go_simp
              refine hK _ _ ?_
              clear hK K
              refine wpAny_ready (rs := [22]) (by kernel_rfl) (by simp) ?_
              refine AllReady.cons rfl (fun K hK => ?_) AllReady.nil
              go_simp
              refine hK _ _ ?_
              clear hK K
              refine wpAny_ready (rs := [23]) (by kernel_rfl) (by simp) ?_
              refine AllReady.cons rfl (fun K hK => ?_) AllReady.nil
              go_simp
              refine hK _ _ ?_
              clear hK K
              refine wpAny_ready (rs := [24]) (by kernel_rfl) (by simp) ?_
              refine AllReady.cons rfl (fun K hK => ?_) AllReady.nil
              go_simp
              refine hK _ _ ?_
              clear hK K
              refine wpAny_ready (rs := [25]) (by kernel_rfl) (by simp) ?_
              refine AllReady.cons rfl (fun K hK => ?_) AllReady.nil
              go_simp
              refine hK _ _ ?_
              clear hK K
              refine wpAny_ready (rs := [26]) (by kernel_rfl) (by simp) ?_
              refine AllReady.cons rfl (fun K hK => ?_) AllReady.nil
              go_simp
              refine hK _ _ ?_
              clear hK K
              refine wpAny_ready (rs := [27]) (by kernel_rfl) (by simp) ?_
              refine AllReady.cons rfl (fun K hK => ?_) AllReady.nil
              go_simp
              refine hK _ _ ?_
              clear hK K
              refine wpAny_take (i := 28) (v := undef) rfl (by kernel_rfl) (by kernel_rfl) (by kernel_rfl) (fun _ _ _ h => h) (Or.inr ⟨by kernel_rfl, rfl⟩) ?_
              refine wpAny_take (i := 29) (v := undef) rfl (by kernel_rfl) (by kernel_rfl) (by kernel_rfl) (fun _ _ _ h => h) (Or.inr ⟨by kernel_rfl, rfl⟩) ?_
              refine wpAny_take (i := 30) (v := undef) rfl (by kernel_rfl) (by kernel_rfl) (by kernel_rfl) (fun _ _ _ h => h) (Or.inr ⟨by kernel_rfl, rfl⟩) ?_
              refine wpAny_take (i := 31) (v := undef) rfl (by kernel_rfl) (by kernel_rfl) (by kernel_rfl) (fun _ _ _ h => h) (Or.inr ⟨by kernel_rfl, rfl⟩) ?_
              refine wpAny_take (i := 32) (v := undef) rfl (by kernel_rfl) (by kernel_rfl) (by kernel_rfl) (fun _ _ _ h => h) (Or.inr ⟨by kernel_rfl, rfl⟩) ?_
              refine wpAny_ready (rs := [33]) (by kernel_rfl) (by simp) ?_
              refine AllReady.cons rfl (fun K hK => ?_) AllReady.nil
              go_simp
              refine hK _ _ ?_
              clear hK K
              refine wpAny_ready (rs := [34]) (by kernel_rfl) (by simp) ?_
              refine AllReady.cons rfl (fun K hK => ?_) AllReady.nil
              go_simp
              refine hK _ _ ?_
              clear hK K
              refine wpAny_done (by kernel_rfl) ?_ _
              go_wp2_with fail
              go_meet
              exact ⟨rfl, Lib.hid (btrans HB7.out HB9.out)⟩
        case rest =>
          obtain ⟨rfl, HB⟩ := hcut
          clear HY HNO HX5 HRA5 HO6 HB6 HB5
          go_upto_region 16 with (first | (go_at_call 17; refine (dew_any l0.length cap a0 _ (Code.later5 HC.out HB.out) (by omega)).mono ?_; rintro e w11 ⟨E, ve, y, te, hE1, hE2, hQ, hy, ht2, ht3, rfl, hoe, hb11⟩; have HRE := Lib.hid (reads_Listed_own hoe rfl (by omega)); have HB11 := Lib.hid (btrans HB.out hb11); clear hQ hoe hb11) | (go_at_call 18; refine (iend_any E y te (by omega) _ _ HRE.out).mono ?_; rintro e w12 ⟨v12, rfl, ho12, hb12⟩; have HO12 := Lib.hid ho12; have HB12 := Lib.hid (btrans HB11.out hb12); clear ho12 hb12))
          have HY := Lib.hid (@endW_yes E y te)
          have hml : (endW E y te).1.length = E.length := endW_len E y te
          obtain ⟨m, hm⟩ : ∃ m, m = (endW E y te).1 := ⟨_, rfl⟩
          obtain ⟨q, hq⟩ : ∃ q, q = (endW E y te).2 := ⟨_, rfl⟩
          rw [← hm] at HO12 HY hml
          rw [← hq] at HY
          rw [← hq]
          clear hm hq
          have hmz : m.length ≤ 21 := by omega
          clear hml
          go_cut [138] (fun s138 wx => s138 = .bool false ∧ Hid (Below w.heap.size w wx))
          case first =>
            cases q with
            | false =>
              go_wp2_with fail
              go_meet
              exact ⟨rfl, HB12⟩
            | true =>
              obtain ⟨y1, y3⟩ := HY.out rfl
              have hNL : (atW m (te + 1)).length ≤ 140737488355328 := Nat.le_trans (atW_len m (te + 1)) (by omega)
              have hNL2 : (atW m (te + 1)).length ≤ 16777216 := Nat.le_trans (atW_len m (te + 1)) (by omega)
              have HIM := Lib.hid (fun v w h => iislist_any m (by omega) v w h)
              have HAT := Lib.hid (fun v w h => iat_any m (te + 1) (by omega) v w h)
              have HHW := Lib.hid (fun v w h => ihas_any (atW m (te + 1)) y hNL2 v w h)
              rw [y1] at HIM
              rw [y3] at HHW
              obtain ⟨N, hN⟩ : ∃ N, N = atW m (te + 1) := ⟨_, rfl⟩
              rw [← hN] at HAT HHW hNL hNL2
              have HRM := Lib.hid (reads_Listed_own HO12.out rfl (by omega))
              clear y1 y3 hN HY
              go_wp2_with (first | (go_at_call 13; refine (HIM.out _ _ HRM.out).mono ?_; rintro e w13 ⟨rfl, hb13⟩; have HB13 := Lib.hid hb13; clear hb13) | (go_at_call 12; refine (HAT.out _ _ (HRM.out.now HB13.out)).mono ?_; rintro e w14 ⟨v14, rfl, ho14, hb14⟩; have HR14 := Lib.hid (readsS_own ho14 rfl hNL); have HB14 := Lib.hid (btrans HB13.out hb14); clear ho14 hb14) | (go_at_call 14; refine (HHW.out _ _ HR14.out).mono ?_; rintro e w15 ⟨rfl, rfl⟩))
              go_meet
              exact ⟨rfl, Lib.hid (btrans HB12.out HB14.out)⟩
          case rest =>
            obtain ⟨rfl, HB2⟩ := hcut
            clear HY HO12 HB12 HB11 HRE HB
            have FL : Hid True := Lib.hid trivial
            go_wp2_with (first | (go_at_call 19; refine (dso_any l0.length cap a0 _ (Code.later5 HC.out HB2.out) (by omega)).mono ?_; rintro e w21 ⟨S, vs, ws, us, hS1, hS2, hQ, hws, hwz, rfl, hos, hou, hb21⟩; have HRS := Lib.hid (reads_Listed_own hos rfl (by omega)); have HRW := Lib.hid (readsS_own hou rfl (by omega)); have HB21 := Lib.hid (btrans HB2.out hb21); have hn0 := scoreW_nonneg S ws; clear hQ hwz hos hou hb21) | (go_at_call 20; have FG := FL; refine (iscore_any S ws (by omega) (by omega) _ _ _ HRS.out HRW.out).mono ?_; rintro e w22 ⟨rfl, hb22⟩; have HB22 := Lib.hid (btrans HB21.out hb22); have HRS2 := Lib.hid (HRS.out.now hb22); clear hb22 FL FG) | (go_at_call 20; refine (score_nil S (by omega) _ _ HRS2.out).mono ?_; rintro e w23 ⟨rfl, hb23⟩; have HB23 := Lib.hid (btrans HB22.out hb23); clear hb23))
            go_ret
            exact ⟨rfl, HB23.out⟩
end Go.Proofs.Ytcpojeiciaghmaa.fnLists
