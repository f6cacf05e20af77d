/-
  The stable sort of slots, eighth part: stableCmpFunc, SortStableFunc, at fewer than 40 slots.
-/
import Derived.Test.YtdhjgaadfofkkaaDoorSlotSortG
namespace Go.Proofs.YtdhjgaadfofkkaaDoor
open Go.RowKit Go.Sort

set_option maxRecDepth 100000 in
set_option maxHeartbeats 3200000 in
theorem stable_few (base g m cap : Nat) (L : List SlotV) (hm : m < 20) (w : World) (hR : SRow w base g m cap L) :
    Calls Tryd.prog 64 #[.slice (some ⟨g, 0, none⟩) m cap, .int .i64 (m : Int), lessF] w fun e w' => (∃ r, e = .returned r) ∧ (∃ M', SRow w' base g m cap M' ∧ M'.Pairwise leS ∧ Bub ltS L M') ∧ w.grownBy w' (some g) := by
  have HIN : Hid (∀ w : World, SRow w base g m cap L → Calls Tryd.prog 73 #[.slice (some ⟨g, 0, none⟩) m cap, .int .i64 0, .int .i64 (m : Int), lessF] w fun e w' => (∃ r, e = .returned r) ∧ (∃ M', SRow w' base g m cap M' ∧ M'.Pairwise leS ∧ Bub ltS L M') ∧ w.grownBy w' (some g)) := Lib.hid (fun w h => (insertion_any base g m cap [] L [] 0 m rfl (by rw [Nat.zero_add]; exact h.2.symm) (by omega) w (by simpa using h)).mono fun _ _ ⟨h1, ⟨M', h2, h3, h4⟩, h5⟩ => ⟨h1, ⟨M', by simpa using h2, h3, h4⟩, h5⟩)
  have HR := Lib.hid hR
  have d1 : decide ((20 : Int) ≤ (m : Int)) = false := decide_eq_false (by omega)
  have d2 : decide ((20 : Int) < (m : Int)) = false := decide_eq_false (by omega)
  clear hR
  unfold lessF at HIN ⊢
  go_enter Tryd.func64, Tryd.ntmps64
  go_wp2_with fail
  go_loopw [7, 8] (fun u v wr => u = .int .i64 0 ∧ v = .int .i64 20 ∧ w = wr) (fun _ _ _ => 0)
  case atStart => exact ⟨rfl, rfl, rfl⟩
  case round =>
    obtain ⟨rfl, rfl, rfl⟩ := hrel
    go_wp2_with (go_at_call 73; refine (HIN.out _ HR.out).mono ?_; rintro e w2 ⟨⟨r, rfl⟩, hM, hg⟩; have HM := Lib.hid hM; have HG := Lib.hid hg; clear hM hg)
    go_loopw [6, 7, 8, 9] (fun t u v x wr => t = .int .i64 20 ∧ w2 = wr) (fun _ _ _ _ _ => 0)
    case atStart => exact ⟨rfl, rfl⟩
    case round =>
      obtain ⟨rfl, rfl⟩ := hrel
      go_wp2_with fail
      go_end0
      exact ⟨⟨_, rfl⟩, HM.out, HG.out⟩
set_option maxRecDepth 100000 in
set_option maxHeartbeats 3200000 in
theorem stable_more (base g m cap : Nat) (L : List SlotV) (hm : 20 ≤ m) (hm2 : m ≤ 39) (w : World) (hR : SRow w base g m cap L) :
    Calls Tryd.prog 64 #[.slice (some ⟨g, 0, none⟩) m cap, .int .i64 (m : Int), lessF] w fun e w' => (∃ r, e = .returned r) ∧ (∃ M', SRow w' base g m cap M' ∧ M'.Pairwise leS ∧ Bub ltS L M') ∧ w.grownBy w' (some g) := by
  have hmix : Tryd.prog.follows .mixedOrders = true := by kernel_rfl
  obtain ⟨X, Y, hXY, hX20⟩ := split_l8 L 20 (by have := hR.2; omega)
  have hY : 20 + Y.length = m := by have := hR.2; rw [hXY] at this; simp at this; omega
  rw [hXY] at hR ⊢
  have HIN : Hid (∀ w : World, SRow w base g m cap (X ++ Y) → Calls Tryd.prog 73 #[.slice (some ⟨g, 0, none⟩) m cap, .int .i64 0, .int .i64 20, lessF] w fun e w' => (∃ r, e = .returned r) ∧ (∃ M', SRow w' base g m cap (M' ++ Y) ∧ M'.Pairwise leS ∧ Bub ltS X M') ∧ w.grownBy w' (some g)) := Lib.hid (fun w h => (insertion_any base g m cap [] X Y 0 20 rfl (by omega) (by omega) w (by simpa using h)).mono fun _ _ ⟨h1, ⟨M', h2, h3, h4⟩, h5⟩ => ⟨h1, ⟨M', by simpa using h2, h3, h4⟩, h5⟩)
  have HIN2 : Hid (∀ (M : List SlotV) (w : World), M.length = 20 → SRow w base g m cap (M ++ Y) → Calls Tryd.prog 73 #[.slice (some ⟨g, 0, none⟩) m cap, .int .i64 20, .int .i64 (m : Int), lessF] w fun e w' => (∃ r, e = .returned r) ∧ (∃ M', SRow w' base g m cap (M ++ M') ∧ M'.Pairwise leS ∧ Bub ltS Y M') ∧ w.grownBy w' (some g)) := Lib.hid (fun M w hM h => (insertion_any base g m cap M Y [] 20 m hM hY (by omega) w (by simpa using h)).mono fun _ _ ⟨h1, ⟨M', h2, h3, h4⟩, h5⟩ => ⟨h1, ⟨M', by simpa using h2, h3, h4⟩, h5⟩)
  have HSY : Hid (∀ (M N : List SlotV) (w : World), M.length = 20 → 20 + N.length = m → 20 < m → M.Pairwise leS → N.Pairwise leS → SRow w base g m cap (M ++ N) → Calls Tryd.prog 74 #[.slice (some ⟨g, 0, none⟩) m cap, .int .i64 0, .int .i64 20, .int .i64 (m : Int), lessF] w fun e w' => (∃ r, e = .returned r) ∧ (∃ M', SRow w' base g m cap M' ∧ M'.Pairwise leS ∧ Bub ltS (M ++ N) M') ∧ w.grownBy w' (some g)) := Lib.hid (fun M N w hM hN h20 h1 h2 h => (sym_any base g m cap (by omega) _ [] M N [] 0 20 m (Nat.le_refl _) (by omega) (by omega) rfl (by omega) (by omega) h1 h2 w (by simpa using h)).mono fun _ _ ⟨h1, ⟨M', h2, h3, h4⟩, h5⟩ => ⟨h1, ⟨M', by simpa using h2, h3, h4⟩, h5⟩)
  have HR := Lib.hid hR
  have HX20 := Lib.hid hX20
  have HY := Lib.hid hY
  have d1 : decide ((20 : Int) ≤ (m : Int)) = true := decide_eq_true (by omega)
  have d2 : decide ((40 : Int) ≤ (m : Int)) = false := decide_eq_false (by omega)
  have d3 : decide ((40 : Int) < (m : Int)) = false := decide_eq_false (by omega)
  clear hR hXY hX20 hY
  unfold lessF at HIN HIN2 HSY ⊢
  go_enter Tryd.func64, Tryd.ntmps64
  go_wp2_with fail
  go_loopw [7, 8] (fun u v wr => (u = .int .i64 0 ∧ v = .int .i64 20 ∧ w = wr) ∨ (u = .int .i64 20 ∧ v = .int .i64 40 ∧ Hid (∃ M, M.length = 20 ∧ SRow wr base g m cap (M ++ Y) ∧ M.Pairwise leS ∧ Bub ltS X M) ∧ Hid (w.grownBy wr (some g)))) (fun _ v _ => 40 - (intOf v).toNat)
  case atStart => exact .inl ⟨rfl, rfl, rfl⟩
  case round =>
    rcases hrel with ⟨rfl, rfl, rfl⟩ | ⟨rfl, rfl, HM, HG⟩
    · go_wp2_with (go_at_call 73; refine (HIN.out _ HR.out).mono ?_; rintro e w2 ⟨⟨r, rfl⟩, hM, hg⟩; have HM := Lib.hid hM; have HG := Lib.hid hg; clear hM hg)
      have HM2 : Hid (∃ M, M.length = 20 ∧ SRow w2 base g m cap (M ++ Y) ∧ M.Pairwise leS ∧ Bub ltS X M) := Lib.hid (by
        obtain ⟨M, h1, h2, h3⟩ := HM.out
        exact ⟨M, h3.length.symm.trans HX20.out, h1, h2, h3⟩)
      go_roundw
      case rel => exact .inr ⟨rfl, rfl, HM2, HG⟩
      case measure => simp [intOf]
    · obtain ⟨M, hM20, hs, hso, hbu⟩ := HM.out
      have HS := Lib.hid hs
      have HMF := Lib.hid (And.intro hM20 (And.intro hso hbu))
      clear hM20 hs hso hbu HM
      go_wp2_with (go_at_call 73; refine (HIN2.out M _ HMF.out.1 HS.out).mono ?_; rintro e w2 ⟨⟨r, rfl⟩, hM, hg⟩; have HN := Lib.hid hM; have HG2 := Lib.hid (grown_trans HG.out hg); clear hM hg)
      obtain ⟨N, hsN, hsoN, hbuN⟩ := HN.out
      have HS2 := Lib.hid hsN
      have HNF := Lib.hid (And.intro hsoN hbuN)
      have HNL : Hid (20 + N.length = m) := Lib.hid (by rw [← hbuN.length]; exact HY.out)
      have HBB : Hid (Bub ltS (X ++ Y) (M ++ N)) := Lib.hid (by
        have h1 := HMF.out.2.2.ctx [] Y
        have h2 := hbuN.ctx M []
        simp only [List.nil_append, List.append_nil] at h1 h2
        exact h1.trans h2)
      clear HN hsN hsoN hbuN HS
      obtain ⟨wo, hwo⟩ : ∃ wo, wo = w2 := ⟨_, rfl⟩
      rw [← hwo] at HS2 HG2 ⊢
      clear hwo w2
      go_loopw [6, 7, 8, 9] (fun t u v x wr => (t = .int .i64 20 ∧ wo = wr) ∨ (t = .int .i64 40 ∧ Hid (∃ M', SRow wr base g m cap M' ∧ M'.Pairwise leS ∧ Bub ltS (X ++ Y) M') ∧ Hid (w.grownBy wr (some g)))) (fun t _ _ _ _ => 40 - (intOf t).toNat)
      case atStart => exact .inl ⟨rfl, rfl⟩
      case round =>
        rcases hrel with ⟨rfl, rfl⟩ | ⟨rfl, HF, HG3⟩
        · by_cases h20 : 20 < m
          · have d4 : decide ((20 : Int) < (m : Int)) = true := decide_eq_true (by omega)
            go_wp2_with fail
            go_loopw [7, 8] (fun u v wr => u = .int .i64 0 ∧ v = .int .i64 40 ∧ wo = wr) (fun _ _ _ => 0)
            case atStart => exact ⟨rfl, rfl, rfl⟩
            case round =>
              obtain ⟨rfl, rfl, rfl⟩ := hrel
              go_wp2_with (go_at_call 74; refine (HSY.out M N _ HMF.out.1 HNL.out h20 HMF.out.2.1 HNF.out.1 HS2.out).mono ?_; rintro e w3 ⟨⟨r, rfl⟩, hM, hg⟩; have HM3 := Lib.hid hM; have HG4 := Lib.hid (grown_trans HG2.out hg); clear hM hg)
              have HF3 : Hid (∃ M', SRow w3 base g m cap M' ∧ M'.Pairwise leS ∧ Bub ltS (X ++ Y) M') := Lib.hid (by
                obtain ⟨M', h1, h2, h3⟩ := HM3.out
                exact ⟨M', h1, h2, HBB.out.trans h3⟩)
              go_roundw
              case rel => exact .inr ⟨rfl, HF3, HG4⟩
              case measure => simp [intOf]
          · have d4 : decide ((20 : Int) < (m : Int)) = false := decide_eq_false (by omega)
            have HF3 : Hid (∃ M', SRow wo base g m cap M' ∧ M'.Pairwise leS ∧ Bub ltS (X ++ Y) M') := Lib.hid (by
              have hN0 : N = [] := List.length_eq_zero_iff.1 (by have := HNL.out; omega)
              refine ⟨M ++ N, HS2.out, ?_, HBB.out⟩
              rw [hN0, List.append_nil]
              exact HMF.out.2.1)
            go_wp2_with fail
            go_end0
            exact ⟨⟨_, rfl⟩, HF3.out, HG2.out⟩
        · go_wp2_with fail
          go_end0
          exact ⟨⟨_, rfl⟩, HF.out, HG3.out⟩
theorem stable_any (base g m cap : Nat) (L : List SlotV) (hm : m ≤ 39) (w : World) (hR : SRow w base g m cap L) :
    Calls Tryd.prog 64 #[.slice (some ⟨g, 0, none⟩) m cap, .int .i64 (m : Int), lessF] w fun e w' => (∃ r, e = .returned r) ∧ (∃ M', SRow w' base g m cap M' ∧ M'.Pairwise leS ∧ Bub ltS L M') ∧ w.grownBy w' (some g) := by
  by_cases h : m < 20
  · exact stable_few base g m cap L h w hR
  · exact stable_more base g m cap L (by omega) hm w hR
theorem sort_any (base g m cap : Nat) (L : List SlotV) (hm : m ≤ 39) (w : World) (hR : SRow w base g m cap L) :
    Calls Tryd.prog 45 #[.slice (some ⟨g, 0, none⟩) m cap, lessF] w fun e w' => (∃ r, e = .returned r) ∧ (∃ M', SRow w' base g m cap M' ∧ M'.Pairwise leS ∧ Bub ltS L M') ∧ w.grownBy w' (some g) := by
  have HST := Lib.hid (stable_any base g m cap L hm w hR)
  clear hR
  unfold lessF at HST ⊢
  go_enter Tryd.func45, Tryd.ntmps45
  go_wp2_with (go_at_call 64; refine HST.out.mono ?_; rintro e w2 ⟨⟨r, rfl⟩, hM, hg⟩; have HM := Lib.hid hM; have HG := Lib.hid hg; clear hM hg)
  go_end0
  exact ⟨⟨_, rfl⟩, HM.out, HG.out⟩
end Go.Proofs.YtdhjgaadfofkkaaDoor
