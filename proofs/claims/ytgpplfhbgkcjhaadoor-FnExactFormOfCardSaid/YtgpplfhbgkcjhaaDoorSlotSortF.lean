/-
  The stable sort of slots, fifth part: symMerge where the right part has one element.
  The stable sort of slots, sixth part: what symMerge's search finds.
-/
import Derived.Test.YtgpplfhbgkcjhaaDoorSlotSortD
namespace Go.Proofs.YtgpplfhbgkcjhaaDoor
open Go.RowKit Go.Sort

theorem sym2_found {P S : List SlotV} {y : SlotV} {A : List SlotV} {a k : Nat} (ha : P.length = a) (hk : a + A.length = k) :
    (∀ c, a ≤ c → c < k → (P ++ A ++ y :: S).getD c none_Slot = A.getD (c - a) none_Slot) ∧ (P ++ A ++ y :: S).getD k none_Slot = y :=
  ⟨fun c h1 h2 => getD_in2 P A (y :: S) ha h1 (by omega), by rw [← hk, ← ha, ← List.length_append]; exact getD_mid (P ++ A) y S⟩
theorem sym2_mono {P S : List SlotV} {y : SlotV} {A : List SlotV} {a k : Nat} (ha : P.length = a) (hk : a + A.length = k) (hA : A.Pairwise leS) : Mono (fun h => ltS ((P ++ A ++ y :: S).getD k none_Slot) ((P ++ A ++ y :: S).getD h none_Slot)) a k := by
  obtain ⟨h1, h2⟩ := sym2_found (S := S) (y := y) ha hk
  intro c d hc hcd hd h
  simp only [h1 c hc (by omega), h1 d (by omega) hd, h2, ltS, decide_eq_true_eq] at h ⊢
  have := sorted_getD hA (show c - a ≤ d - a by omega) (by omega)
  unfold leS at this
  omega
theorem sym2_done {P S : List SlotV} {y : SlotV} {A : List SlotV} {a k i : Nat} (ha : P.length = a) (hk : a + A.length = k) (hA : A.Pairwise leS) (h : BinInv (fun h => ltS ((P ++ A ++ y :: S).getD k none_Slot) ((P ++ A ++ y :: S).getD h none_Slot)) a k i i) :
    (A.take (i - a) ++ y :: A.drop (i - a)).Pairwise leS ∧ Bub ltS (A ++ [y]) (A.take (i - a) ++ y :: A.drop (i - a)) := by
  obtain ⟨h1, h2⟩ := sym2_found (S := S) (y := y) ha hk
  obtain ⟨a1, -, a3, a4, a5⟩ := h
  have h3 : ∀ u ∈ A.take (i - a), ltS y u = false := fun u hu => by
    obtain ⟨c, hc1, hc2, rfl⟩ := mem_take_getD hu
    have h9 := a4 (a + c) (by omega) (by omega)
    simp only [h1 (a + c) (by omega) (by omega), h2, show a + c - a = c by omega] at h9
    exact h9
  have h4 : ∀ u ∈ A.drop (i - a), ltS y u = true := fun u hu => by
    obtain ⟨c, hc1, hc2, rfl⟩ := mem_drop_getD hu
    have h9 := a5 (a + c) (by omega) (by omega)
    simp only [h1 (a + c) (by omega) (by omega), h2, show a + c - a = c by omega] at h9
    exact h9
  refine ⟨sorted_mid hA (fun u hu => ltS_not (h3 u hu)) (fun u hu => ?_), ?_⟩
  · have := ltS_iff.1 (h4 u hu)
    unfold leS
    omega
  · have h5 := (Bub.pass (lt := ltS) (A.drop (i - a)) y h4).ctx (A.take (i - a)) []
    simp only [List.append_nil] at h5
    rw [← List.append_assoc, List.take_append_drop] at h5
    exact h5
set_option maxRecDepth 100000 in
set_option maxHeartbeats 3200000 in
theorem sym2_any (base g m cap : Nat) (P S : List SlotV) (y : SlotV) (A : List SlotV) (a k b : Nat) (ha : P.length = a) (hk : a + A.length = k) (hb : b = k + 1) (hA1 : 2 ≤ A.length) (hm : m ≤ 1000) (hsA : A.Pairwise leS) (w : World) (hR : SRow w base g m cap (P ++ A ++ y :: S)) :
    Calls Tryd.prog 104 #[.slice (some ⟨g, 0, none⟩) m cap, .int .i64 (a : Int), .int .i64 (k : Int), .int .i64 (b : Int), lessF] w fun e w' => (∃ r, e = .returned r) ∧ (∃ M', SRow w' base g m cap (P ++ M' ++ S) ∧ M'.Pairwise leS ∧ Bub ltS (A ++ [y]) M') ∧ w.grownBy w' (some g) := by
  have HR := Lib.hid hR
  have hbm : b ≤ m := by have := hR.2; simp at this; omega
  have hka : (((k : Int) - (a : Int)) == 1) = false := by simp; omega
  have hbk : (b : Int) - (k : Int) = 1 := by omega
  have hmix : Tryd.prog.follows .mixedOrders = true := by kernel_rfl
  have HMO := Lib.hid (sym2_mono (S := S) (y := y) ha hk hsA)
  have HDN := Lib.hid (fun i h => sym2_done (S := S) (y := y) (i := i) ha hk hsA h)
  obtain ⟨L, hL⟩ : ∃ L, L = P ++ A ++ y :: S := ⟨_, rfl⟩
  rw [← hL] at HR HMO HDN
  have HL := Lib.hid hL
  have hak : a ≤ k := by omega
  have hkb : k < b := by omega
  have HK := Lib.hid (And.intro hb (And.intro ha hk))
  clear hR hL hk ha hb
  unfold lessF
  go_enter Tryd.func104, Tryd.ntmps104
  go_wp2_with fail
  go_loopw [14, 15, 16] (fun u v h9 wr => ∃ i j : Nat, u = .int .i64 (i : Int) ∧ v = .int .i64 (j : Int) ∧ a ≤ i ∧ i ≤ j ∧ j ≤ k ∧ Hid (BinInv (fun h => ltS (L.getD k none_Slot) (L.getD h none_Slot)) a k i j) ∧ Hid (SRow wr base g m cap L) ∧ Hid (w.grownBy wr (some g))) (fun u v _ _ => (intOf v).toNat - (intOf u).toNat)
  case atStart => exact ⟨a, k, rfl, rfl, Nat.le_refl _, hak, Nat.le_refl _, Lib.hid (bin_start _ hak), HR, Lib.hid (grown_refl w _)⟩
  case round =>
    obtain ⟨i, j, rfl, rfl, hi1, hij, hjb, HI, HS, HG⟩ := hrel
    by_cases hlt : i < j
    · have hd : decide ((i : Int) < (j : Int)) = true := decide_eq_true (by omega)
      obtain ⟨h, hh⟩ : ∃ h, h = (i + j) / 2 := ⟨_, rfl⟩
      have hhe : ((i : Int) + (j : Int)) / 2 = (h : Int) := by omega
      have hh1 : i ≤ h := by omega
      have hh2 : h < j := by omega
      have hhm : h < m := by omega
      have hkm : k < m := by omega
      clear hh HR
      obtain ⟨x9, hx9⟩ : ∃ x9, x9 = L.getD k none_Slot := ⟨_, rfl⟩
      obtain ⟨y9, hy9⟩ : ∃ y9, y9 = L.getD h none_Slot := ⟨_, rfl⟩
      obtain ⟨b9, hb9⟩ : ∃ b9, b9 = ltS x9 y9 := ⟨_, rfl⟩
      have HB9 : Hid (ltS (L.getD k none_Slot) (L.getD h none_Slot) = b9) := Lib.hid (by rw [hb9, hx9, hy9])
      obtain ⟨z9, hz9⟩ : ∃ z9, z9 = cmpI x9.2.2.1 y9.2.2.1 := ⟨_, rfl⟩
      have hzb : decide (z9 < 0) = b9 := by rw [hz9, hb9, cmpI_neg]; rfl
      have HCL := fun n os => closure_grown x9 y9 wr n os
      rw [← hz9] at HCL
      obtain ⟨c0, c1, c2, c3, -, -, -, -⟩ := row_at HS.out (p := k) hkm x9 hx9
      obtain ⟨e0, e1, e2, e3, -, -, -, -⟩ := row_at HS.out (p := h) hhm y9 hy9
      have hgr : g < wr.heap.size := World.block_lt_of_cell? _ _ c0
      have c0 := cell_grown hgr c0
      have c1 := cell_grown hgr c1
      have c2 := cell_grown hgr c2
      have c3 := cell_grown hgr c3
      have e0 := cell_grown hgr e0
      have e1 := cell_grown hgr e1
      have e2 := cell_grown hgr e2
      have e3 := cell_grown hgr e3
      obtain ⟨x0, x1, x2, x3⟩ := x9
      obtain ⟨y0, y1, y2, y3⟩ := y9
      simp only at c0 c1 c2 c3 e0 e1 e2 e3 HCL
      clear hx9 hy9 hb9 hz9
      cases b9 with
      | true =>
        go_wp2_with fail
        go_quiet_grown (first | (go_at_call 57; refine Calls.grown_of (HCL _ _)))
        have HS2 := Lib.hid (srow_grown HS.out nq osq)
        have HG2 := Lib.hid (grown_growN HG.out nq osq)
        obtain ⟨W, hW⟩ : ∃ W, W = grow (wr.drewN nq) osq := ⟨_, rfl⟩
        simp only
        rw [← hW] at HS2 HG2 ⊢
        clear hW HS HG c0 c1 c2 c3 e0 e1 e2 e3 HCL hgr

        have HBI : Hid (BinInv (fun h => ltS (L.getD k none_Slot) (L.getD h none_Slot)) a k i h) := Lib.hid (bin_true HI.out HMO.out (by omega) (by omega) HB9.out)
        go_wp2_with fail
        go_roundw
        case rel => exact ⟨i, h, rfl, by first | rfl | go_num, hi1, by omega, by omega, HBI, HS2, HG2⟩
        case measure => simp [intOf]; omega
      | false =>
        go_wp2_with fail
        go_quiet_grown (first | (go_at_call 57; refine Calls.grown_of (HCL _ _)))
        have HS2 := Lib.hid (srow_grown HS.out nq osq)
        have HG2 := Lib.hid (grown_growN HG.out nq osq)
        obtain ⟨W, hW⟩ : ∃ W, W = grow (wr.drewN nq) osq := ⟨_, rfl⟩
        simp only
        rw [← hW] at HS2 HG2 ⊢
        clear hW HS HG c0 c1 c2 c3 e0 e1 e2 e3 HCL hgr

        have HBI : Hid (BinInv (fun h => ltS (L.getD k none_Slot) (L.getD h none_Slot)) a k (h + 1) j) := Lib.hid (bin_false HI.out HMO.out (by omega) (by omega) HB9.out)
        go_wp2_with fail
        go_roundw
        case rel => exact ⟨h + 1, j, by go_num, rfl, by omega, by omega, hjb, HBI, HS2, HG2⟩
        case measure => simp [intOf]; omega
    · have hd : decide ((i : Int) < (j : Int)) = false := decide_eq_false (by omega)
      have hd2 : decide (i < j) = false := decide_eq_false (by omega)
      obtain rfl : i = j := by omega
      obtain ⟨hso, hbu⟩ := HDN.out i HI.out
      have HFIN := Lib.hid (And.intro hso hbu)
      clear hso hbu HI HMO HDN
      obtain ⟨n, hn⟩ : ∃ n, n = i - a := ⟨_, rfl⟩
      rw [← hn] at HFIN
      have HIN : Hid (i = a + n) := Lib.hid (by omega)
      obtain ⟨wo, hwo⟩ : ∃ wo, wo = wr := ⟨_, rfl⟩
      have HS0 : Hid (SRow wo base g m cap (P ++ A.take A.length ++ y :: A.drop A.length ++ S)) := Lib.hid (by rw [hwo]; have h9 := HS.out; rw [HL.out] at h9; simpa using h9)
      rw [← hwo] at HG ⊢
      clear HS hn HR hwo wr
      go_wp2_with fail
      go_loopw [17] (fun v wr => ∃ t p : Nat, t ≤ A.length ∧ Hid (p = a + t) ∧ i ≤ p ∧ p ≤ k ∧ v = .int .i64 (p : Int) ∧ Hid (SRow wr base g m cap (P ++ A.take t ++ y :: A.drop t ++ S)) ∧ Hid (w.grownBy wr (some g))) (fun v _ => (intOf v).toNat)
      case atStart => exact ⟨A.length, k, Nat.le_refl _, Lib.hid (by have := HK.out.2.2; omega), by omega, Nat.le_refl _, rfl, HS0, HG⟩
      case round =>
        obtain ⟨t, p, ht, HPT, hip, hpk, rfl, HS, HG⟩ := hrel
        have hp := HPT.out
        have h8 := HK.out
        have he9 := HIN.out
        by_cases htn : i < p
        · have hd : decide ((i : Int) < (p : Int)) = true := decide_eq_true (by omega)
          have hd9 : decide (i < p) = true := decide_eq_true (by omega)
          obtain ⟨q, hq⟩ : ∃ q, q + 1 = p := ⟨p - 1, by omega⟩
          have hqe : (p : Int) - 1 = (q : Int) := by omega
          have hwq : IntKind.i64.wrap (q : Int) = (q : Int) := by rw [IntKind.wrap_i64]; omega
          obtain ⟨t2, ht2⟩ : ∃ t2, t2 + 1 = t := ⟨t - 1, by omega⟩
          have hqm : q < m := by omega
          have hpm : p < m := by omega
          have HEX : Hid (exch (P ++ A.take t ++ y :: A.drop t ++ S) p q = P ++ A.take t2 ++ y :: A.drop t2 ++ S) := Lib.hid (by
            have h9 := pass_left P y A S (t := t2) (by omega)
            rw [h8.2.1, show a + t2 + 1 = p by omega, show a + t2 = q by omega, ht2] at h9
            exact h9)
          obtain ⟨L2, hL2⟩ : ∃ L2, L2 = P ++ A.take t ++ y :: A.drop t ++ S := ⟨_, rfl⟩
          rw [← hL2] at HS HEX
          have HPT2 : Hid (q = a + t2) := Lib.hid (by omega)
          have ht3 : t2 ≤ A.length := by omega
          have hiq : i ≤ q := by omega
          have hqk : q ≤ k := by omega
          clear hL2 h8 hp HPT he9 ht2
          have HQ := Lib.hid hq
          clear hq
          have hqp : q < p := by have := HQ.out; omega
          obtain ⟨x9, hx9⟩ : ∃ x9, x9 = L2.getD p none_Slot := ⟨_, rfl⟩
          obtain ⟨y9, hy9⟩ : ∃ y9, y9 = L2.getD q none_Slot := ⟨_, rfl⟩
          have HX9 := Lib.hid hx9
          have HY9 := Lib.hid hy9
          obtain ⟨c0, c1, c2, c3, f0, f1, f2, f3⟩ := row_at HS.out (p := p) hpm x9 hx9
          obtain ⟨e0, e1, e2, e3, g0, g1, g2, g3⟩ := row_at HS.out (p := q) hqm y9 hy9
          obtain ⟨x0, x1, x2, x3⟩ := x9
          obtain ⟨y0, y1, y2, y3⟩ := y9
          simp only at c0 c1 c2 c3 e0 e1 e2 e3
          clear hx9 hy9
          have n0 : ∀ u v, u < 4 → v < 4 → ¬ (q * 4 + u = p * 4 + v) := fun u v hu hv => by omega
          have n1 : ∀ u v, u < 4 → v < 4 → ¬ (p * 4 + u = q * 4 + v) := fun u v hu hv => by omega
          go_wp2_with fail
          go_region
          obtain ⟨hS, hG⟩ := exch_world HS.out hpm hqm HX9.out HY9.out HG.out
          simp only [put4] at hS hG
          have HS3 := Lib.hid hS
          have HG3 := Lib.hid hG
          clear hS hG c0 c1 c2 c3 e0 e1 e2 e3 f0 f1 f2 f3 g0 g1 g2 g3 n0 n1
          go_wp2_with fail
          rw [HEX.out] at HS3
          go_roundw
          case rel => exact ⟨t2, q, ht3, HPT2, hiq, hqk, by first | rfl | (congr 1; omega), HS3, HG3⟩
          case measure => simp [intOf]; omega
        · have hd : decide ((i : Int) < (p : Int)) = false := decide_eq_false (by omega)
          have hd9 : decide (i < p) = false := decide_eq_false (by omega)
          have htn' : t = n := by omega
          have HF : Hid (SRow wr base g m cap (P ++ (A.take n ++ y :: A.drop n) ++ S)) := Lib.hid (by have h9 := HS.out; rw [htn'] at h9; simpa using h9)
          clear HS htn' hp HPT he9 h8
          go_wp2_with fail
          refine bodyPost_ret (results_none rfl _ _ _) rfl ?_
          exact ⟨⟨_, rfl⟩, ⟨_, HF.out, HFIN.out.1, HFIN.out.2⟩, HG.out⟩
end Go.Proofs.YtgpplfhbgkcjhaaDoor
namespace Go.Proofs.YtgpplfhbgkcjhaaDoor
open Go.RowKit Go.Sort

def symF (L : List SlotV) (p : Nat) (c : Nat) : Bool := ltS (L.getD (p - c) none_Slot) (L.getD c none_Slot)
/-- Where the search of symMerge goes. -/
def SymR (a k b mid p s0 r0 : Nat) : Prop := a ≤ s0 ∧ s0 ≤ r0 ∧ r0 ≤ k ∧ p + 1 = mid + k ∧ mid + k ≤ b + s0 ∧ k + r0 ≤ mid + k ∧ mid ≤ b ∧ a ≤ mid ∧ (s0 = a ∨ mid + k = b + s0) ∧ (r0 = k ∨ r0 = mid)
theorem symR_left {a k b mid p s0 : Nat} (h1 : a + 2 ≤ k) (_h2 : k + 2 ≤ b) (hm : mid = (a + b) / 2) (hk : mid < k) (hs : s0 + b = mid + k) (hp : p + 1 = mid + k) : SymR a k b mid p s0 mid := by
  unfold SymR
  omega
theorem symR_right {a k b mid p : Nat} (h1 : a + 2 ≤ k) (_h2 : k + 2 ≤ b) (hm : mid = (a + b) / 2) (hk : ¬ mid < k) (hp : p + 1 = mid + k) : SymR a k b mid p a k := by
  unfold SymR
  omega
theorem sym_get {P A B S : List SlotV} {a k b : Nat} (ha : P.length = a) (hk : a + A.length = k) (hb : k + B.length = b) :
    (∀ c, a ≤ c → c < k → (P ++ A ++ B ++ S).getD c none_Slot = A.getD (c - a) none_Slot) ∧ (∀ c, k ≤ c → c < b → (P ++ A ++ B ++ S).getD c none_Slot = B.getD (c - k) none_Slot) := by
  refine ⟨fun c h1 h2 => ?_, fun c h1 h2 => getD_in2 (P ++ A) B S (by simp; omega) h1 (by omega)⟩
  have h3 := getD_in2 P A (B ++ S) ha h1 (by omega)
  rwa [← List.append_assoc] at h3
theorem sym_mono {P A B S : List SlotV} {a k b mid p s0 r0 : Nat} (ha : P.length = a) (hk : a + A.length = k) (hb : k + B.length = b) (hA : A.Pairwise leS) (hB : B.Pairwise leS) (hr : SymR a k b mid p s0 r0) : Mono (symF (P ++ A ++ B ++ S) p) s0 r0 := by
  obtain ⟨h1, h2⟩ := sym_get (S := S) ha hk hb
  unfold SymR at hr
  intro c d hc hcd hd h
  unfold symF at h ⊢
  rw [h1 c (by omega) (by omega), h2 (p - c) (by omega) (by omega)] at h
  rw [h1 d (by omega) (by omega), h2 (p - d) (by omega) (by omega)]
  have e1 := sorted_getD hA (show c - a ≤ d - a by omega) (by omega)
  have e2 := sorted_getD hB (show p - d - k ≤ p - c - k by omega) (by omega)
  rw [ltS_iff] at h ⊢
  unfold leS at e1 e2
  omega
/-- What the search has found: the two parts, each divided. -/
def SymCut (A B A1 A2 B1 B2 : List SlotV) : Prop := A = A1 ++ A2 ∧ B = B1 ++ B2 ∧ (∀ x ∈ A2, ∀ y ∈ B1, ltS y x = true) ∧ (∀ x ∈ A1, ∀ y ∈ B2, leS x y)
theorem sym_found {P A B S : List SlotV} {a k b mid p s0 r0 s e : Nat} (ha : P.length = a) (hk : a + A.length = k) (hb : k + B.length = b) (hA : A.Pairwise leS) (hB : B.Pairwise leS) (hr : SymR a k b mid p s0 r0) (he : e + s = mid + k) (h : BinInv (symF (P ++ A ++ B ++ S) p) s0 r0 s s) :
    a ≤ s ∧ s ≤ k ∧ k ≤ e ∧ e ≤ b ∧ ∃ A1 A2 B1 B2, SymCut A B A1 A2 B1 B2 ∧ a + A1.length = s ∧ k + B1.length = e := by
  obtain ⟨h1, h2⟩ := sym_get (S := S) ha hk hb
  obtain ⟨a1, -, a3, a4, a5⟩ := h
  unfold SymR at hr
  have b1 : a ≤ s := by omega
  have b2 : s ≤ k := by omega
  have b3 : k ≤ e := by omega
  have b4 : e ≤ b := by omega
  refine ⟨b1, b2, b3, b4, A.take (s - a), A.drop (s - a), B.take (e - k), B.drop (e - k), ⟨(List.take_append_drop _ _).symm, (List.take_append_drop _ _).symm, fun x hx y hy => ?_, fun x hx y hy => ?_⟩, by rw [List.length_take]; omega, by rw [List.length_take]; omega⟩
  · obtain ⟨c, hc1, hc2, rfl⟩ := mem_drop_getD hx
    obtain ⟨d, hd1, hd2, rfl⟩ := mem_take_getD hy
    have hs : s < r0 := by omega
    have h9 := a5 s (Nat.le_refl _) hs
    unfold symF at h9
    rw [h1 s (by omega) (by omega), h2 (p - s) (by omega) (by omega), ltS_iff] at h9
    have e1 := sorted_getD hA (show s - a ≤ c by omega) hc2
    have e2 := sorted_getD hB (show d ≤ p - s - k by omega) (by omega)
    rw [ltS_iff]
    unfold leS at e1 e2
    omega
  · obtain ⟨c, hc1, hc2, rfl⟩ := mem_take_getD hx
    obtain ⟨d, hd1, hd2, rfl⟩ := mem_drop_getD hy
    have hs : s0 < s := by omega
    have h9 := a4 (s - 1) (by omega) (by omega)
    unfold symF at h9
    rw [h1 (s - 1) (by omega) (by omega), h2 (p - (s - 1)) (by omega) (by omega)] at h9
    have h8 := ltS_not h9
    have e1 := sorted_getD hA (show c ≤ s - 1 - a by omega) (by omega)
    have e2 := sorted_getD hB (show p - (s - 1) - k ≤ d by omega) hd2
    unfold leS at e1 e2 h8 ⊢
    omega
theorem symCut_bub {A B A1 A2 B1 B2 : List SlotV} (h : SymCut A B A1 A2 B1 B2) : Bub ltS (A ++ B) (A1 ++ B1 ++ A2 ++ B2) := by
  obtain ⟨rfl, rfl, h1, -⟩ := h
  have h5 := (Bub.block (lt := ltS) A2 B1 h1).ctx A1 B2
  simpa using h5
/-- The two halves, each merged, make the whole. -/
theorem symCut_end {A B A1 A2 B1 B2 M1 M2 : List SlotV} (h : SymCut A B A1 A2 B1 B2) (hA : A.Pairwise leS) (hB : B.Pairwise leS) (h1 : M1.Pairwise leS) (h2 : M2.Pairwise leS) (b1 : Bub ltS (A1 ++ B1) M1) (b2 : Bub ltS (A2 ++ B2) M2) : (M1 ++ M2).Pairwise leS ∧ Bub ltS (A ++ B) (M1 ++ M2) := by
  have hb := symCut_bub h
  obtain ⟨rfl, rfl, h3, h4⟩ := h
  rw [List.pairwise_append] at hA hB
  constructor
  · rw [List.pairwise_append]
    refine ⟨h1, h2, fun x hx y hy => ?_⟩
    have hx := b1.perm.mem_iff.2 hx
    have hy := b2.perm.mem_iff.2 hy
    rcases List.mem_append.1 hx with hx | hx <;> rcases List.mem_append.1 hy with hy | hy
    · exact hA.2.2 x hx y hy
    · exact h4 x hx y hy
    · have := ltS_iff.1 (h3 y hy x hx)
      unfold leS
      omega
    · exact hB.2.2 x hx y hy
  · refine hb.trans ?_
    have h5 := b1.ctx [] (A2 ++ B2)
    have h6 := b2.ctx M1 []
    simp only [List.nil_append, List.append_nil, ← List.append_assoc] at h5 h6
    exact h5.trans h6
end Go.Proofs.YtgpplfhbgkcjhaaDoor
