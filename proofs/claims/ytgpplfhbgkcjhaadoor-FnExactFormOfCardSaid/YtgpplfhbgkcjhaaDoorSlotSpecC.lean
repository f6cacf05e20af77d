/-
  The model's contracts of chapter 8, second part: SlotsOf.
  The model's contracts of chapter 8, third part: CellsOf, l8Has, SlotsAt.
-/
import Derived.Test.YtgpplfhbgkcjhaaDoorSlotSpecA
import Derived.BigQuiet
import Derived.Deep.RegionWith
namespace Go.Proofs.YtgpplfhbgkcjhaaDoor
open Go.RowKit

theorem own_zero (w : World) (e : TypeId) (s : Nat) : (w.alloc (.cells #[] e)).ownsRow w.heap.size e s (.slice (some ⟨w.heap.size, 0, none⟩) 0 0) 0 [] :=
  ⟨by simp, .inr ⟨w.heap.size, 0, #[], rfl, Nat.le_refl _, heap_alloc_new w _, Nat.le_refl _, by decide, by simp, by simp⟩⟩
theorem own_widen {W : World} {base base' n s : Nat} {e : TypeId} {v : Value} {xs : List Value} (h : W.ownsRow base' e s v n xs) (hb : base ≤ base') : W.ownsRow base e s v n xs := by
  refine ⟨h.1, ?_⟩
  rcases h.2 with hn | ⟨g, cap, cur, rfl, hbg, rest⟩
  · exact .inl hn
  · exact .inr ⟨g, cap, cur, rfl, Nat.le_trans hb hbg, rest⟩
theorem below_app {B base : Nat} {a w w' : World} {e : TypeId} {v : Value} {n s : Nat} {xs : List Value} (h : Below B a w) (hg : w.grownBy w' v.ownBlock) (ho : w.ownsRow base e s v n xs) (hB : B ≤ base) (hw : B ≤ w.heap.size) : Below B a w' :=
  h.grown hg hw (fun k hk => Nat.le_trans hB (ho.lt k hk).1)
theorem oneSl (w : World) (x : SlotV) (t : TypeId) : ∀ j, j < 1 * 4 → ∃ b off, some (⟨w.heap.size, 0, none⟩ : Addr) = some ⟨b, off, none⟩ ∧ (w.alloc (.cells #[.int .i64 x.1, .bool x.2.1, .int .i64 x.2.2.1, .int .i64 x.2.2.2] t)).cell? ⟨b, off + j, none⟩ = (cells_Slot x)[j]? := fun j hj => by
  refine ⟨_, _, rfl, ?_⟩
  rw [Nat.zero_add, cell_of_row _ w.heap.size j _ t (0, 0) (heap_alloc_new w _)]
  simp [cells_Slot]

theorem cells_Slot_one (x : SlotV) : ∀ u ∈ cells_Slot x, u.oneCell' = true := by
  intro u hu
  simp only [cells_Slot, List.mem_cons, List.not_mem_nil, or_false] at hu
  rcases hu with rfl | rfl | rfl | rfl <;> rfl
theorem row_Slot_snoc (L : List SlotV) (x : SlotV) : row_Slot L ++ cells_Slot x = row_Slot (L ++ [x]) := by
  rw [row_Slot_append]
  simp [row_Slot]

/-- One cell of SlotsOf: the number and the slots, taken on. -/
def stepSl (x : Nat × List SlotV) (k a d : Nat) : Nat × List SlotV :=
  (if 2 ≤ a ∨ 2 ≤ d then x.1 + 1 else x.1, x.2 ++ (if 2 ≤ a then [(((if 2 ≤ a ∨ 2 ≤ d then x.1 + 1 else x.1 : Nat) : Int), false, (k : Int), (a : Int))] else []) ++ (if 2 ≤ d then [(((if 2 ≤ a ∨ 2 ≤ d then x.1 + 1 else x.1 : Nat) : Int), true, (k : Int), (d : Int))] else []))
def slTo (r c : Nat) (s : ByteArray) : Nat → Nat × List SlotV
  | 0 => (0, [])
  | k + 1 => stepSl (slTo r c s k) k (acN c s k) (dnN r c s k)
/-- What SlotsOf answers. -/
def slG (g : Int × Int × ByteArray) : List SlotV := if isG g = true then (slTo g.1.toNat g.2.1.toNat g.2.2 (g.1.toNat * g.2.1.toNat)).2 else []
theorem stepSl_bound (x : Nat × List SlotV) (k a d : Nat) (h1 : x.1 ≤ k) (h2 : x.2.length ≤ 2 * k) : (stepSl x k a d).1 ≤ k + 1 ∧ (stepSl x k a d).2.length ≤ 2 * (k + 1) := by
  by_cases ha : 2 ≤ a <;> by_cases hd : 2 ≤ d <;> simp [stepSl, ha, hd] <;> omega
theorem slTo_bound (r c : Nat) (s : ByteArray) : ∀ k, (slTo r c s k).1 ≤ k ∧ (slTo r c s k).2.length ≤ 2 * k
  | 0 => ⟨Nat.le_refl _, Nat.le_refl _⟩
  | k + 1 => stepSl_bound _ k _ _ (slTo_bound r c s k).1 (slTo_bound r c s k).2
theorem isG_nat {r c : Int} {s : ByteArray} (h : isG (r, c, s) = true) : ∃ R C : Nat, r = R ∧ c = C ∧ 2 ≤ R ∧ R ≤ 6 ∧ 2 ≤ C ∧ C ≤ 6 ∧ s.size = R * C ∧ s.size ≤ 36 := by
  have h36 := isG_size h
  obtain ⟨⟨h1, h2⟩, ⟨h3, h4⟩, h5, -⟩ := of_decide_eq_true h
  have h1 : 2 ≤ r := h1
  have h2 : r ≤ 6 := h2
  have h3 : 2 ≤ c := h3
  have h4 : c ≤ 6 := h4
  refine ⟨r.toNat, c.toNat, by omega, by omega, by omega, by omega, by omega, by omega, ?_, h36⟩
  have e1 : ((r.toNat * c.toNat : Nat) : Int) = r * c := by rw [Int.natCast_mul, Int.toNat_of_nonneg (by omega), Int.toNat_of_nonneg (by omega)]
  have h5' : (s.size : Int) = r * c := h5
  omega
theorem box3_all (w : World) (r c : Int) (s : ByteArray) (t : TypeId) : ∀ w', Below (w.alloc (.cells #[.int .i64 r, .int .i64 c, .string s] t)).heap.size (w.alloc (.cells #[.int .i64 r, .int .i64 c, .string s] t)) w' → w'.cell? ⟨w.heap.size, 0, none⟩ = some (.int .i64 r) ∧ w'.cell? ⟨w.heap.size, 1, none⟩ = some (.int .i64 c) ∧ w'.cell? ⟨w.heap.size, 2, none⟩ = some (.string s) :=
  fun _ h => ⟨(box3_keep h).1, (box3_keep h).2.1, (box3_keep h).2.2.1⟩
theorem sl_cells {R C k : Nat} {s : ByteArray} (hs : s.size = R * C) (hk : k < s.size) (hC : 2 ≤ C) : k = k / C * C + k % C ∧ k % C < C ∧ k / C < R ∧ (∀ x, x < C → k / C * C + x < s.size) ∧ (∀ x, x < R → x * C + k % C < s.size) := by
  have h1 : k % C < C := Nat.mod_lt _ (by omega)
  have h2 : k / C < R := by rw [Nat.div_lt_iff_lt_mul (by omega)]; omega
  refine ⟨by rw [Nat.mul_comm]; exact (Nat.div_add_mod k C).symm, h1, h2, fun x hx => ?_, fun x hx => ?_⟩
  · have : (k / C + 1) * C ≤ R * C := Nat.mul_le_mul_right C h2
    rw [Nat.succ_mul] at this
    omega
  · have : (x + 1) * C ≤ R * C := Nat.mul_le_mul_right C hx
    rw [Nat.succ_mul] at this
    omega
theorem sacN_any (R C : Nat) (s : ByteArray) (k : Nat) (hs : s.size = R * C) (h36 : s.size ≤ 36) (hk : k < s.size) (hC2 : 2 ≤ C) (hC : C ≤ 6) (w : World) :
    Calls Tryd.prog 90 #[.agg #[.int .i64 (R : Int), .int .i64 (C : Int), .string s], .int .i64 (k : Int), .bool false] w fun e w' => e = .returned (.int .i64 ((acN C s k : Nat) : Int)) ∧ Below w.heap.size w w' := by
  obtain ⟨e, h1, h2, h3, h4⟩ := sl_cells hs hk hC2
  have h := sfromA_any R C s (k / C) (k % C) h36 h1 hC h3 w
  rw [← e] at h
  exact h
theorem sdnN_any (R C : Nat) (s : ByteArray) (k : Nat) (hs : s.size = R * C) (h36 : s.size ≤ 36) (hk : k < s.size) (hC2 : 2 ≤ C) (hC : C ≤ 6) (hR : R ≤ 6) (w : World) :
    Calls Tryd.prog 90 #[.agg #[.int .i64 (R : Int), .int .i64 (C : Int), .string s], .int .i64 (k : Int), .bool true] w fun e w' => e = .returned (.int .i64 ((dnN R C s k : Nat) : Int)) ∧ Below w.heap.size w w' := by
  obtain ⟨e, h1, h2, h3, h4⟩ := sl_cells hs hk hC2
  have h := sfromD_any R C s (k / C) (k % C) h36 h1 hC h4 h2 hR w
  rw [← e] at h
  exact h
theorem runAt_le (bs : List Bool) (j : Nat) : runAt bs j ≤ bs.length := by
  unfold runAt
  split
  · refine Nat.le_trans (List.takeWhile_sublist _).length_le ?_
    rw [List.length_drop]
    omega
  · exact Nat.zero_le _
theorem acN_le (c : Nat) (s : ByteArray) (k : Nat) : acN c s k ≤ c := by
  have h := runAt_le (rowB c s (k / c)) (k % c)
  unfold rowB at h
  rw [List.length_map, List.length_range] at h
  exact h
theorem dnN_le (r c : Nat) (s : ByteArray) (k : Nat) : dnN r c s k ≤ r := by
  have h := runAt_le (colB r c s (k % c)) (k / c)
  unfold colB at h
  rw [List.length_map, List.length_range] at h
  exact h
set_option maxRecDepth 100000 in
set_option maxHeartbeats 3200000 in
theorem ssl_any (r c : Int) (s : ByteArray) (hs : s.size ≤ 4194304) (w : World) :
    Calls Tryd.prog 69 #[.agg #[.int .i64 r, .int .i64 c, .string s]] w fun e w' => ∃ v, e = .returned v ∧ w'.ownsRow w.heap.size 33 4 v (slG (r, c, s)).length (row_Slot (slG (r, c, s))) ∧ Below w.heap.size w w' := by
  obtain ⟨i0, hi, hz0, hz1, hz2⟩ := info_parts info_Slot
  obtain ⟨p, hp⟩ : ∃ p, p = isG (r, c, s) := ⟨_, rfl⟩
  have HIG := Lib.hid (fun w => sisg_any r c s hs w)
  rw [← hp] at HIG
  have HKP := Lib.hid (box3_all w r c s 25)
  have HW : Hid (Below w.heap.size w (w.alloc (.cells #[.int .i64 r, .int .i64 c, .string s] 25))) := Lib.hid ((Below.refl _ _).alloc (Nat.le_refl _) _)
  obtain ⟨d0, d1, d2⟩ := HKP.out _ (Below.refl _ _)
  obtain ⟨W0, hW0⟩ : ∃ W0, W0 = w.alloc (.cells #[.int .i64 r, .int .i64 c, .string s] 25) := ⟨_, rfl⟩
  have hws : W0.heap.size = w.heap.size + 1 := by rw [hW0]; simp
  cases p with
  | false =>
    have HF : Hid (slG (r, c, s) = []) := Lib.hid (by unfold slG; rw [← hp]; rfl)
    clear hp
    go_enter Tryd.func69, Tryd.ntmps69
    go_wp2
    rw [← hW0] at HKP HW d0 d1 d2 ⊢
    clear hW0
    go_loopw [3, 4, 5] (fun o n i wr => n = .int .i64 0 ∧ i = .int .i64 0 ∧ Hid (wr.ownsRow W0.heap.size 33 4 o 0 []) ∧ Hid (Below W0.heap.size W0 wr)) (fun _ _ _ _ => 0)
    case atStart => exact ⟨rfl, rfl, Lib.hid (by rw [← hws]; exact own_zero W0 33 4), Lib.hid ((Below.refl _ _).alloc (Nat.le_refl _) _)⟩
    case round =>
      obtain ⟨rfl, rfl, HO, HB⟩ := hrel
      obtain ⟨x0, x1, x2⟩ := HKP.out _ HB.out
      by_cases h0 : 0 < s.size
      · have hd : decide ((0 : Int) < (s.size : Int)) = true := decide_eq_true (by omega)
        go_wp2_with (go_at_call 12; refine (HIG.out _).mono ?_; rintro e w2 ⟨rfl, b2⟩; have HB2 := Lib.hid (HB.out.trans (b2.mono HB.out.size)); have HO2 := Lib.hid (ownV_later HO.out b2); clear b2)
        go_ret
        exact ⟨_, rfl, by rw [HF.out]; exact own_widen HO2.out (by omega), HW.out.trans (HB2.out.mono HW.out.size)⟩
      · have hd : decide ((0 : Int) < (s.size : Int)) = false := decide_eq_false (by omega)
        go_wp2
        go_ret
        exact ⟨_, rfl, by rw [HF.out]; exact own_widen HO.out (by omega), HW.out.trans (HB.out.mono HW.out.size)⟩
  | true =>
    obtain ⟨R, C, rfl, rfl, hR2, hR, hC2, hC, hsz, h36⟩ := isG_nat hp.symm
    have HF : Hid (slG ((R : Int), (C : Int), s) = (slTo R C s s.size).2) := Lib.hid (by unfold slG; rw [← hp, hsz]; rfl)
    have HSZ := Lib.hid hsz
    have HAC := Lib.hid (fun k hk w => sacN_any R C s k hsz h36 hk hC2 hC w)
    have HDN := Lib.hid (fun k hk w => sdnN_any R C s k hsz h36 hk hC2 hC hR w)
    clear hp hsz
    go_enter Tryd.func69, Tryd.ntmps69
    go_wp2
    rw [← hW0] at HKP HW d0 d1 d2 ⊢
    clear hW0
    go_loopw [3, 4, 5] (fun o n i wr => ∃ k : Nat, k ≤ s.size ∧ i = .int .i64 k ∧ n = .int .i64 ((slTo R C s k).1 : Int) ∧ Hid (wr.ownsRow W0.heap.size 33 4 o (slTo R C s k).2.length (row_Slot (slTo R C s k).2)) ∧ Hid (Below W0.heap.size W0 wr)) (fun _ _ i _ => s.size - (intOf i).toNat)
    case atStart => exact ⟨0, Nat.zero_le _, rfl, rfl, Lib.hid (by rw [← hws]; exact own_zero W0 33 4), Lib.hid ((Below.refl _ _).alloc (Nat.le_refl _) _)⟩
    case round =>
      obtain ⟨k, hk, rfl, rfl, HO, HB⟩ := hrel
      obtain ⟨x0, x1, x2⟩ := HKP.out _ HB.out
      have HBD := Lib.hid (slTo_bound R C s k)
      by_cases hlt : k < s.size
      · have hd : decide ((k : Int) < (s.size : Int)) = true := decide_eq_true (by omega)
        have HNX : Hid (slTo R C s (k + 1) = stepSl (slTo R C s k) k (acN C s k) (dnN R C s k)) := Lib.hid rfl
        have HA1 := Lib.hid (HAC.out k hlt)
        have HD1 := Lib.hid (HDN.out k hlt)
        have ha6 := acN_le C s k
        have hd6 := dnN_le R C s k
        obtain ⟨a, ha⟩ : ∃ a, a = acN C s k := ⟨_, rfl⟩
        obtain ⟨d, hdd⟩ : ∃ d, d = dnN R C s k := ⟨_, rfl⟩
        obtain ⟨y, hy⟩ : ∃ y, y = slTo R C s k := ⟨_, rfl⟩
        rw [← ha] at HA1 HNX ha6
        rw [← hdd] at HD1 HNX hd6
        rw [← hy] at HNX HBD HO
        rw [← hy]
        obtain ⟨n, L⟩ := y
        obtain ⟨hb1, hb2⟩ := HBD.out
        simp only at hb1 hb2
        clear ha hdd hy HBD
        by_cases ha : 2 ≤ a
        · by_cases hd9 : 2 ≤ d
          · have HN : Hid (slTo R C s (k + 1) = (n + 1, L ++ [(((n + 1 : Nat) : Int), false, (k : Int), (a : Int))] ++ [(((n + 1 : Nat) : Int), true, (k : Int), (d : Int))])) := Lib.hid (by rw [HNX.out]; simp [stepSl, ha, hd9])
            have ga : decide ((2 : Int) ≤ (a : Int)) = true := decide_eq_true (by omega)
            have gd : decide ((2 : Int) ≤ (d : Int)) = true := decide_eq_true (by omega)
            have FL := Lib.hid trivial
            have HL6 : Hid ((L ++ [(((n + 1 : Nat) : Int), false, (k : Int), (a : Int))]).length ≤ 80) := Lib.hid (by rw [List.length_append, List.length_singleton]; omega)
            have FP6 := Lib.hid trivial
            have FP8 := Lib.hid trivial
            go_wp2_with (first | (go_at_call 12; refine (HIG.out _).mono ?_; rintro e w2 ⟨rfl, b2⟩; have HB2 := Lib.hid (HB.out.trans (b2.mono HB.out.size)); have HO2 := Lib.hid (ownV_later HO.out b2); obtain ⟨p0, p1, p2⟩ := HKP.out _ HB2.out; clear b2) | (go_at_call 90; have FG := FL; refine (HA1.out _).mono ?_; rintro e w3 ⟨rfl, b3⟩; have HB3 := Lib.hid (HB2.out.trans (b3.mono HB2.out.size)); have HO3 := Lib.hid (ownV_later HO2.out b3); obtain ⟨q0, q1, q2⟩ := HKP.out _ HB3.out; clear b3 FL FG) | (go_at_call 90; refine (HD1.out _).mono ?_; rintro e w4 ⟨rfl, b4⟩; have HB4 := Lib.hid (HB3.out.trans (b4.mono HB3.out.size)); have HO4 := Lib.hid (ownV_later HO3.out b4); obtain ⟨r0, r1, r2⟩ := HKP.out _ HB4.out; clear b4) | (at_builtin; have FG6 := FP6; refine appendV_reads _ rfl _ _ 27 rfl W0.heap.size 33 i0 (.agg #[.int .i64 0, .bool false, .int .i64 0, .int .i64 0]) 4 32 Tryd.underlying27 hi hz0 hz1 hz2 rfl (by decide) _ _ _ rfl (HO4.out.alloc _) (some ⟨w4.heap.size, 0, none⟩) 1 1 (cells_Slot (((n + 1 : Nat) : Int), false, (k : Int), (a : Int))) rfl rfl (cells_Slot_one _) (fun e => by cases e) (oneSl w4 (((n + 1 : Nat) : Int), false, (k : Int), (a : Int)) _) (by omega) (by omega) (le_alloc HB4.out.size _) ?_; intro v6 w6 hown hgrow; have HB6 := Lib.hid (below_app (HB4.out.alloc HB4.out.size _) hgrow (HO4.out.alloc _) (Nat.le_refl _) (le_alloc HB4.out.size _)); have HO6 : Hid (w6.ownsRow W0.heap.size 33 4 v6 (L ++ [(((n + 1 : Nat) : Int), false, (k : Int), (a : Int))]).length (row_Slot (L ++ [(((n + 1 : Nat) : Int), false, (k : Int), (a : Int))]))) := Lib.hid (by rw [← row_Slot_snoc, List.length_append]; exact hown); clear hown hgrow FP6 FG6; obtain ⟨z06, z16, z26⟩ := HKP.out _ HB6.out) | (at_builtin; have FG8 := FP8; refine appendV_reads _ rfl _ _ 27 rfl W0.heap.size 33 i0 (.agg #[.int .i64 0, .bool false, .int .i64 0, .int .i64 0]) 4 32 Tryd.underlying27 hi hz0 hz1 hz2 rfl (by decide) _ _ _ rfl (HO6.out.alloc _) (some ⟨w6.heap.size, 0, none⟩) 1 1 (cells_Slot (((n + 1 : Nat) : Int), true, (k : Int), (d : Int))) rfl rfl (cells_Slot_one _) (fun e => by cases e) (oneSl w6 (((n + 1 : Nat) : Int), true, (k : Int), (d : Int)) _) (by have := HL6.out; omega) (by have := HL6.out; omega) (le_alloc HB6.out.size _) ?_; intro v8 w8 hown hgrow; have HB8 := Lib.hid (below_app (HB6.out.alloc HB6.out.size _) hgrow (HO6.out.alloc _) (Nat.le_refl _) (le_alloc HB6.out.size _)); have HO8 : Hid (w8.ownsRow W0.heap.size 33 4 v8 ((L ++ [(((n + 1 : Nat) : Int), false, (k : Int), (a : Int))]) ++ [(((n + 1 : Nat) : Int), true, (k : Int), (d : Int))]).length (row_Slot ((L ++ [(((n + 1 : Nat) : Int), false, (k : Int), (a : Int))]) ++ [(((n + 1 : Nat) : Int), true, (k : Int), (d : Int))]))) := Lib.hid (by rw [← row_Slot_snoc, List.length_append]; exact hown); clear hown hgrow FP8 FG8; obtain ⟨z08, z18, z28⟩ := HKP.out _ HB8.out))
            go_roundw
            case rel => exact ⟨k + 1, by omega, by go_num, by rw [HN.out]; first | rfl | go_num, by rw [HN.out]; exact HO8, HB8⟩
            case measure => simp [intOf]; omega
          · have HN : Hid (slTo R C s (k + 1) = (n + 1, L ++ [(((n + 1 : Nat) : Int), false, (k : Int), (a : Int))])) := Lib.hid (by rw [HNX.out]; simp [stepSl, ha, hd9])
            have ga : decide ((2 : Int) ≤ (a : Int)) = true := decide_eq_true (by omega)
            have gd : decide ((2 : Int) ≤ (d : Int)) = false := decide_eq_false (by omega)
            have FL := Lib.hid trivial
            have FP6 := Lib.hid trivial
            go_wp2_with (first | (go_at_call 12; refine (HIG.out _).mono ?_; rintro e w2 ⟨rfl, b2⟩; have HB2 := Lib.hid (HB.out.trans (b2.mono HB.out.size)); have HO2 := Lib.hid (ownV_later HO.out b2); obtain ⟨p0, p1, p2⟩ := HKP.out _ HB2.out; clear b2) | (go_at_call 90; have FG := FL; refine (HA1.out _).mono ?_; rintro e w3 ⟨rfl, b3⟩; have HB3 := Lib.hid (HB2.out.trans (b3.mono HB2.out.size)); have HO3 := Lib.hid (ownV_later HO2.out b3); obtain ⟨q0, q1, q2⟩ := HKP.out _ HB3.out; clear b3 FL FG) | (go_at_call 90; refine (HD1.out _).mono ?_; rintro e w4 ⟨rfl, b4⟩; have HB4 := Lib.hid (HB3.out.trans (b4.mono HB3.out.size)); have HO4 := Lib.hid (ownV_later HO3.out b4); obtain ⟨r0, r1, r2⟩ := HKP.out _ HB4.out; clear b4) | (at_builtin; have FG6 := FP6; refine appendV_reads _ rfl _ _ 27 rfl W0.heap.size 33 i0 (.agg #[.int .i64 0, .bool false, .int .i64 0, .int .i64 0]) 4 32 Tryd.underlying27 hi hz0 hz1 hz2 rfl (by decide) _ _ _ rfl (HO4.out.alloc _) (some ⟨w4.heap.size, 0, none⟩) 1 1 (cells_Slot (((n + 1 : Nat) : Int), false, (k : Int), (a : Int))) rfl rfl (cells_Slot_one _) (fun e => by cases e) (oneSl w4 (((n + 1 : Nat) : Int), false, (k : Int), (a : Int)) _) (by omega) (by omega) (le_alloc HB4.out.size _) ?_; intro v6 w6 hown hgrow; have HB6 := Lib.hid (below_app (HB4.out.alloc HB4.out.size _) hgrow (HO4.out.alloc _) (Nat.le_refl _) (le_alloc HB4.out.size _)); have HO6 : Hid (w6.ownsRow W0.heap.size 33 4 v6 (L ++ [(((n + 1 : Nat) : Int), false, (k : Int), (a : Int))]).length (row_Slot (L ++ [(((n + 1 : Nat) : Int), false, (k : Int), (a : Int))]))) := Lib.hid (by rw [← row_Slot_snoc, List.length_append]; exact hown); clear hown hgrow FP6 FG6; obtain ⟨z06, z16, z26⟩ := HKP.out _ HB6.out))
            go_roundw
            case rel => exact ⟨k + 1, by omega, by go_num, by rw [HN.out]; first | rfl | go_num, by rw [HN.out]; exact HO6, HB6⟩
            case measure => simp [intOf]; omega
        · by_cases hd9 : 2 ≤ d
          · have HN : Hid (slTo R C s (k + 1) = (n + 1, L ++ [(((n + 1 : Nat) : Int), true, (k : Int), (d : Int))])) := Lib.hid (by rw [HNX.out]; simp [stepSl, ha, hd9])
            have ga : decide ((2 : Int) ≤ (a : Int)) = false := decide_eq_false (by omega)
            have gd : decide ((2 : Int) ≤ (d : Int)) = true := decide_eq_true (by omega)
            have FL := Lib.hid trivial
            have FP8 := Lib.hid trivial
            go_wp2_with (first | (go_at_call 12; refine (HIG.out _).mono ?_; rintro e w2 ⟨rfl, b2⟩; have HB2 := Lib.hid (HB.out.trans (b2.mono HB.out.size)); have HO2 := Lib.hid (ownV_later HO.out b2); obtain ⟨p0, p1, p2⟩ := HKP.out _ HB2.out; clear b2) | (go_at_call 90; have FG := FL; refine (HA1.out _).mono ?_; rintro e w3 ⟨rfl, b3⟩; have HB3 := Lib.hid (HB2.out.trans (b3.mono HB2.out.size)); have HO3 := Lib.hid (ownV_later HO2.out b3); obtain ⟨q0, q1, q2⟩ := HKP.out _ HB3.out; clear b3 FL FG) | (go_at_call 90; refine (HD1.out _).mono ?_; rintro e w4 ⟨rfl, b4⟩; have HB4 := Lib.hid (HB3.out.trans (b4.mono HB3.out.size)); have HO4 := Lib.hid (ownV_later HO3.out b4); obtain ⟨r0, r1, r2⟩ := HKP.out _ HB4.out; clear b4) | (at_builtin; have FG8 := FP8; refine appendV_reads _ rfl _ _ 27 rfl W0.heap.size 33 i0 (.agg #[.int .i64 0, .bool false, .int .i64 0, .int .i64 0]) 4 32 Tryd.underlying27 hi hz0 hz1 hz2 rfl (by decide) _ _ _ rfl (HO4.out.alloc _) (some ⟨w4.heap.size, 0, none⟩) 1 1 (cells_Slot (((n + 1 : Nat) : Int), true, (k : Int), (d : Int))) rfl rfl (cells_Slot_one _) (fun e => by cases e) (oneSl w4 (((n + 1 : Nat) : Int), true, (k : Int), (d : Int)) _) (by omega) (by omega) (le_alloc HB4.out.size _) ?_; intro v8 w8 hown hgrow; have HB8 := Lib.hid (below_app (HB4.out.alloc HB4.out.size _) hgrow (HO4.out.alloc _) (Nat.le_refl _) (le_alloc HB4.out.size _)); have HO8 : Hid (w8.ownsRow W0.heap.size 33 4 v8 (L ++ [(((n + 1 : Nat) : Int), true, (k : Int), (d : Int))]).length (row_Slot (L ++ [(((n + 1 : Nat) : Int), true, (k : Int), (d : Int))]))) := Lib.hid (by rw [← row_Slot_snoc, List.length_append]; exact hown); clear hown hgrow FP8 FG8; obtain ⟨z08, z18, z28⟩ := HKP.out _ HB8.out))
            go_roundw
            case rel => exact ⟨k + 1, by omega, by go_num, by rw [HN.out]; first | rfl | go_num, by rw [HN.out]; exact HO8, HB8⟩
            case measure => simp [intOf]; omega
          · have HN : Hid (slTo R C s (k + 1) = (n, L)) := Lib.hid (by rw [HNX.out]; simp [stepSl, ha, hd9])
            have ga : decide ((2 : Int) ≤ (a : Int)) = false := decide_eq_false (by omega)
            have gd : decide ((2 : Int) ≤ (d : Int)) = false := decide_eq_false (by omega)
            have FL := Lib.hid trivial
            go_wp2_with (first | (go_at_call 12; refine (HIG.out _).mono ?_; rintro e w2 ⟨rfl, b2⟩; have HB2 := Lib.hid (HB.out.trans (b2.mono HB.out.size)); have HO2 := Lib.hid (ownV_later HO.out b2); obtain ⟨p0, p1, p2⟩ := HKP.out _ HB2.out; clear b2) | (go_at_call 90; have FG := FL; refine (HA1.out _).mono ?_; rintro e w3 ⟨rfl, b3⟩; have HB3 := Lib.hid (HB2.out.trans (b3.mono HB2.out.size)); have HO3 := Lib.hid (ownV_later HO2.out b3); obtain ⟨q0, q1, q2⟩ := HKP.out _ HB3.out; clear b3 FL FG) | (go_at_call 90; refine (HD1.out _).mono ?_; rintro e w4 ⟨rfl, b4⟩; have HB4 := Lib.hid (HB3.out.trans (b4.mono HB3.out.size)); have HO4 := Lib.hid (ownV_later HO3.out b4); obtain ⟨r0, r1, r2⟩ := HKP.out _ HB4.out; clear b4))
            go_roundw
            case rel => exact ⟨k + 1, by omega, by go_num, by rw [HN.out], by rw [HN.out]; exact HO4, HB4⟩
            case measure => simp [intOf]; omega
      · have hd : decide ((k : Int) < (s.size : Int)) = false := decide_eq_false (by omega)
        have hk' : k = s.size := by omega
        have HO9 : Hid (wr.ownsRow W0.heap.size 33 4 u3 (slG ((R : Int), (C : Int), s)).length (row_Slot (slG ((R : Int), (C : Int), s)))) := Lib.hid (by rw [HF.out, ← hk']; exact HO.out)
        clear hk'
        go_wp2
        go_ret
        exact ⟨_, rfl, own_widen HO9.out (by omega), HW.out.trans (HB.out.mono HW.out.size)⟩
end Go.Proofs.YtgpplfhbgkcjhaaDoor
namespace Go.Proofs.YtgpplfhbgkcjhaaDoor
open Go.RowKit

/-- What is known of a slot of SlotsOf. -/
def SlotAt (r c : Nat) (s : ByteArray) (k : Nat) (x : SlotV) : Prop :=
  ∃ m : Nat, m < k ∧ x.2.2.1 = m ∧ 1 ≤ x.1 ∧ (x.2.1 = false → x.2.2.2 = (acN c s m : Nat) ∧ 2 ≤ acN c s m) ∧ (x.2.1 = true → x.2.2.2 = (dnN r c s m : Nat) ∧ 2 ≤ dnN r c s m)
theorem stepSl_mem {x : Nat × List SlotV} {k a d : Nat} {y : SlotV} (h : y ∈ (stepSl x k a d).2) : y ∈ x.2 ∨ (2 ≤ a ∧ y = (((x.1 + 1 : Nat) : Int), false, (k : Int), (a : Int))) ∨ (2 ≤ d ∧ y = (((x.1 + 1 : Nat) : Int), true, (k : Int), (d : Int))) := by
  unfold stepSl at h
  rw [List.mem_append, List.mem_append] at h
  rcases h with (h | h) | h
  · exact .inl h
  · split at h
    · rename_i ha
      rw [if_pos (.inl ha)] at h
      exact .inr (.inl ⟨ha, List.mem_singleton.1 h⟩)
    · cases h
  · split at h
    · rename_i hd
      rw [if_pos (.inr hd)] at h
      exact .inr (.inr ⟨hd, List.mem_singleton.1 h⟩)
    · cases h
theorem slTo_mem (r c : Nat) (s : ByteArray) : ∀ k, ∀ x ∈ (slTo r c s k).2, SlotAt r c s k x
  | 0 => fun x hx => by cases hx
  | k + 1 => fun x hx => by
    rcases stepSl_mem hx with h | ⟨h2, rfl⟩ | ⟨h2, rfl⟩
    · obtain ⟨m, h1, h2, h3⟩ := slTo_mem r c s k x h
      exact ⟨m, by omega, h2, h3⟩
    · exact ⟨k, by omega, rfl, by show (1 : Int) ≤ ((_ + 1 : Nat) : Int); omega, fun _ => ⟨rfl, h2⟩, fun e => by cases e⟩
    · exact ⟨k, by omega, rfl, by show (1 : Int) ≤ ((_ + 1 : Nat) : Int); omega, (fun e => by cases e), fun _ => ⟨rfl, h2⟩⟩
theorem slTo_pw (r c : Nat) (s : ByteArray) : ∀ k, (slTo r c s k).2.Pairwise befS
  | 0 => List.Pairwise.nil
  | k + 1 => by
    show (stepSl (slTo r c s k) k (acN c s k) (dnN r c s k)).2.Pairwise befS
    have h1 := slTo_pw r c s k
    have h2 := slTo_mem r c s k
    obtain ⟨y, hy⟩ : ∃ y, y = slTo r c s k := ⟨_, rfl⟩
    rw [← hy] at h1 h2 ⊢
    have h3 : ∀ x ∈ y.2, x.2.2.1 < (k : Int) := fun x hx => by
      obtain ⟨m, e1, e2, -⟩ := h2 x hx
      omega
    unfold stepSl
    rw [List.pairwise_append, List.pairwise_append]
    refine ⟨⟨h1, ?_, fun x hx z hz => ?_⟩, ?_, fun x hx z hz => ?_⟩
    · split
      · exact List.pairwise_singleton ..
      · exact List.Pairwise.nil
    · split at hz
      · obtain rfl := List.mem_singleton.1 hz
        exact .inl (h3 x hx)
      · cases hz
    · split
      · exact List.pairwise_singleton ..
      · exact List.Pairwise.nil
    · have ez : z.2.2.1 = (k : Int) ∧ z.2.1 = true := by
        split at hz
        · obtain rfl := List.mem_singleton.1 hz
          exact ⟨rfl, rfl⟩
        · cases hz
      rcases List.mem_append.1 hx with h | h
      · exact .inl (by rw [ez.1]; exact h3 x h)
      · split at h
        · obtain rfl := List.mem_singleton.1 h
          exact .inr ⟨ez.1.symm, rfl, ez.2⟩
        · cases h
theorem slG_cases (g : Int × Int × ByteArray) : slG g = [] ∨ ∃ R C : Nat, isG g = true ∧ g.1 = R ∧ g.2.1 = C ∧ 2 ≤ R ∧ R ≤ 6 ∧ 2 ≤ C ∧ C ≤ 6 ∧ g.2.2.size = R * C ∧ g.2.2.size ≤ 36 ∧ slG g = (slTo R C g.2.2 (R * C)).2 := by
  obtain ⟨r, c, s⟩ := g
  by_cases h : isG (r, c, s) = true
  · right
    obtain ⟨R, C, rfl, rfl, h1, h2, h3, h4, h5, h6⟩ := isG_nat h
    exact ⟨R, C, h, rfl, rfl, h1, h2, h3, h4, h5, h6, by unfold slG; rw [if_pos h]; rfl⟩
  · left
    unfold slG
    rw [if_neg h]
theorem slG_pw (g : Int × Int × ByteArray) : (slG g).Pairwise befS := by
  rcases slG_cases g with h | ⟨R, C, -, -, -, -, -, -, -, -, -, h⟩
  · rw [h]; exact List.Pairwise.nil
  · rw [h]; exact slTo_pw ..
theorem slG_nodup (g : Int × Int × ByteArray) : (slG g).Nodup :=
  (slG_pw g).imp (fun {x y} h e => by subst e; exact befS_irr x x h h)
theorem slG_length (g : Int × Int × ByteArray) : (slG g).length ≤ 72 := by
  rcases slG_cases g with h | ⟨R, C, -, -, -, -, -, -, -, h1, h2, h⟩
  · rw [h]; decide
  · have := (slTo_bound R C g.2.2 (R * C)).2
    rw [h]
    omega
/-- A slot of SlotsOf has small numbers. -/
theorem slG_small {g : Int × Int × ByteArray} {x : SlotV} (h : x ∈ slG g) : isG g = true ∧ (2 ≤ g.2.1 ∧ g.2.1 ≤ 6) ∧ (0 ≤ x.2.2.1 ∧ x.2.2.1 < 36) ∧ (2 ≤ x.2.2.2 ∧ x.2.2.2 ≤ 6) ∧ 1 ≤ x.1 := by
  rcases slG_cases g with h0 | ⟨R, C, hg, e1, e2, h1, h2, h3, h4, h5, h6, h7⟩
  · rw [h0] at h; cases h
  · rw [h7] at h
    obtain ⟨m, hm, e3, h9, ha, hd⟩ := slTo_mem _ _ _ _ _ h
    refine ⟨hg, by omega, by omega, ?_, h9⟩
    rcases hx : x.2.1 with _ | _
    · obtain ⟨e4, h8⟩ := ha hx
      have := acN_le C g.2.2 m
      omega
    · obtain ⟨e4, h8⟩ := hd hx
      have := dnN_le R C g.2.2 m
      omega
/-- The cells of a slot, c columns. -/
def cellsS (c : Int) (x : SlotV) : List Int := (List.range x.2.2.2.toNat).map fun (k : Nat) => x.2.2.1 + (k : Int) * (if x.2.1 = true then c else 1)
/-- What CellsOf answers. -/
def clG (g : Int × Int × ByteArray) (x : SlotV) : List Int := if x ∈ slG g then cellsS g.2.1 x else []
/-- What l8Has answers. -/
def hasI (l : List Int) (n : Int) : Bool := l.any fun y => decide (y = n)
theorem hasI_iff {l : List Int} {n : Int} : hasI l n = true ↔ n ∈ l := by
  unfold hasI
  rw [List.any_eq_true]
  constructor
  · rintro ⟨y, hy, h⟩
    rw [← of_decide_eq_true h]
    exact hy
  · exact fun h => ⟨n, h, by simp⟩
set_option maxHeartbeats 800000 in
theorem shasI_any (l : List Int) (x : Int) (hl : l.length ≤ 16777216) (v : Value) (w : World) (hv : Reads w.heap.size w v .i64 l) :
    Calls Tryd.prog 93 #[v, .int .i64 x] w fun e w' => e = .returned (.bool (hasI l x)) ∧ Below w.heap.size w w' := by
  obtain ⟨-, a0, cap, rfl, -, hc⟩ := hv
  have HC := Lib.hid hc
  clear hc
  go_enter Tryd.func93, Tryd.ntmps93
  go_wp2
  go_loopw [5] (fun i wr => ∃ k : Nat, k ≤ l.length ∧ i = .int .i64 k ∧ Hid (∀ y ∈ l.take k, y ≠ x) ∧ Below w.heap.size w wr) (fun i _ => l.length - (intOf i).toNat)
  case atStart => exact ⟨0, Nat.zero_le _, rfl, Lib.hid (by simp), Below.refl _ _⟩
  case round =>
    obtain ⟨k, hk, rfl, HN, hbl⟩ := hrel
    by_cases hlt : k < l.length
    · obtain ⟨b, off, rfl, hb, q0⟩ := HC.out k hlt
      have HT : Hid (l.take (k + 1) = l.take k ++ [l.getD k 0]) := Lib.hid (by rw [List.take_succ_eq_append_getElem hlt, List.getD_eq_getElem?_getD, List.getElem?_eq_getElem hlt]; rfl)
      have HM : Hid (l.getD k 0 ∈ l) := Lib.hid (by rw [List.getD_eq_getElem?_getD, List.getElem?_eq_getElem hlt]; exact List.getElem_mem hlt)
      obtain ⟨z, hz⟩ : ∃ z, z = l.getD k 0 := ⟨_, rfl⟩
      rw [← hz] at q0 HT HM
      have c0 := (hbl.cell (p := ⟨b, off + k, none⟩) hb).trans q0
      clear q0 hz
      by_cases he : z = x
      · subst he
        have HF : Hid (hasI l z = true) := Lib.hid (hasI_iff.2 HM.out)
        go_wp2
        go_ret
        exact ⟨by rw [HF.out]; rfl, hbl⟩
      · have hne : (z == x) = false := by simpa using he
        have HN2 : Hid (∀ y ∈ l.take (k + 1), y ≠ x) := Lib.hid (fun y hy => by
          rw [HT.out] at hy
          rcases List.mem_append.1 hy with h | h
          · exact HN.out y h
          · simp only [List.mem_singleton] at h; subst h; exact he)
        clear he
        go_wp2
        go_roundw
        case rel => exact ⟨k + 1, by omega, by go_num, HN2, hbl⟩
        case measure => simp [intOf]; omega
    · have HF : Hid (hasI l x = false) := Lib.hid (by
        rcases hb : hasI l x with _ | _
        · rfl
        · have h9 := hasI_iff.1 hb
          have h8 := HN.out
          rw [List.take_of_length_le (by omega)] at h8
          exact absurd rfl (h8 x h9))
      go_wp2
      go_ret
      exact ⟨by rw [HF.out]; rfl, hbl⟩
end Go.Proofs.YtgpplfhbgkcjhaaDoor
