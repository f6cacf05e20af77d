/-
  The model's contracts of chapter 8, fourth part: CellsOf.
  The model's contracts of chapter 8, fifth part: SlotsAt.
-/
import Derived.Test.YtgpplfhbgkcjhaaDoorSlotSpecC
import Derived.Test.YtgpplfhbgkcjhaaDoorAppB
import Derived.Deep.RegionWith
import Derived.Deep.RegionHeld3
namespace Go.Proofs.YtgpplfhbgkcjhaaDoor
open Go.RowKit

theorem box_two (w : World) (r c : Int) (s : ByteArray) (x0 : Int) (x1 : Bool) (x2 x3 : Int) (t u : TypeId) : ∀ w', Below ((w.alloc (.cells #[.int .i64 r, .int .i64 c, .string s] t)).alloc (.cells #[.int .i64 x0, .bool x1, .int .i64 x2, .int .i64 x3] u)).heap.size ((w.alloc (.cells #[.int .i64 r, .int .i64 c, .string s] t)).alloc (.cells #[.int .i64 x0, .bool x1, .int .i64 x2, .int .i64 x3] u)) w' →
    w'.cell? ⟨w.heap.size, 0, none⟩ = some (.int .i64 r) ∧ w'.cell? ⟨w.heap.size, 1, none⟩ = some (.int .i64 c) ∧ w'.cell? ⟨w.heap.size, 2, none⟩ = some (.string s) ∧
    w'.cell? ⟨w.heap.size + 1, 0, none⟩ = some (.int .i64 x0) ∧ w'.cell? ⟨w.heap.size + 1, 1, none⟩ = some (.bool x1) ∧ w'.cell? ⟨w.heap.size + 1, 2, none⟩ = some (.int .i64 x2) ∧ w'.cell? ⟨w.heap.size + 1, 3, none⟩ = some (.int .i64 x3) ∧ Below w.heap.size w w' := fun w' h => by
  obtain ⟨h1, h2, h3⟩ := box33 h
  exact ⟨Joins.cell_of_block h1 0, Joins.cell_of_block h1 1, Joins.cell_of_block h1 2, Joins.cell_of_block h2 0, Joins.cell_of_block h2 1, Joins.cell_of_block h2 2, Joins.cell_of_block h2 3, h3⟩
theorem eql_slot (a b : SlotV) (w : World) : Sem.run Tryd.prog (binOp .eql 33 (.agg #[.int .i64 a.1, .bool a.2.1, .int .i64 a.2.2.1, .int .i64 a.2.2.2]) (.agg #[.int .i64 b.1, .bool b.2.1, .int .i64 b.2.2.1, .int .i64 b.2.2.2])) w = .ok (.bool (decide (a = b))) w := by
  have u3 := Tryd.underlying3
  have u4 := Tryd.underlying4
  have a3 := Tryd.isAgg3
  have a4 := Tryd.isAgg4
  have z3 := Tryd.sizeOf3
  have z4 := Tryd.sizeOf4
  have hS : Tryd.prog.underlying 33 = some (.struct (Tryd.prog.fieldsOf 33)) := by kernel_rfl
  have hp : Tryd.prog.stoodInHeld 33 = false := by kernel_rfl
  obtain ⟨a0, a1, a2, a3⟩ := a
  obtain ⟨b0, b1, b2, b3⟩ := b
  rw [run_eql_struct, show (10000 : Nat) = 9999 + 1 from rfl, run_equalIn_agg w 9999 33 _ _ hS hp]
  simp only [Program.fieldsOf, Tryd.underlying33]
  go_simp
  by_cases h1 : a0 = b0 <;> by_cases h2 : a1 = b1 <;> by_cases h3 : a2 = b2 <;> by_cases h4 : a3 = b3 <;> simp [h1, h2, h3, h4]
theorem slot_differ {a b : SlotV} (h : a ≠ b) : (a.1 == b.1) = false ∨ (b.1 = a.1 ∧ (a.2.1 == b.2.1) = false) ∨ (b.1 = a.1 ∧ b.2.1 = a.2.1 ∧ (a.2.2.1 == b.2.2.1) = false) ∨ (b.1 = a.1 ∧ b.2.1 = a.2.1 ∧ b.2.2.1 = a.2.2.1 ∧ (a.2.2.2 == b.2.2.2) = false) := by
  by_cases h1 : a.1 = b.1
  · right
    by_cases h2 : a.2.1 = b.2.1
    · right
      by_cases h3 : a.2.2.1 = b.2.2.1
      · right
        refine ⟨h1.symm, h2.symm, h3.symm, ?_⟩
        by_cases h4 : a.2.2.2 = b.2.2.2
        · exact absurd (Prod.ext h1 (Prod.ext h2 (Prod.ext h3 h4))) h
        · simpa using h4
      · exact .inl ⟨h1.symm, h2.symm, by simpa using h3⟩
    · exact .inl ⟨h1.symm, by simpa using h2⟩
  · exact .inl (by simpa using h1)
theorem cells_next (x : SlotV) (c : Int) (k : Nat) : ((List.range (k + 1)).map fun (k : Nat) => x.2.2.1 + (k : Int) * (if x.2.1 = true then c else 1)) = ((List.range k).map fun (k : Nat) => x.2.2.1 + (k : Int) * (if x.2.1 = true then c else 1)) ++ [x.2.2.1 + (k : Int) * (if x.2.1 = true then c else 1)] := by
  rw [List.range_succ, List.map_append]
  rfl
theorem info_int : (Tryd.prog.info? 3).map (fun i => (i.zero, i.size, i.bytes)) = some (some (.int .i64 0), 1, 8) := by kernel_rfl
theorem own_types {W : World} {base base' n m s s' : Nat} {e e' : TypeId} {v u : Value} {xs ys : List Value} (h : W.ownsRow base e s v n xs) (h' : W.ownsRow base' e' s' u m ys) (he : e ≠ e') : u.ownBlock = none ∨ u.ownBlock ≠ v.ownBlock := by
  rcases h'.2 with ⟨rfl, -⟩ | ⟨g', cap', cur', rfl, -, hg', -⟩
  · exact .inl rfl
  · right
    rcases h.2 with ⟨rfl, -⟩ | ⟨g, cap, cur, rfl, -, hg, -⟩
    · intro e; cases e
    · intro e9
      have e8 : g' = g := by simpa [Value.ownBlock] using e9
      subst e8
      rw [hg] at hg'
      cases hg'
      exact he rfl
theorem slot_cells {W : World} {base m cap : Nat} {e : TypeId} {a0 : Option Addr} {l : List SlotV} (h : W.ownsRow base e 4 (.slice a0 m cap) m (row_Slot l)) (hn : m = l.length) :
    ∀ j, j < l.length → ∃ b, a0 = some ⟨b, 0, none⟩ ∧ W.cell? ⟨b, j * 4, none⟩ = some (.int .i64 (l.getD j none_Slot).1) ∧ W.cell? ⟨b, j * 4 + 1, none⟩ = some (.bool (l.getD j none_Slot).2.1) ∧ W.cell? ⟨b, j * 4 + 2, none⟩ = some (.int .i64 (l.getD j none_Slot).2.2.1) ∧ W.cell? ⟨b, j * 4 + 3, none⟩ = some (.int .i64 (l.getD j none_Slot).2.2.2) := by
  subst hn
  intro j hj
  have h2 := h.2
  rcases h2 with ⟨e1, e2⟩ | ⟨g, cap', cur, e1, -⟩
  · omega
  · cases e1
    have hat : ∀ r, r < 4 → W.cell? ⟨g, j * 4 + r, none⟩ = (cells_Slot (l.getD j none_Slot))[r]? := fun r hr => by
      rw [h.cellAt (j * 4 + r) (by omega), row_Slot_at l j hj r hr]
      simp [List.getD, hj]
    exact ⟨g, rfl, hat 0 (by decide), hat 1 (by decide), hat 2 (by decide), hat 3 (by decide)⟩
theorem oneI (W : World) (v : Value) (t : TypeId) : ∀ j, j < 1 * 1 → ∃ b off, (some ⟨W.heap.size, 0, none⟩ : Option Addr) = some ⟨b, off, none⟩ ∧ (W.alloc (.cells #[v] t)).cell? ⟨b, off + j, none⟩ = [v][j]? := fun j hj => by
  obtain rfl : j = 0 := by omega
  exact ⟨W.heap.size, 0, rfl, by rw [World.cell?_alloc_mark]; rfl⟩
theorem take_getD {l : List SlotV} {k : Nat} (h : k < l.length) : l.take (k + 1) = l.take k ++ [l.getD k none_Slot] := by
  rw [List.take_succ_eq_append_getElem h, List.getD_eq_getElem?_getD, List.getElem?_eq_getElem h]
  rfl
theorem getD_in {l : List SlotV} {k : Nat} (h : k < l.length) : l.getD k none_Slot ∈ l := by
  rw [List.getD_eq_getElem?_getD, List.getElem?_eq_getElem h]
  exact List.getElem_mem h
theorem nodup_take {l : List SlotV} (hl : l.Nodup) {k : Nat} (h : k < l.length) : l.getD k none_Slot ∉ l.take k := by
  rw [← List.take_append_drop (k + 1) l, take_getD h] at hl
  have h2 := (List.nodup_append.1 hl).1
  intro h3
  exact (List.nodup_append.1 h2).2.2 _ h3 _ (List.mem_singleton_self _) rfl
set_option maxRecDepth 100000 in
set_option maxHeartbeats 3200000 in
theorem scl_any (r c : Int) (s : ByteArray) (x0 : Int) (x1 : Bool) (x2 x3 : Int) (hs : s.size ≤ 4194304) (w : World) :
    Calls Tryd.prog 91 #[.agg #[.int .i64 r, .int .i64 c, .string s], .agg #[.int .i64 x0, .bool x1, .int .i64 x2, .int .i64 x3]] w fun e w' => ∃ v, e = .returned v ∧ w'.ownsRow w.heap.size 3 1 v (clG (r, c, s) (x0, x1, x2, x3)).length ((clG (r, c, s) (x0, x1, x2, x3)).map (Value.int .i64)) ∧ Below w.heap.size w w' := by
  obtain ⟨i0, hi, hz0, hz1, hz2⟩ := info_parts info_int
  have HSL := Lib.hid (fun w => ssl_any r c s hs w)
  have HKP := Lib.hid (box_two w r c s x0 x1 x2 x3 25 33)
  obtain ⟨d0, d1, d2, e0, e1, e2, e3, hbw⟩ := HKP.out _ (Below.refl _ _)
  have HW := Lib.hid hbw
  have HLEN := Lib.hid (slG_length (r, c, s))
  have HND := Lib.hid (slG_nodup (r, c, s))
  have HSM := Lib.hid (fun x hx => slG_small (g := (r, c, s)) (x := x) hx)
  have HCL : Hid (clG (r, c, s) (x0, x1, x2, x3) = if (x0, x1, x2, x3) ∈ slG (r, c, s) then cellsS c (x0, x1, x2, x3) else []) := Lib.hid rfl
  obtain ⟨l, hl⟩ : ∃ l, l = slG (r, c, s) := ⟨_, rfl⟩
  rw [← hl] at HSL HLEN HND HSM HCL
  clear hbw hl
  have hl72 := HLEN.out
  go_enter Tryd.func91, Tryd.ntmps91
  go_wp2_with fail
  obtain ⟨W0, hW0⟩ : ∃ W0, W0 = (w.alloc (.cells #[.int .i64 r, .int .i64 c, .string s] 25)).alloc (.cells #[.int .i64 x0, .bool x1, .int .i64 x2, .int .i64 x3] 33) := ⟨_, rfl⟩
  have hws : W0.heap.size = w.heap.size + 2 := by rw [hW0]; simp
  rw [← hW0] at HKP HW d0 d1 d2 e0 e1 e2 e3 ⊢
  clear hW0
  have HO0 : Hid ((W0.alloc (.cells #[] 3)).ownsRow W0.heap.size 3 1 (.slice (some ⟨w.heap.size + 2, 0, none⟩) 0 0) 0 []) := Lib.hid (by rw [← hws]; exact own_zero W0 3 1)
  have HB0 := Lib.hid ((Below.refl W0.heap.size W0).alloc (Nat.le_refl _) (.cells #[] 3))
  go_wp2_with (go_at_call 69; refine (HSL.out _).mono ?_; rintro e w2 ⟨v2, rfl, o2, b2⟩; obtain ⟨a0, cap, rfl⟩ := ownV_slice o2; have HO2 := Lib.hid (ownV_later HO0.out b2); have HB2 := Lib.hid (HB0.out.trans (b2.mono HB0.out.size)); have HL2 := Lib.hid (own_widen o2 HB0.out.size); clear o2 b2)
  go_loopw [5, 7, 8] (fun o i q wr => ∃ k : Nat, k ≤ l.length ∧ i = .int .i64 k ∧ Hid (∃ A, A = (if (x0, x1, x2, x3) ∈ l.take k then cellsS c (x0, x1, x2, x3) else []) ∧ wr.ownsRow W0.heap.size 3 1 o A.length (A.map (Value.int .i64))) ∧ Hid (wr.ownsRow W0.heap.size 33 4 (.slice a0 l.length cap) l.length (row_Slot l)) ∧ Hid (Below W0.heap.size W0 wr)) (fun _ i _ _ => l.length - (intOf i).toNat)
  case atStart => exact ⟨0, Nat.zero_le _, rfl, Lib.hid ⟨[], by simp, HO2.out⟩, HL2, HB2⟩
  case round =>
    obtain ⟨k, hk, rfl, HO, HL, HB⟩ := hrel
    obtain ⟨y0, y1, y2, z0, z1, z2, z3, hbw⟩ := HKP.out _ HB.out
    clear hbw
    by_cases hlt : k < l.length
    · obtain ⟨b, rfl, q0, q1, q2, q3⟩ := slot_cells HL.out rfl k hlt
      have HT := Lib.hid (take_getD hlt)
      have HI := Lib.hid (getD_in hlt)
      have HNI := Lib.hid (nodup_take HND.out hlt)
      obtain ⟨y, hy⟩ : ∃ y, y = l.getD k none_Slot := ⟨_, rfl⟩
      rw [← hy] at q0 q1 q2 q3 HT HI HNI
      clear hy
      by_cases he : y = (x0, x1, x2, x3)
      · subst he
        simp only at q0 q1 q2 q3
        have HO1 : Hid (wr.ownsRow W0.heap.size 3 1 u5 0 []) := Lib.hid (by
          obtain ⟨A, hA, ho⟩ := HO.out
          rw [if_neg HNI.out] at hA
          subst hA
          exact ho)
        obtain ⟨-, ⟨hc1, hc2⟩, ⟨hm1, hm2⟩, ⟨hn1, hn2⟩, -⟩ := HSM.out _ HI.out
        simp only at hc1 hc2 hm1 hm2 hn1 hn2
        have HFULL : Hid (cellsS c (x0, x1, x2, x3) = (List.range x3.toNat).map fun (k : Nat) => x2 + (k : Int) * (if x1 = true then c else 1)) := Lib.hid rfl
        have HT2 : Hid ((x0, x1, x2, x3) ∈ l.take (k + 1)) := Lib.hid (by rw [HT.out]; simp)
        clear HNI HT HO
        go_wp2
        go_quiet (fail)
        obtain ⟨W, hW⟩ : ∃ W, W = wr.drewN nq := ⟨_, rfl⟩
        have HO1w : Hid (W.ownsRow W0.heap.size 3 1 u5 0 []) := Lib.hid (by rw [hW]; exact HO1.out)
        have HL1 : Hid (W.ownsRow W0.heap.size 33 4 (.slice (some ⟨b, 0, none⟩) l.length cap) l.length (row_Slot l)) := Lib.hid (by rw [hW]; exact HL.out)
        have HB1 : Hid (Below W0.heap.size W0 W) := Lib.hid (by rw [hW]; exact below_drewN HB.out _)
        rw [← hW]
        clear hW q0 q1 q2 q3 y0 y1 y2 z0 z1 z2 z3 HB HL HO1
        obtain ⟨n, rfl⟩ : ∃ n : Nat, x3 = (n : Int) := ⟨x3.toNat, by omega⟩
        have hn6 : n ≤ 6 := by omega
        rw [Int.toNat_natCast] at HFULL
        cases x1 with
        | true =>
          go_wp2
          clear wr
          go_loopw [5, 8] (fun o q wr => ∃ j : Nat, j ≤ n ∧ q = .int .i64 j ∧ Hid (wr.ownsRow W0.heap.size 3 1 o j (((List.range j).map fun (k : Nat) => x2 + (k : Int) * (if true = true then c else 1)).map (Value.int .i64))) ∧ Hid (wr.ownsRow W0.heap.size 33 4 (.slice (some ⟨b, 0, none⟩) l.length cap) l.length (row_Slot l)) ∧ Hid (Below W0.heap.size W0 wr)) (fun _ q _ => n - (intOf q).toNat)
          case atStart => exact ⟨0, Nat.zero_le _, rfl, HO1w, HL1, HB1⟩
          case round =>
            obtain ⟨j, hj, rfl, HJ, HLq, HBq⟩ := hrel
            obtain ⟨y0', y1', y2', z0', z1', z2', z3', hbw'⟩ := HKP.out _ HBq.out
            clear hbw'
            by_cases hjn : j < n
            · have hd : decide ((j : Int) < (n : Int)) = true := decide_eq_true (by omega)
              have hmul : 0 ≤ (j : Int) * c ∧ (j : Int) * c ≤ 36 := ⟨Int.mul_nonneg (by omega) (by omega), Int.le_trans (Int.mul_le_mul (show (j : Int) ≤ 6 by omega) hc2 (by omega) (by omega)) (by decide)⟩
              go_wp2_with (at_builtin; refine appendV_reads _ rfl _ _ 30 rfl W0.heap.size 3 i0 (.int .i64 0) 1 8 Tryd.underlying30 hi hz0 hz1 hz2 rfl (by decide) _ j _ rfl (HJ.out.alloc _) (some ⟨wr.heap.size, 0, none⟩) 1 1 [.int .i64 (x2 + (j : Int) * c)] rfl rfl (by simp [Value.oneCell']) (fun e => by cases e) (oneI wr _ _) (by omega) (by omega) (le_alloc HBq.out.size _) ?_; intro v4 w4 hown hgrow)
              have HB4 := Lib.hid (below_app (HBq.out.alloc HBq.out.size _) hgrow (HJ.out.alloc _) (Nat.le_refl _) (le_alloc HBq.out.size _))
              have HJ4 : Hid (w4.ownsRow W0.heap.size 3 1 v4 (j + 1) (((List.range (j + 1)).map fun (k : Nat) => x2 + (k : Int) * (if true = true then c else 1)).map (Value.int .i64))) := Lib.hid (by rw [show ((List.range (j + 1)).map fun (k : Nat) => x2 + (k : Int) * (if true = true then c else 1)) = _ from cells_next (x0, true, x2, (n : Int)) c j, List.map_append]; exact hown)
              have HL4 := Lib.hid ((HLq.out.alloc _).kept hgrow (own_types HJ.out HLq.out (by decide)))
              clear hown hgrow
              go_roundw
              case rel => exact ⟨j + 1, by omega, by go_num, HJ4, HL4, HB4⟩
              case measure => simp [intOf]; omega
            · have hd : decide ((j : Int) < (n : Int)) = false := decide_eq_false (by omega)
              have hj' : j = n := by omega
              have HO4 : Hid (∃ A, A = (if (x0, true, x2, (n : Int)) ∈ l.take (k + 1) then cellsS c (x0, true, x2, (n : Int)) else []) ∧ wr.ownsRow W0.heap.size 3 1 u5 A.length (A.map (Value.int .i64))) := Lib.hid ⟨_, rfl, by rw [if_pos HT2.out, HFULL.out, List.length_map, List.length_range]; rw [hj'] at HJ; exact HJ.out⟩
              clear hj'
              go_wp2
              go_roundw
              case rel => exact ⟨k + 1, by omega, by go_num, HO4, HLq, HBq⟩
              case measure => simp [intOf]; omega
        | false =>
          go_wp2
          clear wr
          go_loopw [5, 8] (fun o q wr => ∃ j : Nat, j ≤ n ∧ q = .int .i64 j ∧ Hid (wr.ownsRow W0.heap.size 3 1 o j (((List.range j).map fun (k : Nat) => x2 + (k : Int) * (if false = true then c else 1)).map (Value.int .i64))) ∧ Hid (wr.ownsRow W0.heap.size 33 4 (.slice (some ⟨b, 0, none⟩) l.length cap) l.length (row_Slot l)) ∧ Hid (Below W0.heap.size W0 wr)) (fun _ q _ => n - (intOf q).toNat)
          case atStart => exact ⟨0, Nat.zero_le _, rfl, HO1w, HL1, HB1⟩
          case round =>
            obtain ⟨j, hj, rfl, HJ, HLq, HBq⟩ := hrel
            obtain ⟨y0', y1', y2', z0', z1', z2', z3', hbw'⟩ := HKP.out _ HBq.out
            clear hbw'
            by_cases hjn : j < n
            · have hd : decide ((j : Int) < (n : Int)) = true := decide_eq_true (by omega)
              have hmul : 0 ≤ (j : Int) * c ∧ (j : Int) * c ≤ 36 := ⟨Int.mul_nonneg (by omega) (by omega), Int.le_trans (Int.mul_le_mul (show (j : Int) ≤ 6 by omega) hc2 (by omega) (by omega)) (by decide)⟩
              go_wp2_with (at_builtin; refine appendV_reads _ rfl _ _ 30 rfl W0.heap.size 3 i0 (.int .i64 0) 1 8 Tryd.underlying30 hi hz0 hz1 hz2 rfl (by decide) _ j _ rfl (HJ.out.alloc _) (some ⟨wr.heap.size, 0, none⟩) 1 1 [.int .i64 (x2 + (j : Int))] rfl rfl (by simp [Value.oneCell']) (fun e => by cases e) (oneI wr _ _) (by omega) (by omega) (le_alloc HBq.out.size _) ?_; intro v4 w4 hown hgrow)
              have HB4 := Lib.hid (below_app (HBq.out.alloc HBq.out.size _) hgrow (HJ.out.alloc _) (Nat.le_refl _) (le_alloc HBq.out.size _))
              have HJ4 : Hid (w4.ownsRow W0.heap.size 3 1 v4 (j + 1) (((List.range (j + 1)).map fun (k : Nat) => x2 + (k : Int) * (if false = true then c else 1)).map (Value.int .i64))) := Lib.hid (by rw [show ((List.range (j + 1)).map fun (k : Nat) => x2 + (k : Int) * (if false = true then c else 1)) = _ from cells_next (x0, false, x2, (n : Int)) c j, List.map_append]; simpa using hown)
              have HL4 := Lib.hid ((HLq.out.alloc _).kept hgrow (own_types HJ.out HLq.out (by decide)))
              clear hown hgrow
              go_roundw
              case rel => exact ⟨j + 1, by omega, by go_num, HJ4, HL4, HB4⟩
              case measure => simp [intOf]; omega
            · have hd : decide ((j : Int) < (n : Int)) = false := decide_eq_false (by omega)
              have hj' : j = n := by omega
              have HO4 : Hid (∃ A, A = (if (x0, false, x2, (n : Int)) ∈ l.take (k + 1) then cellsS c (x0, false, x2, (n : Int)) else []) ∧ wr.ownsRow W0.heap.size 3 1 u5 A.length (A.map (Value.int .i64))) := Lib.hid ⟨_, rfl, by rw [if_pos HT2.out, HFULL.out, List.length_map, List.length_range]; rw [hj'] at HJ; exact HJ.out⟩
              clear hj'
              go_wp2
              go_roundw
              case rel => exact ⟨k + 1, by omega, by go_num, HO4, HLq, HBq⟩
              case measure => simp [intOf]; omega
      · have hne := slot_differ he
        have HO9 : Hid (∃ A, A = (if (x0, x1, x2, x3) ∈ l.take (k + 1) then cellsS c (x0, x1, x2, x3) else []) ∧ wr.ownsRow W0.heap.size 3 1 u5 A.length (A.map (Value.int .i64))) := Lib.hid (by
          obtain ⟨A, hA, ho⟩ := HO.out
          refine ⟨A, ?_, ho⟩
          rw [hA]
          by_cases h : (x0, x1, x2, x3) ∈ l.take k
          · rw [if_pos h, if_pos (by rw [HT.out]; exact List.mem_append_left _ h)]
          · rw [if_neg h, if_neg]
            rw [HT.out]
            intro h9
            rcases List.mem_append.1 h9 with h8 | h8
            · exact h h8
            · exact he (List.mem_singleton.1 h8).symm)
        obtain ⟨t0, t1, t2, t3⟩ := y
        simp only at hne q0 q1 q2 q3
        clear he HT HI HNI HO
        rcases hne with hne | ⟨hn0, hne⟩ | ⟨hn0, hn1, hne⟩ | ⟨hn0, hn1, hn2, hne⟩
        · go_wp2
          go_quiet (fail)
          have HO8 : Hid (∃ A, A = (if (x0, x1, x2, x3) ∈ l.take (k + 1) then cellsS c (x0, x1, x2, x3) else []) ∧ (wr.drewN nq).ownsRow W0.heap.size 3 1 u5 A.length (A.map (Value.int .i64))) := Lib.hid (by
            obtain ⟨A, hA, ho⟩ := HO9.out
            exact ⟨A, hA, ho⟩)
          all_goals go_wp2
          go_roundw
          case rel => exact ⟨k + 1, by omega, by go_num, HO8, Lib.hid HL.out, Lib.hid (below_drewN HB.out _)⟩
          case measure => simp [intOf]; omega
        · subst hn0
          go_wp2
          go_quiet (fail)
          have HO8 : Hid (∃ A, A = (if (x0, x1, x2, x3) ∈ l.take (k + 1) then cellsS c (x0, x1, x2, x3) else []) ∧ (wr.drewN nq).ownsRow W0.heap.size 3 1 u5 A.length (A.map (Value.int .i64))) := Lib.hid (by
            obtain ⟨A, hA, ho⟩ := HO9.out
            exact ⟨A, hA, ho⟩)
          all_goals go_wp2
          go_roundw
          case rel => exact ⟨k + 1, by omega, by go_num, HO8, Lib.hid HL.out, Lib.hid (below_drewN HB.out _)⟩
          case measure => simp [intOf]; omega
        · subst hn0 hn1
          go_wp2
          go_quiet (fail)
          have HO8 : Hid (∃ A, A = (if (x0, x1, x2, x3) ∈ l.take (k + 1) then cellsS c (x0, x1, x2, x3) else []) ∧ (wr.drewN nq).ownsRow W0.heap.size 3 1 u5 A.length (A.map (Value.int .i64))) := Lib.hid (by
            obtain ⟨A, hA, ho⟩ := HO9.out
            exact ⟨A, hA, ho⟩)
          all_goals go_wp2
          go_roundw
          case rel => exact ⟨k + 1, by omega, by go_num, HO8, Lib.hid HL.out, Lib.hid (below_drewN HB.out _)⟩
          case measure => simp [intOf]; omega
        · subst hn0 hn1 hn2
          go_wp2
          go_quiet (fail)
          have HO8 : Hid (∃ A, A = (if (x0, x1, x2, x3) ∈ l.take (k + 1) then cellsS c (x0, x1, x2, x3) else []) ∧ (wr.drewN nq).ownsRow W0.heap.size 3 1 u5 A.length (A.map (Value.int .i64))) := Lib.hid (by
            obtain ⟨A, hA, ho⟩ := HO9.out
            exact ⟨A, hA, ho⟩)
          all_goals go_wp2
          go_roundw
          case rel => exact ⟨k + 1, by omega, by go_num, HO8, Lib.hid HL.out, Lib.hid (below_drewN HB.out _)⟩
          case measure => simp [intOf]; omega
    · have HF : Hid (wr.ownsRow w.heap.size 3 1 u5 (clG (r, c, s) (x0, x1, x2, x3)).length ((clG (r, c, s) (x0, x1, x2, x3)).map (Value.int .i64))) := Lib.hid (by
        obtain ⟨A, hA, ho⟩ := HO.out
        rw [List.take_of_length_le (by omega), ← HCL.out] at hA
        rw [← hA]
        exact own_widen ho (by omega))
      go_wp2
      go_ret
      exact ⟨_, rfl, HF.out, HW.out.trans (HB.out.mono HW.out.size)⟩
end Go.Proofs.YtgpplfhbgkcjhaaDoor
namespace Go.Proofs.YtgpplfhbgkcjhaaDoor
open Go.RowKit

/-- What SlotsAt answers, of a list of slots. -/
def atS (l : List SlotV) (c k : Int) : List Int := ((List.range l.length).filter fun i => hasI (cellsS c (l.getD i none_Slot)) k).map fun (i : Nat) => (i : Int)
def atSn (l : List SlotV) (c k : Int) (n : Nat) : List Int := ((List.range n).filter fun i => hasI (cellsS c (l.getD i none_Slot)) k).map fun (i : Nat) => (i : Int)
theorem atSn_next (l : List SlotV) (c k : Int) (n : Nat) : atSn l c k (n + 1) = atSn l c k n ++ (if hasI (cellsS c (l.getD n none_Slot)) k = true then [(n : Int)] else []) := by
  unfold atSn
  rw [List.range_succ, List.filter_append, List.map_append]
  congr 1
  by_cases h : hasI (cellsS c (l.getD n none_Slot)) k = true
  · rw [if_pos h, List.filter_cons_of_pos (p := fun i => hasI (cellsS c (l.getD i none_Slot)) k) h]; rfl
  · rw [if_neg h, List.filter_cons_of_neg (p := fun i => hasI (cellsS c (l.getD i none_Slot)) k) h]; rfl
theorem atSn_length (l : List SlotV) (c k : Int) (n : Nat) : (atSn l c k n).length ≤ n := by
  unfold atSn
  rw [List.length_map]
  refine Nat.le_trans (List.length_filter_le _ _) ?_
  rw [List.length_range]
  exact Nat.le_refl _
theorem clG_in {g : Int × Int × ByteArray} {x : SlotV} (h : x ∈ slG g) : clG g x = cellsS g.2.1 x := if_pos h
theorem cellsS_length (c : Int) (x : SlotV) : (cellsS c x).length = x.2.2.2.toNat := by
  unfold cellsS
  rw [List.length_map, List.length_range]
theorem clG_length (g : Int × Int × ByteArray) (x : SlotV) : (clG g x).length ≤ 6 := by
  unfold clG
  split
  · rename_i h
    obtain ⟨-, -, -, h1, -⟩ := slG_small h
    rw [cellsS_length]
    omega
  · exact Nat.zero_le _
theorem reads_ints {W : World} {base : Nat} {v : Value} {l : List Int} {e : TypeId} (h : W.ownsRow base e 1 v l.length (l.map (Value.int .i64))) (hl : l.length ≤ 140737488355328) : Reads W.heap.size W v .i64 l := reads_own h rfl hl
set_option maxRecDepth 100000 in
set_option maxHeartbeats 3200000 in
theorem ssat_any (r c : Int) (s : ByteArray) (q : Int) (hs : s.size ≤ 4194304) (w : World) :
    Calls Tryd.prog 72 #[.agg #[.int .i64 r, .int .i64 c, .string s], .int .i64 q] w fun e w' => ∃ v, e = .returned v ∧ w'.ownsRow w.heap.size 3 1 v (atS (slG (r, c, s)) c q).length ((atS (slG (r, c, s)) c q).map (Value.int .i64)) ∧ Below w.heap.size w w' := by
  obtain ⟨i0, hi, hz0, hz1, hz2⟩ := info_parts info_int
  have HSL := Lib.hid (fun w => ssl_any r c s hs w)
  have HCL := Lib.hid (fun (x : SlotV) (hx : x ∈ slG (r, c, s)) w => by
    have h := scl_any r c s x.1 x.2.1 x.2.2.1 x.2.2.2 hs w
    rw [show ((x.1, x.2.1, x.2.2.1, x.2.2.2) : SlotV) = x from rfl, clG_in hx] at h
    exact h)
  have HKP := Lib.hid (box3_all w r c s 25)
  have HW : Hid (Below w.heap.size w (w.alloc (.cells #[.int .i64 r, .int .i64 c, .string s] 25))) := Lib.hid ((Below.refl _ _).alloc (Nat.le_refl _) _)
  obtain ⟨d0, d1, d2⟩ := HKP.out _ (Below.refl _ _)
  have HLEN := Lib.hid (slG_length (r, c, s))
  have HSM := Lib.hid (fun x hx => slG_small (g := (r, c, s)) (x := x) hx)
  obtain ⟨l, hl⟩ : ∃ l, l = slG (r, c, s) := ⟨_, rfl⟩
  rw [← hl] at HSL HCL HLEN HSM ⊢
  clear hl
  have hl72 := HLEN.out
  have HAT : Hid (atS l c q = atSn l c q l.length) := Lib.hid rfl
  go_enter Tryd.func72, Tryd.ntmps72
  go_wp2_with fail
  obtain ⟨W0, hW0⟩ : ∃ W0, W0 = w.alloc (.cells #[.int .i64 r, .int .i64 c, .string s] 25) := ⟨_, rfl⟩
  have hws : W0.heap.size = w.heap.size + 1 := by rw [hW0]; simp
  rw [← hW0] at HKP HW d0 d1 d2 ⊢
  clear hW0
  have HO0 : Hid ((W0.alloc (.cells #[] 3)).ownsRow W0.heap.size 3 1 (.slice (some ⟨w.heap.size + 1, 0, none⟩) 0 0) 0 []) := Lib.hid (by rw [← hws]; exact own_zero W0 3 1)
  have HB0 := Lib.hid ((Below.refl W0.heap.size W0).alloc (Nat.le_refl _) (.cells #[] 3))
  go_wp2_with (go_at_call 69; refine (HSL.out _).mono ?_; rintro e w2 ⟨v2, rfl, o2, b2⟩; obtain ⟨a0, cap, rfl⟩ := ownV_slice o2; have HO2 := Lib.hid (ownV_later HO0.out b2); have HB2 := Lib.hid (HB0.out.trans (b2.mono HB0.out.size)); have HL2 := Lib.hid (own_widen o2 HB0.out.size); clear o2 b2)
  go_loopw [5, 7] (fun o i wr => ∃ k : Nat, k ≤ l.length ∧ i = .int .i64 k ∧ Hid (wr.ownsRow W0.heap.size 3 1 o (atSn l c q k).length ((atSn l c q k).map (Value.int .i64))) ∧ Hid (wr.ownsRow W0.heap.size 33 4 (.slice a0 l.length cap) l.length (row_Slot l)) ∧ Hid (Below W0.heap.size W0 wr)) (fun _ i _ => l.length - (intOf i).toNat)
  case atStart => exact ⟨0, Nat.zero_le _, rfl, HO2, HL2, HB2⟩
  case round =>
    obtain ⟨k, hk, rfl, HO, HL, HB⟩ := hrel
    obtain ⟨y0, y1, y2⟩ := HKP.out _ HB.out
    by_cases hlt : k < l.length
    · obtain ⟨b, rfl, q0, q1, q2, q3⟩ := slot_cells HL.out rfl k hlt
      have HI := Lib.hid (getD_in hlt)
      have HNX := Lib.hid (atSn_next l c q k)
      have HLN := Lib.hid (atSn_length l c q k)
      obtain ⟨y, hy⟩ : ∃ y, y = l.getD k none_Slot := ⟨_, rfl⟩
      rw [← hy] at q0 q1 q2 q3 HI HNX
      clear hy
      have HC1 := Lib.hid (HCL.out y HI.out)
      have HC6 : Hid ((cellsS c y).length ≤ 6) := Lib.hid (by rw [cellsS_length]; have := (HSM.out _ HI.out).2.2.2.1; omega)
      obtain ⟨t0, t1, t2, t3⟩ := y
      simp only at q0 q1 q2 q3 HC1
      obtain ⟨Z, hZ⟩ : ∃ Z, Z = cellsS c (t0, t1, t2, t3) := ⟨_, rfl⟩
      obtain ⟨A, hA⟩ : ∃ A, A = atSn l c q k := ⟨_, rfl⟩
      rw [← hZ] at HC1 HC6 HNX
      rw [← hA] at HO HNX HLN
      have ha72 : A.length ≤ 72 := by have := HLN.out; omega
      have HHS := Lib.hid (fun v w h => shasI_any Z q (by have := HC6.out; omega) v w h)
      obtain ⟨p, hp⟩ : ∃ p, p = hasI Z q := ⟨_, rfl⟩
      rw [← hp] at HHS HNX
      clear hZ hA hp HLN
      cases p with
      | true =>
        go_wp2
        go_region_with (first | (go_at_call 91; refine Calls.mono (HC1.out _) ?_; rintro e w3 ⟨v3, rfl, o3, b3⟩; have BT3 : Hid (Below wr.heap.size wr w3) := Lib.hid (by first | exact b3 | exact ((Below.refl wr.heap.size wr).drew).trans b3); have HR3 := Lib.hid (reads_ints o3 (by have := HC6.out; omega)); clear o3 b3) | (go_at_call 93; refine Calls.mono (HHS.out _ _ (by first | exact HR3.out | exact HR3.out.now ((Below.refl _ _).drew))) ?_; rintro e w4 ⟨rfl, b4⟩; have BT4 : Hid (Below wr.heap.size wr w4) := Lib.hid (BT3.out.trans ((by first | exact b4 | exact ((Below.refl _ _).drew).trans b4 : Below w3.heap.size w3 w4).mono BT3.out.size)); clear b4))
        all_goals have HO4 := Lib.hid (ownV_later HO.out BT4.out)
        all_goals have HL4 := Lib.hid (ownV_later HL.out BT4.out)
        all_goals have HB4 := Lib.hid (HB.out.trans (BT4.out.mono HB.out.size))
        all_goals clear HO HL HB BT3 BT4 HR3 q0 q1 q2 q3 y0 y1 y2
        all_goals go_wp2_with (at_builtin; refine appendV_reads _ rfl _ _ 30 rfl W0.heap.size 3 i0 (.int .i64 0) 1 8 Tryd.underlying30 hi hz0 hz1 hz2 rfl (by decide) _ A.length _ rfl (HO4.out.alloc _) (some ⟨w4.heap.size, 0, none⟩) 1 1 [.int .i64 (k : Int)] rfl rfl (by simp [Value.oneCell']) (fun e => by cases e) (oneI w4 _ _) (by omega) (by omega) (le_alloc HB4.out.size _) ?_; intro v5 w5 hown hgrow)
        all_goals have HB5 := Lib.hid (below_app (HB4.out.alloc HB4.out.size _) hgrow (HO4.out.alloc _) (Nat.le_refl _) (le_alloc HB4.out.size _))
        all_goals have HL5 := Lib.hid ((HL4.out.alloc _).kept hgrow (own_types HO4.out HL4.out (by decide)))
        all_goals have HO5 : Hid (w5.ownsRow W0.heap.size 3 1 v5 (atSn l c q (k + 1)).length ((atSn l c q (k + 1)).map (Value.int .i64))) := Lib.hid (by rw [HNX.out, if_pos (by trivial), List.length_append, List.map_append]; exact hown)
        all_goals clear hown hgrow
        all_goals go_roundw
        all_goals first | exact ⟨k + 1, by omega, by go_num, HO5, HL5, HB5⟩ | (simp [intOf]; omega)
      | false =>
        go_wp2
        go_region_with (first | (go_at_call 91; refine Calls.mono (HC1.out _) ?_; rintro e w3 ⟨v3, rfl, o3, b3⟩; have BT3 : Hid (Below wr.heap.size wr w3) := Lib.hid (by first | exact b3 | exact ((Below.refl wr.heap.size wr).drew).trans b3); have HR3 := Lib.hid (reads_ints o3 (by have := HC6.out; omega)); clear o3 b3) | (go_at_call 93; refine Calls.mono (HHS.out _ _ (by first | exact HR3.out | exact HR3.out.now ((Below.refl _ _).drew))) ?_; rintro e w4 ⟨rfl, b4⟩; have BT4 : Hid (Below wr.heap.size wr w4) := Lib.hid (BT3.out.trans ((by first | exact b4 | exact ((Below.refl _ _).drew).trans b4 : Below w3.heap.size w3 w4).mono BT3.out.size)); clear b4))
        all_goals have HO4 : Hid (w4.ownsRow W0.heap.size 3 1 u5 (atSn l c q (k + 1)).length ((atSn l c q (k + 1)).map (Value.int .i64))) := Lib.hid (by rw [HNX.out, if_neg (by simp), List.append_nil]; exact ownV_later HO.out BT4.out)
        all_goals have HL4 := Lib.hid (ownV_later HL.out BT4.out)
        all_goals have HB4 := Lib.hid (HB.out.trans (BT4.out.mono HB.out.size))
        all_goals clear HO HL HB BT3 BT4 HR3 q0 q1 q2 q3 y0 y1 y2
        all_goals go_wp2
        all_goals go_roundw
        all_goals first | exact ⟨k + 1, by omega, by go_num, HO4, HL4, HB4⟩ | (simp [intOf]; omega)
    · have HF : Hid (wr.ownsRow w.heap.size 3 1 u5 (atS l c q).length ((atS l c q).map (Value.int .i64))) := Lib.hid (by
        have h9 := HO.out
        rw [show k = l.length by omega, ← HAT.out] at h9
        exact own_widen h9 (by omega))
      go_wp2
      go_ret
      exact ⟨_, rfl, HF.out, HW.out.trans (HB.out.mono HW.out.size)⟩
end Go.Proofs.YtgpplfhbgkcjhaaDoor
